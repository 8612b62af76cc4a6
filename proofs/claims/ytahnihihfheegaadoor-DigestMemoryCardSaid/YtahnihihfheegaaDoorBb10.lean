/-
  Lists of pieces that are made: what owns them, and the step of an append. · An append to an empty new row, as a region's step. · mine: a copy of a list of pieces. · mine of the digest's laws: a copy of a list of pieces. · A set of numbers as a map from int to bool: which numbers have occurred. · Manifests: validCounts, manifestSize, validNumbers, CheckManifest. · The reference's sizes and Valid. · Two digests are compared. · EncodeManifest.
-/
import Derived.Test.YtahnihihfheegaaDoorBb9
import Derived.Test.YtahnihihfheegaaDoorBb4
import Derived.Deep.RegionLaw
import Derived.Test.YtahnihihfheegaaDoorBb2
import Derived.Deep.RegionHeld3
import Derived.Maps.OwnOps
import Derived.Maps.Views
import Derived.Deep.DeepCutAuto
import Derived.Test.YtahnihihfheegaaDoorBb5
import Derived.ChangeKeysEq
import Derived.Test.YtahnihihfheegaaDoorBb7
namespace Go.Proofs.YtahnihihfheegaaDoor
open Go.RowKit
set_option linter.unusedVariables false

theorem rsizes_yes (k t : Int) (h1 : 1 ≤ k) (h2 : k ≤ t) (h3 : t ≤ 255) (w : World) :
    Calls Tryd.prog 56 #[.int .i64 k, .int .i64 t] w fun e w' => e = .returned (.bool true) ∧ w = w' := by
  go_enter Tryd.func56, Tryd.ntmps56
  go_wp2
  go_ret
  exact ⟨rfl, rfl⟩
theorem rsizes_no (k t : Int) (h : ¬ (1 ≤ k ∧ k ≤ t ∧ t ≤ 255)) (w : World) :
    Calls Tryd.prog 56 #[.int .i64 k, .int .i64 t] w fun e w' => e = .returned (.bool false) ∧ w = w' := by
  by_cases h1 : 1 ≤ k
  · by_cases h2 : k ≤ t
    · have h3 : ¬ t ≤ 255 := by omega
      clear h
      go_enter Tryd.func56, Tryd.ntmps56
      go_wp2
      go_ret
      exact ⟨rfl, rfl⟩
    · clear h
      go_enter Tryd.func56, Tryd.ntmps56
      go_wp2
      go_ret
      exact ⟨rfl, rfl⟩
  · clear h
    go_enter Tryd.func56, Tryd.ntmps56
    go_wp2
    go_ret
    exact ⟨rfl, rfl⟩

theorem owns_below {w w' : World} {base size n : Nat} {e : TypeId} {v : Value} {xs : List Value} (h : w.ownsRow base e size v n xs) (k : Below w.heap.size w w') : w'.ownsRow base e size v n xs := by
  obtain ⟨h1, h2⟩ := h
  refine ⟨h1, ?_⟩
  rcases h2 with h2 | ⟨g, cap, cur, h3, h4, h5, h6⟩
  · exact .inl h2
  · exact .inr ⟨g, cap, cur, h3, h4, (k.block g (lt_of_heap h5)).trans h5, h6⟩
/-- a row of pieces, its first k elements -/
theorem ps_of_owns {w : World} {base g cap n k c : Nat} {ps : List (Int × Sl)} (h : w.ownsRow base 44 2 (.slice (some ⟨g, 0, none⟩) n cap) n (pcells ps)) (hk : k ≤ ps.length) : Ps w (.slice (some ⟨g, 0, none⟩) k c) (ps.take k) := by
  obtain ⟨h1, h2⟩ := h
  rcases h2 with ⟨h2, _⟩ | ⟨g', cap', cur, h3, h4, h5, _, _, _, h6⟩
  · cases h2
  · simp only [Value.slice.injEq, Option.some.injEq, Addr.mk.injEq, and_true, true_and] at h3
    obtain ⟨rfl, _⟩ := h3
    have hlen : (ps.take k).length = k := by simp; omega
    have hpl : n = ps.length := by rw [pcells_length] at h1; omega
    refine ⟨_, c, by rw [hlen], fun _ => ⟨g, 0, rfl, fun i hi => ?_⟩⟩
    rw [hlen] at hi
    have e : ∀ j, j < n * 2 → cur[j]? = (pcells ps)[j]? := fun j hj => by
      rw [← h6, List.getElem?_take_of_lt hj, Array.getElem?_toList]
    have hi2 : i < ps.length := by omega
    rw [Nat.zero_add, cell_of_heap h5, cell_of_heap h5, e _ (by omega), e _ (by omega), pcells_get0 ps i hi2, pcells_get1 ps i hi2]
    simp
theorem cells_of_new2 (w : World) (x y : Value) (t : TypeId) : ∀ (j : Nat) (u : Value), [x, y][j]? = some u → (w.alloc (.cells #[x, y] t)).cell? ((⟨w.heap.size, 0, none⟩ : Addr).add j) = some u := by
  intro j u h
  match j with
  | 0 =>
    simp at h
    subst h
    show (w.alloc (.cells #[x, y] t)).cell? ⟨w.heap.size, 0, none⟩ = some x
    simp
  | 1 =>
    simp at h
    subst h
    show (w.alloc (.cells #[x, y] t)).cell? ⟨w.heap.size, 0 + 1, none⟩ = some y
    simp
  | j + 2 => simp at h
theorem mkps_snoc (bf : Nat → Nat) (L i nb : Nat) : pcells (mkps bf L i i) ++ [.int .i64 (i : Int), .slice (some ⟨nb, 0, none⟩) L L] = pcells (mkps (fun j => if j = i then nb else bf j) L (i + 1) (i + 1)) := by
  have e : mkps (fun j => if j = i then nb else bf j) L (i + 1) (i + 1) = mkps bf L i i ++ [((i : Int), some ⟨nb, 0, none⟩, L, L)] := by
    apply List.ext_getElem?
    intro j
    unfold mkps
    by_cases hj : j < i
    · rw [List.getElem?_append_left (by simpa using hj)]
      simp [hj, show j < i + 1 by omega, show ¬ j = i by omega]
    · rw [List.getElem?_append_right (by simp; omega)]
      by_cases h2 : j = i
      · subst h2; simp
      · rw [List.getElem?_eq_none (by simp; omega), List.getElem?_eq_none (by simp; omega)]
  rw [e, pcells_append]
  rfl

theorem step_append_own {P : Program} {ops : Array Oper} {o : Oper} {a : Act} {w : World} {K : Act → World → Prop} {Q : Exit → Act → World → Prop} {E : Prop} (hgd : o.guard = none) (s x : Operand) (t : TypeId)
    (ho : o.op = .call { callee := .builtin .append, args := #[s, x], argTypes := #[t, t] })
    (base : Nat) (e : TypeId) (i : TypeInfo) (z : Value) (size bytes : Nat) (ht : P.underlying t = some (.slice e)) (hi : P.info? e = some i) (hz : i.zero = some z)
    (hsize : i.size = size) (hby : i.bytes = bytes) (hzs : z.cells.size = size) (hsz : 0 < size)
    (v : Value) (n : Nat) (xs : List Value) (hs : a.eval s = v) (hown : w.ownsRow base e size v n xs)
    (ad : Addr) (m c : Nat) (news : List Value) (hx : a.eval x = .slice (some ad) m c) (hl : news.length = m * size) (hnews : ∀ j u, news[j]? = some u → w.cell? (ad.add j) = some u) (h1 : ∀ u ∈ news, u.oneCell' = true)
    (h63 : n + m ≤ maxLen) (hbytes : (n + m) * bytes ≤ 140737488355328) (hbase : base ≤ w.heap.size)
    (hK : ∀ v' w', w'.ownsRow base e size v' (n + m) (xs ++ news) → w.grownBy w' v.ownBlock → K (a.put o.dst v') w') :
    if Region.wanted o (yielded ops a.tmps) = true then Oper.wp P o a w K Q else E := by
  have hw : Region.wanted o (yielded ops a.tmps) = true := by simp [Region.wanted, hgd]
  rw [if_pos hw]
  exact wp_append_own w s x t ho base e i z size bytes ht hi hz hsize hby hzs hsz v n xs hs hown ad m c news hx hl hnews h1 h63 hbytes hbase fun v' w' h2 h3 _ => hK v' w' h2 h3
theorem chainA {wr wA : World} (h1 : Below wr.drew.heap.size wr.drew wA) : Below wr.heap.size wr wA := ⟨h1.os, h1.tape, h1.output, h1.size, h1.block⟩
theorem chainB {wr wA wB : World} (h1 : Below wr.drew.heap.size wr.drew wA) (h2 : Below wA.heap.size wA wB) : Below wr.heap.size wr wB := (chainA h1).trans (h2.mono h1.size)
theorem chainC {wr wA wB wC : World} (h1 : Below wr.drew.heap.size wr.drew wA) (h2 : Below wA.heap.size wA wB) (h3 : Below wB.heap.size wB wC) : Below wr.heap.size wr wC := (chainB h1 h2).trans (h3.mono (Nat.le_trans h1.size h2.size))
theorem two_one (x y : Int) (a b : Option Addr) (n m n' m' : Nat) (k : IntKind) : ∀ u ∈ [Value.int k x, Value.slice a n m], u.oneCell' = true := by
  intro u hu; simp at hu; rcases hu with rfl | rfl <;> rfl

/-- what the loops of Split keep -/
structure RSInv (B L k : Nat) (bf : Nat → Nat) (d : List Nat) (w wr : World) (v : Value) (i : Nat) : Prop where
  own : wr.ownsRow B 44 2 v i (pcells (mkps bf L i i))
  rows : ∀ j, j < i → Own wr (bf j) (encP d k L j)
  below : Below B w wr
theorem RSInv.step {B L k i nb : Nat} {bf : Nat → Nat} {d : List Nat} {w wr w1 w2 w3 : World} {v v' : Value} (h : RSInv B L k bf d w wr v i) (hB : B ≤ wr.heap.size) (h1 : Below wr.heap.size wr w1) (hnb : Own w1 nb (encP d k L i))
    (h2 : w2 = w1.alloc (.cells #[.int .i64 (i : Int), .slice (some ⟨nb, 0, none⟩) L L] 44)) (h3 : w3.ownsRow B 44 2 v' (i + 1) (pcells (mkps bf L i i) ++ [.int .i64 (i : Int), .slice (some ⟨nb, 0, none⟩) L L])) (h4 : w2.grownBy w3 v.ownBlock) :
    RSInv B L k (fun j => if j = i then nb else bf j) d w w3 v' (i + 1) := by
  subst h2
  have hs1 := h1.size
  have hne : ∀ g, v.ownBlock = some g → g ≠ nb ∧ (∀ j, j < i → bf j ≠ g) := fun g hg => by
    obtain ⟨_, h7⟩ := h.own
    rcases h7 with ⟨h8, _⟩ | ⟨g', cap, cur, h8, _, h9, _⟩
    · subst h8; cases hg
    · subst h8
      simp [Value.ownBlock] at hg
      subst hg
      refine ⟨fun e => ?_, fun j hj e => ?_⟩
      · subst e
        have h10 := (h1.block g' (lt_of_heap h9)).trans h9
        rw [hnb] at h10
        simp at h10
      · have h10 := h.rows j hj
        rw [e] at h10
        unfold Own at h10
        rw [h9] at h10
        simp at h10
  have hkeep : ∀ b l, Own w1 b l → (∀ g, v.ownBlock = some g → b ≠ g) → Own w3 b l := fun b l hb hg => by
    have h5 := hb.lt
    refine (h4.block b (by simp; omega) (fun e => ?_)).trans (hb.alloc _)
    exact hg b e.symm rfl
  refine ⟨by rw [← mkps_snoc]; exact h3, fun j hj => ?_, ?_⟩
  · show Own w3 (if j = i then nb else bf j) _
    by_cases e : j = i
    · rw [if_pos e, e]; exact hkeep nb _ hnb (fun g hg => fun e2 => (hne g hg).1 e2.symm)
    · rw [if_neg e]
      have h6 := h.rows j (by omega)
      exact hkeep _ _ (h6.below h1 h6.lt) (fun g hg => (hne g hg).2 j (by omega))
  · refine ((h.below.trans (h1.mono hB)).alloc (by omega) _).grown h4 (by simp; omega) (fun g hg => ?_)
    obtain ⟨_, h7⟩ := h.own
    rcases h7 with ⟨h8, _⟩ | ⟨g', cap, cur, h8, h9, _⟩
    · subst h8; cases hg
    · subst h8; simp [Value.ownBlock] at hg; omega

theorem pzero : ((Tryd.prog.info? 44).map (fun i => (i.zero, i.size, i.bytes))) = some (some (.agg #[.int .i64 0, .slice none 0 0]), 2, 32) := by kernel_rfl
theorem spl_upTo (d : List Nat) (L i q : Nat) (hq : q ≤ L) (h : q = L ∨ d.length ≤ i * L + q) : upTo L (fun c => d.getD (i * L + c) 0) q = spl d L i := by
  unfold upTo spl
  apply List.map_congr_left
  intro c hc
  have hcL := List.mem_range.1 hc
  by_cases h2 : c < q
  · rw [if_pos h2]
  · rw [if_neg h2, List.getD_eq_getElem?_getD, List.getElem?_eq_none (by omega)]; rfl
end Go.Proofs.YtahnihihfheegaaDoor

namespace Go.Proofs.YtahnihihfheegaaDoor
open Go Go.RowKit
set_option linter.unusedVariables false

/-- rows of different element types lie in different blocks -/
theorem own_types {w : World} {B1 B2 s1 s2 n1 n2 : Nat} {e1 e2 : TypeId} {v1 v2 : Value} {x1 x2 : List Value} (h1 : w.ownsRow B1 e1 s1 v1 n1 x1) (h2 : w.ownsRow B2 e2 s2 v2 n2 x2) (hne : e1 ≠ e2) : v1.ownBlock = none ∨ v1.ownBlock ≠ v2.ownBlock := by
  rcases h1.2 with ⟨rfl, _⟩ | ⟨g1, c1, u1, rfl, _, k1, _⟩
  · exact .inl rfl
  · right
    rcases h2.2 with ⟨rfl, _⟩ | ⟨g2, c2, u2, rfl, _, k2, _⟩
    · simp [Value.ownBlock]
    · simp only [Value.ownBlock, ne_eq, Option.some.injEq]
      rintro rfl
      rw [k1] at k2
      simp at k2
      exact hne k2.2
theorem u8s_oneS (l : List Nat) : ∀ v ∈ u8s l, v.oneCell' = true := by
  intro v hv
  simp only [u8s, List.mem_map] at hv
  obtain ⟨n, _, rfl⟩ := hv
  rfl
/-- append to an empty new row, of any slice of bytes -/
theorem step_own_bytes {ops : Array Oper} {o : Oper} {a : Act} {w : World} {K : Act → World → Prop} {Q : Exit → Act → World → Prop} {E : Prop} (hgd : o.guard = none) (s x : Operand)
    (ho : o.op = .call { callee := .builtin .append, args := #[s, x], argTypes := #[22, 22] }) (base g0 : Nat) (hs : a.eval s = .slice (some ⟨g0, 0, none⟩) 0 0) (hown : w.ownsRow base 5 1 (.slice (some ⟨g0, 0, none⟩) 0 0) 0 [])
    (sa : Option Addr) (m c : Nat) (l : List Nat) (hx : a.eval x = .slice sa m c) (hb : Bs w (.slice sa m c) l) (hnil : sa = none → c = 0) (hm : m ≤ 461168601842) (hbase : base ≤ w.heap.size)
    (hK : ∀ v' w', w'.ownsRow base 5 1 v' m (u8s l) → w.grownBy w' (some g0) → K (a.put o.dst v') w') :
    if Region.wanted o (yielded ops a.tmps) = true then Oper.wp Tryd.prog o a w K Q else E := by
  have hw : Region.wanted o (yielded ops a.tmps) = true := by simp [Region.wanted, hgd]
  rw [if_pos hw]
  obtain ⟨i0, hi, hz0, hz1, hz2⟩ := info_parts info5
  have hlen := hb.len
  cases sa with
  | none =>
    obtain rfl := hnil rfl
    have h0 : l = [] := by
      rcases hb.addr with ⟨h0, _⟩ | ⟨_, b, o', c', hv⟩
      · exact h0
      · simp at hv
    subst h0
    obtain rfl : m = 0 := hlen
    have hrun := run_append_owned_none (P := Tryd.prog) (w := w) base 22 o.type 5 i0 1 Tryd.underlying22 hi (.slice (some ⟨g0, 0, none⟩) 0 0) 0 [] hown
    unfold Oper.wp
    simp [execOp, ho, resolve, invoke, builtin, hs, hx, hrun, Result.andThen]
    exact hK _ _ hown (World.grownBy.refl w _)
  | some ad =>
    have hnews : ∀ j u, (u8s l)[j]? = some u → w.cell? (ad.add j) = some u := fun j u hj => by
      have hjl : j < l.length := by have := (List.getElem?_eq_some_iff.1 hj).1; simpa [u8s] using this
      rcases hb.addr with ⟨h0, _⟩ | ⟨_, b, o', c', hv⟩
      · rw [h0] at hjl; exact absurd hjl (Nat.not_lt_zero _)
      · simp only [Value.slice.injEq, Option.some.injEq] at hv
        obtain ⟨rfl, _, _⟩ := hv
        have hc := hb.cell j hjl
        have e : (⟨b, o', none⟩ : Addr).add j = ⟨b, o' + j, none⟩ := by unfold Addr.add; split <;> simp_all
        rw [e, hc, ← hj]
        simp [u8s, List.getElem?_eq_getElem hjl]
    refine wp_append_own w s x _ ho base 5 i0 (.int .u8 0) 1 1 Tryd.underlying22 hi hz0 hz1 hz2 rfl (by decide) _ 0 [] hs hown ad m c (u8s l) hx (by simp [u8s]; omega) hnews (u8s_oneS l) (by unfold maxLen; omega) (by omega) hbase ?_
    intro v' w' hown' hg hn
    rw [Nat.zero_add, List.nil_append] at hown'
    exact hK v' w' hown' hg
end Go.Proofs.YtahnihihfheegaaDoor

namespace Go.Proofs.YtahnihihfheegaaDoor
open Go Go.RowKit
set_option linter.unusedVariables false

/-- the copies so far -/
structure MineI (w wr : World) (v : Value) (i : Nat) (ps qs : List (Int × Sl)) (D : Nat → List Nat) : Prop where
  own : wr.ownsRow w.heap.size 44 2 v i (pcells qs)
  len : qs.length = i
  same : ∀ j, j < i → pidx qs j = pidx ps j ∧ plen' qs j = plen' ps j
  data : ∀ j, (h : j < qs.length) → wr.ownsRow w.heap.size 5 1 (.slice qs[j].2.1 qs[j].2.2.1 qs[j].2.2.2) qs[j].2.2.1 (u8s (D j))
  below : Below w.heap.size w wr
theorem pcells_snoc (qs : List (Int × Sl)) (p : Int × Sl) : pcells qs ++ [.int .i64 p.1, .slice p.2.1 p.2.2.1 p.2.2.2] = pcells (qs ++ [p]) := by simp [pcells]
theorem MineI.next {w wr wA w2 : World} {v v' : Value} {i : Nat} {ps qs : List (Int × Sl)} {D : Nat → List Nat} (h : MineI w wr v i ps qs D) (o : Obj) {da : Option Addr} {dn dc : Nat} (x : Int)
    (hA : Below wr.heap.size wr wA) (hd : wA.ownsRow w.heap.size 5 1 (.slice da dn dc) dn (u8s (D i))) (ho : w2.ownsRow w.heap.size 44 2 v' (i + 1) (pcells qs ++ [.int .i64 x, .slice da dn dc])) (hg : (wA.alloc o).grownBy w2 v.ownBlock)
    (hx : x = pidx ps i) (hn : dn = plen' ps i) : MineI w w2 v' (i + 1) ps (qs ++ [(x, da, dn, dc)]) D := by
  have hsz := h.below.size
  have howA := (owns_below h.own hA).alloc o
  have hlen := h.len
  have hdat : ∀ j, (hj : j < (qs ++ [(x, da, dn, dc)]).length) → wA.ownsRow w.heap.size 5 1 (.slice (qs ++ [(x, da, dn, dc)])[j].2.1 (qs ++ [(x, da, dn, dc)])[j].2.2.1 (qs ++ [(x, da, dn, dc)])[j].2.2.2) (qs ++ [(x, da, dn, dc)])[j].2.2.1 (u8s (D j)) := fun j hj => by
    by_cases e : j < qs.length
    · rw [List.getElem_append_left e]
      exact owns_below (h.data j e) hA
    · have e2 : j = i := by simp at hj; omega
      subst e2
      rw [List.getElem_append_right (by omega)]
      simp only [hlen, Nat.sub_self, List.getElem_cons_zero]
      exact hd
  refine ⟨by rw [← pcells_snoc]; exact ho, by simp [hlen], fun j hj => ?_, fun j hj => ?_, ?_⟩
  · unfold pidx plen'
    by_cases e : j < qs.length
    · rw [List.getD_eq_getElem?_getD, List.getElem?_append_left e, ← List.getD_eq_getElem?_getD]
      exact h.same j (by omega)
    · have e2 : j = i := by omega
      subst e2
      rw [List.getD_eq_getElem?_getD, List.getElem?_append_right (by omega), hlen, Nat.sub_self]
      exact ⟨hx, hn⟩
  · exact ((hdat j hj).alloc o).kept hg (own_types ((hdat j hj).alloc o) howA (by decide))
  · exact ((h.below.trans (hA.mono hsz)).alloc (Nat.le_trans hsz hA.size) o).grown hg (by have := hA.size; simp; omega) (fun g hg => (h.own.lt g hg).1)
theorem MineI.reads {w wr : World} {v : Value} {n : Nat} {ps qs : List (Int × Sl)} {D : Nat → List Nat} (h : MineI w wr v n ps qs D) (hD : ∀ i, i < n → ∀ x ∈ D i, x < 256) :
    ∃ a' c', v = .slice a' n c' ∧ n ≤ c' ∧ Ps wr (.slice a' n c') qs ∧ ∀ i, (h : i < qs.length) → Bs wr (.slice qs[i].2.1 qs[i].2.2.1 qs[i].2.2.2) (D i) := by
  have hlen := h.len
  have hdat : ∀ i, (h : i < qs.length) → Bs wr (.slice qs[i].2.1 qs[i].2.2.1 qs[i].2.2.2) (D i) := fun i hi => by
    obtain ⟨a, c, e, _, _, hb, _⟩ := bs_of_owns (h.data i hi) (hD i (by omega))
    exact hb
  have ho := h.own
  rcases ho.2 with ⟨rfl, h0⟩ | ⟨g, cap, cur, rfl, h3, h4, h5, _⟩
  · subst h0
    have hq : qs = [] := List.eq_nil_of_length_eq_zero hlen
    subst hq
    exact ⟨none, 0, rfl, Nat.le_refl _, ⟨none, 0, rfl, fun e => absurd rfl e⟩, hdat⟩
  · have h6 := ps_of_owns (c := cap) ho (show n ≤ qs.length by omega)
    rw [List.take_of_length_le (by omega)] at h6
    exact ⟨_, cap, rfl, h5, h6, hdat⟩
theorem MineI.fns {w wr : World} {v : Value} {n : Nat} {ps qs : List (Int × Sl)} {D : Nat → List Nat} (h : MineI w wr v n ps qs D) (hn : n = ps.length) : pidx qs = pidx ps ∧ plen' qs = plen' ps := by
  have hl := h.len
  constructor <;> funext i
  · by_cases hi : i < n
    · exact (h.same i hi).1
    · unfold pidx
      rw [List.getD_eq_getElem?_getD, List.getD_eq_getElem?_getD, List.getElem?_eq_none (by omega), List.getElem?_eq_none (by omega)]
  · by_cases hi : i < n
    · exact (h.same i hi).2
    · unfold plen'
      rw [List.getD_eq_getElem?_getD, List.getD_eq_getElem?_getD, List.getElem?_eq_none (by omega), List.getElem?_eq_none (by omega)]
theorem places_fn {qs ps : List (Int × Sl)} (h : pidx qs = pidx ps) (k : Nat) : places qs k = places ps k := by unfold places; rw [h]
end Go.Proofs.YtahnihihfheegaaDoor

namespace Go.Proofs.YtahnihihfheegaaDoor
open Go Go.RowKit
set_option linter.unusedVariables false

set_option maxRecDepth 100000 in
set_option maxHeartbeats 2000000 in
theorem mineD_any (a : Option Addr) (n c : Nat) (ps : List (Int × Sl)) (D : Nat → List Nat) (w : World) (hn : n ≤ 100000) (hp : Ps w (.slice a n c) ps) (hD : ∀ i, (h : i < ps.length) → Bs w (.slice ps[i].2.1 ps[i].2.2.1 ps[i].2.2.2) (D i) ∧ (ps[i].2.1 = none → ps[i].2.2.2 = 0) ∧ ps[i].2.2.1 ≤ 800000000) :
    Calls Tryd.prog 14 #[.slice a n c] w fun e w' => ∃ v qs, e = .returned v ∧ MineI w w' v n ps qs D := by
  have hnp : n = ps.length := by obtain ⟨_, _, h, _⟩ := hp; simp at h; exact h.2.1
  have HN := hid hnp
  have HP := hid hp
  have HD := hid hD
  obtain ⟨i0, hi0, hz0, hz1, hz2⟩ := info_parts info36
  clear hnp hp hD
  have h0 : MineI w (w.alloc (.cells #[] 44)) (.slice (some ⟨w.heap.size, 0, none⟩) 0 0) 0 ps [] D :=
    ⟨⟨rfl, .inr ⟨w.heap.size, 0, #[], rfl, Nat.le_refl _, heap_new _ _, Nat.le_refl _, Nat.zero_le _, rfl, rfl⟩⟩, rfl, fun j hj => absurd hj (Nat.not_lt_zero _), fun j hj => absurd hj (Nat.not_lt_zero _), (Below.refl _ _).alloc (Nat.le_refl _) _⟩
  have HINV := hid h0
  clear h0
  go_enter Tryd.func14, Tryd.ntmps14
  go_wp2
  go_loopw [3, 4] (fun v iv wr => ∃ (i : Nat) (qs : List (Int × Sl)), i ≤ n ∧ iv = .int .i64 i ∧ Hid (MineI w wr v i ps qs D)) (fun _ iv _ => n - (intOf iv).toNat)
  case atStart => exact ⟨0, [], by omega, rfl, HINV⟩
  case round =>
    clear HINV
    obtain ⟨i, qs, hi, rfl, HINV⟩ := hrel
    by_cases hlt : i < n
    · have HPr := HP.out.below HINV.out.below
      obtain ⟨b, o, rfl⟩ : ∃ b o, a = some ⟨b, o, none⟩ := by
        obtain ⟨a', c', h1, h3⟩ := HPr
        obtain ⟨b, o, ha, _⟩ := h3 (by intro e; rw [e] at HN; have := HN.out; simp at this; omega)
        simp at h1
        exact ⟨b, o, h1.1.trans ha⟩
      have hi2 : i < ps.length := by rw [← HN.out]; exact hlt
      obtain ⟨w0, w1⟩ := HP.out.cells i hi2
      obtain ⟨q0, q1⟩ := HPr.cells i hi2
      have hdd := HD.out i hi2
      rw [pidx_at] at q0 w0
      rw [plen_at] at q1 w1 hdd
      obtain ⟨x, hx⟩ : ∃ x, x = pidx ps i := ⟨_, rfl⟩
      obtain ⟨dn, hdn⟩ : ∃ m, m = plen' ps i := ⟨_, rfl⟩
      rw [← hx] at q0 w0
      rw [← hdn] at q1 w1 hdd
      have HX := hid hx
      have HDN := hid hdn
      clear hx hdn HPr
      generalize (ps[i]'_).2.1 = da at *
      generalize (ps[i]'_).2.2.2 = dc at *
      have hds := hdd.1.below HINV.out.below
      have HNIL := hid hdd.2.1
      have hdsz := hdd.2.2
      have HDS := hid hds
      have HQ0 := hid q0
      have HQ1 := hid q1
      have hbl := World.block_lt_of_cell? _ _ q0
      have hsz := HINV.out.below.size
      have hown0 : (wr.alloc (.cells #[] 5)).ownsRow w.heap.size 5 1 (.slice (some ⟨wr.heap.size, 0, none⟩) 0 0) 0 [] := ⟨rfl, .inr ⟨wr.heap.size, 0, #[], rfl, hsz, heap_new _ _, Nat.le_refl _, Nat.zero_le _, rfl, rfl⟩⟩
      have HO0 := hid hown0
      clear hds hdd hown0
      have hbl0 := World.block_lt_of_cell? _ _ w0
      have W0 := hid w0
      have W1 := hid w1
      clear w0 w1
      have hkeep : ∀ wx, Below w.heap.size w wx → wx.cell? ⟨b, o + i * 2, none⟩ = some (.int .i64 x) ∧ wx.cell? ⟨b, o + i * 2 + 1, none⟩ = some (.slice da dn dc) := fun wx hb => ⟨(hb.cell (p := ⟨b, o + i * 2, none⟩) hbl0).trans W0.out, (hb.cell (p := ⟨b, o + i * 2 + 1, none⟩) hbl0).trans W1.out⟩
      have hbW := HINV.out.below
      have HBW := hid hbW
      clear hbW
      have KEEP := hid hkeep
      have HI := hid HINV.out.own
      have HM1 := hid (show i + 1 ≤ maxLen by unfold maxLen; omega)
      have HM2 := hid (show (i + 1) * 32 ≤ 140737488355328 by omega)
      have hDl : ∀ y ∈ D i, y < 256 := by obtain ⟨_, _, _, h, _⟩ := HDS.out; exact h
      have HDl := hid hDl
      clear hkeep hDl
      go_wp2
      go_region_held3 (fun wx => wx.cell? ⟨b, o + i * 2, none⟩ = some (.int .i64 x) ∧ wx.cell? ⟨b, o + i * 2 + 1, none⟩ = some (.slice da dn dc))
        (first | with_reducible exact KS | with_reducible exact KEEP.out _ ((HBW.out.trans (hbA.mono HBW.out.size)).alloc (Nat.le_trans HBW.out.size hbA.size) _) | with_reducible exact KEEP.out _ (HBW.out.trans (hbA.mono HBW.out.size)) | exact KEEP.out _ (bel_drewN (HBW.out.alloc HBW.out.size _) 1) | exact KEEP.out _ ((bel_drewN HBW.out 1).alloc HBW.out.size _) | exact KEEP.out _ (bel_drewN HBW.out 1) | exact KEEP.out _ HBW.out)
        (first
          | (refine step_own_bytes rfl (.tmp 18) (.tmp 23) rfl w.heap.size wr.heap.size rfl HO0.out da dn dc (D i) rfl (by first | exact (HDS.out.alloc _).drewN 1 | exact (HDS.out.drewN 1).alloc _) HNIL.out (by omega) (by simp; omega) ?_
             intro v35 wA hdA hgA
             have hdA2 := hdA
             obtain ⟨a35, c35, e35, -, -, -, -⟩ := bs_of_owns hdA2 HDl.out
             subst e35
             have hbA : Below wr.heap.size wr wA := by first | exact (bel_drewN ((Below.refl _ _).alloc (Nat.le_refl _) (.cells #[] 5)) 1).grown hgA (by simp) (fun g hg => by simp at hg; omega) | exact ((bel_drewN (Below.refl _ _) 1).alloc (Nat.le_refl _) (.cells #[] 5)).grown hgA (by simp) (fun g hg => by simp at hg; omega)
             have HDA := hid hdA)
          | (refine step_append_own rfl (.tmp 12) (.tmp 26) _ rfl w.heap.size 44 i0 (.agg #[.int .i64 0, .slice none 0 0]) 2 32 Tryd.underlying28 hi0 hz0 hz1 hz2 rfl (by decide) _ i (pcells qs) rfl ((owns_below HI.out hbA).alloc _) ⟨wA.heap.size, 0, none⟩ 1 1 [.int .i64 x, .slice a35 dn c35] rfl rfl (cells_of_new2 _ _ _ _) (two_one _ 0 _ none _ _ 0 0 _) HM1.out HM2.out (by have := hbA.size; simp; omega) ?_
             intro v5 w5 hown5 hg5
             have hNX := HINV.out.next (Obj.cells #[.int .i64 x, .slice a35 dn c35] 44) x hbA HDA.out hown5 hg5 HX.out HDN.out
             have HNX := hid hNX
             have KS := KEEP.out _ HNX.out.below))
      all_goals
        go_wp2
        exact ⟨⟨i + 1, _, by omega, by go_num, HNX⟩, by simp [intOf]; omega⟩
    · obtain rfl : i = n := by omega
      go_wp2
      go_ret
      exact ⟨_, qs, rfl, HINV.out⟩
end Go.Proofs.YtahnihihfheegaaDoor

namespace Go.Proofs.YtahnihihfheegaaDoor
open Go Go.RowKit
open Go.Maps (Keyed)
set_option linter.unusedVariables false

theorem plainElem_bool_invS {H : Type} {P : Program} {e : TypeId} (he : P.underlying e = some .bool) {v : Value} {z : DataW H × List MemPlace} (h : plainElem P e v = some z) : ∃ a, v = .bool a ∧ z = (.lit (.bool a), []) := by
  unfold plainElem at h
  rw [he] at h
  cases v <;> simp at h
  subst h
  exact ⟨_, rfl, rfl⟩
/-- a map's look-up at elements of type bool -/
theorem wpList_lookup_own_boolS {H : Type} {P : Program} (w : World) {ops : Array Oper} {rest : List Oper} {o : Oper} {a : Act} {Q : Exit → Act → World → Prop}
    (hg : o.guard = none) (m x : Operand) (t : TypeId) (hop : o.op = Op.lookup t m x false)
    (k e : TypeId) (K : Keyed P k) (ht : P.underlying t = some (.map k e)) (he : P.underlying e = some .bool) (hz : (zeroValue e).run P w = .ok (.bool false) w) (b n : Nat) (D : DataW H)
    (hm : a.eval m = .map (some b)) (hown : w.ownsMap P k (plainElem P e) b n D) (key : Value) (kl : Lit) (hx : a.eval x = key) (hkey : keyOf P k key = some kl)
    (hK : ∀ c : Bool, D.atKey kl (.lit (.bool false)) = .lit (.bool c) → wpList P ops Q rest (a.put o.dst (.bool c)) w) :
    wpList P ops Q (o :: rest) a w := by
  refine wpList_plain hg fun K' hK' => ?_
  obtain ⟨v, ps, hrun, hv⟩ := hown.lookup K ht hz (plainElem_bool he false) hkey
  obtain ⟨c, rfl, hc⟩ := plainElem_bool_invS he hv
  simp only [Prod.mk.injEq] at hc
  unfold Oper.wp
  simp [execOp, hop, hm, hx, hrun, Result.andThen]
  exact hK' _ _ (hK c hc.1)

/-- the numbers that have occurred -/
def seenD (idx : Nat → Int) : Nat → DataW Unit
  | 0 => .map []
  | i + 1 => (seenD idx i).put (.int .i64 (idx i)) (.lit (.bool true))
theorem seenD_map (idx : Nat → Int) : ∀ i, Maps.IsMap (seenD idx i)
  | 0 => Maps.isMap_empty
  | i + 1 => (seenD_map idx i).put _ _
theorem seenD_at (idx : Nat → Int) (v : Int) : ∀ i, (seenD idx i).atKey (.int .i64 v) (.lit (.bool false)) = .lit (.bool (occ idx i v))
  | 0 => by rfl
  | i + 1 => by
    unfold seenD
    rw [occ_succ]
    by_cases h : idx i = v
    · subst h
      rw [Maps.atKey_put_same (seenD_map idx i) (show WideAt.IsKeyLit (.int .i64 (idx i)) from trivial)]
      simp
    · rw [Maps.atKey_put_other (by intro e; injection e with _ e2; exact h e2.symm), seenD_at idx v i]
      simp [h]
theorem keyed_intS : Keyed Tryd.prog 3 := Maps.int_keyed Tryd.underlying3
end Go.Proofs.YtahnihihfheegaaDoor

namespace Go.Proofs.YtahnihihfheegaaDoor
open Go Go.RowKit
set_option linter.unusedVariables false

def vcB (k n t : Int) : Bool := decide (1 ≤ k ∧ k ≤ n ∧ n ≤ t ∧ t ≤ 255)
set_option maxRecDepth 100000 in
set_option maxHeartbeats 2000000 in
theorem validCounts_any (k n t : Int) (w : World) :
    Calls Tryd.prog 40 #[.int .i64 k, .int .i64 n, .int .i64 t] w fun e w' => e = .returned (.bool (vcB k n t)) ∧ w = w' := by
  by_cases h1 : 1 ≤ k
  case neg =>
    have HB := hid (show vcB k n t = false from by unfold vcB; exact decide_eq_false (fun h => h1 h.1))
    go_enter Tryd.func40, Tryd.ntmps40
    go_wp2
    go_ret
    exact ⟨by rw [HB.out]; rfl, rfl⟩
  by_cases h2 : k ≤ n
  case neg =>
    have HB := hid (show vcB k n t = false from by unfold vcB; exact decide_eq_false (fun h => h2 h.2.1))
    go_enter Tryd.func40, Tryd.ntmps40
    go_wp2
    go_ret
    exact ⟨by rw [HB.out]; rfl, rfl⟩
  by_cases h3 : n ≤ t
  case neg =>
    have HB := hid (show vcB k n t = false from by unfold vcB; exact decide_eq_false (fun h => h3 h.2.2.1))
    go_enter Tryd.func40, Tryd.ntmps40
    go_wp2
    go_ret
    exact ⟨by rw [HB.out]; rfl, rfl⟩
  by_cases h4 : t ≤ 255
  case neg =>
    have HB := hid (show vcB k n t = false from by unfold vcB; exact decide_eq_false (fun h => h4 h.2.2.2))
    go_enter Tryd.func40, Tryd.ntmps40
    go_wp2
    go_ret
    exact ⟨by rw [HB.out]; rfl, rfl⟩
  have HB := hid (show vcB k n t = true from by unfold vcB; exact decide_eq_true ⟨h1, h2, h3, h4⟩)
  go_enter Tryd.func40, Tryd.ntmps40
  go_wp2
  go_ret
  exact ⟨by rw [HB.out]; rfl, rfl⟩

set_option maxRecDepth 100000 in
theorem manifestSize_any (t : Nat) (ht : t ≤ 100000) (w : World) :
    Calls Tryd.prog 44 #[.int .i64 (t : Int)] w fun e w' => e = .returned (.int .i64 ((7 + 32 * (1 + t) : Nat) : Int)) ∧ w = w' := by
  have t1 : IntKind.i64.wrap (1 + (t : Int)) = 1 + (t : Int) := by rw [IntKind.wrap_i64]; omega
  have t2 : IntKind.i64.wrap (32 * (1 + (t : Int))) = 32 * (1 + (t : Int)) := by rw [IntKind.wrap_i64]; omega
  have t3 : IntKind.i64.wrap (7 + 32 * (1 + (t : Int))) = ((7 + 32 * (1 + t) : Nat) : Int) := by rw [IntKind.wrap_i64]; omega
  generalize 7 + 32 * (1 + t) = z at *
  go_enter Tryd.func44, Tryd.ntmps44
  go_wp2
  go_ret
  exact ⟨rfl, rfl⟩

/-- a manifest's cells -/
def mcells (k n t s : Int) (od : List Nat) (v : Value) : List Value := [.int .i64 k, .int .i64 n, .int .i64 t, .int .i64 s] ++ u8s od ++ [v]
theorem mcells_length (k n t s : Int) (od : List Nat) (v : Value) (h : od.length = 32) : (mcells k n t s od v).length = 37 := by simp [mcells, u8s, h]
/-- a block that holds a manifest -/
def ManAt (w : World) (b : Nat) (k n t s : Int) (od : List Nat) (v : Value) : Prop := w.heap[b]? = some (.cells (mcells k n t s od v).toArray 27 (0, 0))
theorem ManAt.c {w : World} {b : Nat} {k n t s : Int} {od : List Nat} {v : Value} (M : ManAt w b k n t s od v) (h : od.length = 32) :
    w.cell? ⟨b, 0, none⟩ = some (.int .i64 k) ∧ w.cell? ⟨b, 1, none⟩ = some (.int .i64 n) ∧ w.cell? ⟨b, 2, none⟩ = some (.int .i64 t) ∧ w.cell? ⟨b, 3, none⟩ = some (.int .i64 s) ∧ w.cell? ⟨b, 36, none⟩ = some v := by
  refine ⟨?_, ?_, ?_, ?_, ?_⟩ <;> rw [cell_of_heap M] <;> simp [mcells, u8s, h]

def vnB (k n t s : Int) : Bool := vcB k n t && decide (0 ≤ s ∧ s ≤ 8192)
set_option maxRecDepth 100000 in
set_option maxHeartbeats 2000000 in
theorem validNumbers_any (k n t s : Int) (od : List Nat) (v : Value) (h : od.length = 32) (w : World) :
    Calls Tryd.prog 42 #[.agg (mcells k n t s od v).toArray] w fun e w' => e = .returned (.bool (vnB k n t s)) ∧ Below w.heap.size w w' := by
  have hM : ManAt (w.alloc (.cells (mcells k n t s od v).toArray 27)) w.heap.size k n t s od v := heap_new _ _
  obtain ⟨c0, c1, c2, c3, -⟩ := hM.c h
  have HB := hid ((Below.refl w.heap.size w).alloc (Nat.le_refl _) (.cells (mcells k n t s od v).toArray 27))
  obtain ⟨w1, hw1⟩ : ∃ w1, w1 = w.alloc (.cells (mcells k n t s od v).toArray 27) := ⟨_, rfl⟩
  rw [← hw1] at c0 c1 c2 c3 HB
  have HV := hid (validCounts_any k n t w1)
  have HE := hid (show vnB k n t s = (vcB k n t && decide (0 ≤ s ∧ s ≤ 8192)) from rfl)
  clear hM h
  go_enter Tryd.func42, Tryd.ntmps42
  go_upto_region 1 with fail
  change Code.wp _ _ _ _ (w.alloc (.cells (mcells k n t s od v).toArray 27))
  rw [← hw1]
  clear hw1
  go_wp2_with fail
  refine HV.out.mono ?_
  rintro e w2 ⟨rfl, rfl⟩
  generalize vcB k n t = b at *
  cases b with
  | false =>
    go_wp2
    go_ret
    exact ⟨by rw [HE.out]; rfl, HB.out⟩
  | true =>
    by_cases h1 : 0 ≤ s
    case neg =>
      have HE2 := hid (show vnB k n t s = false from by rw [HE.out, decide_eq_false (fun h => h1 h.1)]; rfl)
      go_wp2
      go_ret
      exact ⟨by rw [HE2.out]; rfl, HB.out⟩
    by_cases h2 : s ≤ 8192
    case neg =>
      have HE2 := hid (show vnB k n t s = false from by rw [HE.out, decide_eq_false (fun h => h2 h.2)]; rfl)
      go_wp2
      go_ret
      exact ⟨by rw [HE2.out]; show Ending.returned (.bool (decide (s ≤ 8192))) = _; simp [h2], HB.out⟩
    have HE2 := hid (show vnB k n t s = true from by rw [HE.out, decide_eq_true ⟨h1, h2⟩]; rfl)
    go_wp2
    go_ret
    exact ⟨by rw [HE2.out]; first | rfl | (show Ending.returned (.bool (decide (s ≤ 8192))) = _; simp [h2]), HB.out⟩

/-- is a manifest with so many digests valid -/
def manB (k n t s : Int) (m : Nat) : Bool := vnB k n t s && decide ((m : Int) = t)
def manE (k n t s : Int) (m : Nat) : Int := if manB k n t s m = true then 0 else 2
set_option maxRecDepth 100000 in
set_option maxHeartbeats 2000000 in
theorem CheckManifest_any (k n t s : Int) (od : List Nat) (a : Option Addr) (m c : Nat) (h : od.length = 32) (w : World) :
    Calls Tryd.prog 21 #[.agg (mcells k n t s od (.slice a m c)).toArray] w fun e w' => e = .returned (.int .i64 (manE k n t s m)) ∧ Below w.heap.size w w' := by
  have hM : ManAt (w.alloc (.cells (mcells k n t s od (.slice a m c)).toArray 27)) w.heap.size k n t s od (.slice a m c) := heap_new _ _
  have HM := hid hM
  obtain ⟨c0, c1, c2, c3, c36⟩ := hM.c h
  have HB := hid ((Below.refl w.heap.size w).alloc (Nat.le_refl _) (.cells (mcells k n t s od (.slice a m c)).toArray 27))
  have HIF := hid (show (Tryd.prog.info? 27).map (·.size) = some (mcells k n t s od (.slice a m c)).length from by rw [mcells_length _ _ _ _ _ _ h]; kernel_rfl)
  have HV := hid (fun w => validNumbers_any k n t s od (.slice a m c) h w)
  obtain ⟨w1, hw1⟩ : ∃ w1, w1 = w.alloc (.cells (mcells k n t s od (.slice a m c)).toArray 27) := ⟨_, rfl⟩
  rw [← hw1] at c2 c36 HB HM
  have HRA := hid (show w1.rangeAt w.heap.size 0 (mcells k n t s od (.slice a m c)) from fun j v hj => by
    rw [Nat.zero_add, cell_of_heap HM.out, List.getElem?_toArray]
    exact hj)
  have hs1 : w.heap.size < w1.heap.size := by rw [hw1]; simp
  have HE1 := hid (show vnB k n t s = false → manE k n t s m = 2 from fun e => by unfold manE manB; rw [e]; rfl)
  have HE2 := hid (show vnB k n t s = true → (m : Int) ≠ t → manE k n t s m = 2 from fun e e2 => by unfold manE manB; rw [e, decide_eq_false e2]; rfl)
  have HE3 := hid (show vnB k n t s = true → (m : Int) = t → manE k n t s m = 0 from fun e e2 => by unfold manE manB; rw [e, decide_eq_true e2]; rfl)
  clear hM c0 c1 c3 h
  go_enter Tryd.func21, Tryd.ntmps21
  go_upto_region 1 with fail
  change Code.wp _ _ _ _ (w.alloc (.cells (mcells k n t s od (.slice a m c)).toArray 27))
  rw [← hw1]
  clear hw1
  go_wp2_with (refine wpList_load_mid (by rfl) 27 (.tmp 1) (by rfl) w.heap.size 0 (by rfl) (mcells k n t s od (.slice a m c)) _ HRA.out Tryd.underlying27 rfl HIF.out ?_)
  refine (HV.out w1).mono ?_
  rintro e w2 ⟨rfl, hb2⟩
  have d2 := (hb2.cell (p := ⟨w.heap.size, 2, none⟩) hs1).trans c2
  have d36 := (hb2.cell (p := ⟨w.heap.size, 36, none⟩) hs1).trans c36
  have HB2 := hid (HB.out.trans (hb2.mono (by omega)))
  clear hb2 c2 c36
  generalize vnB k n t s = b at *
  cases b with
  | false =>
    have h1 := HE1.out rfl
    have HE := hid h1
    clear h1 HE1 HE2 HE3
    go_wp2
    go_ret
    exact ⟨by rw [HE.out]; rfl, HB2.out⟩
  | true =>
    by_cases hm : (m : Int) = t
    · have h1 := HE3.out rfl hm
      have HE := hid h1
      clear h1 HE1 HE2 HE3
      subst hm
      go_wp2
      go_ret
      exact ⟨by rw [HE.out]; rfl, HB2.out⟩
    · have h1 := HE2.out rfl hm
      have HE := hid h1
      clear h1 HE1 HE2 HE3
      go_wp2
      go_ret
      exact ⟨by rw [HE.out]; rfl, HB2.out⟩
end Go.Proofs.YtahnihihfheegaaDoor

namespace Go.Proofs.YtahnihihfheegaaDoor
open Go Go.RowKit
set_option linter.unusedVariables false

set_option maxRecDepth 100000 in
set_option maxHeartbeats 2000000 in
theorem sizes_any (k n t : Int) (w : World) :
    Calls Tryd.prog 24 #[.int .i64 k, .int .i64 n, .int .i64 t] w fun e w' => e = .returned (.bool (vcB k n t)) ∧ w = w' := by
  by_cases h1 : 1 ≤ k
  case neg =>
    have HB := hid (show vcB k n t = false from by unfold vcB; exact decide_eq_false (fun h => h1 h.1))
    go_enter Tryd.func24, Tryd.ntmps24
    go_wp2
    go_ret
    exact ⟨by rw [HB.out]; rfl, rfl⟩
  by_cases h2 : k ≤ n
  case neg =>
    have HB := hid (show vcB k n t = false from by unfold vcB; exact decide_eq_false (fun h => h2 h.2.1))
    go_enter Tryd.func24, Tryd.ntmps24
    go_wp2
    go_ret
    exact ⟨by rw [HB.out]; rfl, rfl⟩
  by_cases h3 : n ≤ t
  case neg =>
    have HB := hid (show vcB k n t = false from by unfold vcB; exact decide_eq_false (fun h => h3 h.2.2.1))
    go_enter Tryd.func24, Tryd.ntmps24
    go_wp2
    go_ret
    exact ⟨by rw [HB.out]; rfl, rfl⟩
  by_cases h4 : t ≤ 255
  case neg =>
    have HB := hid (show vcB k n t = false from by unfold vcB; exact decide_eq_false (fun h => h4 h.2.2.2))
    go_enter Tryd.func24, Tryd.ntmps24
    go_wp2
    go_ret
    exact ⟨by rw [HB.out]; rfl, rfl⟩
  have HB := hid (show vcB k n t = true from by unfold vcB; exact decide_eq_true ⟨h1, h2, h3, h4⟩)
  go_enter Tryd.func24, Tryd.ntmps24
  go_wp2
  go_ret
  exact ⟨by rw [HB.out]; rfl, rfl⟩

set_option maxRecDepth 100000 in
set_option maxHeartbeats 2000000 in
theorem valid_any (k n t s : Int) (od : List Nat) (a : Option Addr) (m c : Nat) (h : od.length = 32) (w : World) :
    Calls Tryd.prog 9 #[.agg (mcells k n t s od (.slice a m c)).toArray] w fun e w' => e = .returned (.bool (manB k n t s m)) ∧ Below w.heap.size w w' := by
  have hM : ManAt (w.alloc (.cells (mcells k n t s od (.slice a m c)).toArray 27)) w.heap.size k n t s od (.slice a m c) := heap_new _ _
  obtain ⟨c0, c1, c2, c3, c36⟩ := hM.c h
  have HB := hid ((Below.refl w.heap.size w).alloc (Nat.le_refl _) (.cells (mcells k n t s od (.slice a m c)).toArray 27))
  have HV := hid (fun w => sizes_any k n t w)
  obtain ⟨w1, hw1⟩ : ∃ w1, w1 = w.alloc (.cells (mcells k n t s od (.slice a m c)).toArray 27) := ⟨_, rfl⟩
  rw [← hw1] at c0 c1 c2 c3 c36 HB
  have HE := hid (show manB k n t s m = (vcB k n t && decide (0 ≤ s ∧ s ≤ 8192) && decide ((m : Int) = t)) from rfl)
  clear hM h
  go_enter Tryd.func9, Tryd.ntmps9
  go_upto_region 1 with fail
  change Code.wp _ _ _ _ (w.alloc (.cells (mcells k n t s od (.slice a m c)).toArray 27))
  rw [← hw1]
  clear hw1
  go_wp2_with fail
  refine (HV.out w1).mono ?_
  rintro e w2 ⟨rfl, rfl⟩
  generalize vcB k n t = b at *
  cases b with
  | false =>
    have HE2 := hid (show manB k n t s m = false from by rw [HE.out]; rfl)
    go_wp2
    go_ret
    exact ⟨by rw [HE2.out]; rfl, HB.out⟩
  | true =>
    by_cases h1 : 0 ≤ s
    case neg =>
      have HE2 := hid (show manB k n t s m = false from by rw [HE.out, decide_eq_false (fun h => h1 h.1)]; rfl)
      go_wp2
      go_ret
      exact ⟨by rw [HE2.out]; rfl, HB.out⟩
    by_cases h2 : s ≤ 8192
    case neg =>
      have HE2 := hid (show manB k n t s m = false from by rw [HE.out, decide_eq_false (fun h => h2 h.2)]; rfl)
      go_wp2
      go_ret
      exact ⟨by rw [HE2.out]; rfl, HB.out⟩
    by_cases hm : (m : Int) = t
    · have HE2 := hid (show manB k n t s m = true from by rw [HE.out, decide_eq_true ⟨h1, h2⟩, decide_eq_true hm]; rfl)
      subst hm
      go_wp2
      go_ret
      exact ⟨by rw [HE2.out]; rfl, HB.out⟩
    · have HE2 := hid (show manB k n t s m = false from by rw [HE.out, decide_eq_false hm, Bool.and_false])
      have hmb : ((m : Int) == t) = false := by simpa using hm
      go_wp2
      go_ret
      exact ⟨by rw [HE2.out]; rfl, HB.out⟩
theorem range_of_heapI {w : World} {b : Nat} {cs : List Value} {T : TypeId} (h : w.heap[b]? = some (.cells cs.toArray T (0, 0))) : w.rangeAt b 0 cs := fun j v hj => by
  rw [Nat.zero_add, cell_of_heap h, List.getElem?_toArray]
  exact hj
theorem eqItems_any (d : Nat) (l r : List Nat) (w : World) : ∀ is : List Nat, (∀ i ∈ is, i < l.length ∧ i < r.length) → (Op.eqItems (d + 1) 5 1 (u8s l).toArray (u8s r).toArray is).run Tryd.prog w = .ok (is.all fun i => l.getD i 0 == r.getD i 0) w
  | [], _ => by simp [Op.eqItems]
  | i :: is, h => by
    obtain ⟨hi, hj⟩ := h i (by simp)
    have hg : (u8s l).toArray[i * 1]? = some (.int .u8 ((l.getD i 0 : Nat) : Int)) := by
      simp [u8s, hi]
    have hg' : (u8s r).toArray[i * 1]? = some (.int .u8 ((r.getD i 0 : Nat) : Int)) := by
      simp [u8s, hj]
    have hp := run_part_plain (P := Tryd.prog) w (e := 5) (by kernel_rfl) hg
    have hp' := run_part_plain (P := Tryd.prog) w (e := 5) (by kernel_rfl) hg'
    have he := run_equalIn_int (P := Tryd.prog) w d 5 .u8 .u8 ((l.getD i 0 : Nat) : Int) ((r.getD i 0 : Nat) : Int) Tryd.underlying5
    have ih := eqItems_any d l r w is (fun j hj => h j (by simp [hj]))
    by_cases hlr : l.getD i 0 = r.getD i 0
    · have e1 : ((((l.getD i 0 : Nat) : Int)) == ((r.getD i 0 : Nat) : Int)) = true := by rw [hlr]; simp
      have e2 : (l.getD i 0 == r.getD i 0) = true := by rw [hlr]; simp
      rw [List.all_cons, e2, Bool.true_and]
      simp only [Op.eqItems, Sem.run_bind, hp, hp', he, e1, Result.andThen_ok, Bool.not_true, Bool.false_eq_true, if_false, ih]
    · have e1 : ((((l.getD i 0 : Nat) : Int)) == ((r.getD i 0 : Nat) : Int)) = false := by rw [beq_eq_false_iff_ne]; omega
      have e2 : (l.getD i 0 == r.getD i 0) = false := by rw [beq_eq_false_iff_ne]; exact hlr
      rw [List.all_cons, e2, Bool.false_and]
      simp only [Op.eqItems, Sem.run_bind, hp, hp', he, e1, Result.andThen_ok, Bool.not_false, if_true, Sem.run_pure]
theorem all_range_eq (l r : List Nat) (h : l.length = 32) (h' : r.length = 32) : ((List.range 32).all fun i => l.getD i 0 == r.getD i 0) = decide (l = r) := by
  by_cases hlr : l = r
  · subst hlr
    simp
  · rw [decide_eq_false hlr]
    cases hb : ((List.range 32).all fun i => l.getD i 0 == r.getD i 0) with
    | false => rfl
    | true =>
      refine absurd ?_ hlr
      refine List.ext_getElem (h.trans h'.symm) fun i h1 h2 => ?_
      have h3 := List.all_eq_true.1 hb i (List.mem_range.2 (by omega))
      have h4 := eq_of_beq h3
      rw [List.getD_eq_getElem?_getD, List.getD_eq_getElem?_getD, List.getElem?_eq_getElem h1, List.getElem?_eq_getElem h2] at h4
      exact h4
theorem eql_any (l r : List Nat) (h : l.length = 32) (h' : r.length = 32) (w : World) : (Op.equalIn 10000 24 (.agg (u8s l).toArray) (.agg (u8s r).toArray)).run Tryd.prog w = .ok (decide (l = r)) w := by
  have hi0 : (Tryd.prog.info? 5).map (·.size) = some 1 := by kernel_rfl
  obtain ⟨i, hi, _⟩ := Option.map_eq_some_iff.1 hi0
  have hc : Tryd.prog.cellsOf 5 = 1 := by kernel_rfl
  rw [show (10000 : Nat) = 9999 + 1 from rfl, run_equalIn_array w 9999 _ _ Tryd.underlying24 hi, hc]
  rw [← all_range_eq l r h h']
  exact eqItems_any 9998 l r w (List.range 32) fun j hj => by
    have h9 : j < 32 := List.mem_range.1 hj
    omega
end Go.Proofs.YtahnihihfheegaaDoor

namespace Go.Proofs.YtahnihihfheegaaDoor
open Go Go.RowKit
set_option linter.unusedVariables false

/-- a Writer that began in world w0 and has not failed -/
def EncI (w0 wx : World) (lim : Nat) (l : List Nat) : Prop := ∃ v, WrAt wx w0.heap.size lim v l false ∧ Below w0.heap.size w0 wx
theorem EncI.step {w0 wx w' : World} {lim : Nat} {v : Value} {l bs : List Nat} (W : WrAt wx w0.heap.size lim v l false) (hb : Below w0.heap.size w0 wx) (h : Added w0.heap.size lim v l false bs wx w') (hf : l.length + bs.length ≤ lim) : EncI w0 w' lim (l ++ bs) := by
  obtain ⟨v', h1, h2, h3⟩ := h
  have e : wadd lim l false bs = (l ++ bs, false) := by unfold wadd; rw [if_neg (by simp; omega)]
  rw [e] at h1
  refine ⟨v', h1, hb.trans (h2.below hb.size (Nat.le_refl _) (fun k hk => ?_))⟩
  have := (W.own.lt k hk).1
  omega
/-- digests in memory, one behind the other -/
def DgAt (w : World) (v : Value) (D : List (List Nat)) : Prop := ∃ a c, v = .slice a D.length c ∧ (∀ d ∈ D, d.length = 32 ∧ ∀ x ∈ d, x < 256) ∧ (D ≠ [] → ∃ b o, a = some ⟨b, o, none⟩ ∧ ∀ j, j < D.length → w.rangeAt b (o + j * 32) (u8s (D.getD j [])))
theorem ManAt.od {w : World} {b : Nat} {k n t s : Int} {od : List Nat} {v : Value} (M : ManAt w b k n t s od v) (h : od.length = 32) (hl : ∀ x ∈ od, x < 256) : Bs w (.slice (some ⟨b, 4, none⟩) 32 32) od := by
  refine ⟨some ⟨b, 4, none⟩, 32, by rw [h], hl, fun _ => ⟨b, 4, rfl, fun i hi => ?_⟩⟩
  rw [cell_of_heap M, List.getElem?_toArray]
  unfold mcells
  rw [List.append_assoc, List.getElem?_append_right (by simp), List.getElem?_append_left (by simp [u8s]; omega)]
  simp [u8s, hi]
theorem WrAt.below {w w' : World} {wb lim : Nat} {v : Value} {l : List Nat} {f : Bool} (W : WrAt w wb lim v l f) (k : Below w.heap.size w w') : WrAt w' wb lim v l f :=
  ⟨(k.block _ W.lt_size).trans W.at_, W.own.kept (row := none) ⟨k.os, k.tape, k.output, k.size, fun i hi _ => k.block i hi⟩ (by cases v.ownBlock <;> simp), W.lt, W.fit, W.cap⟩
theorem beL_one (x : Nat) (h : x < 256) : beL x 1 = [x] := by
  simp [beL, beB, List.range_succ, Nat.mod_eq_of_lt h]
theorem beL_two (x : Nat) (h : x < 65536) : beL x 2 = [x / 256, x % 256] := by
  have h2 : x / 256 % 256 = x / 256 := Nat.mod_eq_of_lt (by omega)
  simp [beL, beB, List.range_succ, h2]
theorem range_below {w w' : World} {b o : Nat} {cs : List Value} (h : w.rangeAt b o cs) (k : Below w.heap.size w w') : w'.rangeAt b o cs := fun j v hj => by
  have h1 := h j v hj
  rw [k.cell (World.block_lt_of_cell? _ _ h1)]
  exact h1
def encHead (k n t s : Nat) (od : List Nat) : List Nat := [77, 1, k, n, t, s / 256, s % 256] ++ od
def encTo (k n t s : Nat) (od : List Nat) (D : List (List Nat)) (i : Nat) : List Nat := encHead k n t s od ++ (D.take i).flatten

set_option maxRecDepth 100000 in
set_option maxHeartbeats 4000000 in
theorem EncodeM_any (k n t s : Nat) (od : List Nat) (D : List (List Nat)) (v : Value) (h : od.length = 32) (hol : ∀ x ∈ od, x < 256) (w : World) (hD : DgAt w v D) (hok : manB k n t s D.length = true) :
    Calls Tryd.prog 22 #[.agg (mcells k n t s od v).toArray] w fun e w' => ∃ u, e = .returned (.tuple #[u, .int .i64 0]) ∧ ∃ wx, Copied wx (7 + 32 * (1 + t)) (encTo k n t s od D t) u w' ∧ Below w.heap.size w wx := by
  obtain ⟨a, c, rfl, hDl, hDc⟩ := hD
  have hM : ManAt (w.alloc (.cells (mcells k n t s od (.slice a D.length c)).toArray 27)) w.heap.size k n t s od (.slice a D.length c) := heap_new _ _
  have HM := hid hM
  have HB := hid ((Below.refl w.heap.size w).alloc (Nat.le_refl _) (.cells (mcells k n t s od (.slice a D.length c)).toArray 27))
  have HIF := hid (show (Tryd.prog.info? 27).map (·.size) = some (mcells k n t s od (.slice a D.length c)).length from by rw [mcells_length _ _ _ _ _ _ h]; kernel_rfl)
  have HC := hid (fun w => CheckManifest_any k n t s od a D.length c h w)
  have hme : manE k n t s D.length = 0 := by unfold manE; rw [if_pos hok]
  rw [hme] at HC
  have hnum : 1 ≤ k ∧ k ≤ n ∧ n ≤ t ∧ t ≤ 255 ∧ s ≤ 8192 ∧ D.length = t := by
    unfold manB vnB vcB at hok
    simp only [Bool.and_eq_true, decide_eq_true_eq] at hok
    omega
  obtain ⟨w1, hw1⟩ : ∃ w1, w1 = w.alloc (.cells (mcells k n t s od (.slice a D.length c)).toArray 27) := ⟨_, rfl⟩
  rw [← hw1] at HB HM
  have hs1 : w.heap.size < w1.heap.size := by rw [hw1]; simp
  have HRA := hid (show w1.rangeAt w.heap.size 0 (mcells k n t s od (.slice a D.length c)) from fun j v hj => by
    rw [Nat.zero_add, cell_of_heap HM.out, List.getElem?_toArray]
    exact hj)
  have HH := hid h
  have HOL := hid hol
  have HDL := hid hDl
  have HDC := hid hDc
  have HN := hid hnum
  clear hM h hol hDl hDc hok hme hnum
  go_enter Tryd.func22, Tryd.ntmps22
  go_upto_region 1 with fail
  change Code.wp _ _ _ _ (w.alloc (.cells (mcells k n t s od (.slice a D.length c)).toArray 27))
  rw [← hw1]
  clear hw1
  go_wp2_with (refine wpList_load_mid (by rfl) 27 (.tmp 1) (by rfl) w.heap.size 0 (by rfl) (mcells k n t s od (.slice a D.length c)) _ HRA.out Tryd.underlying27 rfl HIF.out ?_)
  refine (HC.out w1).mono ?_
  rintro e w2 ⟨rfl, hb2⟩
  have HM2 := hid (show ManAt w2 w.heap.size k n t s od (.slice a D.length c) from (hb2.block _ hs1).trans HM.out)
  have HB2 := hid (HB.out.trans (hb2.mono (by omega)))
  obtain ⟨c0, c1, c2, c3, c36⟩ := HM2.out.c HH.out
  have hs2 : w.heap.size < w2.heap.size := Nat.lt_of_lt_of_le hs1 hb2.size
  clear hb2 HM HB HIF HC HRA
  go_wp2_with fail
  refine (manifestSize_any t (by have := HN.out; omega) w2).mono ?_
  rintro e w3 ⟨rfl, rfl⟩
  go_wp2_with fail
  refine (NewWriter_any (7 + 32 * (1 + t)) (by have := HN.out; omega) w2).mono ?_
  rintro e w3 ⟨rfl, hW3, hb3⟩
  have HCE := hid (show ∀ wx, Below w2.heap.size w2 wx → wx.cell? ⟨w.heap.size, 0, none⟩ = some (.int .i64 (k : Int)) ∧ wx.cell? ⟨w.heap.size, 1, none⟩ = some (.int .i64 (n : Int)) ∧ wx.cell? ⟨w.heap.size, 2, none⟩ = some (.int .i64 (t : Int)) ∧ wx.cell? ⟨w.heap.size, 3, none⟩ = some (.int .i64 (s : Int)) ∧ wx.cell? ⟨w.heap.size, 36, none⟩ = some (.slice a D.length c) from fun wx hb => ManAt.c ((hb.block _ hs2).trans HM2.out) HH.out)
  obtain ⟨hk1, hkn, hnt, ht, hs8, hDt⟩ := HN.out
  clear c0 c1 c2 c3 c36
  have I1 := hid (show EncI w2 w3 (7 + 32 * (1 + t)) [] from ⟨_, hW3, hb3⟩)
  clear hW3 hb3
  obtain ⟨lim, hlim⟩ : ∃ lim, lim = 7 + 32 * (1 + t) := ⟨_, rfl⟩
  rw [← hlim] at I1
  have hl40 : 39 + 32 * t ≤ lim := by omega
  have HLIM := hid hlim
  clear hlim
  have q1 : IntKind.u8.wrap (k : Int) = (k : Int) := by rw [IntKind.wrap_u8]; omega
  have q2 : IntKind.u8.wrap (n : Int) = (n : Int) := by rw [IntKind.wrap_u8]; omega
  have q3 : IntKind.u8.wrap (t : Int) = (t : Int) := by rw [IntKind.wrap_u8]; omega
  have q4 : IntKind.u16.wrap (s : Int) = (s : Int) := by rw [IntKind.wrap_u16]; omega
  obtain ⟨v1, V1, B1⟩ := I1.out
  go_wp2_with fail
  refine (U8_any w2.heap.size lim 77 v1 [] false w3 V1 (by decide)).mono ?_
  rintro e w4 ⟨rfl, hA⟩
  have hI := EncI.step V1 B1 hA (by simp [beL_length]; omega)
  have I2 := hid hI
  clear hA hI V1 B1
  obtain ⟨v2, V2, B2⟩ := I2.out
  go_wp2_with fail
  refine (U8_any w2.heap.size lim 1 v2 _ false w4 V2 (by decide)).mono ?_
  rintro e w5 ⟨rfl, hA⟩
  have hI := EncI.step V2 B2 hA (by simp [beL_length]; omega)
  have I3 := hid hI
  clear hA hI V2 B2
  obtain ⟨v3, V3, B3⟩ := I3.out
  have d0 := (HCE.out w5 B3).1
  go_wp2_with fail
  refine (U8_any w2.heap.size lim k v3 _ false w5 V3 (by show k < 256; omega)).mono ?_
  rintro e w6 ⟨rfl, hA⟩
  have hI := EncI.step V3 B3 hA (by simp [beL_length]; omega)
  have I4 := hid hI
  clear hA hI V3 B3
  obtain ⟨v4, V4, B4⟩ := I4.out
  have d1 := (HCE.out w6 B4).2.1
  go_wp2_with fail
  refine (U8_any w2.heap.size lim n v4 _ false w6 V4 (by show n < 256; omega)).mono ?_
  rintro e w7 ⟨rfl, hA⟩
  have hI := EncI.step V4 B4 hA (by simp [beL_length]; omega)
  have I5 := hid hI
  clear hA hI V4 B4
  obtain ⟨v5, V5, B5⟩ := I5.out
  have d2 := (HCE.out w7 B5).2.2.1
  go_wp2_with fail
  refine (U8_any w2.heap.size lim t v5 _ false w7 V5 (by show t < 256; omega)).mono ?_
  rintro e w8 ⟨rfl, hA⟩
  have hI := EncI.step V5 B5 hA (by simp [beL_length]; omega)
  have I6 := hid hI
  clear hA hI V5 B5
  obtain ⟨v6, V6, B6⟩ := I6.out
  have d3 := (HCE.out w8 B6).2.2.2.1
  go_wp2_with fail
  refine (U16_any w2.heap.size lim s v6 _ false w8 V6 (by show s < 65536; omega)).mono ?_
  rintro e w9 ⟨rfl, hA⟩
  have hI := EncI.step V6 B6 hA (by simp [beL_length]; omega)
  have I7 := hid hI
  clear hA hI V6 B6
  clear d0 d1 d2 d3
  obtain ⟨v7, V7, B7⟩ := I7.out
  go_wp2_with fail
  have M9 : ManAt w9 w.heap.size k n t s od (.slice a D.length c) := (B7.block _ hs2).trans HM2.out
  have hne : w.heap.size ≠ w2.heap.size := by omega
  refine (Raw_any w2.heap.size lim 32 32 (some ⟨w.heap.size, 4, none⟩) v7 _ od false w9 V7 (M9.od HH.out HOL.out) (fun h => by cases h) (by omega) (fun ad h _ => by
    cases h
    exact ⟨hne, fun e => by
      have h9 : w2.heap.size + 1 ≤ w.heap.size := (V7.own.lt _ e).1
      omega⟩)).mono ?_
  rintro e w10 ⟨rfl, hA⟩
  have hI := EncI.step V7 B7 hA (by
    have ho := HH.out
    simp only [List.length_append, List.length_nil, beL_length]
    omega)
  obtain ⟨L, hL⟩ : ∃ L, L = [] ++ beL 77 1 ++ beL 1 1 ++ beL k 1 ++ beL n 1 ++ beL t 1 ++ beL s 2 ++ od := ⟨_, rfl⟩
  rw [← hL] at hI
  have hLl : L.length = 39 := by rw [hL]; simp [beL_length, HH.out]
  have HL := hid hL
  have I8 := hid hI
  clear hA hI V7 B7 I7 M9 hL
  obtain ⟨v8, V8, B8⟩ := I8.out
  have d36 := (HCE.out w10 B8).2.2.2.2
  rw [hDt] at d36
  clear V8 B8
  have hwb : w2.heap.size ≤ w10.heap.size := by obtain ⟨_, _, B⟩ := I8.out; exact B.size
  go_wp2
  go_loopw [48] (fun iv wr => ∃ i : Nat, i ≤ t ∧ iv = .int .i64 i ∧ Hid (EncI w2 wr lim (L ++ (D.take i).flatten)) ∧ Hid ((D.take i).flatten.length = 32 * i)) (fun iv _ => t - (intOf iv).toNat)
  case atStart => exact ⟨0, by omega, rfl, hid (by simpa using I8.out), hid (by simp)⟩
  case round =>
    clear I8
    obtain ⟨i, hi, rfl, I9, HFL⟩ := hrel
    by_cases hit : i < t
    · have hI : (i : Int) < (t : Int) := by omega
      have hDne : D ≠ [] := by intro h0; rw [h0] at hDt; simp at hDt; omega
      obtain ⟨b, o, rfl, hrg⟩ := HDC.out hDne
      have hr := hrg i (by omega)
      obtain ⟨d, hd⟩ : ∃ d, d = D.getD i [] := ⟨_, rfl⟩
      have hdm : d ∈ D := by rw [hd, List.getD_eq_getElem?_getD, List.getElem?_eq_getElem (by omega)]; exact List.getElem_mem _
      obtain ⟨hd32, hdl⟩ := HDL.out d hdm
      obtain ⟨v9, V9, B9⟩ := I9.out
      rw [← hd] at hr
      have HR := hid (range_below hr (HB2.out.trans (B9.mono (by omega))))
      have HIFD := hid (show (Tryd.prog.info? 24).map (·.size) = some (u8s d).length from by rw [show (u8s d).length = 32 from by simp [u8s, hd32]]; kernel_rfl)
      have HIFA := hid (show (Tryd.prog.info? 24).map (·.size) = some (u8s d).toArray.size from by rw [List.size_toArray, show (u8s d).length = 32 from by simp [u8s, hd32]]; kernel_rfl)
      have HOLD := hid (show (u8s (List.replicate 32 0)).toArray.size = (u8s d).toArray.size from by rw [List.size_toArray, List.size_toArray]; simp [u8s, hd32])
      have HONE := hid (show (u8s d).toArray.all (·.oneCell') = true from all_oneCell_toArray (fun u hu => by
        unfold u8s at hu
        obtain ⟨y, _, rfl⟩ := List.mem_map.1 hu
        rfl))
      have HNW := hid (show (wr.alloc (.cells (u8s (List.replicate 32 0)).toArray 24)).heap[wr.heap.size]? = _ from heap_new _ _)
      have HBA := hid (B9.alloc B9.size (.cells (u8s (List.replicate 32 0)).toArray 24))
      have HST := hid (show (D.take i).flatten ++ d = (D.take (i + 1)).flatten from by
        rw [hd, List.take_add_one, List.getD_eq_getElem?_getD, List.getElem?_eq_getElem (by omega)]
        simp only [List.flatten_append, Option.toList_some, List.flatten_cons, List.flatten_nil, List.append_nil, Option.getD_some])
      have HD32 := hid hd32
      have HDLT := hid hdl
      have HV9 := hid V9
      have HB9 := hid B9
      clear hr hrg hd hdm hd32 hdl V9 B9 I9 hDne
      go_wp2_with (first
        | (refine wpList_load_mid (by rfl) 24 (.tmp 50) (by rfl) b (o + i * 32) (by rfl) (u8s d) _ HR.out Tryd.underlying24 rfl HIFD.out ?_)
        | (refine wpList_store_row (by rfl) 24 (.tmp 7) (.tmp 51) (by rfl) wr.heap.size _ (u8s d).toArray _ (by rfl) (by rfl) HNW.out HIFA.out HOLD.out HONE.out ?_
           intro w8 hw8 hk8))
      have hb8 : Below wr.heap.size wr w8 := ((Below.refl wr.heap.size wr).alloc (Nat.le_refl _) (.cells (u8s (List.replicate 32 0)).toArray 24)).trans (hk8.below (by simp) (Nat.le_refl _))
      have hbs8 : Bs w8 (.slice (some ⟨wr.heap.size, 0, none⟩) 32 32) d := ⟨some ⟨wr.heap.size, 0, none⟩, 32, by rw [HD32.out], HDLT.out, fun _ => ⟨_, 0, rfl, fun i hi => by
        rw [Nat.zero_add, cell_of_heap hw8]
        simp [u8s, hi]⟩⟩
      have V10 := HV9.out.below hb8
      have B10 := HB9.out.trans (hb8.mono HB9.out.size)
      have hlt9 := HV9.out.lt_size
      refine (Raw_any w2.heap.size lim 32 32 (some ⟨wr.heap.size, 0, none⟩) v9 _ d false w8 V10 hbs8 (fun h => by cases h) (by omega) (fun ad h _ => by
        cases h
        exact ⟨(by show wr.heap.size ≠ w2.heap.size; omega), fun e => by
          have h9 : wr.heap.size < wr.heap.size := (HV9.out.own.lt _ e).2
          omega⟩)).mono ?_
      rintro e w11 ⟨rfl, hA⟩
      have hI2 := EncI.step V10 B10 hA (by
        have h1 := HFL.out
        have h2 := HD32.out
        simp only [List.length_append]
        omega)
      rw [List.append_assoc, HST.out] at hI2
      have I10 := hid hI2
      have HFL2 := hid (show (D.take (i + 1)).flatten.length = 32 * (i + 1) from by
        have h1 := HFL.out
        have h2 := HD32.out
        rw [← HST.out, List.length_append]
        omega)
      clear hI2 hA V10 B10 hbs8 hb8 hw8 hk8 hlt9
      go_wp2
      exact ⟨⟨i + 1, by omega, by go_num, I10, HFL2⟩, by simp [intOf]; omega⟩
    · have hit2 : i = t := by omega
      obtain ⟨v9, V9, B9⟩ := I9.out
      have HEQ := hid (show L ++ (D.take i).flatten = encTo k n t s od D t from by
        rw [HL.out, hit2]
        unfold encTo encHead
        rw [beL_one 77 (by omega), beL_one 1 (by omega), beL_one k (by omega), beL_one n (by omega), beL_one t (by omega), beL_two s (by omega)]
        rfl)
      have HLEN := hid (show (L ++ (D.take i).flatten).length = 7 + 32 * (1 + t) from by
        have h1 := HFL.out
        rw [List.length_append]
        omega)
      have HBY := hid (Bytes_any w2.heap.size lim v9 _ false wr V9)
      have HBF := hid (HB2.out.trans (B9.mono (by omega)))
      clear V9 B9
      have hI : ¬ ((i : Int) < (t : Int)) := by omega
      go_wp2_with fail
      refine HBY.out.mono ?_
      rintro e w11 hres
      obtain ⟨u, rfl, hcp⟩ := hres.2 rfl
      rw [HLEN.out, HEQ.out] at hcp
      have HCP := hid hcp
      clear hcp hres
      go_wp2
      go_ret2
      exact ⟨u, rfl, wr, HCP.out, HBF.out⟩
end Go.Proofs.YtahnihihfheegaaDoor
