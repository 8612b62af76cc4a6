/-
  mine: a copy of a list of pieces.
-/
import Derived.Test.YtbajekiliplclaaDecM
import Derived.Test.YtbajekiliplclaaRSplit
import Derived.Test.YtbajekiliplclaaApp
import Derived.Deep.RegionHeld3
namespace Go.Proofs.Ytbajekiliplclaa
open Go Go.RowKit
set_option linter.unusedVariables false

/-- rows of different element types lie in different blocks -/
theorem own_types {w : World} {B1 B2 s1 s2 n1 n2 : Nat} {e1 e2 : TypeId} {v1 v2 : Value} {x1 x2 : List Value} (h1 : w.ownsRow B1 e1 s1 v1 n1 x1) (h2 : w.ownsRow B2 e2 s2 v2 n2 x2) (hne : e1 ≠ e2) : v1.ownBlock = none ∨ v1.ownBlock ≠ v2.ownBlock := by
  rcases h1.2 with ⟨rfl, _⟩ | ⟨g1, c1, u1, rfl, _, k1, _⟩
  · exact .inl rfl
  · right
    rcases h2.2 with ⟨rfl, _⟩ | ⟨g2, c2, u2, rfl, _, k2, _⟩
    · simp [Value.ownBlock]
    · simp only [Value.ownBlock, ne_eq, Option.some.injEq]
      rintro rfl
      rw [k1] at k2
      simp at k2
      exact hne k2.2
/-- append to an empty new row, of any slice of bytes -/
theorem step_own_bytes {ops : Array Oper} {o : Oper} {a : Act} {w : World} {K : Act → World → Prop} {Q : Exit → Act → World → Prop} {E : Prop} (hgd : o.guard = none) (s x : Operand)
    (ho : o.op = .call { callee := .builtin .append, args := #[s, x], argTypes := #[27, 27] }) (base g0 : Nat) (hs : a.eval s = .slice (some ⟨g0, 0, none⟩) 0 0) (hown : w.ownsRow base 5 1 (.slice (some ⟨g0, 0, none⟩) 0 0) 0 [])
    (sa : Option Addr) (m c : Nat) (l : List Nat) (hx : a.eval x = .slice sa m c) (hb : Bs w (.slice sa m c) l) (hnil : sa = none → c = 0) (hm : m ≤ 461168601842) (hbase : base ≤ w.heap.size)
    (hK : ∀ v' w', w'.ownsRow base 5 1 v' m (u8s l) → w.grownBy w' (some g0) → K (a.put o.dst v') w') :
    if Region.wanted o (yielded ops a.tmps) = true then Oper.wp Try.prog o a w K Q else E := by
  have hw : Region.wanted o (yielded ops a.tmps) = true := by simp [Region.wanted, hgd]
  rw [if_pos hw]
  obtain ⟨i0, hi, hz0, hz1, hz2⟩ := info_parts info5
  have hlen := hb.len
  cases sa with
  | none =>
    obtain rfl := hnil rfl
    have h0 : l = [] := by
      rcases hb.addr with ⟨h0, _⟩ | ⟨_, b, o', c', hv⟩
      · exact h0
      · simp at hv
    subst h0
    obtain rfl : m = 0 := hlen
    have hrun := run_append_owned_none (P := Try.prog) (w := w) base 27 o.type 5 i0 1 Try.underlying27 hi (.slice (some ⟨g0, 0, none⟩) 0 0) 0 [] hown
    unfold Oper.wp
    simp [execOp, ho, resolve, invoke, builtin, hs, hx, hrun, Result.andThen]
    exact hK _ _ hown (World.grownBy.refl w _)
  | some ad =>
    have hnews : ∀ j u, (u8s l)[j]? = some u → w.cell? (ad.add j) = some u := fun j u hj => by
      have hjl : j < l.length := by have := (List.getElem?_eq_some_iff.1 hj).1; simpa [u8s] using this
      rcases hb.addr with ⟨h0, _⟩ | ⟨_, b, o', c', hv⟩
      · rw [h0] at hjl; exact absurd hjl (Nat.not_lt_zero _)
      · simp only [Value.slice.injEq, Option.some.injEq] at hv
        obtain ⟨rfl, _, _⟩ := hv
        have hc := hb.cell j hjl
        have e : (⟨b, o', none⟩ : Addr).add j = ⟨b, o' + j, none⟩ := by unfold Addr.add; split <;> simp_all
        rw [e, hc, ← hj]
        simp [u8s, List.getElem?_eq_getElem hjl]
    refine wp_append_own w s x _ ho base 5 i0 (.int .u8 0) 1 1 Try.underlying27 hi hz0 hz1 hz2 rfl (by decide) _ 0 [] hs hown ad m c (u8s l) hx (by simp [u8s]; omega) hnews (u8s_oneC l) (by unfold maxLen; omega) (by omega) hbase ?_
    intro v' w' hown' hg hn
    rw [Nat.zero_add, List.nil_append] at hown'
    exact hK v' w' hown' hg

/-- the copies so far -/
structure MineI (w wr : World) (v : Value) (i : Nat) (ps qs : List (Int × Sl)) (D : Nat → List Nat) : Prop where
  own : wr.ownsRow w.heap.size 36 2 v i (pcells qs)
  len : qs.length = i
  same : ∀ j, j < i → pidx qs j = pidx ps j ∧ plen' qs j = plen' ps j
  data : ∀ j, (h : j < qs.length) → wr.ownsRow w.heap.size 5 1 (.slice qs[j].2.1 qs[j].2.2.1 qs[j].2.2.2) qs[j].2.2.1 (u8s (D j))
  below : Below w.heap.size w wr
theorem pcells_snoc (qs : List (Int × Sl)) (p : Int × Sl) : pcells qs ++ [.int .i64 p.1, .slice p.2.1 p.2.2.1 p.2.2.2] = pcells (qs ++ [p]) := by simp [pcells]
theorem MineI.next {w wr wA w2 : World} {v v' : Value} {i : Nat} {ps qs : List (Int × Sl)} {D : Nat → List Nat} (h : MineI w wr v i ps qs D) (o : Obj) {da : Option Addr} {dn dc : Nat} (x : Int)
    (hA : Below wr.heap.size wr wA) (hd : wA.ownsRow w.heap.size 5 1 (.slice da dn dc) dn (u8s (D i))) (ho : w2.ownsRow w.heap.size 36 2 v' (i + 1) (pcells qs ++ [.int .i64 x, .slice da dn dc])) (hg : (wA.alloc o).grownBy w2 v.ownBlock)
    (hx : x = pidx ps i) (hn : dn = plen' ps i) : MineI w w2 v' (i + 1) ps (qs ++ [(x, da, dn, dc)]) D := by
  have hsz := h.below.size
  have howA := (owns_below h.own hA).alloc o
  have hlen := h.len
  have hdat : ∀ j, (hj : j < (qs ++ [(x, da, dn, dc)]).length) → wA.ownsRow w.heap.size 5 1 (.slice (qs ++ [(x, da, dn, dc)])[j].2.1 (qs ++ [(x, da, dn, dc)])[j].2.2.1 (qs ++ [(x, da, dn, dc)])[j].2.2.2) (qs ++ [(x, da, dn, dc)])[j].2.2.1 (u8s (D j)) := fun j hj => by
    by_cases e : j < qs.length
    · rw [List.getElem_append_left e]
      exact owns_below (h.data j e) hA
    · have e2 : j = i := by simp at hj; omega
      subst e2
      rw [List.getElem_append_right (by omega)]
      simp only [hlen, Nat.sub_self, List.getElem_cons_zero]
      exact hd
  refine ⟨by rw [← pcells_snoc]; exact ho, by simp [hlen], fun j hj => ?_, fun j hj => ?_, ?_⟩
  · unfold pidx plen'
    by_cases e : j < qs.length
    · rw [List.getD_eq_getElem?_getD, List.getElem?_append_left e, ← List.getD_eq_getElem?_getD]
      exact h.same j (by omega)
    · have e2 : j = i := by omega
      subst e2
      rw [List.getD_eq_getElem?_getD, List.getElem?_append_right (by omega), hlen, Nat.sub_self]
      exact ⟨hx, hn⟩
  · exact ((hdat j hj).alloc o).kept hg (own_types ((hdat j hj).alloc o) howA (by decide))
  · exact ((h.below.trans (hA.mono hsz)).alloc (Nat.le_trans hsz hA.size) o).grown hg (by have := hA.size; simp; omega) (fun g hg => (h.own.lt g hg).1)

/-- the copy, or nothing -/
def MinePost (w : World) (n : Nat) (ps : List (Int × Sl)) (D : Nat → List Nat) (e : Ending) (w' : World) : Prop :=
  (∃ v qs, e = .returned (.tuple #[v, .bool true]) ∧ MineI w w' v n ps qs D ∧ (∀ i, i < n → plen' ps i ≤ 9000) ∧ n ≤ 60) ∨ (e = .returned (.tuple #[.slice none 0 0, .bool false]) ∧ Below w.heap.size w w')
set_option maxRecDepth 100000 in
set_option maxHeartbeats 2000000 in
theorem mine_any (a : Option Addr) (n c : Nat) (ps : List (Int × Sl)) (D : Nat → List Nat) (w : World) (hp : Ps w (.slice a n c) ps) (hD : ∀ i, (h : i < ps.length) → Bs w (.slice ps[i].2.1 ps[i].2.2.1 ps[i].2.2.2) (D i) ∧ (ps[i].2.1 = none → ps[i].2.2.2 = 0)) :
    Calls Try.prog 34 #[.slice a n c] w (MinePost w n ps D) := by
  by_cases hn : n ≤ 60
  case neg =>
    have b0 : decide ((60 : Int) < (n : Int)) = true := by simp; omega
    clear hp hD
    go_enter Try.func34, Try.ntmps34
    go_wp2
    go_ret2
    exact .inr ⟨rfl, Below.refl _ _⟩
  have hnp : n = ps.length := by obtain ⟨_, _, h, _⟩ := hp; simp at h; exact h.2.1
  have HN := hid hnp
  have HP := hid hp
  have HD := hid hD
  obtain ⟨i0, hi0, hz0, hz1, hz2⟩ := info_parts info36
  clear hnp hp hD
  have b0 : decide ((60 : Int) < (n : Int)) = false := by simp; omega
  have h0 : MineI w (w.alloc (.cells #[] 36)) (.slice (some ⟨w.heap.size, 0, none⟩) 0 0) 0 ps [] D :=
    ⟨⟨rfl, .inr ⟨w.heap.size, 0, #[], rfl, Nat.le_refl _, heap_new _ _, Nat.le_refl _, Nat.zero_le _, rfl, rfl⟩⟩, rfl, fun j hj => absurd hj (Nat.not_lt_zero _), fun j hj => absurd hj (Nat.not_lt_zero _), (Below.refl _ _).alloc (Nat.le_refl _) _⟩
  have HINV := hid h0
  clear h0
  go_enter Try.func34, Try.ntmps34
  go_wp2
  go_loopw [4, 5] (fun v iv wr => ∃ (i : Nat) (qs : List (Int × Sl)), i ≤ n ∧ iv = .int .i64 i ∧ Hid (MineI w wr v i ps qs D) ∧ Hid (∀ j, j < i → plen' ps j ≤ 9000)) (fun _ iv _ => n - (intOf iv).toNat)
  case atStart => exact ⟨0, [], by omega, rfl, HINV, hid fun j h => absurd h (Nat.not_lt_zero _)⟩
  case round =>
    clear HINV
    obtain ⟨i, qs, hi, rfl, HINV, HLE⟩ := hrel
    by_cases hlt : i < n
    · have HPr := HP.out.below HINV.out.below
      obtain ⟨b, o, rfl⟩ : ∃ b o, a = some ⟨b, o, none⟩ := by
        obtain ⟨a', c', h1, h3⟩ := HPr
        obtain ⟨b, o, ha, _⟩ := h3 (by intro e; rw [e] at HN; have := HN.out; simp at this; omega)
        simp at h1
        exact ⟨b, o, h1.1.trans ha⟩
      have hi2 : i < ps.length := by rw [← HN.out]; exact hlt
      obtain ⟨w0, w1⟩ := HP.out.cells i hi2
      obtain ⟨q0, q1⟩ := HPr.cells i hi2
      have hdd := HD.out i hi2
      rw [pidx_at] at q0 w0
      rw [plen_at] at q1 w1 hdd
      obtain ⟨x, hx⟩ : ∃ x, x = pidx ps i := ⟨_, rfl⟩
      obtain ⟨dn, hdn⟩ : ∃ m, m = plen' ps i := ⟨_, rfl⟩
      rw [← hx] at q0 w0
      rw [← hdn] at q1 w1 hdd
      have HX := hid hx
      have HDN := hid hdn
      clear hx hdn HPr
      generalize (ps[i]'_).2.1 = da at *
      generalize (ps[i]'_).2.2.2 = dc at *
      by_cases hl9 : dn ≤ 9000
      case neg =>
        have b1 : decide ((9000 : Int) < (dn : Int)) = true := by simp; omega
        have hbW := HINV.out.below
        clear hdd w0 w1
        go_wp2
        go_ret2
        exact .inr ⟨rfl, hbW⟩
      have HLE2 := hid (show ∀ j, j < i + 1 → plen' ps j ≤ 9000 from fun j hj => by
        by_cases e : j = i
        · rw [e, ← HDN.out]; exact hl9
        · exact HLE.out j (by omega))
      have hds := hdd.1.below HINV.out.below
      have HNIL := hid hdd.2
      have HDS := hid hds
      have HQ0 := hid q0
      have HQ1 := hid q1
      have hbl := World.block_lt_of_cell? _ _ q0
      have hsz := HINV.out.below.size
      have b1 : decide ((9000 : Int) < (dn : Int)) = false := by simp; omega
      have hown0 : (wr.alloc (.cells #[] 5)).ownsRow w.heap.size 5 1 (.slice (some ⟨wr.heap.size, 0, none⟩) 0 0) 0 [] := ⟨rfl, .inr ⟨wr.heap.size, 0, #[], rfl, hsz, heap_new _ _, Nat.le_refl _, Nat.zero_le _, rfl, rfl⟩⟩
      have HO0 := hid hown0
      clear hds hdd hown0
      have hbl0 := World.block_lt_of_cell? _ _ w0
      have W0 := hid w0
      have W1 := hid w1
      clear w0 w1
      have hkeep : ∀ wx, Below w.heap.size w wx → wx.cell? ⟨b, o + i * 2, none⟩ = some (.int .i64 x) ∧ wx.cell? ⟨b, o + i * 2 + 1, none⟩ = some (.slice da dn dc) := fun wx hb => ⟨(hb.cell (p := ⟨b, o + i * 2, none⟩) hbl0).trans W0.out, (hb.cell (p := ⟨b, o + i * 2 + 1, none⟩) hbl0).trans W1.out⟩
      have hbW := HINV.out.below
      have HBW := hid hbW
      clear hbW
      have KEEP := hid hkeep
      have HI := hid HINV.out.own
      have HM1 := hid (show i + 1 ≤ maxLen by unfold maxLen; omega)
      have HM2 := hid (show (i + 1) * 32 ≤ 140737488355328 by omega)
      have hDl : ∀ y ∈ D i, y < 256 := by obtain ⟨_, _, _, h, _⟩ := HDS.out; exact h
      have HDl := hid hDl
      clear hkeep hDl
      go_wp2
      go_region_held3 (fun wx => wx.cell? ⟨b, o + i * 2, none⟩ = some (.int .i64 x) ∧ wx.cell? ⟨b, o + i * 2 + 1, none⟩ = some (.slice da dn dc))
        (first | with_reducible exact KS | with_reducible exact KEEP.out _ ((HBW.out.trans (hbA.mono HBW.out.size)).alloc (Nat.le_trans HBW.out.size hbA.size) _) | with_reducible exact KEEP.out _ (HBW.out.trans (hbA.mono HBW.out.size)) | exact KEEP.out _ (bel_drewN (HBW.out.alloc HBW.out.size _) 1) | exact KEEP.out _ ((bel_drewN HBW.out 1).alloc HBW.out.size _) | exact KEEP.out _ (bel_drewN HBW.out 1) | exact KEEP.out _ HBW.out)
        (first
          | (refine step_own_bytes rfl (.tmp 29) (.tmp 34) rfl w.heap.size wr.heap.size rfl HO0.out da dn dc (D i) rfl (by first | exact (HDS.out.alloc _).drewN 1 | exact (HDS.out.drewN 1).alloc _) HNIL.out (by omega) (by simp; omega) ?_
             intro v35 wA hdA hgA
             have hdA2 := hdA
             obtain ⟨a35, c35, e35, -, -, -, -⟩ := bs_of_owns hdA2 HDl.out
             subst e35
             have hbA : Below wr.heap.size wr wA := by first | exact (bel_drewN ((Below.refl _ _).alloc (Nat.le_refl _) (.cells #[] 5)) 1).grown hgA (by simp) (fun g hg => by simp at hg; omega) | exact ((bel_drewN (Below.refl _ _) 1).alloc (Nat.le_refl _) (.cells #[] 5)).grown hgA (by simp) (fun g hg => by simp at hg; omega)
             have HDA := hid hdA)
          | (refine step_append_own rfl (.tmp 23) (.tmp 37) _ rfl w.heap.size 36 i0 (.agg #[.int .i64 0, .slice none 0 0]) 2 32 Try.underlying28 hi0 hz0 hz1 hz2 rfl (by decide) _ i (pcells qs) rfl ((owns_below HI.out hbA).alloc _) ⟨wA.heap.size, 0, none⟩ 1 1 [.int .i64 x, .slice a35 dn c35] rfl rfl (cells_of_new2 _ _ _ _) (two_one _ 0 _ none _ _ 0 0 _) HM1.out HM2.out (by have := hbA.size; simp; omega) ?_
             intro v5 w5 hown5 hg5
             have hNX := HINV.out.next (Obj.cells #[.int .i64 x, .slice a35 dn c35] 36) x hbA HDA.out hown5 hg5 HX.out HDN.out
             have HNX := hid hNX
             have KS := KEEP.out _ HNX.out.below))
      all_goals
        go_wp2
        exact ⟨⟨i + 1, _, by omega, by go_num, HNX, HLE2⟩, by simp [intOf]; omega⟩
    · obtain rfl : i = n := by omega
      go_wp2
      go_ret2
      exact .inl ⟨_, qs, rfl, HINV.out, HLE.out, hn⟩
end Go.Proofs.Ytbajekiliplclaa
