/-
  The reference's Split: all pieces of an object.
-/
import Derived.Test.YtfleplbdcpdphaaMix
import Derived.Test.YtfleplbdcpdphaaCopyP
import Derived.Test.YtfleplbdcpdphaaSize
import Derived.Deep.RegionLaw
namespace Go.Proofs.Ytfleplbdcpdphaa
open Go.RowKit
set_option linter.unusedVariables false

theorem rsizes_yes (k t : Int) (h1 : 1 ≤ k) (h2 : k ≤ t) (h3 : t ≤ 255) (w : World) :
    Calls Try.prog 29 #[.int .i64 k, .int .i64 t] w fun e w' => e = .returned (.bool true) ∧ w = w' := by
  go_enter Try.func29, Try.ntmps29
  go_wp2
  go_ret
  exact ⟨rfl, rfl⟩
theorem rsizes_no (k t : Int) (h : ¬ (1 ≤ k ∧ k ≤ t ∧ t ≤ 255)) (w : World) :
    Calls Try.prog 29 #[.int .i64 k, .int .i64 t] w fun e w' => e = .returned (.bool false) ∧ w = w' := by
  by_cases h1 : 1 ≤ k
  · by_cases h2 : k ≤ t
    · have h3 : ¬ t ≤ 255 := by omega
      clear h
      go_enter Try.func29, Try.ntmps29
      go_wp2
      go_ret
      exact ⟨rfl, rfl⟩
    · clear h
      go_enter Try.func29, Try.ntmps29
      go_wp2
      go_ret
      exact ⟨rfl, rfl⟩
  · clear h
    go_enter Try.func29, Try.ntmps29
    go_wp2
    go_ret
    exact ⟨rfl, rfl⟩

theorem owns_below {w w' : World} {base size n : Nat} {e : TypeId} {v : Value} {xs : List Value} (h : w.ownsRow base e size v n xs) (k : Below w.heap.size w w') : w'.ownsRow base e size v n xs := by
  obtain ⟨h1, h2⟩ := h
  refine ⟨h1, ?_⟩
  rcases h2 with h2 | ⟨g, cap, cur, h3, h4, h5, h6⟩
  · exact .inl h2
  · exact .inr ⟨g, cap, cur, h3, h4, (k.block g (lt_of_heap h5)).trans h5, h6⟩
/-- a row of pieces, its first k elements -/
theorem ps_of_owns {w : World} {base g cap n k c : Nat} {ps : List (Int × Sl)} (h : w.ownsRow base 36 2 (.slice (some ⟨g, 0, none⟩) n cap) n (pcells ps)) (hk : k ≤ ps.length) : Ps w (.slice (some ⟨g, 0, none⟩) k c) (ps.take k) := by
  obtain ⟨h1, h2⟩ := h
  rcases h2 with ⟨h2, _⟩ | ⟨g', cap', cur, h3, h4, h5, _, _, _, h6⟩
  · cases h2
  · simp only [Value.slice.injEq, Option.some.injEq, Addr.mk.injEq, and_true, true_and] at h3
    obtain ⟨rfl, _⟩ := h3
    have hlen : (ps.take k).length = k := by simp; omega
    have hpl : n = ps.length := by rw [pcells_length] at h1; omega
    refine ⟨_, c, by rw [hlen], fun _ => ⟨g, 0, rfl, fun i hi => ?_⟩⟩
    rw [hlen] at hi
    have e : ∀ j, j < n * 2 → cur[j]? = (pcells ps)[j]? := fun j hj => by
      rw [← h6, List.getElem?_take_of_lt hj, Array.getElem?_toList]
    have hi2 : i < ps.length := by omega
    rw [Nat.zero_add, cell_of_heap h5, cell_of_heap h5, e _ (by omega), e _ (by omega), pcells_get0 ps i hi2, pcells_get1 ps i hi2]
    simp
theorem cells_of_new2 (w : World) (x y : Value) (t : TypeId) : ∀ (j : Nat) (u : Value), [x, y][j]? = some u → (w.alloc (.cells #[x, y] t)).cell? ((⟨w.heap.size, 0, none⟩ : Addr).add j) = some u := by
  intro j u h
  match j with
  | 0 =>
    simp at h
    subst h
    show (w.alloc (.cells #[x, y] t)).cell? ⟨w.heap.size, 0, none⟩ = some x
    simp
  | 1 =>
    simp at h
    subst h
    show (w.alloc (.cells #[x, y] t)).cell? ⟨w.heap.size, 0 + 1, none⟩ = some y
    simp
  | j + 2 => simp at h
theorem mkps_snoc (bf : Nat → Nat) (L i nb : Nat) : pcells (mkps bf L i i) ++ [.int .i64 (i : Int), .slice (some ⟨nb, 0, none⟩) L L] = pcells (mkps (fun j => if j = i then nb else bf j) L (i + 1) (i + 1)) := by
  have e : mkps (fun j => if j = i then nb else bf j) L (i + 1) (i + 1) = mkps bf L i i ++ [((i : Int), some ⟨nb, 0, none⟩, L, L)] := by
    apply List.ext_getElem?
    intro j
    unfold mkps
    by_cases hj : j < i
    · rw [List.getElem?_append_left (by simpa using hj)]
      simp [hj, show j < i + 1 by omega, show ¬ j = i by omega]
    · rw [List.getElem?_append_right (by simp; omega)]
      by_cases h2 : j = i
      · subst h2; simp
      · rw [List.getElem?_eq_none (by simp; omega), List.getElem?_eq_none (by simp; omega)]
  rw [e, pcells_append]
  rfl

theorem step_append_own {P : Program} {ops : Array Oper} {o : Oper} {a : Act} {w : World} {K : Act → World → Prop} {Q : Exit → Act → World → Prop} {E : Prop} (hgd : o.guard = none) (s x : Operand) (t : TypeId)
    (ho : o.op = .call { callee := .builtin .append, args := #[s, x], argTypes := #[t, t] })
    (base : Nat) (e : TypeId) (i : TypeInfo) (z : Value) (size bytes : Nat) (ht : P.underlying t = some (.slice e)) (hi : P.info? e = some i) (hz : i.zero = some z)
    (hsize : i.size = size) (hby : i.bytes = bytes) (hzs : z.cells.size = size) (hsz : 0 < size)
    (v : Value) (n : Nat) (xs : List Value) (hs : a.eval s = v) (hown : w.ownsRow base e size v n xs)
    (ad : Addr) (m c : Nat) (news : List Value) (hx : a.eval x = .slice (some ad) m c) (hl : news.length = m * size) (hnews : ∀ j u, news[j]? = some u → w.cell? (ad.add j) = some u) (h1 : ∀ u ∈ news, u.oneCell' = true)
    (h63 : n + m ≤ maxLen) (hbytes : (n + m) * bytes ≤ 140737488355328) (hbase : base ≤ w.heap.size)
    (hK : ∀ v' w', w'.ownsRow base e size v' (n + m) (xs ++ news) → w.grownBy w' v.ownBlock → K (a.put o.dst v') w') :
    if Region.wanted o (yielded ops a.tmps) = true then Oper.wp P o a w K Q else E := by
  have hw : Region.wanted o (yielded ops a.tmps) = true := by simp [Region.wanted, hgd]
  rw [if_pos hw]
  exact wp_append_own w s x t ho base e i z size bytes ht hi hz hsize hby hzs hsz v n xs hs hown ad m c news hx hl hnews h1 h63 hbytes hbase fun v' w' h2 h3 _ => hK v' w' h2 h3
theorem chainA {wr wA : World} (h1 : Below wr.drew.heap.size wr.drew wA) : Below wr.heap.size wr wA := ⟨h1.os, h1.tape, h1.output, h1.size, h1.block⟩
theorem chainB {wr wA wB : World} (h1 : Below wr.drew.heap.size wr.drew wA) (h2 : Below wA.heap.size wA wB) : Below wr.heap.size wr wB := (chainA h1).trans (h2.mono h1.size)
theorem chainC {wr wA wB wC : World} (h1 : Below wr.drew.heap.size wr.drew wA) (h2 : Below wA.heap.size wA wB) (h3 : Below wB.heap.size wB wC) : Below wr.heap.size wr wC := (chainB h1 h2).trans (h3.mono (Nat.le_trans h1.size h2.size))
theorem two_one (x y : Int) (a b : Option Addr) (n m n' m' : Nat) (k : IntKind) : ∀ u ∈ [Value.int k x, Value.slice a n m], u.oneCell' = true := by
  intro u hu; simp at hu; rcases hu with rfl | rfl <;> rfl

/-- what the loops of Split keep -/
structure RSInv (B L k : Nat) (bf : Nat → Nat) (d : List Nat) (w wr : World) (v : Value) (i : Nat) : Prop where
  own : wr.ownsRow B 36 2 v i (pcells (mkps bf L i i))
  rows : ∀ j, j < i → Own wr (bf j) (encP d k L j)
  below : Below B w wr
theorem RSInv.step {B L k i nb : Nat} {bf : Nat → Nat} {d : List Nat} {w wr w1 w2 w3 : World} {v v' : Value} (h : RSInv B L k bf d w wr v i) (hB : B ≤ wr.heap.size) (h1 : Below wr.heap.size wr w1) (hnb : Own w1 nb (encP d k L i))
    (h2 : w2 = w1.alloc (.cells #[.int .i64 (i : Int), .slice (some ⟨nb, 0, none⟩) L L] 36)) (h3 : w3.ownsRow B 36 2 v' (i + 1) (pcells (mkps bf L i i) ++ [.int .i64 (i : Int), .slice (some ⟨nb, 0, none⟩) L L])) (h4 : w2.grownBy w3 v.ownBlock) :
    RSInv B L k (fun j => if j = i then nb else bf j) d w w3 v' (i + 1) := by
  subst h2
  have hs1 := h1.size
  have hne : ∀ g, v.ownBlock = some g → g ≠ nb ∧ (∀ j, j < i → bf j ≠ g) := fun g hg => by
    obtain ⟨_, h7⟩ := h.own
    rcases h7 with ⟨h8, _⟩ | ⟨g', cap, cur, h8, _, h9, _⟩
    · subst h8; cases hg
    · subst h8
      simp [Value.ownBlock] at hg
      subst hg
      refine ⟨fun e => ?_, fun j hj e => ?_⟩
      · subst e
        have h10 := (h1.block g' (lt_of_heap h9)).trans h9
        rw [hnb] at h10
        simp at h10
      · have h10 := h.rows j hj
        rw [e] at h10
        unfold Own at h10
        rw [h9] at h10
        simp at h10
  have hkeep : ∀ b l, Own w1 b l → (∀ g, v.ownBlock = some g → b ≠ g) → Own w3 b l := fun b l hb hg => by
    have h5 := hb.lt
    refine (h4.block b (by simp; omega) (fun e => ?_)).trans (hb.alloc _)
    exact hg b e.symm rfl
  refine ⟨by rw [← mkps_snoc]; exact h3, fun j hj => ?_, ?_⟩
  · show Own w3 (if j = i then nb else bf j) _
    by_cases e : j = i
    · rw [if_pos e, e]; exact hkeep nb _ hnb (fun g hg => fun e2 => (hne g hg).1 e2.symm)
    · rw [if_neg e]
      have h6 := h.rows j (by omega)
      exact hkeep _ _ (h6.below h1 h6.lt) (fun g hg => (hne g hg).2 j (by omega))
  · refine ((h.below.trans (h1.mono hB)).alloc (by omega) _).grown h4 (by simp; omega) (fun g hg => ?_)
    obtain ⟨_, h7⟩ := h.own
    rcases h7 with ⟨h8, _⟩ | ⟨g', cap, cur, h8, h9, _⟩
    · subst h8; cases hg
    · subst h8; simp [Value.ownBlock] at hg; omega

theorem pzero : ((Try.prog.info? 36).map (fun i => (i.zero, i.size, i.bytes))) = some (some (.agg #[.int .i64 0, .slice none 0 0]), 2, 32) := by kernel_rfl
theorem spl_upTo (d : List Nat) (L i q : Nat) (hq : q ≤ L) (h : q = L ∨ d.length ≤ i * L + q) : upTo L (fun c => d.getD (i * L + c) 0) q = spl d L i := by
  unfold upTo spl
  apply List.map_congr_left
  intro c hc
  have hcL := List.mem_range.1 hc
  by_cases h2 : c < q
  · rw [if_pos h2]
  · rw [if_neg h2, List.getD_eq_getElem?_getD, List.getElem?_eq_none (by omega)]; rfl

set_option maxRecDepth 100000 in
set_option maxHeartbeats 4000000 in
theorem rsplit_any (k t : Nat) (a : Option Addr) (n c : Nat) (d : List Nat) (w : World) (hd : Bs w (.slice a n c) d) (h1 : 1 ≤ k) (h2 : k ≤ t) (h3 : t ≤ 255) (hn : n ≤ 8192) :
    Calls Try.prog 32 #[.int .i64 k, .int .i64 t, .slice a n c] w fun e w' => ∃ v bf, e = .returned (.tuple #[v, .int .i64 0]) ∧ RSInv w.heap.size (plen k n) k bf d w w' v t := by
  have hnot : ∀ (x : Bool) (w : World), (Op.unary .not (.bool x)).run Try.prog w = .ok (.bool (!x)) w := fun _ _ => rfl
  obtain ⟨i0, hi, hz0, hz1, hz2⟩ := info_parts pzero
  have b4 : decide ((8192 : Int) < (n : Int)) = false := by simp; omega
  have HDN := hid hd.len
  have HD := hid hd
  have HDL := hid hd.lt
  have hpl := plen_le k n h1
  clear hd
  have hinv : RSInv w.heap.size (plen k n) k (fun _ => 0) d w (w.alloc (.cells #[] 36)) (.slice (some ⟨w.heap.size, 0, none⟩) 0 0) 0 :=
    ⟨⟨rfl, .inr ⟨w.heap.size, 0, #[], rfl, Nat.le_refl _, heap_new _ _, Nat.le_refl _, Nat.zero_le _, rfl, rfl⟩⟩, fun j hj => absurd hj (Nat.not_lt_zero _), (Below.refl _ _).alloc (Nat.le_refl _) _⟩
  generalize hL : plen k n = L at *
  have HL := hid hL
  have HINV := hid hinv
  clear hL hinv
  go_enter Try.func32, Try.ntmps32
  go_wp2_with fail
  refine (rsizes_yes k t (by omega) (by omega) (by omega) _).mono ?_
  rintro e w' ⟨rfl, rfl⟩
  go_wp2_with fail
  refine (length_ok k n h1 (by omega) hn _).mono ?_
  rw [HL.out]
  rintro e w' ⟨rfl, rfl⟩
  go_wp2
  go_loopw [10, 11, 12, 13] (fun v iv _ _ wr => ∃ (i : Nat) (bf : Nat → Nat), i ≤ k ∧ iv = .int .i64 i ∧ Hid (RSInv w.heap.size L k bf d w wr v i)) (fun _ iv _ _ _ => k - (intOf iv).toNat)
  case atStart => exact ⟨0, _, by omega, rfl, HINV⟩
  case round =>
    clear HINV
    obtain ⟨i, bf, hi', rfl, HINV⟩ := hrel
    obtain ⟨wo, rfl⟩ : ∃ wo : World, wo = wr := ⟨_, rfl⟩
    by_cases hlt : i < k
    · have hmk := mk_u8 L (by omega)
      have ho := own_zrow wo L
      rw [← upTo_zero L (fun c => d.getD (i * L + c) 0)] at ho
      have hiL : i * L ≤ 255 * 8192 := Nat.mul_le_mul (by omega) (by omega)
      have hcast : ((i : Int) * (L : Int)) = ((i * L : Nat) : Int) := rfl
      generalize hiq : i * L = z at *
      have HZ := hid hiq
      clear hiq
      go_wp2
      clear hmk
      go_loopw [13] (fun cv wr => ∃ q : Nat, q ≤ L ∧ cv = .int .i64 q ∧ Own wr wo.heap.size (upTo L (fun c => d.getD (z + c) 0) q) ∧ Below wo.heap.size wo wr) (fun cv _ => L - (intOf cv).toNat)
      case atStart => exact ⟨0, by omega, rfl, ho, (Below.refl _ _).alloc (Nat.le_refl _) _⟩
      case round =>
        clear ho
        obtain ⟨q, hq, rfl, ho, hb⟩ := hrel
        by_cases hg : q < L ∧ z + q < n
        · obtain ⟨hg1, hg2⟩ := hg
          have hdb := HD.out.below (HINV.out.below.trans (hb.mono HINV.out.below.size))
          rcases hdb.addr with ⟨h0, _⟩ | ⟨h0, b, o, c', hv⟩
          · exfalso; have := HDN.out; rw [h0] at this; simp at this; omega
          · simp only [Value.slice.injEq] at hv
            obtain ⟨rfl, hnn, hcc⟩ := hv
            clear hnn hcc h0
            have cd := hdb.cell (z + q) (by rw [← HDN.out]; exact hg2)
            have co := ho.cell q (by rw [upTo_length]; exact hg1)
            have fo := ho.free q
            have hst := upTo_set L (fun c => d.getD (z + c) 0) q
            have HST := hid hst
            clear hst
            generalize d.getD (z + q) 0 = x at *
            go_wp2
            refine ⟨⟨q + 1, by omega, by go_num, ?_, hb.setCell (Nat.le_refl _) _⟩, by simp [intOf]; omega⟩
            rw [← HST.out]
            exact ho.set q x
        · have hfull : upTo L (fun c => d.getD (z + c) 0) q = encP d k L i := by
            have h5 := spl_upTo d L i q hq (by rw [HZ.out, ← HDN.out]; omega)
            rw [HZ.out] at h5
            rw [h5]
            unfold encP
            rw [if_pos hlt]
          rw [hfull] at ho
          clear hfull
          have hbsz := hb.size
          have hBsz := HINV.out.below.size
          have hown2 := (owns_below HINV.out.own (hb)).alloc (.cells #[.int .i64 (i : Int), .slice (some ⟨wo.heap.size, 0, none⟩) L L] 36)
          by_cases hg1 : q < L
          · have hg2 : ¬ (z + q < n) := fun h => hg ⟨hg1, h⟩
            clear hg
            go_wp2_with (refine wpList_append_own _ rfl (.tmp 63) (.tmp 67) _ rfl w.heap.size 36 i0 (.agg #[.int .i64 0, .slice none 0 0]) 2 32 Try.underlying28 hi hz0 hz1 hz2 rfl (by decide) _ i (pcells (mkps bf L i i)) rfl hown2 ⟨wr.heap.size, 0, none⟩ 1 1 [.int .i64 (i : Int), .slice (some ⟨wo.heap.size, 0, none⟩) L L] rfl rfl ?hnews ?hone (by unfold maxLen; omega) (by omega) (by simp; omega) ?_)
            case hnews => exact cells_of_new2 _ _ _ _
            case hone => intro u hu; simp at hu; rcases hu with rfl | rfl <;> rfl
            intro v' w2 hown3 hg3 _
            have hstep := HINV.out.step HINV.out.below.size hb ho rfl hown3 hg3
            have HSTEP := hid hstep
            clear hstep hown3 hown2 hg3 ho
            go_wp2
            exact ⟨⟨i + 1, _, by omega, by go_num, HSTEP⟩, by simp [intOf]; omega⟩
          · clear hg
            go_wp2_with (refine wpList_append_own _ rfl (.tmp 63) (.tmp 67) _ rfl w.heap.size 36 i0 (.agg #[.int .i64 0, .slice none 0 0]) 2 32 Try.underlying28 hi hz0 hz1 hz2 rfl (by decide) _ i (pcells (mkps bf L i i)) rfl hown2 ⟨wr.heap.size, 0, none⟩ 1 1 [.int .i64 (i : Int), .slice (some ⟨wo.heap.size, 0, none⟩) L L] rfl rfl ?hnews ?hone (by unfold maxLen; omega) (by omega) (by simp; omega) ?_)
            case hnews => exact cells_of_new2 _ _ _ _
            case hone => intro u hu; simp at hu; rcases hu with rfl | rfl <;> rfl
            intro v' w2 hown3 hg3 _
            have hstep := HINV.out.step HINV.out.below.size hb ho rfl hown3 hg3
            have HSTEP := hid hstep
            clear hstep hown3 hown2 hg3 ho
            go_wp2
            exact ⟨⟨i + 1, _, by omega, by go_num, HSTEP⟩, by simp [intOf]; omega⟩
    · obtain rfl : i = k := by omega
      go_wp2
      go_loopw [10, 14] (fun v jv wr => ∃ (j : Nat) (bf' : Nat → Nat), i ≤ j ∧ j ≤ t ∧ jv = .int .i64 j ∧ Hid (RSInv w.heap.size L i bf' d w wr v j)) (fun _ jv _ => t - (intOf jv).toNat)
      case atStart => exact ⟨i, bf, by omega, by omega, rfl, HINV⟩
      case round =>
        clear HINV
        obtain ⟨j, bf', hij, hjt, rfl, HINV⟩ := hrel
        by_cases hlt2 : j < t
        · obtain ⟨g, cap, cur, hv, hgb, hg, hcap, hcm, hcs, hct⟩ : ∃ g cap cur, u10 = .slice (some ⟨g, 0, none⟩) j cap ∧ w.heap.size ≤ g ∧ wr.heap[g]? = some (.cells cur 36 (0, 0)) ∧ j ≤ cap ∧ cap ≤ maxLen ∧ cur.size = cap * 2 ∧ cur.toList.take (j * 2) = pcells (mkps bf' L j j) := by
            obtain ⟨_, h7⟩ := HINV.out.own
            rcases h7 with ⟨h8, h9⟩ | h8
            · omega
            · exact h8
          subst hv
          have hic : i ≤ cap := by omega
          have hps : ∀ W, Below wr.heap.size wr W → Ps W (.slice (some ⟨g, 0, none⟩) i cap) (mkps bf' L i i) := fun W hW => by
            have h5 := ps_of_owns (c := cap) (owns_below HINV.out.own hW) (show i ≤ (mkps bf' L j j).length by rw [mkps_length]; exact hij)
            have h6 : (mkps bf' L j j).take i = mkps bf' L i i := by
              unfold mkps
              apply List.ext_getElem?
              intro q
              by_cases hq : q < i
              · rw [List.getElem?_take_of_lt hq]
                simp [hq, show q < j by omega]
              · rw [List.getElem?_eq_none (by simp; omega), List.getElem?_eq_none (by simp; omega)]
            rwa [h6] at h5
          have hdat : ∀ W, Below wr.heap.size wr W → ∀ q, (h : q < (mkps bf' L i i).length) → Bs W (.slice (mkps bf' L i i)[q].2.1 (mkps bf' L i i)[q].2.2.1 (mkps bf' L i i)[q].2.2.2) (((List.range i).map (spl d L)).getD q []) ∧ (((List.range i).map (spl d L)).getD q []).length = L := fun W hW q h => by
            have hqi : q < i := by rwa [mkps_length] at h
            rw [mkps_get _ _ _ _ _ h hqi, range_map_getD _ _ _ hqi]
            refine ⟨?_, spl_length _ _ _⟩
            have h5 := HINV.out.rows q (by omega)
            unfold encP at h5
            rw [if_pos hqi] at h5
            have h6 := (h5.below hW h5.lt).bs (fun x hx => by
              unfold spl at hx
              obtain ⟨c', _, rfl⟩ := List.mem_map.1 hx
              exact HDL.out _) L
            rwa [spl_length] at h6
          have hmix : ∀ W ob, Below wr.heap.size wr W → Own W ob (wts (List.range i) (scales (List.range i)) j) → Calls Try.prog 79 #[.slice (some ⟨g, 0, none⟩) i cap, .slice (some ⟨ob, 0, none⟩) i i, .int .i64 L] W fun e w' => ∃ oc, e = .returned (.slice (some ⟨oc, 0, none⟩) L L) ∧ Own w' oc (encP d i L j) ∧ Below W.heap.size W w' := fun W ob hW how => by
            have h9 := how.bs (wts_lt _ _ _) i
            rw [wts_length, List.length_range] at h9
            refine (rmix_any g 0 cap ob 0 i i L (mkps bf' L i i) (wts (List.range i) (scales (List.range i)) j) ((List.range i).map (spl d L)) W (hps W hW) (by omega) (by rw [mkps_length]) (hdat W hW) h9 (by omega)).mono ?_
            rintro e w' ⟨oc, _, rfl, hoc, hbC⟩
            refine ⟨oc, rfl, ?_, hbC⟩
            unfold encP
            rw [if_neg (by omega)]
            exact hoc
          have hown' : ∀ W oc, Below wr.heap.size wr W → (W.alloc (.cells #[.int .i64 (j : Int), .slice (some ⟨oc, 0, none⟩) L L] 36)).ownsRow w.heap.size 36 2 (.slice (some ⟨g, 0, none⟩) j cap) j (pcells (mkps bf' L j j)) := fun W oc hW => (owns_below HINV.out.own hW).alloc _
          have hbse : ∀ W oc, Below wr.heap.size wr W → w.heap.size ≤ (W.alloc (.cells #[.int .i64 (j : Int), .slice (some ⟨oc, 0, none⟩) L L] 36)).heap.size := fun W oc hW => by
            have h8 := hW.size
            have h9 := HINV.out.below.size
            simp; omega
          have HMIX := hid hmix
          have HOW := hid hown'
          have HBS := hid hbse
          have HJM := hid (show j + 1 ≤ maxLen by unfold maxLen; omega)
          have HJB := hid (show (j + 1) * 32 ≤ 140737488355328 by omega)
          have HFI := hid (fun W => first_any i (by omega) W)
          have hwr : IntKind.u8.wrap (j : Int) = (j : Int) := by rw [IntKind.wrap_u8]; omega
          have hwe := fun fa fc W (h : Bs W (.slice fa i fc) (List.range i)) => rweights_any fa i fc (List.range i) j (by omega) W h (by omega) List.nodup_range
          rw [← hwr] at hwe
          have HWE := hid hwe
          clear hwe hwr
          have hBw := HINV.out.below.size
          clear hps hdat hg hcs hct hmix hown' hbse
          go_wp2
          go_region_law (first | (go_simp; go_at_call 81; refine (HFI.out _).mono ?_; rintro e0 wA ⟨fa, fc, rfl, hfb, hbA⟩) | (go_simp; go_at_call 80; refine (HWE.out _ _ _ hfb).mono ?_; rintro e0 wB ⟨ob, hob, rfl, how, hbB⟩) | (go_simp; go_at_call 79; refine (HMIX.out _ _ (chainB hbA hbB) how).mono ?_; rintro e0 wC ⟨oc, rfl, hoC, hbC⟩) | (refine step_append_own rfl (.tmp 75) (.tmp 88) _ rfl w.heap.size 36 i0 (.agg #[.int .i64 0, .slice none 0 0]) 2 32 Try.underlying28 hi hz0 hz1 hz2 rfl (by decide) _ j (pcells (mkps bf' L j j)) rfl (HOW.out _ _ (chainC hbA hbB hbC)) ⟨wC.heap.size, 0, none⟩ 1 1 [.int .i64 (j : Int), .slice (some ⟨oc, 0, none⟩) L L] rfl rfl (cells_of_new2 _ _ _ _) (two_one _ 0 _ none _ _ 0 0 _) HJM.out HJB.out (HBS.out _ _ (chainC hbA hbB hbC)) ?_; intro v' w5 hown5 hg5))
          have hstep := HINV.out.step HINV.out.below.size (chainC hbA hbB hbC) hoC rfl hown5 hg5
          have HSTEP := hid hstep
          clear hstep hown5 hg5 hoC
          go_wp2
          exact ⟨⟨j + 1, _, by omega, by omega, by go_num, HSTEP⟩, by simp [intOf]; omega⟩
        · obtain rfl : j = t := by omega
          go_wp2
          go_ret2
          exact ⟨_, _, rfl, HINV.out⟩
end Go.Proofs.Ytfleplbdcpdphaa
