/-
  addScaled, findPivot, swap, clearColumn and reduce on a matrix whose cells begin a block.
-/
import Derived.Test.YtfleplbdcpdphaaProd
import Derived.Test.YtfleplbdcpdphaaBuf
import Derived.Test.YtfleplbdcpdphaaLawS
import Derived.Deep.RegionWith
namespace Go.Proofs.Ytfleplbdcpdphaa
open Go Go.RowKit
set_option linter.unusedVariables false

theorem Own.buf {w : World} {b : Nat} {l : List Nat} (h : Own w b l) : Buf w b l.length l :=
  ⟨(u8s l).toArray, h, by simp [u8s], Nat.le_refl _, by rw [List.toList_toArray, List.take_of_length_le (by simp [u8s])]⟩
theorem Buf.below {w w' : World} {g cap : Nat} {l : List Nat} (h : Buf w g cap l) (k : Below w.heap.size w w') : Buf w' g cap l := h.of_same (k.block g h.lt)
theorem Buf.kept {w w' : World} {g cap b : Nat} {l : List Nat} (h : Buf w g cap l) (k : Kept b w w') (hne : g ≠ b) : Buf w' g cap l := h.of_same (k.block g h.lt hne)
theorem Buf.cap_le {w : World} {g cap : Nat} {l : List Nat} (h : Buf w g cap l) : l.length ≤ cap := by obtain ⟨_, _, _, h3, _⟩ := h; exact h3

set_option maxRecDepth 100000 in
set_option maxHeartbeats 1000000 in
/-- addScaled within one block: the row from so on gets its multiple of the row from ro on -/
theorem addScaled_row (fb sb so ro n sc bc cap : Nat) (L : List Nat) (f : Nat) (w : World) (hB : Built w fb) (hL : Buf w sb cap L) (hfs : fb ≠ sb) (hso : so + n ≤ L.length) (hro : ro + n ≤ L.length) (hdis : so + n ≤ ro ∨ ro + n ≤ so) (hn : n ≤ 4611686018427387904) (hf : f < 256) (hL2 : ∀ i, L.getD i 0 < 256) :
    Calls Try.prog 102 #[.pointer (some ⟨fb, 0, none⟩), .slice (some ⟨sb, so, none⟩) n sc, .slice (some ⟨sb, ro, none⟩) n bc, .int .u8 f] w fun e w' => e = .returned (.tuple #[]) ∧ Buf w' sb cap (axTo L so ((L.drop ro).take n) f n) ∧ Kept sb w w' := by
  have hbl : ∀ k, k < n → ((L.drop ro).take n).getD k 0 = L.getD (ro + k) 0 := fun k hk => by
    rw [List.getD_eq_getElem?_getD, List.getElem?_take_of_lt hk, List.getElem?_drop, ← List.getD_eq_getElem?_getD]
  have hlt2 : ∀ k, ((L.drop ro).take n).getD k 0 < 256 := fun k => by
    by_cases h : k < n
    · rw [hbl k h]; exact hL2 _
    · rw [List.getD_eq_getElem?_getD, List.getElem?_eq_none (by simp; omega)]; show 0 < 256; omega
  have HBL := hid hbl
  have HLT := hid hlt2
  have HL2 := hid hL2
  clear hbl hlt2 hL2
  generalize (L.drop ro).take n = bl at *
  go_enter Try.func102, Try.ntmps102
  go_wp2
  go_loopw [11] (fun i wr => ∃ k : Nat, k ≤ n ∧ i = .int .i64 k ∧ Hid (Buf wr sb cap (axTo L so bl f k)) ∧ Hid (Kept sb w wr)) (fun i _ => n - (intOf i).toNat)
  case atStart => exact ⟨0, by omega, rfl, hL, Kept.refl _ _⟩
  case round =>
    obtain ⟨k, hk, rfl, HO, HK⟩ := hrel
    have hBr : Built wr fb := (HK.out.block fb hB.lt hfs).trans hB
    by_cases hlt : k < n
    · have cb := HO.out.cell (ro + k) (by rw [axTo_length]; omega)
      rw [axTo_getD _ _ _ _ _ (by omega), if_neg (by omega), ← HBL.out k hlt] at cb
      have cs := HO.out.cell (so + k) (by rw [axTo_length]; omega)
      have fs := HO.out.free (so + k)
      have lb := HLT.out k
      have ls : (axTo L so bl f k).getD (so + k) 0 < 256 := by
        rw [axTo_getD _ _ _ _ _ (by omega)]
        split
        · exact Gf.xor_lt (HL2.out _) (Gf.tm_lt _ _ hf)
        · exact HL2.out _
      have hst : ∀ W, Buf W sb cap (axTo L so bl f k) → Buf (W.setCell ⟨sb, so + k, none⟩ (.int .u8 (((axTo L so bl f k).getD (so + k) 0 ^^^ Gf.tm f (bl.getD k 0) : Nat) : Int))) sb cap (axTo L so bl f (k + 1)) := fun W hW => hW.set (so + k) _ (by rw [axTo_length]; omega)
      have HST := hid hst
      clear hst
      generalize (axTo L so bl f k).getD (so + k) 0 = z at *
      have hx := hid (u8_xor_nat z (Gf.tm f (bl.getD k 0)) ls (Gf.tm_lt _ _ hf))
      generalize bl.getD k 0 = y at *
      have HBR := hid hBr
      clear hBr
      go_wp2
      go_region_with (go_at_call 94; refine (mul_any fb f y hf lb _ (by first | exact HBR.out | exact HBR.out.drewN _)).mono ?_; rintro e w' ⟨rfl, r, rfl⟩)
      all_goals
        go_wp2
        go_roundw
        case rel =>
          refine ⟨k + 1, by omega, by go_num, ?_, ?_⟩
          · rw [hx.out]
            exact HST.out _ HO.out
          · refine Kept.setCell (p := ⟨sb, so + k, none⟩) ?_ rfl _
            exact ⟨HK.out.os, HK.out.tape, HK.out.output, HK.out.size, HK.out.block⟩
        case measure => simp [intOf]; omega
    · obtain rfl : k = n := by omega
      go_wp2
      go_end0
      exact ⟨rfl, HO.out, HK.out⟩

set_option maxRecDepth 100000 in
set_option maxHeartbeats 1000000 in
theorem findPivot_any (R C b n cap f c p : Nat) (M : Nat → Nat → Nat) (w : World) (hO : Buf w b cap (flat R C M)) (hR : R ≤ 1000) (hC1 : 1 ≤ C) (hC : C ≤ 1000) (hn : n = R * C) (hf : f ≤ R) (hc : c < C) (hMl : ∀ i j, M i j < 256) (hp : piv R M f c = p) :
    Calls Try.prog 110 #[.agg #[.int .i64 R, .int .i64 C, .slice (some ⟨b, 0, none⟩) n cap], .int .i64 f, .int .i64 c] w fun e w' => e = .returned (.int .i64 (if p < R then (p : Int) else -1)) ∧ Below w.heap.size w w' := by
  obtain ⟨p1, p2, p3, p4⟩ := piv_spec R M f c hf
  rw [hp] at p1 p2 p3 p4
  have hcap := hO.cap_le
  rw [flat_length, ← hn] at hcap
  have h0 := heap_new w (Obj.cells #[.int .i64 R, .int .i64 C, .slice (some ⟨b, 0, none⟩) n cap] 52)
  have H0 := hid h0
  have HO := hid (hO.below ((Below.refl _ _).alloc (Nat.le_refl _) (Obj.cells #[.int .i64 R, .int .i64 C, .slice (some ⟨b, 0, none⟩) n cap] 52)))
  have HB := hid ((Below.refl w.heap.size w).alloc (Nat.le_refl _) (Obj.cells #[.int .i64 R, .int .i64 C, .slice (some ⟨b, 0, none⟩) n cap] 52))
  have HN := hid hn
  have HP3 := hid p3
  have HP4 := hid p4
  clear hp p3 p4 h0 hn hO
  go_enter Try.func110, Try.ntmps110
  go_wp2
  go_loopw [7] (fun iv wr => ∃ r : Nat, r ≤ p ∧ f ≤ r ∧ iv = .int .i64 r ∧ Hid (wr.heap[w.heap.size]? = some (Obj.cells #[.int .i64 R, .int .i64 C, .slice (some ⟨b, 0, none⟩) n cap] 52)) ∧ Hid (Buf wr b cap (flat R C M)) ∧ Hid (Below w.heap.size w wr)) (fun iv _ => R - (intOf iv).toNat)
  case atStart => exact ⟨f, by omega, by omega, rfl, H0, HO, HB⟩
  case round =>
    clear H0 HO HB
    obtain ⟨r, hr, hfr, rfl, H0, HO, HB⟩ := hrel
    obtain ⟨c0, c1, c2, _, _, _⟩ := c3_of H0.out
    by_cases hlt : r < R
    · go_wp2_with fail
      refine (row0_any R C r b n cap hlt hC1 hC hR HN.out hcap _).mono ?_
      rintro e w2 ⟨rfl, hb2⟩
      have ho2 := HO.out.below hb2
      have co := ho2.cell (r * C + c) (by rw [flat_length]; exact ix_lt hlt hc)
      rw [flat_getD M hlt hc] at co
      have hml := hMl r c
      have H02 := hid ((hb2.block _ (lt_of_heap H0.out)).trans H0.out)
      have HO2 := hid ho2
      have HB2 := hid (known_end HB.out hb2)
      clear c0 c1 c2 ho2 H0 HO HB hb2
      by_cases hrp : r < p
      · have hz : M r c = 0 := HP3.out r hfr hrp
        rw [hz] at co
        have co2 : w2.cell? ⟨b, r * C + c, none⟩ = some (.int .u8 0) := co
        clear co hz hml
        generalize r * C = q at *
        go_wp2
        exact ⟨⟨r + 1, by omega, by omega, by go_num, H02, HO2, HB2⟩, by simp [intOf]; omega⟩
      · obtain rfl : r = p := by omega
        have hz := HP4.out hlt
        generalize M r c = x at *
        have hx0 : ((x : Int) != 0) = true := by simp; omega
        generalize r * C = q at *
        clear hz
        go_wp2
        go_ret
        exact ⟨rfl, HB2.out⟩
    · obtain rfl : r = R := by omega
      obtain rfl : r = p := by omega
      go_wp2
      go_ret
      exact ⟨rfl, HB.out⟩

/-- the first k columns of two rows exchanged -/
def swapTo (M : Nat → Nat → Nat) (a b k : Nat) : Nat → Nat → Nat := fun i j => if j < k then swapM M a b i j else M i j
theorem swapTo_step (M : Nat → Nat → Nat) (a b k i j : Nat) : setM (setM (swapTo M a b k) a k (M b k)) b k (M a k) i j = swapTo M a b (k + 1) i j := by
  show (if i = b ∧ j = k then M a k else if i = a ∧ j = k then M b k else if j < k then (if i = a then M b j else if i = b then M a j else M i j) else M i j) = if j < k + 1 then (if i = a then M b j else if i = b then M a j else M i j) else M i j
  by_cases hj : j = k
  · subst hj
    rw [if_pos (Nat.lt_succ_self j)]
    by_cases eb : i = b
    · subst eb
      rw [if_pos ⟨rfl, rfl⟩]
      by_cases ea : i = a
      · subst ea; rw [if_pos rfl]
      · rw [if_neg ea, if_pos rfl]
    · rw [if_neg (fun h => eb h.1)]
      by_cases ea : i = a
      · subst ea; rw [if_pos ⟨rfl, rfl⟩, if_pos rfl]
      · rw [if_neg (fun h => ea h.1), if_neg (Nat.lt_irrefl j), if_neg ea, if_neg eb]
  · rw [if_neg (fun h => hj h.2), if_neg (fun h => hj h.2)]
    by_cases h : j < k
    · rw [if_pos h, if_pos (show j < k + 1 by omega)]
    · rw [if_neg h, if_neg (show ¬ j < k + 1 by omega)]
/-- where no column has been exchanged yet, in either row -/
theorem swapTo_at (M : Nat → Nat → Nat) (a b k i : Nat) : swapTo M a b k i k = M i k := by
  unfold swapTo
  rw [if_neg (Nat.lt_irrefl k)]

set_option maxRecDepth 100000 in
set_option maxHeartbeats 1000000 in
theorem swap_any (R C b cap x y sc sc' : Nat) (M : Nat → Nat → Nat) (w : World) (hO : Buf w b cap (flat R C M)) (hx : x < R) (hy : y < R) (hR : R ≤ 1000) (hC : C ≤ 1000) :
    Calls Try.prog 111 #[.slice (some ⟨b, x * C, none⟩) C sc, .slice (some ⟨b, y * C, none⟩) C sc'] w fun e w' => e = .returned (.tuple #[]) ∧ Buf w' b cap (flat R C (swapM M x y)) ∧ Kept b w w' := by
  have ho : Buf w b cap (flat R C (swapTo M x y 0)) := by
    rw [flat_congr (fun i j _ _ => show swapTo M x y 0 i j = M i j from by unfold swapTo; rw [if_neg (Nat.not_lt_zero _)])]
    exact hO
  have HO := hid ho
  clear ho hO
  go_enter Try.func111, Try.ntmps111
  go_wp2
  go_loopw [7] (fun iv wr => ∃ k : Nat, k ≤ C ∧ iv = .int .i64 k ∧ Hid (Buf wr b cap (flat R C (swapTo M x y k))) ∧ Hid (Kept b w wr)) (fun iv _ => C - (intOf iv).toNat)
  case atStart => exact ⟨0, by omega, rfl, HO, hid (Kept.refl _ _)⟩
  case round =>
    clear HO
    obtain ⟨k, hk, rfl, HO, HK⟩ := hrel
    by_cases hlt : k < C
    · have cx := HO.out.cell (x * C + k) (by rw [flat_length]; exact ix_lt hx hlt)
      have cy := HO.out.cell (y * C + k) (by rw [flat_length]; exact ix_lt hy hlt)
      rw [flat_getD _ hx hlt, swapTo_at] at cx
      rw [flat_getD _ hy hlt, swapTo_at] at cy
      have fx := HO.out.free (x * C + k)
      have fy := HO.out.free (y * C + k)
      have hst : ∀ W, Buf W b cap (flat R C (swapTo M x y k)) → Buf ((W.setCell ⟨b, x * C + k, none⟩ (.int .u8 (M y k : Nat))).setCell ⟨b, y * C + k, none⟩ (.int .u8 (M x k : Nat))) b cap (flat R C (swapTo M x y (k + 1))) := fun W hW => by
        have h5 := (hW.set (x * C + k) (M y k) (by rw [flat_length]; exact ix_lt hx hlt)).set (y * C + k) (M x k) (by rw [List.length_set, flat_length]; exact ix_lt hy hlt)
        rw [flat_set _ hx hlt, flat_set _ hy hlt, flat_congr (fun i j _ _ => swapTo_step M x y k i j)] at h5
        exact h5
      have HST := hid hst
      clear hst
      by_cases hxy : x = y
      · subst hxy
        have px := ix_lt hx hlt
        clear fy cy
        generalize M x k = u at *
        generalize x * C = q1 at *
        go_wp2_with fail
        go_region_with (fail)
        all_goals
          go_wp2
          exact ⟨⟨k + 1, by omega, by go_num, HST.out _ HO.out, hid (Kept.setCell (p := ⟨b, q1 + k, none⟩) (Kept.setCell (p := ⟨b, q1 + k, none⟩) (HK.out.drewN 1) rfl _) rfl _)⟩, by simp [intOf]; omega⟩
      · have hne : x * C + k ≠ y * C + k := fun e => hxy (ix_inj hlt hlt e).1
        have hne2 := fun e => hne (Eq.symm e)
        generalize M x k = u at *
        generalize M y k = u' at *
        generalize x * C = q1 at *
        generalize y * C = q2 at *
        go_wp2_with fail
        go_region_with (fail)
        all_goals
          go_wp2
          exact ⟨⟨k + 1, by omega, by go_num, HST.out _ HO.out, hid (Kept.setCell (p := ⟨b, q2 + k, none⟩) (Kept.setCell (p := ⟨b, q1 + k, none⟩) (HK.out.drewN 1) rfl _) rfl _)⟩, by simp [intOf]; omega⟩
    · obtain rfl : k = C := by omega
      have hout := HO.out
      rw [flat_congr (fun i j _ hj => show swapTo M x y k i j = swapM M x y i j from by unfold swapTo; rw [if_pos hj])] at hout
      go_wp2
      go_end0
      exact ⟨rfl, hout, HK.out⟩
end Go.Proofs.Ytfleplbdcpdphaa
