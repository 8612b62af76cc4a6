/-
  vanishing: the coefficients of the product of x - p for all places p.
-/
import Derived.Test.YtfleplbdcpdphaaRBy
import Derived.Test.YtfleplbdcpdphaaBuf
import Derived.Test.YtfleplbdcpdphaaRSplit
namespace Go.Proofs.Ytfleplbdcpdphaa
open Go Go.RowKit
set_option linter.unusedVariables false

theorem mk_u8c (l c : Nat) (hlc : l ≤ c) (hn : c ≤ 140737488355328) (w : World) : (Instr.makeSlice 27 (.int .i64 l) (.int .i64 c)).run Try.prog w = .ok (.slice (some ⟨w.heap.size, 0, none⟩) l c) (w.alloc (zrow c)) := by
  obtain ⟨i0, hi, hz0, hz1, hz2⟩ := info_parts info5
  have h := run_make (P := Try.prog) w 27 5 i0 (.int .u8 0) Try.underlying27 hi hz0 .i64 .i64 l c (by omega) (by omega) (by rw [hz2]; omega) (by omega)
  rw [h, hz1]
  simp only [Int.toNat_natCast, Nat.mul_one, Value.cells, made_u8]
  rfl
theorem owns_of_buf {w : World} {base g cap : Nat} {l : List Nat} (h : Buf w g cap l) (hg : base ≤ g) (hc : cap ≤ maxLen) : w.ownsRow base 5 1 (.slice (some ⟨g, 0, none⟩) l.length cap) l.length (u8s l) := by
  obtain ⟨cur, h1, h2, h3, h4⟩ := h
  exact ⟨by simp [u8s], .inr ⟨g, cap, cur, rfl, hg, h1, h3, hc, by omega, by rw [Nat.mul_one]; exact h4⟩⟩
theorem buf_of_owns' {w : World} {base m : Nat} {v : Value} {l : List Nat} (h : w.ownsRow base 5 1 v m (u8s l)) (h0 : 0 < m) : ∃ g cap, v = .slice (some ⟨g, 0, none⟩) m cap ∧ base ≤ g ∧ Buf w g cap l ∧ m = l.length ∧ cap ≤ maxLen := by
  obtain ⟨h1, h2⟩ := h
  have hm : m = l.length := by simpa [u8s] using h1.symm
  rcases h2 with ⟨_, h3⟩ | ⟨g, cap, cur, h3, hg, hh, hc, hx, hs, ht⟩
  · omega
  · exact ⟨g, cap, h3, hg, ⟨cur, hh, by omega, by omega, by rw [← ht, hm]; simp⟩, hm, hx⟩
/-- the coefficients after k places -/
def vfL (P : List Nat) (k : Nat) : List Nat := (List.range (k + 1)).map (VF P k)
/-- the same with a further place, m coefficients from the top -/
def inL (P : List Nat) (k m : Nat) : List Nat := (List.range (k + 2)).map fun j => if k + 1 - m < j then ml (VF P k) (P.getD k 0) j else VF P k j
theorem vfL_length (P : List Nat) (k : Nat) : (vfL P k).length = k + 1 := by simp [vfL]
theorem inL_length (P : List Nat) (k m : Nat) : (inL P k m).length = k + 2 := by simp [inL]
theorem inL_getD (P : List Nat) (k m j : Nat) (hj : j < k + 2) : (inL P k m).getD j 0 = if k + 1 - m < j then ml (VF P k) (P.getD k 0) j else VF P k j := by
  unfold inL
  rw [rangeF_getD, if_pos hj]
theorem vfL_more (P : List Nat) (k : Nat) : vfL P k ++ [0] = inL P k 0 := by
  unfold vfL inL
  rw [List.range_succ (n := k + 1), List.map_append]
  congr 1
  · apply List.map_congr_left
    intro j hj
    have := List.mem_range.1 hj
    rw [if_neg (by omega)]
  · show [0] = [if k + 1 - 0 < k + 1 then ml (VF P k) (P.getD k 0) (k + 1) else VF P k (k + 1)]
    rw [if_neg (by omega), VF_high P k (k + 1) (Nat.le_refl _)]
theorem inL_step (P : List Nat) (hP : ∀ i, P.getD i 0 < 256) (k m j q : Nat) (hj : j + m = k + 1) (hq : q + 1 = j) : (inL P k m).set j (VF P k q ^^^ Gf.tm (P.getD k 0) (VF P k j)) = inL P k (m + 1) := by
  apply getD_ext'
  · simp [inL_length]
  · intro i
    rw [set_getD _ _ _ _ (by rw [inL_length]; omega)]
    by_cases hi : i < k + 2
    · rw [inL_getD _ _ _ _ hi, inL_getD _ _ _ _ hi]
      by_cases e : i = j
      · subst e
        rw [if_pos rfl, if_pos (by omega), ← hq]
        show _ = VF P k q ^^^ Gf.tm (VF P k (q + 1)) _
        rw [Gf.tm_comm _ _ (VF_lt P k _) (hP k)]
      · rw [if_neg e]
        by_cases h : k + 1 - m < i
        · rw [if_pos h, if_pos (by omega)]
        · rw [if_neg h, if_neg (by omega)]
    · unfold inL
      rw [if_neg (by omega), rangeF_getD, rangeF_getD, if_neg hi, if_neg hi]
theorem inL_last (P : List Nat) (hP : ∀ i, P.getD i 0 < 256) (k : Nat) : (inL P k (k + 1)).set 0 (Gf.tm (P.getD k 0) (VF P k 0)) = vfL P (k + 1) := by
  apply getD_ext'
  · simp [inL_length, vfL_length]
  · intro i
    unfold vfL
    rw [set_getD _ _ _ _ (by rw [inL_length]; omega), rangeF_getD]
    by_cases hi : i < k + 2
    · rw [inL_getD _ _ _ _ hi, if_pos hi]
      by_cases e : i = 0
      · subst e
        rw [if_pos rfl]
        show _ = Gf.tm (VF P k 0) (P.getD k 0)
        rw [Gf.tm_comm _ _ (VF_lt P k _) (hP k)]
      · rw [if_neg e, if_pos (by omega)]
        rfl
    · unfold inL
      rw [if_neg (by omega), rangeF_getD, if_neg hi, if_neg hi]
theorem vfL_zero (P : List Nat) (n : Nat) : vfL P 0 = [1] := rfl

set_option maxRecDepth 100000 in
set_option maxHeartbeats 2000000 in
theorem vanishing_any (fb b o n c : Nat) (P : List Nat) (w : World) (hB : Built w fb) (hP : Bs w (.slice (some ⟨b, o, none⟩) n c) P) (hn : n ≤ 256) :
    Calls Try.prog 98 #[.pointer (some ⟨fb, 0, none⟩), .slice (some ⟨b, o, none⟩) n c] w fun e w' => ∃ vb cap, w.heap.size ≤ vb ∧ e = .returned (.slice (some ⟨vb, 0, none⟩) (n + 1) cap) ∧ Buf w' vb cap (vfL P n) ∧ Below w.heap.size w w' := by
  obtain ⟨i0, hi, hz0, hz1, hz2⟩ := info_parts info5
  have HPL := hid hP.len
  have HP := hid hP
  clear hP
  obtain ⟨N, hN⟩ : ∃ N, N = n + 1 := ⟨_, rfl⟩
  have hmk := mk_u8c 1 N (by omega) (by omega)
  rw [show ((N : Nat) : Int) = (n : Int) + 1 from by omega, show ((1 : Nat) : Int) = 1 from rfl] at hmk
  have hN0 : 0 < N := by omega
  have hbuf : Buf ((w.alloc (zrow N)).setCell ⟨w.heap.size, 0, none⟩ (.int .u8 1)) w.heap.size N (vfL P 0) := by
    have h1 := (own_zrow w N).set 0 1
    refine ⟨_, h1, by simp [u8s], by rw [vfL_length]; omega, ?_⟩
    rw [hN, List.replicate_succ]
    simp [u8s, vfL, VF, one0]
  have HBUF := hid hbuf
  have hb : Below w.heap.size w ((w.alloc (zrow N)).setCell ⟨w.heap.size, 0, none⟩ (.int .u8 1)) := ((Below.refl _ _).alloc (Nat.le_refl _) _).setCell (p := ⟨w.heap.size, 0, none⟩) (Nat.le_refl _) _
  have HBE := hid hb
  have fz := (own_zrow w N).free 0
  have cz := (own_zrow w N).cell 0 (by simp; omega)
  generalize (List.replicate N 0).getD 0 0 = z0 at cz
  have HN := hid hN
  clear hN hbuf hb
  go_enter Try.func98, Try.ntmps98
  go_wp2
  clear hmk fz cz
  go_loopw [5, 17] (fun v iv wr => ∃ k g cap : Nat, k ≤ n ∧ iv = .int .i64 k ∧ v = .slice (some ⟨g, 0, none⟩) (k + 1) cap ∧ w.heap.size ≤ g ∧ cap ≤ maxLen ∧ Hid (Buf wr g cap (vfL P k)) ∧ Hid (Below w.heap.size w wr)) (fun _ iv _ => n - (intOf iv).toNat)
  case atStart => exact ⟨0, w.heap.size, N, by omega, rfl, rfl, Nat.le_refl _, by unfold maxLen; have := HN.out; omega, HBUF, HBE⟩
  case round =>
    clear HBUF HBE
    obtain ⟨k, g, cap, hk, rfl, rfl, hg, hcap, HBUF, HBE⟩ := hrel
    by_cases hlt : k < n
    · obtain ⟨wo, rfl⟩ : ∃ wo, wo = wr := ⟨_, rfl⟩
      have cp := (HP.out.below HBE.out).cell k (by rw [← HPL.out]; exact hlt)
      have hp := HP.out.lt k
      have hown := owns_of_buf HBUF.out hg hcap
      rw [vfL_length] at hown
      have hown1 := hown.alloc (.cells #[.int .u8 0] 5)
      have hsz := HBE.out.size
      have HOW := hid hown1
      clear hown hown1
      generalize hk1 : k + 1 = K at *
      generalize hpp : P.getD k 0 = p at *
      have HK1 := hid hk1
      have HPP := hid hpp
      clear hk1 hpp
      go_wp2_with (refine wpList_append_own _ rfl (.tmp 21) (.tmp 22) _ rfl w.heap.size 5 i0 (.int .u8 0) 1 1 Try.underlying27 hi hz0 hz1 hz2 rfl (by decide) _ K (u8s (vfL P k)) rfl HOW.out ⟨wo.heap.size, 0, none⟩ 1 1 [.int .u8 0] rfl rfl ?hnews ?hone (by unfold maxLen; have := HK1.out; omega) (by have := HK1.out; omega) (by simp; omega) ?_)
      case hnews => exact cell_of_new _ _ _
      case hone => intro u hu; simp only [List.mem_singleton] at hu; subst hu; rfl
      intro v' w2 hown2 hg2 _
      have hown3 : w2.ownsRow w.heap.size 5 1 v' (K + 1) (u8s (inL P k 0)) := by
        rw [← vfL_more, ← u8s_snoc]
        exact hown2
      have hb2 : Below w.heap.size w w2 := (HBE.out.alloc hsz _).grown hg2 (by simp; omega) (fun g hg => (HOW.out.lt g hg).1)
      obtain ⟨g2, cap2, rfl, hgg, hbuf2, hlen2, hcap2⟩ := buf_of_owns' hown3 (by omega)
      have HB2 := hid hbuf2
      have HBE2 := hid hb2
      clear hown2 hown3 hg2 hbuf2 hb2 HOW HBUF HBE cp hlen2 hg hcap
      obtain ⟨M, hM⟩ : ∃ M, M = K + 1 := ⟨_, rfl⟩
      rw [← hM]
      have t0 : IntKind.i64.wrap ((M : Int) - 1) = (K : Int) := by rw [IntKind.wrap_i64]; have := HK1.out; omega
      have HM := hid hM
      clear hM
      go_wp2
      clear t0
      go_loopw [8] (fun iv wr => ∃ m : Nat, m ≤ K ∧ iv = .int .i64 ((K : Int) - m) ∧ Hid (Buf wr g2 cap2 (inL P k m)) ∧ Hid (Below w.heap.size w wr)) (fun iv _ => (intOf iv).toNat)
      case atStart => exact ⟨0, by omega, by congr 1 <;> omega, HB2, HBE2⟩
      case round =>
        clear HB2 HBE2
        obtain ⟨m, hm, rfl, HB2, HBE2⟩ := hrel
        have hBr : Built wr fb := (HBE2.out.block fb hB.lt).trans hB
        by_cases hlt2 : m < K
        · obtain ⟨j, hj⟩ : ∃ j : Nat, j + m = K := ⟨K - m, by omega⟩
          obtain ⟨q, hq⟩ : ∃ q : Nat, q + 1 = j := ⟨j - 1, by omega⟩
          have e1 : (K : Int) - m = (j : Nat) := by omega
          rw [e1]
          clear e1
          have hK := HK1.out
          have hMM := HM.out
          have cj := HB2.out.cell j (by rw [inL_length]; omega)
          have cq := HB2.out.cell q (by rw [inL_length]; omega)
          have fj := HB2.out.free j
          rw [inL_getD _ _ _ _ (by omega), if_neg (by omega)] at cj cq
          have hjl := VF_lt P k j
          have hql := VF_lt P k q
          have hst := inL_step P HP.out.lt k m j q (by omega) hq
          rw [HPP.out] at hst
          have HST := hid hst
          clear hst
          generalize VF P k j = vj at *
          generalize VF P k q = vq at *
          have hx := u8_xor_nat vq (Gf.tm p vj) hql (Gf.tm_lt _ _ hp)
          have t1 : IntKind.i64.wrap ((j : Int) - 1) = (q : Int) := by rw [IntKind.wrap_i64]; omega
          have hjM : j < M := by omega
          have hqM : q < M := by omega
          have hj0 : 0 < j := by omega
          have hlen : j < (inL P k m).length := by rw [inL_length]; omega
          have HL := hid hlen
          have HJ := hid hj
          have HQ := hid hq
          clear hK hMM hlen hj hq
          go_wp2
          refine region_quiet_tail 16 (by kernel_rfl) (by kernel_rfl) ?_
          simp only [List.take_succ_cons, List.take_zero, List.drop_succ_cons, List.drop_zero]
          repeat (quiet_step ((go_at_call 94; exact Calls.quiet_of (mul_any fb p vj hp hjl _ (by first | exact hBr | exact hBr.drewN _)))))
          refine wpQuiet_nil ?_
          intro nq
          go_wp2
          have hj := HJ.out
          have hq := HQ.out
          refine ⟨⟨m + 1, by omega, by congr 1; omega, hid ?_, hid ?_⟩, by simp [intOf] <;> omega⟩
          · rw [← HST.out]
            exact (HB2.out.drewN nq).set j _ HL.out
          · exact (bel_drewN HBE2.out nq).setCell hgg _
        · obtain rfl : m = K := by omega
          have e1 : (m : Int) - m = 0 := by omega
          rw [e1]
          clear e1
          have hK := HK1.out
          have c0 := HB2.out.cell 0 (by rw [inL_length]; omega)
          have f0 := HB2.out.free 0
          rw [inL_getD _ _ _ _ (by omega), if_neg (by omega)] at c0
          have h0l := VF_lt P k 0
          have hst := inL_last P HP.out.lt k
          rw [HPP.out, hK] at hst
          have HST := hid hst
          clear hst
          generalize VF P k 0 = v0 at *
          have hM0 : 0 < M := by have := HM.out; omega
          have hlen : 0 < (inL P k m).length := by rw [inL_length]; omega
          have HL := hid hlen
          clear hK hlen
          go_wp2_with fail
          refine (mul_any fb p v0 hp h0l _ hBr).mono ?_
          rintro e w5 ⟨rfl, nr, rfl⟩
          go_wp2
          refine ⟨⟨k + 1, g2, cap2, by omega, by go_num, by rw [HM.out, ← HK1.out], hgg, hcap2, hid ?_, hid ?_⟩, by simp [intOf] <;> omega⟩
          · rw [HK1.out, ← HST.out]
            exact (HB2.out.drewN nr).set 0 _ HL.out
          · exact (bel_drewN HBE2.out nr).setCell hgg _
    · obtain rfl : k = n := by omega
      go_wp2
      go_ret
      exact ⟨g, cap, hg, rfl, HBUF.out, HBE.out⟩
end Go.Proofs.Ytfleplbdcpdphaa
