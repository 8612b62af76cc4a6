/-
  The reference's sizes and Valid. · The reference's Bytes: the bytes of a manifest. · digest.ID and the reference's Id.
-/
import Derived.Test.YtdjnjmekdjcbaaaDoorMan
import Derived.Test.YtdjnjmekdjcbaaaDoorEncM
import Derived.Test.YtdjnjmekdjcbaaaDoorRd2
import Derived.Test.YtdjnjmekdjcbaaaDoorRsha
namespace Go.Proofs.YtdjnjmekdjcbaaaDoor
open Go Go.RowKit
set_option linter.unusedVariables false

set_option maxRecDepth 100000 in
set_option maxHeartbeats 2000000 in
theorem sizes_any (k n t : Int) (w : World) :
    Calls Tryd.prog 61 #[.int .i64 k, .int .i64 n, .int .i64 t] w fun e w' => e = .returned (.bool (vcB k n t)) ∧ w = w' := by
  by_cases h1 : 1 ≤ k
  case neg =>
    have HB := hid (show vcB k n t = false from by unfold vcB; exact decide_eq_false (fun h => h1 h.1))
    go_enter Tryd.func61, Tryd.ntmps61
    go_wp2
    go_ret
    exact ⟨by rw [HB.out]; rfl, rfl⟩
  by_cases h2 : k ≤ n
  case neg =>
    have HB := hid (show vcB k n t = false from by unfold vcB; exact decide_eq_false (fun h => h2 h.2.1))
    go_enter Tryd.func61, Tryd.ntmps61
    go_wp2
    go_ret
    exact ⟨by rw [HB.out]; rfl, rfl⟩
  by_cases h3 : n ≤ t
  case neg =>
    have HB := hid (show vcB k n t = false from by unfold vcB; exact decide_eq_false (fun h => h3 h.2.2.1))
    go_enter Tryd.func61, Tryd.ntmps61
    go_wp2
    go_ret
    exact ⟨by rw [HB.out]; rfl, rfl⟩
  by_cases h4 : t ≤ 255
  case neg =>
    have HB := hid (show vcB k n t = false from by unfold vcB; exact decide_eq_false (fun h => h4 h.2.2.2))
    go_enter Tryd.func61, Tryd.ntmps61
    go_wp2
    go_ret
    exact ⟨by rw [HB.out]; rfl, rfl⟩
  have HB := hid (show vcB k n t = true from by unfold vcB; exact decide_eq_true ⟨h1, h2, h3, h4⟩)
  go_enter Tryd.func61, Tryd.ntmps61
  go_wp2
  go_ret
  exact ⟨by rw [HB.out]; rfl, rfl⟩

set_option maxRecDepth 100000 in
set_option maxHeartbeats 2000000 in
theorem valid_any (k n t s : Int) (od : List Nat) (a : Option Addr) (m c : Nat) (h : od.length = 32) (w : World) :
    Calls Tryd.prog 27 #[.agg (mcells k n t s od (.slice a m c)).toArray] w fun e w' => e = .returned (.bool (manB k n t s m)) ∧ Below w.heap.size w w' := by
  have hM : ManAt (w.alloc (.cells (mcells k n t s od (.slice a m c)).toArray 55)) w.heap.size k n t s od (.slice a m c) := heap_new _ _
  obtain ⟨c0, c1, c2, c3, c36⟩ := hM.c h
  have HB := hid ((Below.refl w.heap.size w).alloc (Nat.le_refl _) (.cells (mcells k n t s od (.slice a m c)).toArray 55))
  have HV := hid (fun w => sizes_any k n t w)
  obtain ⟨w1, hw1⟩ : ∃ w1, w1 = w.alloc (.cells (mcells k n t s od (.slice a m c)).toArray 55) := ⟨_, rfl⟩
  rw [← hw1] at c0 c1 c2 c3 c36 HB
  have HE := hid (show manB k n t s m = (vcB k n t && decide (0 ≤ s ∧ s ≤ 8192) && decide ((m : Int) = t)) from rfl)
  clear hM h
  go_enter Tryd.func27, Tryd.ntmps27
  go_upto_region 1 with fail
  change Code.wp _ _ _ _ (w.alloc (.cells (mcells k n t s od (.slice a m c)).toArray 55))
  rw [← hw1]
  clear hw1
  go_wp2_with fail
  refine (HV.out w1).mono ?_
  rintro e w2 ⟨rfl, rfl⟩
  generalize vcB k n t = b at *
  cases b with
  | false =>
    have HE2 := hid (show manB k n t s m = false from by rw [HE.out]; rfl)
    go_wp2
    go_ret
    exact ⟨by rw [HE2.out]; rfl, HB.out⟩
  | true =>
    by_cases h1 : 0 ≤ s
    case neg =>
      have HE2 := hid (show manB k n t s m = false from by rw [HE.out, decide_eq_false (fun h => h1 h.1)]; rfl)
      go_wp2
      go_ret
      exact ⟨by rw [HE2.out]; rfl, HB.out⟩
    by_cases h2 : s ≤ 8192
    case neg =>
      have HE2 := hid (show manB k n t s m = false from by rw [HE.out, decide_eq_false (fun h => h2 h.2)]; rfl)
      go_wp2
      go_ret
      exact ⟨by rw [HE2.out]; rfl, HB.out⟩
    by_cases hm : (m : Int) = t
    · have HE2 := hid (show manB k n t s m = true from by rw [HE.out, decide_eq_true ⟨h1, h2⟩, decide_eq_true hm]; rfl)
      subst hm
      go_wp2
      go_ret
      exact ⟨by rw [HE2.out]; rfl, HB.out⟩
    · have HE2 := hid (show manB k n t s m = false from by rw [HE.out, decide_eq_false hm, Bool.and_false])
      have hmb : ((m : Int) == t) = false := by simpa using hm
      go_wp2
      go_ret
      exact ⟨by rw [HE2.out]; rfl, HB.out⟩
end Go.Proofs.YtdjnjmekdjcbaaaDoor

namespace Go.Proofs.YtdjnjmekdjcbaaaDoor
open Go Go.RowKit
set_option linter.unusedVariables false

set_option maxRecDepth 100000 in
set_option maxHeartbeats 2000000 in
theorem rbytes_bad (k n t s : Int) (od : List Nat) (a : Option Addr) (m c : Nat) (h : od.length = 32) (w : World) (hbad : manB k n t s m = false) :
    Calls Tryd.prog 25 #[.agg (mcells k n t s od (.slice a m c)).toArray] w fun e w' => e = .returned (.tuple #[.slice none 0 0, .int .i64 2]) ∧ Below w.heap.size w w' := by
  have hM : ManAt (w.alloc (.cells (mcells k n t s od (.slice a m c)).toArray 55)) w.heap.size k n t s od (.slice a m c) := heap_new _ _
  have HB := hid ((Below.refl w.heap.size w).alloc (Nat.le_refl _) (.cells (mcells k n t s od (.slice a m c)).toArray 55))
  have HIF := hid (show (Tryd.prog.info? 55).map (·.size) = some (mcells k n t s od (.slice a m c)).length from by rw [mcells_length _ _ _ _ _ _ h]; kernel_rfl)
  have HV := hid (fun w => valid_any k n t s od a m c h w)
  rw [hbad] at HV
  obtain ⟨w1, hw1⟩ : ∃ w1, w1 = w.alloc (.cells (mcells k n t s od (.slice a m c)).toArray 55) := ⟨_, rfl⟩
  rw [← hw1] at hM HB
  have HRA := hid (show w1.rangeAt w.heap.size 0 (mcells k n t s od (.slice a m c)) from fun j v hj => by
    rw [Nat.zero_add, cell_of_heap hM, List.getElem?_toArray]
    exact hj)
  clear hM h hbad
  go_enter Tryd.func25, Tryd.ntmps25
  go_upto_region 1 with fail
  change Code.wp _ _ _ _ (w.alloc (.cells (mcells k n t s od (.slice a m c)).toArray 55))
  rw [← hw1]
  clear hw1
  go_wp2_with (refine wpList_load_mid (by rfl) 55 (.tmp 1) (by rfl) w.heap.size 0 (by rfl) (mcells k n t s od (.slice a m c)) _ HRA.out Tryd.underlying55 rfl HIF.out ?_)
  refine (HV.out w1).mono ?_
  rintro e w2 ⟨rfl, hb2⟩
  have HB2 := hid (HB.out.trans (hb2.mono HB.out.size))
  clear hb2
  go_wp2
  go_ret2
  exact ⟨rfl, HB2.out⟩

theorem dig_sliceR (g o : Nat) (w : World) : (Instr.sliceAt 52 (.pointer (some ⟨g, o, none⟩)) none none none).run Tryd.prog w = .ok (.slice (some ⟨g, o, none⟩) 32 32) w := by
  simp [go_sem, Instr.sliceAt, Instr.slice, run_underlying Tryd.underlying52]
/-- what Bytes answers for a valid manifest -/
def RbyTo (w : World) (L : Nat) (l : List Nat) (e : Ending) (w' : World) : Prop := ∃ a c, e = .returned (.tuple #[.slice a L c, .int .i64 0]) ∧ Bs w' (.slice a L c) l ∧ L ≤ c ∧ (a = none → c = 0) ∧ Below w.heap.size w w'

set_option maxRecDepth 100000 in
set_option maxHeartbeats 4000000 in
theorem rbytes_any (k n t s : Nat) (od : List Nat) (D : List (List Nat)) (v : Value) (h : od.length = 32) (hol : ∀ x ∈ od, x < 256) (w : World) (hD : DgAt w v D) (hok : manB k n t s D.length = true) :
    Calls Tryd.prog 25 #[.agg (mcells k n t s od v).toArray] w fun e w' => RbyTo w (39 + 32 * t) (encTo k n t s od D t) e w' := by
  obtain ⟨a, c, rfl, hDl, hDc⟩ := hD
  have hM : ManAt (w.alloc (.cells (mcells k n t s od (.slice a D.length c)).toArray 55)) w.heap.size k n t s od (.slice a D.length c) := heap_new _ _
  have HB := hid ((Below.refl w.heap.size w).alloc (Nat.le_refl _) (.cells (mcells k n t s od (.slice a D.length c)).toArray 55))
  have HIF := hid (show (Tryd.prog.info? 55).map (·.size) = some (mcells k n t s od (.slice a D.length c)).length from by rw [mcells_length _ _ _ _ _ _ h]; kernel_rfl)
  have HV := hid (fun w => valid_any k n t s od a D.length c h w)
  rw [hok] at HV
  have hnum : 1 ≤ k ∧ k ≤ n ∧ n ≤ t ∧ t ≤ 255 ∧ s ≤ 8192 ∧ D.length = t := by
    unfold manB vnB vcB at hok
    simp only [Bool.and_eq_true, decide_eq_true_eq] at hok
    omega
  obtain ⟨w1, hw1⟩ : ∃ w1, w1 = w.alloc (.cells (mcells k n t s od (.slice a D.length c)).toArray 55) := ⟨_, rfl⟩
  rw [← hw1] at HB hM
  have HM := hid hM
  have HRA := hid (show w1.rangeAt w.heap.size 0 (mcells k n t s od (.slice a D.length c)) from fun j v hj => by
    rw [Nat.zero_add, cell_of_heap hM, List.getElem?_toArray]
    exact hj)
  have HH := hid h
  have HOL := hid hol
  have HDL := hid hDl
  have HDC := hid hDc
  have HN := hid hnum
  have hs1 : w.heap.size < w1.heap.size := by rw [hw1]; simp
  obtain ⟨hk1, hkn, hnt, ht, hs8, hDt⟩ := hnum
  have HDT := hid hDt
  clear hDt
  have q1 : IntKind.u8.wrap (k : Int) = (k : Int) := by rw [IntKind.wrap_u8]; omega
  have q2 : IntKind.u8.wrap (n : Int) = (n : Int) := by rw [IntKind.wrap_u8]; omega
  have q3 : IntKind.u8.wrap (t : Int) = (t : Int) := by rw [IntKind.wrap_u8]; omega
  obtain ⟨sh, hsh⟩ : ∃ sh, sh = s / 256 := ⟨_, rfl⟩
  obtain ⟨sl, hsl⟩ : ∃ sl, sl = s % 256 := ⟨_, rfl⟩
  have q4 : IntKind.u8.wrap ((s : Int) / 256) = (sh : Int) := by rw [IntKind.wrap_u8]; omega
  have q5 : IntKind.u8.wrap (s : Int) = (sl : Int) := by rw [IntKind.wrap_u8]; omega
  have hlt7 : ∀ x ∈ [77, 1, k, n, t, sh, sl], x < 256 := fun x hx => by
    simp only [List.mem_cons, List.not_mem_nil, or_false] at hx
    rcases hx with rfl | rfl | rfl | rfl | rfl | rfl | rfl <;> omega
  have HLT7 := hid hlt7
  have HHEAD := hid (show encHead k n t s od = [77, 1, k, n, t, sh, sl] ++ od from by rw [hsh, hsl]; rfl)
  clear hM h hol hDl hDc hok hsh hsl hlt7
  go_enter Tryd.func25, Tryd.ntmps25
  go_upto_region 1 with fail
  change Code.wp _ _ _ _ (w.alloc (.cells (mcells k n t s od (.slice a D.length c)).toArray 55))
  rw [← hw1]
  clear hw1
  go_wp2_with (refine wpList_load_mid (by rfl) 55 (.tmp 1) (by rfl) w.heap.size 0 (by rfl) (mcells k n t s od (.slice a D.length c)) _ HRA.out Tryd.underlying55 rfl HIF.out ?_)
  refine (HV.out w1).mono ?_
  rintro e w2 ⟨rfl, hb2⟩
  have HM2 := hid (show ManAt w2 w.heap.size k n t s od (.slice a D.length c) from (hb2.block _ hs1).trans HM.out)
  have HB2 := hid (HB.out.trans (hb2.mono (by omega)))
  obtain ⟨c0, c1, c2, c3, c36⟩ := HM2.out.c HH.out
  have hs2 : w.heap.size < w2.heap.size := Nat.lt_of_lt_of_le hs1 hb2.size
  have HOD := hid (HM2.out.od HH.out HOL.out)
  have HOW := hid (show (w2.alloc (.cells (u8s [77, 1, k, n, t, sh, sl]).toArray 5)).ownsRow w2.heap.size 5 1 (.slice (some ⟨w2.heap.size, 0, none⟩) 7 7) 7 (u8s [77, 1, k, n, t, sh, sl]) from
    ⟨rfl, .inr ⟨w2.heap.size, 7, _, rfl, Nat.le_refl _, heap_new _ _, Nat.le_refl _, by unfold maxLen; omega, rfl, rfl⟩⟩)
  clear hb2 HM HB HIF HV HRA
  have HDIG := hid (fun w' => dig_sliceR w.heap.size 4 w')
  have hdig := HDIG.out
  have HALL1 := hid (show ∀ z ∈ [77, 1, k, n, t, sh, sl] ++ od, z < 256 from fun z hz => by
    rcases List.mem_append.1 hz with h | h
    · exact HLT7.out z h
    · exact HOL.out z h)
  have HALLF := hid (show ∀ i, ∀ z ∈ encTo k n t s od D i, z < 256 from fun i z hz => by
    unfold encTo at hz
    rcases List.mem_append.1 hz with h | h
    · rw [HHEAD.out] at h; exact HALL1.out z h
    · obtain ⟨d, hd, hzd⟩ := List.mem_flatten.1 h
      exact (HDL.out d (List.mem_of_mem_take hd)).2 z hzd)
  go_wp2_with (refine wpList_raw (by rfl) (.tmp 27) (.tmp 29) (by rfl) w2.heap.size 7 _ [77, 1, k, n, t, sh, sl] (by rfl) HOW.out (some ⟨w.heap.size, 4, none⟩) 32 32 od (by rfl) (HOD.out.alloc _) (by intro h; cases h) (by omega) (by simp) ?_
               intro v6 w6 hown6 hg6 hsr6
               have HB6 := hid (show Below w2.heap.size w2 w6 from ((Below.refl _ _).alloc (Nat.le_refl _) _).grown hg6 (by simp) (fun g hg => (HOW.out.lt g hg).1))
               have HO6 := hid (show w6.ownsRow w2.heap.size 5 1 v6 (39 + 32 * 0) (u8s (encTo k n t s od D 0)) from by
                 have e : encTo k n t s od D 0 = [77, 1, k, n, t, sh, sl] ++ od := by unfold encTo; rw [HHEAD.out]; simp
                 rw [e]
                 exact hown6)
               clear hown6 hg6 hsr6)
  clear hdig c0 c1 c2 c3 c36
  go_loopw [4, 5] (fun mv iv wr => ∃ (i : Nat) (v : Value), i ≤ t ∧ iv = .int .i64 i ∧ v = mv ∧ Hid (wr.ownsRow w2.heap.size 5 1 v (39 + 32 * i) (u8s (encTo k n t s od D i))) ∧ Hid (Below w2.heap.size w2 wr)) (fun _ iv _ => t - (intOf iv).toNat)
  case atStart => exact ⟨0, _, by omega, rfl, rfl, HO6, HB6⟩
  case round =>
    clear HO6 HB6
    obtain ⟨i, v, hi, rfl, rfl, HO, HB⟩ := hrel
    have HMR := hid (show ManAt wr w.heap.size k n t s od (.slice a D.length c) from (HB.out.block _ hs2).trans HM2.out)
    obtain ⟨c0, c1, c2, c3, c36⟩ := HMR.out.c HH.out
    have hszr := HB.out.size
    by_cases hit : i < t
    · have hI : (i : Int) < (t : Int) := by omega
      have hiD : i < D.length := by rw [HDT.out]; exact hit
      obtain ⟨b, o, rfl, hcell⟩ := HDC.out (fun e => by rw [e] at hiD; exact absurd hiD (Nat.not_lt_zero _))
      have hrg := hcell i hiD
      obtain ⟨d, hd⟩ : ∃ d, d = D.getD i [] := ⟨_, rfl⟩
      rw [← hd] at hrg
      have hdm : d ∈ D := by
        rw [hd, List.getD_eq_getElem?_getD, List.getElem?_eq_getElem hiD]
        exact List.getElem_mem _
      have hd32 := (HDL.out d hdm).1
      have HST := hid (show encTo k n t s od D (i + 1) = encTo k n t s od D i ++ d from by
        unfold encTo
        rw [List.take_succ_eq_append_getElem hiD, List.flatten_append, hd, List.getD_eq_getElem?_getD, List.getElem?_eq_getElem hiD, List.append_assoc]
        simp)
      have HRG := hid (range_below (range_below hrg HB2.out) HB.out)
      have h32 : (u8s d).length = 32 := by simp [u8s, hd32]
      have HIFD := hid (show (Tryd.prog.info? 52).map (·.size) = some (u8s d).length from by rw [h32]; kernel_rfl)
      have HIFD2 := hid (show (Tryd.prog.info? 52).map (·.size) = some (u8s d).toArray.size from by rw [List.size_toArray]; exact HIFD.out)
      have HSZ := hid (show 32 = (u8s d).toArray.size from by rw [List.size_toArray, h32])
      have HON := hid (show (u8s d).toArray.all (·.oneCell') = true from all_oneCell_toArray (u8s_oneH d))
      have HD32 := hid hd32
      have HDLT := hid (HDL.out d hdm).2
      have hiD2 : (i : Int) < (D.length : Int) := by omega
      have hdig := fun w' => dig_sliceR wr.heap.size 0 w'
      obtain ⟨ni, hni⟩ : ∃ ni, ni = 39 + 32 * i := ⟨_, rfl⟩
      rw [← hni] at HO
      have HNI := hid hni
      have hni2 : ni ≤ 10000 := by omega
      clear hcell hrg hd hdm hd32 h32 hni
      go_wp2_with (first
        | (refine wpList_load_mid (by rfl) 52 (.tmp 40) (by rfl) b (o + i * 32) (by rfl) (u8s d) _ HRG.out Tryd.underlying52 rfl HIFD.out ?_)
        | (refine wpList_store_row (by rfl) 52 (.tmp 6) (.tmp 41) (by rfl) wr.heap.size _ (u8s d).toArray _ (by rfl) (by rfl) (heap_new _ _) HIFD2.out HSZ.out HON.out ?_
           intro w5 hw5 hk5
           have HB5 := hid (show Below wr.heap.size wr w5 from ((Below.refl _ _).alloc (Nat.le_refl _) _).trans (hk5.below (by simp) (Nat.le_refl _)))
           have HBD := hid (show Bs w5 (.slice (some ⟨wr.heap.size, 0, none⟩) 32 32) d from ⟨_, 32, by rw [HD32.out], HDLT.out, fun _ => ⟨wr.heap.size, 0, rfl, fun j hj => by rw [cell_of_heap hw5, Nat.zero_add]; simp [u8s, hj]⟩⟩)
           have HO5 := hid (owns_belowR HO.out HB5.out)
           clear hw5 hk5)
        | (have h0 := HO5.out.1
           refine wpList_raw (by rfl) (.tmp 42) (.tmp 43) (by rfl) w2.heap.size ni v (encTo k n t s od D i) (by rfl) HO5.out (some ⟨wr.heap.size, 0, none⟩) 32 32 d (by rfl) HBD.out (by intro h; cases h) (by omega) (by have := HB5.out.size; omega) ?_
           intro v8 w8 hown8 hg8 hsr8
           have HB8 := hid (show Below w2.heap.size w2 w8 from (HB.out.trans (HB5.out.mono HB.out.size)).grown hg8 (by have := HB5.out.size; omega) (fun g hg => (HO5.out.lt g hg).1))
           have HO8 := hid (show w8.ownsRow w2.heap.size 5 1 v8 (39 + 32 * (i + 1)) (u8s (encTo k n t s od D (i + 1))) from by
             rw [HST.out, show 39 + 32 * (i + 1) = ni + 32 from by rw [HNI.out]; omega]
             exact hown8)
           clear hown8 hg8 hsr8))
      exact ⟨⟨i + 1, _, by omega, by go_num, rfl, HO8, HB8⟩, by simp [intOf]; omega⟩
    · obtain rfl : i = t := by omega
      have hI : ¬ ((i : Int) < (i : Int)) := by omega
      obtain ⟨a9, c9, rfl, -, hc9, hbs9, hls9⟩ := bs_of_owns HO.out (HALLF.out i)
      have HBS9 := hid hbs9
      have HNIL9 := hid (show a9 = none → c9 = 0 from fun e => by
        rcases HO.out.2 with ⟨h, _⟩ | ⟨g, cap, cur, h, _⟩
        · simp only [Value.slice.injEq] at h; exact h.2.2
        · simp only [Value.slice.injEq] at h; rw [e] at h; cases h.1)
      clear hbs9 hls9
      go_wp2
      go_ret2
      exact ⟨a9, c9, rfl, HBS9.out, hc9, HNIL9.out, HB2.out.trans (HB.out.mono HB2.out.size)⟩
end Go.Proofs.YtdjnjmekdjcbaaaDoor

namespace Go.Proofs.YtdjnjmekdjcbaaaDoor
open Go Go.RowKit
set_option linter.unusedVariables false

set_option maxRecDepth 100000 in
set_option maxHeartbeats 2000000 in
theorem encode_bad (k n t s : Int) (od : List Nat) (a : Option Addr) (m c : Nat) (h : od.length = 32) (w : World) (hbad : manB k n t s m = false) :
    Calls Tryd.prog 23 #[.agg (mcells k n t s od (.slice a m c)).toArray] w fun e w' => e = .returned (.tuple #[.slice none 0 0, .int .i64 2]) ∧ Below w.heap.size w w' := by
  have hM : ManAt (w.alloc (.cells (mcells k n t s od (.slice a m c)).toArray 55)) w.heap.size k n t s od (.slice a m c) := heap_new _ _
  have HB := hid ((Below.refl w.heap.size w).alloc (Nat.le_refl _) (.cells (mcells k n t s od (.slice a m c)).toArray 55))
  have HIF := hid (show (Tryd.prog.info? 55).map (·.size) = some (mcells k n t s od (.slice a m c)).length from by rw [mcells_length _ _ _ _ _ _ h]; kernel_rfl)
  have HV := hid (fun w => CheckManifest_any k n t s od a m c h w)
  have hme : manE k n t s m = 2 := by unfold manE; rw [hbad]; rfl
  rw [hme] at HV
  obtain ⟨w1, hw1⟩ : ∃ w1, w1 = w.alloc (.cells (mcells k n t s od (.slice a m c)).toArray 55) := ⟨_, rfl⟩
  rw [← hw1] at hM HB
  have HRA := hid (show w1.rangeAt w.heap.size 0 (mcells k n t s od (.slice a m c)) from fun j v hj => by
    rw [Nat.zero_add, cell_of_heap hM, List.getElem?_toArray]
    exact hj)
  clear hM h hbad hme
  go_enter Tryd.func23, Tryd.ntmps23
  go_upto_region 1 with fail
  change Code.wp _ _ _ _ (w.alloc (.cells (mcells k n t s od (.slice a m c)).toArray 55))
  rw [← hw1]
  clear hw1
  go_wp2_with (refine wpList_load_mid (by rfl) 55 (.tmp 1) (by rfl) w.heap.size 0 (by rfl) (mcells k n t s od (.slice a m c)) _ HRA.out Tryd.underlying55 rfl HIF.out ?_)
  refine (HV.out w1).mono ?_
  rintro e w2 ⟨rfl, hb2⟩
  have HB2 := hid (HB.out.trans (hb2.mono HB.out.size))
  clear hb2
  go_wp2
  go_ret2
  exact ⟨rfl, HB2.out⟩

/-- two results: a value in a cell and a number -/
theorem results_di {fn : Func} {p t : Tmp} {ty : TypeId} (h : fn.results = #[.cell p ty, .tmp t]) {tmps : Array Value} {P : Program} {w : World} {ad : Addr} {v u : Value} (hp : tmps.getD p undef = .pointer (some ad)) (hv : (loadVar ty ad).run P w = .ok v w) (hu : tmps.getD t undef = u) :
    (results fn tmps).run P w = .ok (.tuple #[v, u]) w := by
  have e : (results fn tmps).run P w = ((asAddr (tmps.getD p undef)).run P w).andThen fun a w₁ => ((loadVar ty a).run P w₁).andThen fun x w₂ => .ok (.tuple #[x, tmps.getD t undef]) w₂ := by
    simp only [results, h]
    simp [Sem.run_bind, Result.andThen]
  rw [e, hp, hu]
  simp [asAddr, hv, Result.andThen]
/-- the bytes of a manifest, in memory -/
theorem encode_to (k n t s : Nat) (od : List Nat) (D : List (List Nat)) (v : Value) (h : od.length = 32) (hol : ∀ x ∈ od, x < 256) (w : World) (hD : DgAt w v D) (hok : manB k n t s D.length = true) :
    Calls Tryd.prog 23 #[.agg (mcells k n t s od v).toArray] w fun e w' => RbyTo w (39 + 32 * t) (encTo k n t s od D t) e w' := by
  refine (EncodeM_any k n t s od D v h hol w hD hok).mono ?_
  rintro e w' ⟨u, rfl, wx, ⟨a, c, rfl, hc, hb, hn, _, hB⟩, hB2⟩
  have e0 : 7 + 32 * (1 + t) = 39 + 32 * t := by omega
  rw [e0] at hb hc ⊢
  exact ⟨a, c, rfl, hb, hc, hn, hB2.trans (hB.mono hB2.size)⟩
theorem dgat_below {w w' : World} {v : Value} {D : List (List Nat)} (hD : DgAt w v D) (hb : Below w.heap.size w w') : DgAt w' v D := by
  obtain ⟨a', c', h1, h2, h3⟩ := hD
  refine ⟨a', c', h1, h2, fun hne => ?_⟩
  obtain ⟨b, o, e, h4⟩ := h3 hne
  exact ⟨b, o, e, fun j hj => range_below (h4 j hj) hb⟩
theorem range_of_heapI {w : World} {b : Nat} {cs : List Value} {T : TypeId} (h : w.heap[b]? = some (.cells cs.toArray T (0, 0))) : w.rangeAt b 0 cs := fun j v hj => by
  rw [Nat.zero_add, cell_of_heap h, List.getElem?_toArray]
  exact hj
theorem manB_num {k n t s m : Nat} (hok : manB k n t s m = true) : t ≤ 255 := by
  unfold manB vnB vcB at hok
  simp only [Bool.and_eq_true, decide_eq_true_eq] at hok
  omega
set_option maxRecDepth 100000 in
set_option maxHeartbeats 2000000 in
theorem id_bad (k n t s : Int) (od : List Nat) (a : Option Addr) (m c : Nat) (h : od.length = 32) (w : World) (hbad : manB k n t s m = false) :
    Calls Tryd.prog 28 #[.agg (mcells k n t s od (.slice a m c)).toArray] w fun e w' => e = .returned (.tuple #[.agg (u8s (List.replicate 32 0)).toArray, .int .i64 2]) ∧ Below w.heap.size w w' := by
  obtain ⟨w2, hw2⟩ : ∃ y, y = (w.alloc (.cells (mcells k n t s od (.slice a m c)).toArray 55)).alloc (.cells (u8s (List.replicate 32 0)).toArray 52) := ⟨_, rfl⟩
  have hs1 : (w.alloc (.cells (mcells k n t s od (.slice a m c)).toArray 55)).heap.size = w.heap.size + 1 := by simp
  have hb2 : Below w.heap.size w w2 := by rw [hw2]; exact ((Below.refl _ _).alloc (Nat.le_refl _) _).alloc (by simp) _
  have hM : ManAt w2 w.heap.size k n t s od (.slice a m c) := by
    rw [hw2]
    exact (heap_alloc_old _ _ (by simp)).trans (heap_new _ _)
  have HR := hid (show OwnD w2 (w.heap.size + 1) (List.replicate 32 0) from by rw [hw2, ← hs1]; exact heap_new _ _)
  have HB := hid hb2
  have HRA := hid (range_of_heapI hM)
  have HIF := hid (show (Tryd.prog.info? 55).map (·.size) = some (mcells k n t s od (.slice a m c)).length from by rw [mcells_length _ _ _ _ _ _ h]; kernel_rfl)
  have HE := hid (fun wx => encode_bad k n t s od a m c h wx hbad)
  have HIF2 := hid (show (Tryd.prog.info? 52).map (·.size) = some (u8s (List.replicate 32 0)).toArray.size from by kernel_rfl)
  have HON := hid (show (u8s (List.replicate 32 0)).toArray.all (·.oneCell') = true from all_oneCell_toArray (u8s_oneH _))
  clear hs1 hb2 hM h hbad
  go_enter Tryd.func28, Tryd.ntmps28
  go_upto_region 1 with fail
  change Code.wp _ _ _ _ ((w.alloc (.cells (mcells k n t s od (.slice a m c)).toArray 55)).alloc (.cells (u8s (List.replicate 32 0)).toArray 52))
  rw [← hw2]
  clear hw2
  go_wp2_with (refine wpList_load_mid (by rfl) 55 (.tmp 1) (by rfl) w.heap.size 0 (by rfl) (mcells k n t s od (.slice a m c)) _ HRA.out Tryd.underlying55 rfl HIF.out ?_)
  refine (HE.out w2).mono ?_
  rintro e w3 ⟨rfl, hb3⟩
  have HR3 := hid ((hb3.block _ (lt_of_heap HR.out)).trans HR.out)
  have HB3 := hid (HB.out.trans (hb3.mono HB.out.size))
  clear hb3
  go_wp2_with (refine wpList_store_row (by rfl) 52 (.tmp 2) (.tmp 13) (by rfl) (w.heap.size + 1) _ (u8s (List.replicate 32 0)).toArray _ (by rfl) (by rfl) HR3.out HIF2.out rfl HON.out ?_
               intro w9 hw9 hk9)
  have hres : (loadVar 52 ⟨w.heap.size + 1, 0, none⟩).run Tryd.prog w9 = .ok (.agg (u8s (List.replicate 32 0)).toArray) w9 := run_loadVar_row _ _ 52 52 _ (0, 0) _ hw9 Tryd.underlying52 rfl HIF2.out
  refine bodyPost_ret (v := .tuple #[.agg (u8s (List.replicate 32 0)).toArray, .int .i64 2]) (results_di Tryd.results28 rfl hres rfl) rfl ⟨rfl, ?_⟩
  exact HB3.out.trans (hk9.below HB3.out.size (by omega))

set_option maxRecDepth 100000 in
set_option maxHeartbeats 2000000 in
theorem id_ok (k n t s : Nat) (od : List Nat) (D : List (List Nat)) (v : Value) (h : od.length = 32) (hol : ∀ x ∈ od, x < 256) (w : World) (V : Vars w shaRound shaStart) (hD : DgAt w v D) (hok : manB k n t s D.length = true) :
    Calls Tryd.prog 28 #[.agg (mcells k n t s od v).toArray] w fun e w' => e = .returned (.tuple #[.agg (u8s (dig shaRound shaStart (encTo k n t s od D t))).toArray, .int .i64 0]) ∧ Below w.heap.size w w' := by
  obtain ⟨w2, hw2⟩ : ∃ y, y = (w.alloc (.cells (mcells k n t s od v).toArray 55)).alloc (.cells (u8s (List.replicate 32 0)).toArray 52) := ⟨_, rfl⟩
  have hs1 : (w.alloc (.cells (mcells k n t s od v).toArray 55)).heap.size = w.heap.size + 1 := by simp
  have hb2 : Below w.heap.size w w2 := by rw [hw2]; exact ((Below.refl _ _).alloc (Nat.le_refl _) _).alloc (by simp) _
  have hM : ManAt w2 w.heap.size k n t s od v := by
    rw [hw2]
    exact (heap_alloc_old _ _ (by simp)).trans (heap_new _ _)
  have HR := hid (show OwnD w2 (w.heap.size + 1) (List.replicate 32 0) from by rw [hw2, ← hs1]; exact heap_new _ _)
  have HB := hid hb2
  have HRA := hid (range_of_heapI hM)
  have HIF := hid (show (Tryd.prog.info? 55).map (·.size) = some (mcells k n t s od v).length from by rw [mcells_length _ _ _ _ _ _ h]; kernel_rfl)
  have ht := manB_num hok
  have HE := hid (fun wx (b : Below w2.heap.size w2 wx) => encode_to k n t s od D v h hol wx (dgat_below (dgat_below hD hb2) b) hok)
  obtain ⟨L, hL⟩ : ∃ L, L = 39 + 32 * t := ⟨_, rfl⟩
  obtain ⟨l, hl⟩ : ∃ l, l = encTo k n t s od D t := ⟨_, rfl⟩
  have hLb : L ≤ 10000 := by omega
  have V2 := V.below hb2
  have HH := hid (fun (wx : World) (b : Below w2.heap.size w2 wx) (a : Option Addr) (c : Nat) (hb : Bs wx (.slice a L c) l) (hc : L ≤ c) (hn : a = none → c = 0) => SHA256_any a L c shaRound shaStart l wx (V2.below b) hb hc (by omega))
  obtain ⟨DL, hDL⟩ : ∃ DL, DL = dig shaRound shaStart l := ⟨_, rfl⟩
  have HDL := hid hDL
  have h32 : (u8s DL).length = 32 := by rw [hDL]; simp [u8s, dig, digL]
  have HIF2 := hid (show (Tryd.prog.info? 52).map (·.size) = some (u8s DL).toArray.size from by rw [List.size_toArray, h32]; kernel_rfl)
  have HSZ := hid (show (u8s (List.replicate 32 0)).toArray.size = (u8s DL).toArray.size from by rw [List.size_toArray, List.size_toArray, h32]; rfl)
  have HON := hid (show (u8s DL).toArray.all (·.oneCell') = true from all_oneCell_toArray (u8s_oneH DL))
  rw [← hL, ← hl] at HE
  rw [← hl]
  rw [← hDL] at HH
  rw [← hDL]
  clear hs1 hb2 hM h hok hol hD V V2 hL hl hDL h32 hLb ht
  go_enter Tryd.func28, Tryd.ntmps28
  go_upto_region 1 with fail
  change Code.wp _ _ _ _ ((w.alloc (.cells (mcells k n t s od v).toArray 55)).alloc (.cells (u8s (List.replicate 32 0)).toArray 52))
  rw [← hw2]
  clear hw2
  go_wp2_with (refine wpList_load_mid (by rfl) 55 (.tmp 1) (by rfl) w.heap.size 0 (by rfl) (mcells k n t s od v) _ HRA.out Tryd.underlying55 rfl HIF.out ?_)
  refine (HE.out w2 (Below.refl _ _)).mono ?_
  rintro e w3 ⟨a3, c3, rfl, hbs3, hc3, hn3, hb3⟩
  have HR3 := hid ((hb3.block _ (lt_of_heap HR.out)).trans HR.out)
  have HB3 := hid (HB.out.trans (hb3.mono HB.out.size))
  have HHA := hid (HH.out w3 hb3 a3 c3 hbs3 hc3 hn3)
  have HLT := hid (Nat.lt_of_lt_of_le (lt_of_heap HR.out) hb3.size)
  clear hb3 hbs3 hc3 hn3
  go_wp2_with fail
  refine HHA.out.mono ?_
  rintro e w4 ⟨rfl, hb4⟩
  have HR4 := hid ((hb4.block _ HLT.out).trans HR3.out)
  have HB4 := hid (HB3.out.trans (hb4.mono HB3.out.size))
  clear hb4
  go_wp2_with (refine wpList_store_row (by rfl) 52 (.tmp 2) (.tmp 16) (by rfl) (w.heap.size + 1) _ (u8s DL).toArray _ (by rfl) (by rfl) HR4.out HIF2.out HSZ.out HON.out ?_
               intro w9 hw9 hk9)
  have hres : (loadVar 52 ⟨w.heap.size + 1, 0, none⟩).run Tryd.prog w9 = .ok (.agg (u8s DL).toArray) w9 := run_loadVar_row _ _ 52 52 _ (0, 0) _ hw9 Tryd.underlying52 rfl HIF2.out
  refine bodyPost_ret (v := .tuple #[.agg (u8s DL).toArray, .int .i64 0]) (results_di Tryd.results28 rfl hres rfl) rfl ⟨rfl, ?_⟩
  exact HB4.out.trans (hk9.below HB4.out.size (by omega))

set_option maxRecDepth 100000 in
set_option maxHeartbeats 2000000 in
theorem rid_bad (k n t s : Int) (od : List Nat) (a : Option Addr) (m c : Nat) (h : od.length = 32) (w : World) (hbad : manB k n t s m = false) :
    Calls Tryd.prog 29 #[.agg (mcells k n t s od (.slice a m c)).toArray] w fun e w' => e = .returned (.tuple #[.agg (u8s (List.replicate 32 0)).toArray, .int .i64 2]) ∧ Below w.heap.size w w' := by
  obtain ⟨w2, hw2⟩ : ∃ y, y = (w.alloc (.cells (mcells k n t s od (.slice a m c)).toArray 55)).alloc (.cells (u8s (List.replicate 32 0)).toArray 52) := ⟨_, rfl⟩
  have hs1 : (w.alloc (.cells (mcells k n t s od (.slice a m c)).toArray 55)).heap.size = w.heap.size + 1 := by simp
  have hb2 : Below w.heap.size w w2 := by rw [hw2]; exact ((Below.refl _ _).alloc (Nat.le_refl _) _).alloc (by simp) _
  have hM : ManAt w2 w.heap.size k n t s od (.slice a m c) := by
    rw [hw2]
    exact (heap_alloc_old _ _ (by simp)).trans (heap_new _ _)
  have HR := hid (show OwnD w2 (w.heap.size + 1) (List.replicate 32 0) from by rw [hw2, ← hs1]; exact heap_new _ _)
  have HB := hid hb2
  have HRA := hid (range_of_heapI hM)
  have HIF := hid (show (Tryd.prog.info? 55).map (·.size) = some (mcells k n t s od (.slice a m c)).length from by rw [mcells_length _ _ _ _ _ _ h]; kernel_rfl)
  have HE := hid (fun wx => rbytes_bad k n t s od a m c h wx hbad)
  have HIF2 := hid (show (Tryd.prog.info? 52).map (·.size) = some (u8s (List.replicate 32 0)).toArray.size from by kernel_rfl)
  have HON := hid (show (u8s (List.replicate 32 0)).toArray.all (·.oneCell') = true from all_oneCell_toArray (u8s_oneH _))
  clear hs1 hb2 hM h hbad
  go_enter Tryd.func29, Tryd.ntmps29
  go_upto_region 1 with fail
  change Code.wp _ _ _ _ ((w.alloc (.cells (mcells k n t s od (.slice a m c)).toArray 55)).alloc (.cells (u8s (List.replicate 32 0)).toArray 52))
  rw [← hw2]
  clear hw2
  go_wp2_with (refine wpList_load_mid (by rfl) 55 (.tmp 1) (by rfl) w.heap.size 0 (by rfl) (mcells k n t s od (.slice a m c)) _ HRA.out Tryd.underlying55 rfl HIF.out ?_)
  refine (HE.out w2).mono ?_
  rintro e w3 ⟨rfl, hb3⟩
  have HR3 := hid ((hb3.block _ (lt_of_heap HR.out)).trans HR.out)
  have HB3 := hid (HB.out.trans (hb3.mono HB.out.size))
  clear hb3
  go_wp2_with (refine wpList_store_row (by rfl) 52 (.tmp 2) (.tmp 13) (by rfl) (w.heap.size + 1) _ (u8s (List.replicate 32 0)).toArray _ (by rfl) (by rfl) HR3.out HIF2.out rfl HON.out ?_
               intro w9 hw9 hk9)
  have hres : (loadVar 52 ⟨w.heap.size + 1, 0, none⟩).run Tryd.prog w9 = .ok (.agg (u8s (List.replicate 32 0)).toArray) w9 := run_loadVar_row _ _ 52 52 _ (0, 0) _ hw9 Tryd.underlying52 rfl HIF2.out
  refine bodyPost_ret (v := .tuple #[.agg (u8s (List.replicate 32 0)).toArray, .int .i64 2]) (results_di Tryd.results29 rfl hres rfl) rfl ⟨rfl, ?_⟩
  exact HB3.out.trans (hk9.below HB3.out.size (by omega))

set_option maxRecDepth 100000 in
set_option maxHeartbeats 2000000 in
theorem rid_ok (k n t s : Nat) (od : List Nat) (D : List (List Nat)) (v : Value) (h : od.length = 32) (hol : ∀ x ∈ od, x < 256) (w : World) (V : Rnds w) (hD : DgAt w v D) (hok : manB k n t s D.length = true) :
    Calls Tryd.prog 29 #[.agg (mcells k n t s od v).toArray] w fun e w' => e = .returned (.tuple #[.agg (u8s (dig shaRound shaStart (encTo k n t s od D t))).toArray, .int .i64 0]) ∧ Below w.heap.size w w' := by
  obtain ⟨w2, hw2⟩ : ∃ y, y = (w.alloc (.cells (mcells k n t s od v).toArray 55)).alloc (.cells (u8s (List.replicate 32 0)).toArray 52) := ⟨_, rfl⟩
  have hs1 : (w.alloc (.cells (mcells k n t s od v).toArray 55)).heap.size = w.heap.size + 1 := by simp
  have hb2 : Below w.heap.size w w2 := by rw [hw2]; exact ((Below.refl _ _).alloc (Nat.le_refl _) _).alloc (by simp) _
  have hM : ManAt w2 w.heap.size k n t s od v := by
    rw [hw2]
    exact (heap_alloc_old _ _ (by simp)).trans (heap_new _ _)
  have HR := hid (show OwnD w2 (w.heap.size + 1) (List.replicate 32 0) from by rw [hw2, ← hs1]; exact heap_new _ _)
  have HB := hid hb2
  have HRA := hid (range_of_heapI hM)
  have HIF := hid (show (Tryd.prog.info? 55).map (·.size) = some (mcells k n t s od v).length from by rw [mcells_length _ _ _ _ _ _ h]; kernel_rfl)
  have ht := manB_num hok
  have HE := hid (fun wx (b : Below w2.heap.size w2 wx) => rbytes_any k n t s od D v h hol wx (dgat_below (dgat_below hD hb2) b) hok)
  obtain ⟨L, hL⟩ : ∃ L, L = 39 + 32 * t := ⟨_, rfl⟩
  obtain ⟨l, hl⟩ : ∃ l, l = encTo k n t s od D t := ⟨_, rfl⟩
  have hLb : L ≤ 10000 := by omega
  have V2 := V.below hb2
  have HH := hid (fun (wx : World) (b : Below w2.heap.size w2 wx) (a : Option Addr) (c : Nat) (hb : Bs wx (.slice a L c) l) (hc : L ≤ c) (hn : a = none → c = 0) => rsum_any l a L c wx (V2.below b) hb hn (by omega))
  obtain ⟨DL, hDL⟩ : ∃ DL, DL = dig shaRound shaStart l := ⟨_, rfl⟩
  have HDL := hid hDL
  have h32 : (u8s DL).length = 32 := by rw [hDL]; simp [u8s, dig, digL]
  have HIF2 := hid (show (Tryd.prog.info? 52).map (·.size) = some (u8s DL).toArray.size from by rw [List.size_toArray, h32]; kernel_rfl)
  have HSZ := hid (show (u8s (List.replicate 32 0)).toArray.size = (u8s DL).toArray.size from by rw [List.size_toArray, List.size_toArray, h32]; rfl)
  have HON := hid (show (u8s DL).toArray.all (·.oneCell') = true from all_oneCell_toArray (u8s_oneH DL))
  rw [← hL, ← hl] at HE
  rw [← hl]
  rw [← hDL] at HH
  rw [← hDL]
  clear hs1 hb2 hM h hok hol hD V V2 hL hl hDL h32 hLb ht
  go_enter Tryd.func29, Tryd.ntmps29
  go_upto_region 1 with fail
  change Code.wp _ _ _ _ ((w.alloc (.cells (mcells k n t s od v).toArray 55)).alloc (.cells (u8s (List.replicate 32 0)).toArray 52))
  rw [← hw2]
  clear hw2
  go_wp2_with (refine wpList_load_mid (by rfl) 55 (.tmp 1) (by rfl) w.heap.size 0 (by rfl) (mcells k n t s od v) _ HRA.out Tryd.underlying55 rfl HIF.out ?_)
  refine (HE.out w2 (Below.refl _ _)).mono ?_
  rintro e w3 ⟨a3, c3, rfl, hbs3, hc3, hn3, hb3⟩
  have HR3 := hid ((hb3.block _ (lt_of_heap HR.out)).trans HR.out)
  have HB3 := hid (HB.out.trans (hb3.mono HB.out.size))
  have HHA := hid (HH.out w3 hb3 a3 c3 hbs3 hc3 hn3)
  have HLT := hid (Nat.lt_of_lt_of_le (lt_of_heap HR.out) hb3.size)
  clear hb3 hbs3 hc3 hn3
  go_wp2_with fail
  refine HHA.out.mono ?_
  rintro e w4 ⟨rfl, hb4⟩
  have HR4 := hid ((hb4.block _ HLT.out).trans HR3.out)
  have HB4 := hid (HB3.out.trans (hb4.mono HB3.out.size))
  clear hb4
  go_wp2_with (refine wpList_store_row (by rfl) 52 (.tmp 2) (.tmp 16) (by rfl) (w.heap.size + 1) _ (u8s DL).toArray _ (by rfl) (by rfl) HR4.out HIF2.out HSZ.out HON.out ?_
               intro w9 hw9 hk9)
  have hres : (loadVar 52 ⟨w.heap.size + 1, 0, none⟩).run Tryd.prog w9 = .ok (.agg (u8s DL).toArray) w9 := run_loadVar_row _ _ 52 52 _ (0, 0) _ hw9 Tryd.underlying52 rfl HIF2.out
  refine bodyPost_ret (v := .tuple #[.agg (u8s DL).toArray, .int .i64 0]) (results_di Tryd.results29 rfl hres rfl) rfl ⟨rfl, ?_⟩
  exact HB4.out.trans (hk9.below HB4.out.size (by omega))

end Go.Proofs.YtdjnjmekdjcbaaaDoor
