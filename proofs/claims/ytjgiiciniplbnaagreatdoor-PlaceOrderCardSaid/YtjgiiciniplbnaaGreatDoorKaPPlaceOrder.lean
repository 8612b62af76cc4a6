/-
  PlaceOrder: for every input the call returns true, and each argument reads behind it as before; the listed variables hold what the program's text lays (tied). No other condition.
-/
import Derived.Test.YtjgiiciniplbnaaGreatDoorKa9
import Derived.Test.YtjgiiciniplbnaaGreatDoorKa3
import Derived.Test.YtjgiiciniplbnaaGreatDoorKa1
import Derived.ChangeKeysEq
import Derived.OpenShut
import Derived.WideShapes
import Derived.Test.YtjgiiciniplbnaaGreatDoorCards
import Derived.Test.YtjgiiciniplbnaaGreatDoorTie
import Derived.ShutString
import Derived.ChangeOld
import Derived.Below
namespace Go.Proofs.YtjgiiciniplbnaaGreatDoor
open Go Go.RowKit Go.Lib Go.Sort
set_option linter.unusedVariables false

def clampN (P : Int) : Nat := if P < 0 then 0 else if 16 < P then 16 else P.toNat
theorem clampN_le (P : Int) : clampN P ≤ 16 := by unfold clampN; split <;> (try split) <;> omega
theorem memb_setN (n : Nat) (h : n ≤ 16) : (memb (setN (n : Int)) 16).length = n := by
  have : ∀ n : Nat, n < 17 → (memb (setN (n : Int)) 16).length = n := by decide
  exact this n (by omega)
theorem setN_clamp (P : Int) (i : Nat) (h : i < 16) : setN P i = setN (clampN P : Int) i := by
  unfold setN clampN
  rw [Bool.eq_iff_iff, decide_eq_true_eq, decide_eq_true_eq]
  split
  · constructor <;> intro _ <;> omega
  · split
    · constructor <;> intro _ <;> omega
    · constructor <;> intro _ <;> omega
theorem rkd_clamp (obj : List Nat) (P : Int) : (rkd obj (setN P)).length = clampN P := by
  rw [rkd_length, memb_congr (fun i hi => setN_clamp P i hi), memb_setN _ (clampN_le P)]
theorem rkd_below (obj : List Nat) (P : Int) : ∀ x ∈ rkd obj (setN P), x < clampN P := fun x hx => by
  have h := (rkd_mem obj (setN P) x).1 hx
  have h2 := h.2
  unfold setN at h2
  have h3 := of_decide_eq_true h2
  unfold clampN
  split
  · omega
  · split <;> omega
theorem rk_below (obj : List Nat) (P : Int) : ∀ i, i < clampN P → (rkd obj (setN P)).getD i 0 < clampN P := fun i hi => by
  rw [← rkd_clamp obj P] at hi
  rw [List.getD_eq_getElem?_getD, List.getElem?_eq_getElem hi]
  exact rkd_below obj P _ (List.getElem_mem hi)
theorem rk_order (obj : List Nat) (P : Int) : ∀ i j, i < j → j < clampN P → decide (cmpP obj (((rkd obj (setN P)).getD i 0 : Nat) : Int) (((rkd obj (setN P)).getD j 0 : Nat) : Int) < 0) = true ∧ (rkd obj (setN P)).getD i 0 ≠ (rkd obj (setN P)).getD j 0 := fun i j hij hj => by
  have h := rkd_sorted obj (setN P)
  rw [← rkd_clamp obj P] at hj
  rw [List.getD_eq_getElem?_getD, List.getElem?_eq_getElem (by omega), List.getD_eq_getElem?_getD, List.getElem?_eq_getElem hj]
  have h1 := List.pairwise_iff_getElem.1 h i j (by omega) hj hij
  have h2 := List.pairwise_iff_getElem.1 (rkd_nodup obj (setN P)) i j (by omega) hj hij
  exact ⟨decide_eq_true h1, h2⟩
theorem cfN_tri (obj : List Nat) (a b : Nat) : (decide (cmpP obj a b < 0) = false ∧ decide (cmpP obj b a < 0) = false ∧ a = b) ∨ (decide (cmpP obj a b < 0) = true ∧ decide (cmpP obj b a < 0) = false ∧ a ≠ b) ∨ (decide (cmpP obj a b < 0) = false ∧ decide (cmpP obj b a < 0) = true ∧ a ≠ b) := by
  have hn := cfN_neg obj a b
  have hz := cfN_zero obj a b
  have hs := cfN_self obj a
  unfold cfN at hn hz hs
  by_cases e : a = b
  · subst e
    left
    rw [hs]
    exact ⟨rfl, rfl, rfl⟩
  · have h0 : cmpP obj a b ≠ 0 := fun h => e (hz h)
    by_cases h : cmpP obj a b < 0
    · right; left
      exact ⟨decide_eq_true h, decide_eq_false (by omega), e⟩
    · right; right
      exact ⟨decide_eq_false h, decide_eq_true (by omega), e⟩
set_option maxRecDepth 100000 in
set_option maxHeartbeats 8000000 in
theorem order_walk (w : World) (V : Vars w shaRound shaStart) (obj : List Nat) (ho : obj.length = 32) (hb : ∀ i, obj.getD i 0 < 256) (P : Int) (hP : (Lit.int .i64 P).wf = true) :
    Calls Tryz.prog 8 #[.agg (u8s obj).toArray, .int .i64 P] w fun e w' => e = .returned (.bool true) ∧ Below w.heap.size w w' := by
  have hlt : ∀ x ∈ obj, x < 256 := fun x hx => by
    obtain ⟨i, hi, rfl⟩ := List.getElem_of_mem hx
    have h := hb i
    rw [List.getD_eq_getElem?_getD, List.getElem?_eq_getElem hi] at h
    exact h
  clear hb
  obtain ⟨w1, hw1⟩ : ∃ y, y = w.alloc (.cells (u8s obj).toArray 23) := ⟨_, rfl⟩
  have hb1 : Below w.heap.size w w1 := by rw [hw1]; exact (Below.refl _ _).alloc (Nat.le_refl _) _
  have HR0 := hid (show OwnD w1 w.heap.size obj from by rw [hw1]; exact heap_new _ _)
  have HB1 := hid hb1
  have HW1 := hid hw1
  have HV1 := hid (V.below hb1)
  have HIF := hid (show (Tryz.prog.info? 23).map (·.size) = some (u8s obj).length from by rw [show (u8s obj).length = 32 from by simp [u8s, ho]]; kernel_rfl)
  have HRG := hid (range_own HR0.out)
  have HBT := hid (fun (x y : Int) (wx : World) (v : Vars wx shaRound shaStart) => Better_any obj ho hlt x y wx v)
  have HRK := hid (fun (wx : World) (v : Vars wx shaRound shaStart) => Ranking_any obj ho hlt P wx v)
  clear V hb1 hw1 ho hlt
  go_enter Tryz.func8, Tryz.ntmps8
  go_upto_region 1 with fail
  rw [← HW1.out]
  clear HW1
  go_wp2_with fail
  go_loopw [5] (fun av wx => ∃ a : Nat, a ≤ 16 ∧ av = .int .i64 a ∧ Hid (Below w1.heap.size w1 wx)) (fun av _ => 16 - (intOf av).toNat)
  case atStart => exact ⟨0, by omega, rfl, hid (Below.refl _ _)⟩
  case round =>
    obtain ⟨a, ha, rfl, HBR⟩ := hrel
    by_cases ham : a < 16
    · as_aux_lemma =>
      have ham' : (a : Int) < 16 := by omega
      go_wp2_with fail
      go_loopw [6] (fun bv wx => ∃ b : Nat, b ≤ 16 ∧ bv = .int .i64 b ∧ Hid (Below w1.heap.size w1 wx)) (fun bv _ => 16 - (intOf bv).toNat)
      case atStart => exact ⟨0, by omega, rfl, HBR⟩
      case round =>
        obtain ⟨b, hb, rfl, HBR⟩ := hrel
        by_cases hbm : b < 16
        · as_aux_lemma =>
          have hbm' : (b : Int) < 16 := by omega
          have hne : Nonempty (Cls fun w' => Below wr.heap.size wr w') := ⟨⟨wr, Below.refl _ _⟩⟩
          have HRQ := hid (fun (p : Cls fun w' => Below wr.heap.size wr w') => range_below (range_below HRG.out HBR.out) p.h)
          have HBA := hid (fun (p : Cls fun w' => Below wr.heap.size wr w') => HBT.out a b p.w (HV1.out.below (HBR.out.trans (p.h.mono HBR.out.size))))
          have HBB := hid (fun (p : Cls fun w' => Below wr.heap.size wr w') => HBT.out b a p.w (HV1.out.below (HBR.out.trans (p.h.mono HBR.out.size))))
          have htri := cfN_tri obj a b
          generalize decide (cmpP obj (a : Int) (b : Int) < 0) = X at *
          generalize decide (cmpP obj (b : Int) (a : Int) < 0) = Y at *
          rcases htri with ⟨rfl, rfl, rfl⟩ | ⟨rfl, rfl, hab⟩ | ⟨rfl, rfl, hab⟩
          all_goals
            try have hab1 : ((a : Int) == (b : Int)) = false := by simp; omega
            try have hab2 : ¬ (a : Int) = (b : Int) := by omega
            go_upto_region 7 with fail
            refine wp_region_class_lit (G := fun w' => Below wr.heap.size wr w') (by kernel_rfl) (by kernel_rfl) (bel_drewN (Below.refl _ _) 1) ?_
            refine wpQuiet_load_cls (by rfl) 23 (.tmp 2) (by rfl) w.heap.size 0 (by rfl) (u8s obj) _ HRQ.out Tryz.underlying23 rfl HIF.out ?_
            rintro _ rfl
            try simp only [Act.put, List.setIfInBounds_toArray, List.set_cons_zero, List.set_cons_succ]
            iterate 2 (go_big_quiet_step (fail))
            go_big_quiet_step ((go_at_call 17; exact Calls.cls (HBA.out _)))
            refine wpQuiet_load_cls (by rfl) 23 (.tmp 2) (by rfl) w.heap.size 0 (by rfl) (u8s obj) _ HRQ.out Tryz.underlying23 rfl HIF.out ?_
            rintro _ rfl
            try simp only [Act.put, List.setIfInBounds_toArray, List.set_cons_zero, List.set_cons_succ]
            iterate 2 (go_big_quiet_step (fail))
            go_big_quiet_step ((go_at_call 17; exact Calls.cls (HBB.out _)))
            iterate 5 (go_big_quiet_step (fail))
            refine wpQuiet_nil ?_
            rintro w9 ⟨p9, hp9⟩
            have hb9 : Below wr.heap.size wr w9 := by rw [hp9]; exact p9.h
            have HB9 := hid (HBR.out.trans (hb9.mono HBR.out.size))
            clear hp9 p9 hb9
            go_wp2_with fail
            first
              | exact ⟨⟨b + 1, by omega, by go_num, HB9⟩, by simp [intOf]; omega⟩
              | exact ⟨⟨a + 1, by omega, by go_num, HB9⟩, by simp [intOf]; omega⟩
        · obtain rfl : b = 16 := by omega
          go_wp2_with fail
          exact ⟨⟨a + 1, by omega, by go_num, HBR⟩, by simp [intOf]; omega⟩
    · obtain rfl : a = 16 := by omega
      go_upto_if 34 with fail
      go_cut [7] (fun v wx => v = .int .i64 (if P < 0 then 0 else P) ∧ Hid (wx = wr))
      case first =>
        by_cases h : P < 0
        · go_wp2_with fail
          go_meet
          exact ⟨by rw [if_pos h], hid rfl⟩
        · go_wp2_with fail
          go_meet
          exact ⟨by rw [if_neg (by omega)], hid rfl⟩
      case rest =>
        obtain ⟨rfl, hw⟩ := hcut
        have e := hw.out
        subst e
        clear hw
        obtain ⟨p1, hp1⟩ : ∃ y, y = (if P < 0 then 0 else P) := ⟨_, rfl⟩
        rw [← hp1]
        have HP1 := hid hp1
        clear hp1
        go_upto_if 36 with fail
        go_cut [7] (fun v wx => v = .int .i64 ((clampN P : Nat) : Int) ∧ Hid (wx = wc))
        case first =>
          have h0 := HP1.out
          by_cases h : 16 < p1
          · have e : ((clampN P : Nat) : Int) = 16 := by
              unfold clampN
              split at h0 <;> split <;> (try split) <;> omega
            clear h0
            go_wp2_with fail
            go_meet
            exact ⟨by rw [e], hid rfl⟩
          · have e : ((clampN P : Nat) : Int) = p1 := by
              unfold clampN
              split at h0 <;> split <;> (try split) <;> omega
            clear h0
            go_wp2_with fail
            go_meet
            exact ⟨by rw [e], hid rfl⟩
        case rest =>
          obtain ⟨rfl, hw⟩ := hcut
          have e := hw.out
          subst e
          clear hw
          have HRGc := hid (range_below HRG.out HBR.out)
          go_wp2_with (refine wpList_load_mid (by rfl) 23 (.tmp 2) (by rfl) w.heap.size 0 (by rfl) (u8s obj) _ HRGc.out Tryz.underlying23 rfl HIF.out ?_)
          refine (HRK.out _ (HV1.out.below HBR.out)).mono ?_
          rintro e w2 ⟨pb, rfl, hoi2, hle2, hb2⟩
          have HB2 := hid (HBR.out.trans (hb2.mono HBR.out.size))
          have HO2 := hid hoi2
          have HRG2 := hid (range_below HRG.out HB2.out)
          have hlen := rkd_clamp obj P
          have hn16 := clampN_le P
          have HX := hid (rk_below obj P)
          have HS := hid (rk_order obj P)
          have HLN := hid hlen
          clear hoi2 hle2 hb2 HP1
          rw [hlen]
          clear hlen
          generalize rkd obj (setN P) = R at *
          generalize clampN P = n at *
          go_wp2_with fail
          go_loopw [9] (fun iv wx => ∃ i : Nat, i ≤ n ∧ iv = .int .i64 i ∧ Hid (Below w2.heap.size w2 wx)) (fun iv _ => n - (intOf iv).toNat)
          case atStart => exact ⟨0, by omega, rfl, hid (Below.refl _ _)⟩
          case round =>
            obtain ⟨i, hi, rfl, HBR⟩ := hrel
            by_cases him : i < n
            · as_aux_lemma =>
              have him' : (i : Int) < (n : Int) := by omega
              have HBW := hid (HB2.out.trans (HBR.out.mono HB2.out.size))
              have hne : Nonempty (Cls fun w' => Below wr.heap.size wr w') := ⟨⟨wr, Below.refl _ _⟩⟩
              have HRQ := hid (fun (p : Cls fun w' => Below wr.heap.size wr w') => range_below (range_below HRG.out HBW.out) p.h)
              have HOR := hid (HO2.out.below HBR.out)
              have qi : ∀ p : Cls (fun w' => Below wr.heap.size wr w'), p.w.cell? ⟨pb, i, none⟩ = some (.int .i64 ((R.getD i 0 : Nat) : Int)) := fun p => (HOR.out.below p.h).cell i (by rw [HLN.out]; exact him)
              have hxi := HX.out i him
              have hxi1 : ¬ ((R.getD i 0 : Nat) : Int) < 0 := by omega
              have hxi2 : ¬ (n : Int) ≤ ((R.getD i 0 : Nat) : Int) := by omega
              have hR := hid (show i ≤ n ∧ n ≤ 16 from ⟨hi, hn16⟩)
              go_upto_if 79 with fail
              go_cut [79] (fun v wx => v = .bool false ∧ Hid (Below w2.heap.size w2 wx))
              case first =>
                cases i with
                | zero =>
                  as_aux_lemma =>
                  rw [show ((0 : Nat) : Int) = (0 : Int) from rfl] at *
                  generalize R.getD 0 0 = x at *
                  have hd1 : decide ((x : Int) < 0) = false := decide_eq_false (by omega)
                  have hd2 : decide ((n : Int) ≤ (x : Int)) = false := decide_eq_false (by omega)
                  have hd4 : decide ((x : Int) < (n : Int)) = true := decide_eq_true (by omega)
                  have hd5 : ((n : Int) ≤ (x : Int)) = False := eq_false (by omega)
                  have hd6 : (x : Int) < (n : Int) := by omega
                  have hd7 : ¬ n ≤ x := by omega
                  have hd8 : decide (n ≤ x) = false := decide_eq_false hd7
                  have hd9 : decide (x < n) = true := decide_eq_true (by omega)
                  refine wp_region_class_lit (G := fun w' => Below wr.heap.size wr w') (by kernel_rfl) (by kernel_rfl) (bel_drewN (Below.refl _ _) 1) ?_
                  repeat (go_big_quiet_step (fail))
                  refine wpQuiet_nil ?_
                  rintro w9 ⟨p9, hp9⟩
                  have hb9 : Below wr.heap.size wr w9 := by rw [hp9]; exact p9.h
                  have HB9 := hid (HBR.out.trans (hb9.mono HBR.out.size))
                  clear hp9 p9 hb9
                  go_wp2_with fail
                  go_meet
                  exact ⟨rfl, HB9⟩
                | succ k =>
                  as_aux_lemma =>
                  have qk : ∀ p : Cls (fun w' => Below wr.heap.size wr w'), p.w.cell? ⟨pb, k, none⟩ = some (.int .i64 ((R.getD k 0 : Nat) : Int)) := fun p => (HOR.out.below p.h).cell k (by rw [HLN.out]; omega)
                  have HBC := hid (fun (p : Cls fun w' => Below wr.heap.size wr w') => HBT.out ((R.getD k 0 : Nat) : Int) ((R.getD (k + 1) 0 : Nat) : Int) p.w (HV1.out.below (HBW.out.trans (p.h.mono HBW.out.size))))
                  rw [(HS.out k (k + 1) (by omega) him).1] at HBC
                  have hk1 : (((k + 1 : Nat) : Int) - 1) = (k : Int) := by omega
                  have hk0 : (0 : Int) < ((k + 1 : Nat) : Int) := by omega
                  generalize R.getD (k + 1) 0 = x at *
                  generalize R.getD k 0 = y at *
                  have hd1 : decide ((x : Int) < 0) = false := decide_eq_false (by omega)
                  have hd2 : decide ((n : Int) ≤ (x : Int)) = false := decide_eq_false (by omega)
                  have hd4 : decide ((x : Int) < (n : Int)) = true := decide_eq_true (by omega)
                  have hd5 : ((n : Int) ≤ (x : Int)) = False := eq_false (by omega)
                  have hd6 : (x : Int) < (n : Int) := by omega
                  have hd7 : ¬ n ≤ x := by omega
                  have hd8 : decide (n ≤ x) = false := decide_eq_false hd7
                  have hd9 : decide (x < n) = true := decide_eq_true (by omega)
                  have hd3 : decide ((0 : Int) < ((k + 1 : Nat) : Int)) = true := decide_eq_true hk0
                  refine wp_region_class_lit (G := fun w' => Below wr.heap.size wr w') (by kernel_rfl) (by kernel_rfl) (bel_drewN (Below.refl _ _) 1) ?_
                  iterate 17 (go_big_quiet_step (fail))
                  refine wpQuiet_load_clsW (by rfl) 23 (.tmp 2) (by rfl) w.heap.size 0 (by rfl) (u8s obj) _ HRQ.out Tryz.underlying23 rfl HIF.out ?_
                  rintro _ rfl
                  try simp only [Act.put, List.setIfInBounds_toArray, List.set_cons_zero, List.set_cons_succ]
                  iterate 9 (go_big_quiet_step (fail))
                  go_big_quiet_step ((go_at_call 17; exact Calls.cls (HBC.out _)))
                  iterate 3 (go_big_quiet_step (fail))
                  refine wpQuiet_nil ?_
                  rintro w9 ⟨p9, hp9⟩
                  have hb9 : Below wr.heap.size wr w9 := by rw [hp9]; exact p9.h
                  have HB9 := hid (HBR.out.trans (hb9.mono HBR.out.size))
                  clear hp9 p9 hb9
                  go_wp2_with fail
                  go_meet
                  exact ⟨rfl, HB9⟩
              case rest =>
                obtain ⟨rfl, HBC⟩ := hcut
                go_wp2_with fail
                go_loopw [10] (fun jv wx => ∃ j : Nat, j ≤ i ∧ jv = .int .i64 j ∧ Hid (Below w2.heap.size w2 wx)) (fun jv _ => i - (intOf jv).toNat)
                case atStart => exact ⟨0, by omega, rfl, HBC⟩
                case round =>
                  obtain ⟨j, hj, rfl, HBR⟩ := hrel
                  by_cases hji : j < i
                  · as_aux_lemma =>
                    have hji' : (j : Int) < (i : Int) := by omega
                    have HBW := hid (HB2.out.trans (HBR.out.mono HB2.out.size))
                    have hne : Nonempty (Cls fun w' => Below wr.heap.size wr w') := ⟨⟨wr, Below.refl _ _⟩⟩
                    have HRQ := hid (fun (p : Cls fun w' => Below wr.heap.size wr w') => range_below (range_below HRG.out HBW.out) p.h)
                    have HOR := hid (HO2.out.below HBR.out)
                    have qi : ∀ p : Cls (fun w' => Below wr.heap.size wr w'), p.w.cell? ⟨pb, i, none⟩ = some (.int .i64 ((R.getD i 0 : Nat) : Int)) := fun p => (HOR.out.below p.h).cell i (by rw [HLN.out]; exact him)
                    have qj : ∀ p : Cls (fun w' => Below wr.heap.size wr w'), p.w.cell? ⟨pb, j, none⟩ = some (.int .i64 ((R.getD j 0 : Nat) : Int)) := fun p => (HOR.out.below p.h).cell j (by rw [HLN.out]; omega)
                    have HBD := hid (fun (p : Cls fun w' => Below wr.heap.size wr w') => HBT.out ((R.getD j 0 : Nat) : Int) ((R.getD i 0 : Nat) : Int) p.w (HV1.out.below (HBW.out.trans (p.h.mono HBW.out.size))))
                    have hji2 : j < n := by omega
                    obtain ⟨ho1, ho2⟩ := HS.out j i hji him
                    rw [ho1] at HBD
                    clear ho1
                    generalize R.getD i 0 = x at *
                    generalize R.getD j 0 = y at *
                    have hy1 : ((y : Int) == (x : Int)) = false := by simp; omega
                    have hy2 : ¬ (y : Int) = (x : Int) := by omega
                    have hy3 : decide ((y : Int) = (x : Int)) = false := decide_eq_false hy2
                    have hy4 : decide (y = x) = false := decide_eq_false ho2
                    have hy5 : (y == x) = false := by simp; omega
                    go_upto_region 25 with fail
                    refine wp_region_class_lit (G := fun w' => Below wr.heap.size wr w') (by kernel_rfl) (by kernel_rfl) (bel_drewN (Below.refl _ _) 1) ?_
                    iterate 10 (go_big_quiet_step (fail))
                    refine wpQuiet_load_clsW (by rfl) 23 (.tmp 2) (by rfl) w.heap.size 0 (by rfl) (u8s obj) _ HRQ.out Tryz.underlying23 rfl HIF.out ?_
                    rintro _ rfl
                    try simp only [Act.put, List.setIfInBounds_toArray, List.set_cons_zero, List.set_cons_succ]
                    iterate 8 (go_big_quiet_step (fail))
                    go_big_quiet_step ((go_at_call 17; exact Calls.cls (HBD.out _)))
                    iterate 2 (go_big_quiet_step (fail))
                    refine wpQuiet_nil ?_
                    rintro w9 ⟨p9, hp9⟩
                    have hb9 : Below wr.heap.size wr w9 := by rw [hp9]; exact p9.h
                    have HB9 := hid (HBR.out.trans (hb9.mono HBR.out.size))
                    clear hp9 p9 hb9
                    go_wp2_with fail
                    exact ⟨⟨j + 1, by omega, by go_num, HB9⟩, by simp [intOf]; omega⟩
                  · obtain rfl : j = i := by omega
                    have hjj : ¬ (j : Int) < (j : Int) := by omega
                    go_wp2_with fail
                    exact ⟨⟨j + 1, by omega, by go_num, HBR⟩, by simp [intOf]; omega⟩
            · obtain rfl : i = n := by omega
              have him' : ¬ (i : Int) < (i : Int) := by omega
              have HBE := hid (HB1.out.trans ((HB2.out.trans (HBR.out.mono HB2.out.size)).mono HB1.out.size))
              have HVE := hid (HV1.out.below (HB2.out.trans (HBR.out.mono HB2.out.size)))
              go_wp2_with fail
              refine (known_pl wr HVE.out).mono ?_
              rintro e w9 ⟨rfl, hb9⟩
              go_wp2_with fail
              go_ret
              exact ⟨rfl, HBE.out.trans (hb9.mono HBE.out.size)⟩
end Go.Proofs.YtjgiiciniplbnaaGreatDoor

namespace Go.Proofs.YtjgiiciniplbnaaGreatDoor
open Go Go.RowKit
set_option linter.unusedVariables false

def cellN (v : Option Value) : Nat := match v with | some (.int _ n) => n.toNat | _ => 0
theorem cellN_int (k : IntKind) (n : Nat) : cellN (some (.int k (n : Int))) = n := rfl
theorem open_arr32 {P : Program} {t e : TypeId} (ht : P.underlying t = some (.array 32 e)) (he : P.underlying e = some (.int .u8)) (hc : P.cellsOf t = 32) (hc1 : P.cellsOf e = 1)
    {H : Type} {enc : TypeId × Value → H} {W : World} {r : Reach} {base b0 : Nat} {spare : Nat → Bool} {held : Bool} {v : Value} {d : DataW H} {ps : List MemPlace}
    (hval : Value.okWide P W r b0 t v) (h : DataW.Trod enc P W base spare held t v d ps) :
    ∃ l : List Nat, v = .agg (u8s l).toArray ∧ l.length = 32 ∧ ∀ i, l.getD i 0 < 256 := by
  simp only [Value.okWide, ht] at hval
  obtain ⟨cs, rfl, hsz, _⟩ := hval
  rw [hc] at hsz
  obtain ⟨fuel, hf⟩ := h
  obtain ⟨xs, m, _, _, _, hxl, hall⟩ := DataW.trod_array ht hf
  have each : ∀ i, i < 32 → ∃ n : Nat, cs[i]? = some (.int .u8 (n : Int)) ∧ n < 256 := fun i hi => by
    have h1 := hall i hi
    rw [hc1, List.getElem?_eq_getElem (show i < xs.length by omega)] at h1
    obtain ⟨n, h2, _, hw⟩ := DataW.trod_int he h1
    have h3 := getElem?_of_chunk (xs := cs) h2
    have h4 := bounds_u8 hw
    exact ⟨n.toNat, by rw [Nat.mul_one] at h3; rw [h3, Int.toNat_of_nonneg h4.1], by omega⟩
  have hat : ∀ i, i < 32 → ((List.range 32).map fun i => cellN cs[i]?)[i]? = some (cellN cs[i]?) := fun i hi => by
    rw [List.getElem?_map, List.getElem?_range hi]
    rfl
  have hlen : ((List.range 32).map fun i => cellN cs[i]?).length = 32 := by rw [List.length_map, List.length_range]
  generalize (List.range 32).map (fun i => cellN cs[i]?) = l at *
  refine ⟨l, ?_, hlen, fun i => ?_⟩
  · congr 1
    apply Array.ext_getElem?
    intro i
    by_cases hi : i < 32
    · obtain ⟨n, h1, h2⟩ := each i hi
      have h3 := hat i hi
      rw [h1, cellN_int] at h3
      rw [h1, List.getElem?_toArray]
      unfold u8s
      rw [List.getElem?_map, h3]
      rfl
    · rw [Array.getElem?_eq_none (by omega), List.getElem?_toArray, List.getElem?_eq_none (by unfold u8s; rw [List.length_map]; omega)]
  · rw [List.getD_eq_getElem?_getD]
    by_cases hi : i < 32
    · obtain ⟨n, h1, h2⟩ := each i hi
      have h3 := hat i hi
      rw [h1, cellN_int] at h3
      rw [h3]
      exact h2
    · rw [List.getElem?_eq_none (by omega)]
      exact Nat.succ_pos _
set_option maxRecDepth 100000 in
theorem open_dig {H : Type} {enc : TypeId × Value → H} {W : World} {base b0 : Nat} {spare : Nat → Bool} {held : Bool} {v : Value} {d : DataW H} {ps : List MemPlace}
    (hval : Value.okWide Tryz.prog W .any b0 23 v) (h : DataW.Trod enc Tryz.prog W base spare held 23 v d ps) :
    ∃ l : List Nat, v = .agg (u8s l).toArray ∧ l.length = 32 ∧ ∀ i, l.getD i 0 < 256 :=
  open_arr32 (P := Tryz.prog) (t := 23) (e := 5) Tryz.underlying23 Tryz.underlying5 (by kernel_rfl) (by kernel_rfl) (W := W) (r := .any) (b0 := b0) (v := v) (enc := enc) (base := base) (spare := spare) (held := held) (d := d) (ps := ps) hval h
end Go.Proofs.YtjgiiciniplbnaaGreatDoor

namespace Go.Proofs.YtjgiiciniplbnaaGreatDoor.placeOrder
open Go.ChangeShapes Go.WideShapes Go.ChangeAt Go.RowKit Go.WideMaps Go.WideElems
open Go.ChangeMaps (open_string shut_string)
set_option linter.unusedVariables false

set_option maxRecDepth 100000 in
theorem lifted (os : Os) (started : os.Started) (H : Type) (enc : TypeId × Value → H) :
    ReturnsInHanded {} Tryz.checked os 8 .any (fun w args => (Rows.placeOrderSpec.pre enc Tryz.prog Tryz.f8 [] false w args ∧ laidMetH Tryz.prog laidA w) ∧ sizedMet enc Tryz.prog Tryz.f8 (OpenSpec.ofChange Rows.placeOrderSpec) false w args)
      (Rows.placeOrderSpec.post enc Tryz.prog Tryz.f8 false true false false) := by
  refine returnsInHanded_of_change_and (C := Tryz.checked) (X := fun w _ => laidMetH Tryz.prog laidA w) (fun _ _ _ hh h => h.of_heap hh) ownD started (by kernel_rfl) Tryz.func8
    (ChangeSpec.witness_shaped (enc := enc) (C := Tryz.checked) (os := os) (X := fun w _ => laidMetH Tryz.prog laidA w) false (World.doorLaid Tryz.prog 24 os) #[.agg (u8s (List.replicate 32 0)).toArray, .int .i64 0] 8 rfl (World.shaped_of_RefB (by kernel_rfl) (by kernel_rfl)) (by kernel_rfl) (by kernel_rfl) (by kernel_rfl) (door_metA os _)) ?_
  intro W base args ds gs before hval0 hW _ _ hL _
  have hval : ∀ (j : Nat) t v, Tryz.f8.params[j]? = some t → args[j]? = some v → Value.okWide Tryz.prog W .any base t v := hval0
  have hW' := hW
  obtain ⟨p, q, hA0, hV, rfl, hfz, hnd⟩ := hW
  have hA : DataW.TrodAll enc Tryz.prog W 0 (fun _ => true) true Tryz.f8.params.toList args.toList ds p := hA0
  rw [Tryz.params8] at hA hval
  obtain ⟨v0, vs0, d0, ds0, p0, q0, hargs, rfl, rfl, h0, r0⟩ := trodAll_cons hA
  obtain ⟨v1, vs1, d1, ds1, p1, q1, rfl, rfl, rfl, h1, r1⟩ := trodAll_cons r0
  obtain ⟨rfl, rfl, rfl⟩ := trodAll_nil r1
  obtain rfl : args = #[v0, v1] := by cases args; simp_all
  obtain ⟨rfl, rfl⟩ := trodVars_none hV
  have k0 := h0
  have lt0 : ∀ x ∈ p0, x.block < W.heap.size := by obtain ⟨m, hm⟩ := k0; exact DataW.trod_lt m _ _ _ hm
  obtain ⟨l0, rfl, hl0, hb0⟩ := open_dig (hval 0 23 v0 rfl rfl) h0
  obtain ⟨a1, rfl, rfl, rfl, w1⟩ := open_int Tryz.underlying3 (hval 1 3 v1 rfl rfl) h1
  clear hA0 hval0
  refine (order_walk W (vars_of_laid hL) l0 hl0 hb0 a1 w1).mono fun e W' ⟨he, bel⟩ => ?_
  subst he
  exact ⟨_, rfl, _, _, _, [], _, [], hW', trodAll_mk1 (shut_bool Tryz.underlying4 _), (trodAll_cons_mk (Below.trod Facts.laidOut (by kernel_rfl) (of_decide_eq_true (by kernel_rfl)) k0 bel lt0) (trodAll_cons_mk (shut_int Tryz.underlying3 w1) trodAll_mk0)), rfl, bel.frame _, fun h => by cases h⟩

set_option maxHeartbeats 4000000 in
set_option maxRecDepth 1000000 in
theorem closed : joinedFacts Tryz.pinned.checked.prog 8 Tryz.f8 Rows.placeOrderSpec Rows.placeOrderRow = true := by
  unfold joinedFacts
  refine (Facts.and2 (Facts.and2 (Facts.and2 (Facts.and2 (Facts.and2 (Facts.and2 (Facts.and2 (Facts.and2 (Facts.and2 (Facts.and2 (Facts.and2 (Facts.and2 (Facts.and2 (Facts.and2 (Facts.and2 (Facts.and2 (Facts.and2 (Facts.and2 (Facts.and2 (Facts.and2 (Facts.and2 (Facts.and2 (Facts.and2 (Facts.and2 (Facts.and2 (Facts.and2 (Facts.and2 (Facts.and2 (Facts.and2 (Facts.and2 (Facts.and2 ?_ Facts.laidOut) Facts.mapsR) ?_) ?_) ?_) Facts.stops) ?_) Facts.knobs) ?_) ?_) ?_) ?_) ?_) ?_) ?_) ?_) ?_) ?_) ?_) ?_) ?_) Facts.keys) ?_) Facts.heard) Facts.enter) ?_) ?_) ?_) ?_) ?_) ?_)
  all_goals (as_aux_lemma => kernel_rfl)

theorem over : Rows.placeOrderRow.holds Tryz.pinned (OpenSpec.ofChange Rows.placeOrderSpec) :=
  OpenClaim.holds_of_wide 8 Tryz.f8 rfl rfl rfl rfl rfl rfl rfl ⟨rfl, rfl, rfl, rfl, rfl⟩ rfl rfl rfl rfl rfl (by as_aux_lemma => kernel_rfl) Tryz.func8 closed
    (of_decide_eq_true (by as_aux_lemma => kernel_rfl)) (by unfold Func.isWrapper; first | (rw [if_pos (by decide +kernel)]; kernel_rfl) | (rw [if_neg (by decide +kernel)]; exact ⟨rfl, rfl⟩))
    (fun os started H enc _ => lifted os started H enc)
end Go.Proofs.YtjgiiciniplbnaaGreatDoor.placeOrder
namespace Go.Proofs.YtjgiiciniplbnaaGreatDoor
open Go
set_option maxHeartbeats 4000000 in
set_option maxRecDepth 1000000 in
theorem placeOrder_holds : Rows.PlaceOrderCardSaid :=
  Claim7.holds_tied_plain_at .later [] [.data, .data] true (true, "4a085e94ccebdf24e9b63843c722f4a968f2e6f610b760c9b6f284c344973c54") false
    placeOrder.over (fun _ h => by cases h) (by as_aux_lemma => kernel_rfl) (fun _ h => by cases h) placeOrder_row_tie rfl ⟨rfl, rfl⟩ (by as_aux_lemma => kernel_rfl) rfl
    (fun f fn hf hfn => by
      obtain rfl : f = 8 := Option.some.inj ((show Tryz.prog.funcNamed "stolon/stolonlaw07.PlaceOrder" = some 8 by as_aux_lemma => kernel_rfl).symm.trans hf) |>.symm
      obtain rfl : fn = Tryz.f8 := (Option.some.inj (Tryz.func8.symm.trans hfn)).symm
      exact ⟨by as_aux_lemma => kernel_rfl, fun j t ht => by
        rw [Tryz.params8] at ht
        rcases j with _ | _ | j
        · obtain rfl : t = 23 := by simpa using ht.symm
          exact (show Tryz.prog.wantsStandIn 23 = false by as_aux_lemma => kernel_rfl)
        · obtain rfl : t = 3 := by simpa using ht.symm
          exact (show Tryz.prog.wantsStandIn 3 = false by as_aux_lemma => kernel_rfl)
        · simp at ht⟩)
    (by as_aux_lemma => kernel_rfl)
#print axioms placeOrder_holds
end Go.Proofs.YtjgiiciniplbnaaGreatDoor
