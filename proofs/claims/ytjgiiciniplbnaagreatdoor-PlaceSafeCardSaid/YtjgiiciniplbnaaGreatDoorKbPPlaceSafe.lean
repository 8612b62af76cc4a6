/-
  PlaceSafe: for every input the call returns true, and each argument reads behind it as before; the listed variables hold what the program's text lays (tied). No other condition.
-/
import Derived.Test.YtjgiiciniplbnaaGreatDoorKb4
import Derived.Deep.DeepCutAuto
import Derived.Test.YtjgiiciniplbnaaGreatDoorKa3
import Derived.Test.YtjgiiciniplbnaaGreatDoorCards
import Derived.Test.YtjgiiciniplbnaaGreatDoorTie
import Derived.ShutString
import Derived.ChangeOld
import Derived.Below
namespace Go.Proofs.YtjgiiciniplbnaaGreatDoor
open Go Go.RowKit Go.Lib Go.Sort
set_option linter.unusedVariables false

set_option maxRecDepth 100000 in
set_option maxHeartbeats 40000000 in
theorem safe_walk (w : World) (V : Vars w shaRound shaStart) (obj : List Nat) (PI N : Int) (a2 : Option Addr) (n2 c2 : Nat) (l2 : List Int) (a3 : Option Addr) (n3 c3 : Nat) (e0 e1 e2 : Nat → Int)
    (ho : obj.length = 32) (hlt : ∀ x ∈ obj, x < 256) (hP : (Lit.int .i64 PI).wf = true) (hN : (Lit.int .i64 N).wf = true) (h2 : In w a2 n2 c2 l2) (h3 : Ev3 w a3 n3 e0 e1 e2) :
    Calls Tryz.prog 11 #[.agg (u8s obj ++ ([.int .i64 PI, .int .i64 N, .slice a2 n2 c2, .slice a3 n3 c3] : List Value)).toArray] w fun e w' => e = .returned (.bool true) ∧ Below w.heap.size w w' := by
  obtain ⟨w1, hw1⟩ : ∃ y, y = w.alloc (.cells (u8s obj ++ ([.int .i64 PI, .int .i64 N, .slice a2 n2 c2, .slice a3 n3 c3] : List Value)).toArray 101) := ⟨_, rfl⟩
  have hb1 : Below w.heap.size w w1 := by rw [hw1]; exact (Below.refl _ _).alloc (Nat.le_refl _) _
  have HRX := hid (show w1.heap[w.heap.size]? = some (.cells (u8s obj ++ ([.int .i64 PI, .int .i64 N, .slice a2 n2 c2, .slice a3 n3 c3] : List Value)).toArray 101 (0, 0)) from by rw [hw1]; exact heap_new _ _)
  have HB1 := hid hb1
  have HW1 := hid hw1
  have HV1 := hid (V.below hb1)
  have HO := hid ho
  have HLT := hid hlt
  have HA := hid (show In w1 a2 n2 c2 l2 from ⟨h2.1.belowP hb1, h2.2⟩)
  have HE := hid (h3.belowE hb1)
  have HIFS := hid (infoDA obj ho)
  have HIZ := hid (zeroDA obj ho)
  have HONE := hid (oneDA obj)
  have HKN := hid (fun (wx : World) (v : Vars wx shaRound shaStart) => known_pl wx v)
  obtain ⟨OB, hOB⟩ : ∃ y, y = (u8s obj).toArray := ⟨_, rfl⟩
  rw [← hOB] at HIFS HIZ HONE
  have HOBE := hid hOB
  clear V hb1 hw1 ho hlt h2 h3 hOB
  go_enter Tryz.func11, Tryz.ntmps11
  go_upto_region 1 with fail
  rw [← HW1.out]
  clear HW1
  have HKP := hid (show ∀ wx, Below w1.heap.size w1 wx → (fun wx => Below w1.heap.size w1 wx ∧ wx.cell? ⟨w.heap.size, 32, none⟩ = some (.int .i64 PI) ∧ wx.cell? ⟨w.heap.size, 33, none⟩ = some (.int .i64 N) ∧ wx.cell? ⟨w.heap.size, 34, none⟩ = some (.slice a2 n2 c2) ∧ wx.cell? ⟨w.heap.size, 35, none⟩ = some (.slice a3 n3 c3) ∧ (loadVar 23 ⟨w.heap.size, 0, none⟩).run Tryz.prog wx = .ok (.agg OB) wx) wx from fun wx hx => by
    have hr := (hx.block w.heap.size (lt_of_heap HRX.out)).trans HRX.out
    rw [HOBE.out]
    exact ⟨hx, box_cell hr HO.out 0 _ rfl, box_cell hr HO.out 1 _ rfl, box_cell hr HO.out 2 _ rfl, box_cell hr HO.out 3 _ rfl, box_dig hr HO.out⟩)
  refine wp_region_held_drew (S := (fun wx => Below w1.heap.size w1 wx ∧ wx.cell? ⟨w.heap.size, 32, none⟩ = some (.int .i64 PI) ∧ wx.cell? ⟨w.heap.size, 33, none⟩ = some (.int .i64 N) ∧ wx.cell? ⟨w.heap.size, 34, none⟩ = some (.slice a2 n2 c2) ∧ wx.cell? ⟨w.heap.size, 35, none⟩ = some (.slice a3 n3 c3) ∧ (loadVar 23 ⟨w.heap.size, 0, none⟩).run Tryz.prog wx = .ok (.agg OB) wx)) (by kernel_rfl) (HKP.out _ (bel_drewN (Below.refl _ _) 1)) (fun hHeld => ?_)
  refine wpAnyH_take (i := 0) (oi := { dst := some 21, op := Op.fieldAddr 101 (Operand.tmp 1) 0, type := 0, pos := "plain.go:142", after := #[], guard := none }) (v := ?_) rfl (by kernel_rfl) (by kernel_rfl) (by kernel_rfl) (fun _ _ _ h => h) (Or.inl ⟨by rfl, ?hy⟩) hHeld ?_
  case hy => (intro w hSw; (try dsimp only at hSw); obtain ⟨_, _, _, _, _, _⟩ := hSw; go_simp; all_goals (with_reducible rfl))
  try simp only [Act.put, List.setIfInBounds_toArray, List.set_cons_zero, List.set_cons_succ]
  refine wpAnyH_take (i := 1) (oi := { dst := some 22, op := Op.load 23 (Operand.tmp 21), type := 23, pos := "plain.go:142", after := #[{ on := 0, ground := Ground.data }], guard := none }) (v := .agg OB) rfl (by kernel_rfl) (by kernel_rfl) (by kernel_rfl) (fun _ _ _ h => h) (Or.inl ⟨by rfl, ?hy⟩) hHeld ?_
  case hy => (intro w hSw; exact run_load_opP hSw.2.2.2.2.2)
  try simp only [Act.put, List.setIfInBounds_toArray, List.set_cons_zero, List.set_cons_succ]
  refine wpAnyH_take (i := 2) (oi := { dst := some 23, op := Op.fieldAddr 101 (Operand.tmp 1) 1, type := 0, pos := "plain.go:142", after := #[{ on := 11, ground := Ground.gcOnly Departure.lateStores }], guard := none }) (v := ?_) rfl (by kernel_rfl) (by kernel_rfl) (by kernel_rfl) (fun _ _ _ h => h) (Or.inl ⟨by rfl, ?hy⟩) hHeld ?_
  case hy => (intro w hSw; (try dsimp only at hSw); obtain ⟨_, _, _, _, _, _⟩ := hSw; go_simp; all_goals (with_reducible rfl))
  try simp only [Act.put, List.setIfInBounds_toArray, List.set_cons_zero, List.set_cons_succ]
  refine wpAnyH_take (i := 3) (oi := { dst := some 24, op := Op.load 3 (Operand.tmp 23), type := 3, pos := "plain.go:142", after := #[{ on := 2, ground := Ground.data }, { on := 11, ground := Ground.gcOnly Departure.lateStores }], guard := none }) (v := ?_) rfl (by kernel_rfl) (by kernel_rfl) (by kernel_rfl) (fun _ _ _ h => h) (Or.inl ⟨by rfl, ?hy⟩) hHeld ?_
  case hy => (intro w hSw; (try dsimp only at hSw); obtain ⟨_, _, _, _, _, _⟩ := hSw; go_simp; all_goals (with_reducible rfl))
  try simp only [Act.put, List.setIfInBounds_toArray, List.set_cons_zero, List.set_cons_succ]
  refine wpAnyH_take (i := 4) (oi := { dst := some 25, op := Op.fieldAddr 101 (Operand.tmp 1) 2, type := 0, pos := "plain.go:142", after := #[{ on := 12, ground := Ground.gcOnly Departure.lateStores }], guard := none }) (v := ?_) rfl (by kernel_rfl) (by kernel_rfl) (by kernel_rfl) (fun _ _ _ h => h) (Or.inl ⟨by rfl, ?hy⟩) hHeld ?_
  case hy => (intro w hSw; (try dsimp only at hSw); obtain ⟨_, _, _, _, _, _⟩ := hSw; go_simp; all_goals (with_reducible rfl))
  try simp only [Act.put, List.setIfInBounds_toArray, List.set_cons_zero, List.set_cons_succ]
  refine wpAnyH_take (i := 5) (oi := { dst := some 26, op := Op.load 3 (Operand.tmp 25), type := 3, pos := "plain.go:142", after := #[{ on := 4, ground := Ground.data }, { on := 12, ground := Ground.gcOnly Departure.lateStores }], guard := none }) (v := ?_) rfl (by kernel_rfl) (by kernel_rfl) (by kernel_rfl) (fun _ _ _ h => h) (Or.inl ⟨by rfl, ?hy⟩) hHeld ?_
  case hy => (intro w hSw; (try dsimp only at hSw); obtain ⟨_, _, _, _, _, _⟩ := hSw; go_simp; all_goals (with_reducible rfl))
  try simp only [Act.put, List.setIfInBounds_toArray, List.set_cons_zero, List.set_cons_succ]
  refine wpAnyH_take (i := 6) (oi := { dst := some 27, op := Op.fieldAddr 101 (Operand.tmp 1) 3, type := 0, pos := "plain.go:142", after := #[{ on := 13, ground := Ground.gcOnly Departure.lateStores }], guard := none }) (v := ?_) rfl (by kernel_rfl) (by kernel_rfl) (by kernel_rfl) (fun _ _ _ h => h) (Or.inl ⟨by rfl, ?hy⟩) hHeld ?_
  case hy => (intro w hSw; (try dsimp only at hSw); obtain ⟨_, _, _, _, _, _⟩ := hSw; go_simp; all_goals (with_reducible rfl))
  try simp only [Act.put, List.setIfInBounds_toArray, List.set_cons_zero, List.set_cons_succ]
  refine wpAnyH_take (i := 7) (oi := { dst := some 28, op := Op.load 27 (Operand.tmp 27), type := 27, pos := "plain.go:142", after := #[{ on := 6, ground := Ground.data }, { on := 13, ground := Ground.gcOnly Departure.lateStores }], guard := none }) (v := ?_) rfl (by kernel_rfl) (by kernel_rfl) (by kernel_rfl) (fun _ _ _ h => h) (Or.inl ⟨by rfl, ?hy⟩) hHeld ?_
  case hy => (intro w hSw; (try dsimp only at hSw); obtain ⟨_, _, _, _, _, _⟩ := hSw; go_simp; all_goals (with_reducible rfl))
  try simp only [Act.put, List.setIfInBounds_toArray, List.set_cons_zero, List.set_cons_succ]
  refine wpAnyH_take (i := 8) (oi := { dst := some 29, op := Op.fieldAddr 101 (Operand.tmp 1) 4, type := 0, pos := "plain.go:142", after := #[{ on := 14, ground := Ground.gcOnly Departure.lateStores }], guard := none }) (v := ?_) rfl (by kernel_rfl) (by kernel_rfl) (by kernel_rfl) (fun _ _ _ h => h) (Or.inl ⟨by rfl, ?hy⟩) hHeld ?_
  case hy => (intro w hSw; (try dsimp only at hSw); obtain ⟨_, _, _, _, _, _⟩ := hSw; go_simp; all_goals (with_reducible rfl))
  try simp only [Act.put, List.setIfInBounds_toArray, List.set_cons_zero, List.set_cons_succ]
  refine wpAnyH_take (i := 9) (oi := { dst := some 30, op := Op.load 99 (Operand.tmp 29), type := 99, pos := "plain.go:142", after := #[{ on := 8, ground := Ground.data }, { on := 14, ground := Ground.gcOnly Departure.lateStores }], guard := none }) (v := ?_) rfl (by kernel_rfl) (by kernel_rfl) (by kernel_rfl) (fun _ _ _ h => h) (Or.inl ⟨by rfl, ?hy⟩) hHeld ?_
  case hy => (intro w hSw; (try dsimp only at hSw); obtain ⟨_, _, _, _, _, _⟩ := hSw; go_simp; all_goals (with_reducible rfl))
  try simp only [Act.put, List.setIfInBounds_toArray, List.set_cons_zero, List.set_cons_succ]
  refine wpAnyH_ready (rs := [10]) (by kernel_rfl) (by simp) ?_
  refine AllReadyH.cons (o := { dst := some 3, op := Op.alloc 23, type := 0, pos := "plain.go:142", after := #[], guard := none }) rfl (fun K hK => ?_) AllReadyH.nil
  go_simp
  refine hK.out _ _ (HKP.out _ ((bel_drewN (Below.refl w1.heap.size w1) 1).alloc (by simp) _)) (fun hHeld => ?_)
  clear hK K
  try simp only [Act.put, List.setIfInBounds_toArray, List.set_cons_zero, List.set_cons_succ]
  refine wpAnyH_ready (rs := [11]) (by kernel_rfl) (by simp) ?_
  refine AllReadyH.cons (o := { dst := none, op := Op.store 23 (Operand.tmp 3) (Operand.tmp 22), type := 0, pos := "plain.go:142", after := #[{ on := 10, ground := Ground.data }, { on := 1, ground := Ground.data }, { on := 0, ground := Ground.phase }, { on := 1, ground := Ground.phase }, { on := 2, ground := Ground.textOnly Departure.lateStores }, { on := 3, ground := Ground.textOnly Departure.lateStores }, { on := 4, ground := Ground.textOnly Departure.lateStores }, { on := 5, ground := Ground.textOnly Departure.lateStores }, { on := 6, ground := Ground.textOnly Departure.lateStores }, { on := 7, ground := Ground.textOnly Departure.lateStores }, { on := 8, ground := Ground.textOnly Departure.lateStores }, { on := 9, ground := Ground.textOnly Departure.lateStores }, { on := 10, ground := Ground.phase }], guard := none }) rfl (fun K hK => ?_) AllReadyH.nil
  refine step_store_row rfl 23 (.tmp 3) (.tmp 22) rfl w1.heap.size (u8s (List.replicate 32 0)).toArray OB 23 rfl rfl (heap_new _ _) HIFS.out HIZ.out HONE.out ?_
  intro w3 hw3 hk3
  have HOB := hid (show OwnD w3 w1.heap.size obj from by rw [HOBE.out] at hw3; exact hw3)
  have HB3 := hid (((bel_drewN (Below.refl w1.heap.size w1) 1).alloc (by simp) (.cells (u8s (List.replicate 32 0)).toArray 23)).trans (hk3.below (by simp) (Nat.le_refl _)))
  clear hw3 hk3
  refine hK.out _ _ (HKP.out _ HB3.out) (fun hHeld => ?_)
  clear hK K
  try simp only [Act.put]
  refine wpAnyH_take (i := 12) (oi := { dst := some 4, op := Op.assign (Operand.tmp 24), type := 3, pos := "plain.go:142", after := #[{ on := 3, ground := Ground.data }, { on := 11, ground := Ground.chain }, { on := 0, ground := Ground.phase }, { on := 1, ground := Ground.phase }, { on := 2, ground := Ground.phase }, { on := 3, ground := Ground.phase }, { on := 4, ground := Ground.textOnly Departure.lateStores }, { on := 5, ground := Ground.textOnly Departure.lateStores }, { on := 6, ground := Ground.textOnly Departure.lateStores }, { on := 7, ground := Ground.textOnly Departure.lateStores }, { on := 8, ground := Ground.textOnly Departure.lateStores }, { on := 9, ground := Ground.textOnly Departure.lateStores }, { on := 10, ground := Ground.phase }, { on := 11, ground := Ground.phase }], guard := none }) (v := ?_) rfl (by kernel_rfl) (by kernel_rfl) (by kernel_rfl) (fun _ _ _ h => h) (Or.inl ⟨by rfl, ?hy⟩) hHeld ?_
  case hy => (intro w hSw; (try dsimp only at hSw); obtain ⟨_, _, _, _, _, _⟩ := hSw; go_simp; all_goals (with_reducible rfl))
  try simp only [Act.put, List.setIfInBounds_toArray, List.set_cons_zero, List.set_cons_succ]
  refine wpAnyH_take (i := 13) (oi := { dst := some 5, op := Op.assign (Operand.tmp 26), type := 3, pos := "plain.go:142", after := #[{ on := 5, ground := Ground.data }, { on := 12, ground := Ground.chain }, { on := 0, ground := Ground.phase }, { on := 1, ground := Ground.phase }, { on := 2, ground := Ground.phase }, { on := 3, ground := Ground.phase }, { on := 4, ground := Ground.phase }, { on := 5, ground := Ground.phase }, { on := 6, ground := Ground.textOnly Departure.lateStores }, { on := 7, ground := Ground.textOnly Departure.lateStores }, { on := 8, ground := Ground.textOnly Departure.lateStores }, { on := 9, ground := Ground.textOnly Departure.lateStores }, { on := 10, ground := Ground.phase }, { on := 11, ground := Ground.phase }, { on := 12, ground := Ground.phase }], guard := none }) (v := ?_) rfl (by kernel_rfl) (by kernel_rfl) (by kernel_rfl) (fun _ _ _ h => h) (Or.inl ⟨by rfl, ?hy⟩) hHeld ?_
  case hy => (intro w hSw; (try dsimp only at hSw); obtain ⟨_, _, _, _, _, _⟩ := hSw; go_simp; all_goals (with_reducible rfl))
  try simp only [Act.put, List.setIfInBounds_toArray, List.set_cons_zero, List.set_cons_succ]
  refine wpAnyH_take (i := 14) (oi := { dst := some 6, op := Op.assign (Operand.tmp 28), type := 27, pos := "plain.go:142", after := #[{ on := 7, ground := Ground.data }, { on := 13, ground := Ground.chain }, { on := 0, ground := Ground.phase }, { on := 1, ground := Ground.phase }, { on := 2, ground := Ground.phase }, { on := 3, ground := Ground.phase }, { on := 4, ground := Ground.phase }, { on := 5, ground := Ground.phase }, { on := 6, ground := Ground.phase }, { on := 7, ground := Ground.phase }, { on := 8, ground := Ground.textOnly Departure.lateStores }, { on := 9, ground := Ground.textOnly Departure.lateStores }, { on := 10, ground := Ground.phase }, { on := 11, ground := Ground.phase }, { on := 12, ground := Ground.phase }, { on := 13, ground := Ground.phase }], guard := none }) (v := ?_) rfl (by kernel_rfl) (by kernel_rfl) (by kernel_rfl) (fun _ _ _ h => h) (Or.inl ⟨by rfl, ?hy⟩) hHeld ?_
  case hy => (intro w hSw; (try dsimp only at hSw); obtain ⟨_, _, _, _, _, _⟩ := hSw; go_simp; all_goals (with_reducible rfl))
  try simp only [Act.put, List.setIfInBounds_toArray, List.set_cons_zero, List.set_cons_succ]
  refine wpAnyH_take (i := 15) (oi := { dst := some 7, op := Op.assign (Operand.tmp 30), type := 99, pos := "plain.go:142", after := #[{ on := 9, ground := Ground.data }, { on := 14, ground := Ground.chain }, { on := 0, ground := Ground.phase }, { on := 1, ground := Ground.phase }, { on := 2, ground := Ground.phase }, { on := 3, ground := Ground.phase }, { on := 4, ground := Ground.phase }, { on := 5, ground := Ground.phase }, { on := 6, ground := Ground.phase }, { on := 7, ground := Ground.phase }, { on := 8, ground := Ground.phase }, { on := 9, ground := Ground.phase }, { on := 10, ground := Ground.phase }, { on := 11, ground := Ground.phase }, { on := 12, ground := Ground.phase }, { on := 13, ground := Ground.phase }, { on := 14, ground := Ground.phase }], guard := none }) (v := ?_) rfl (by kernel_rfl) (by kernel_rfl) (by kernel_rfl) (fun _ _ _ h => h) (Or.inl ⟨by rfl, ?hy⟩) hHeld ?_
  case hy => (intro w hSw; (try dsimp only at hSw); obtain ⟨_, _, _, _, _, _⟩ := hSw; go_simp; all_goals (with_reducible rfl))
  try simp only [Act.put, List.setIfInBounds_toArray, List.set_cons_zero, List.set_cons_succ]
  refine wpAnyH_done (by kernel_rfl) ?_ _
  have HV3 := hid (HV1.out.below HB3.out)
  have HBW := hid (HB1.out.trans (HB3.out.mono HB1.out.size))
  have HA3 := hid (show In w3 a2 n2 c2 l2 from ⟨HA.out.1.belowP HB3.out, HA.out.2⟩)
  have HE3 := hid (HE.out.belowE HB3.out)
  have hob : w1.heap.size < w3.heap.size := lt_of_heap HOB.out
  obtain ⟨ob, hobe⟩ : ∃ y, y = w1.heap.size := ⟨_, rfl⟩
  rw [← hobe] at HOB hob ⊢
  clear hobe HKP HRX HIFS HIZ HONE HV1 HB1 HB3 HA HE
  have HEND := hid (fun (wx : World) (h : Below w3.heap.size w3 wx) => (HKN.out wx (HV3.out.below h)).mono fun e w' (q : e = .returned (.bool true) ∧ Below wx.heap.size wx w') => (⟨q.1, HBW.out.trans ((h.trans (q.2.mono h.size)).mono HBW.out.size)⟩ : e = .returned (.bool true) ∧ Below w.heap.size w w'))
  by_cases hc1 : PI < 2
  · go_wp2_with fail
    refine (HEND.out _ (Below.refl _ _)).mono ?_
    rintro e w4 ⟨rfl, hb4⟩
    go_wp2_with fail
    go_ret
    exact ⟨rfl, hb4⟩
  by_cases hc2 : 12 < PI
  · go_wp2_with fail
    refine (HEND.out _ (Below.refl _ _)).mono ?_
    rintro e w4 ⟨rfl, hb4⟩
    go_wp2_with fail
    go_ret
    exact ⟨rfl, hb4⟩
  by_cases hc3 : N < 1
  · go_wp2_with fail
    refine (HEND.out _ (Below.refl _ _)).mono ?_
    rintro e w4 ⟨rfl, hb4⟩
    go_wp2_with fail
    go_ret
    exact ⟨rfl, hb4⟩
  by_cases hc4 : PI < N
  · go_wp2_with fail
    refine (HEND.out _ (Below.refl _ _)).mono ?_
    rintro e w4 ⟨rfl, hb4⟩
    go_wp2_with fail
    go_ret
    exact ⟨rfl, hb4⟩
  rcases Nat.lt_or_ge 16 n2 with hc5 | hc5
  · have hc5' : (16 : Int) < (n2 : Int) := by omega
    go_wp2_with fail
    refine (HEND.out _ (Below.refl _ _)).mono ?_
    rintro e w4 ⟨rfl, hb4⟩
    go_wp2_with fail
    go_ret
    exact ⟨rfl, hb4⟩
  have hc5' : ¬ (16 : Int) < (n2 : Int) := by omega
  rcases Nat.lt_or_ge 300 n3 with hc6 | hc6
  · have hc6' : (300 : Int) < (n3 : Int) := by omega
    go_wp2_with fail
    refine (HEND.out _ (Below.refl _ _)).mono ?_
    rintro e w4 ⟨rfl, hb4⟩
    go_wp2_with fail
    go_ret
    exact ⟨rfl, hb4⟩
  have hc6' : ¬ (300 : Int) < (n3 : Int) := by omega
  obtain ⟨P, hPe⟩ : ∃ P : Nat, PI = (P : Int) := ⟨PI.toNat, by omega⟩
  subst hPe
  have hP2 : 2 ≤ P := by omega
  have hP12 : P ≤ 12 := by omega
  have hNP : N ≤ (P : Int) := by omega
  go_upto_region 4 with fail
  clear hc1 hc2 hc4
  go_cut [8, 9] (fun p q wx => ∃ hb fb : Nat, p = .slice (some ⟨hb, 0, none⟩) P P ∧ q = .slice (some ⟨fb, 0, none⟩) P P ∧ hb ≠ fb ∧ Hid (RowV wx hb 4 (fun _ => .bool false) P) ∧ Hid (RowV wx fb 4 (fun _ => .bool false) P) ∧ Hid (w3.heap.size ≤ hb) ∧ Hid (w3.heap.size ≤ fb) ∧ Hid (Below w3.heap.size w3 wx))
  case first =>
    refine wp_region_held_drew (S := (fun wx : World => Below w3.heap.size w3 wx)) (by kernel_rfl) (bel_drewN (Below.refl _ _) 1) (fun hHeld => ?_)
    refine wpAnyH_take (i := 0) (oi := { dst := some 57, op := Op.move (Operand.tmp 4), type := 3, pos := "plain.go:146", after := #[], guard := none }) (v := ?_) rfl (by kernel_rfl) (by kernel_rfl) (by kernel_rfl) (fun _ _ _ h => h) (Or.inl ⟨by rfl, ?hy⟩) hHeld ?_
    case hy => (intro w hSw; (try dsimp only at hSw); go_simp; all_goals (with_reducible rfl))
    try simp only [Act.put, List.setIfInBounds_toArray, List.set_cons_zero, List.set_cons_succ]
    refine wpAnyH_take (i := 2) (oi := { dst := some 59, op := Op.move (Operand.tmp 4), type := 3, pos := "plain.go:146", after := #[], guard := none }) (v := ?_) rfl (by kernel_rfl) (by kernel_rfl) (by kernel_rfl) (fun _ _ _ h => h) (Or.inl ⟨by rfl, ?hy⟩) hHeld ?_
    case hy => (intro w hSw; (try dsimp only at hSw); go_simp; all_goals (with_reducible rfl))
    try simp only [Act.put, List.setIfInBounds_toArray, List.set_cons_zero, List.set_cons_succ]
    refine wpAnyH_ready (rs := [1, 3]) (by kernel_rfl) (by simp) ?_
    refine AllReadyH.cons (o := { dst := some 58, op := Op.makeSlice 102 (Operand.tmp 57) (Operand.tmp 57), type := 102, pos := "plain.go:146", after := #[{ on := 0, ground := Ground.data }, { on := 0, ground := Ground.data }], guard := none }) rfl (fun K hK => ?_) ?_
    · skip
      refine step_mkB P (by omega) rfl (.tmp 57) rfl rfl ?_
      intro g1 wx1 hg1 hr1 hbl1 hl1
      have G1 := hHeld.trans (hbl1.mono hHeld.size)
      have lo1 : w3.heap.size ≤ g1 := by rw [hg1]; exact hHeld.size
      have H1 := hid hr1
      refine hK.out _ _ G1 (fun hHeld => ?_)
      clear hK K hg1 hr1 hbl1 hl1
      try simp only [Act.put, List.setIfInBounds_toArray, List.set_cons_zero, List.set_cons_succ]
      refine wpAnyH_take (i := 4) (oi := { dst := some 8, op := Op.assign (Operand.tmp 58), type := 102, pos := "plain.go:146", after := #[{ on := 1, ground := Ground.data }, { on := 0, ground := Ground.phase }, { on := 1, ground := Ground.phase }, { on := 2, ground := Ground.textOnly Departure.lateStores }, { on := 3, ground := Ground.textOnly Departure.lateStoresUnsure }], guard := none }) (v := ?_) rfl (by kernel_rfl) (by kernel_rfl) (by kernel_rfl) (fun _ _ _ h => h) (Or.inl ⟨by rfl, ?hy⟩) hHeld ?_
      case hy => (intro w hSw; (try dsimp only at hSw); go_simp; all_goals (with_reducible rfl))
      try simp only [Act.put, List.setIfInBounds_toArray, List.set_cons_zero, List.set_cons_succ]
      refine wpAnyH_ready (rs := [3]) (by kernel_rfl) (by simp) ?_
      refine AllReadyH.cons (o := { dst := some 60, op := Op.makeSlice 102 (Operand.tmp 59) (Operand.tmp 59), type := 102, pos := "plain.go:146", after := #[{ on := 2, ground := Ground.data }, { on := 2, ground := Ground.data }], guard := none }) rfl (fun K hK => ?_) AllReadyH.nil
      refine step_mkB P (by omega) rfl (.tmp 59) rfl rfl ?_
      intro g2 wx2 hg2 hr2 hbl2 hl2
      have G2 := G1.trans (hbl2.mono G1.size)
      have lo2 : w3.heap.size ≤ g2 := by rw [hg2]; exact G1.size
      have H2 := hid hr2
      have H12 := hid (show RowV wx2 g1 4 (fun _ => .bool false) P from (hbl2.block _ (lt_of_heap H1.out)).trans H1.out)
      have hne : g1 ≠ g2 := by have := lt_of_heap H1.out; omega
      refine hK.out _ _ G2 (fun hHeld => ?_)
      clear hK K hg2 hr2 hbl2 hl2
      try simp only [Act.put, List.setIfInBounds_toArray, List.set_cons_zero, List.set_cons_succ]
      refine wpAnyH_take (i := 5) (oi := { dst := some 9, op := Op.assign (Operand.tmp 60), type := 102, pos := "plain.go:146", after := #[{ on := 3, ground := Ground.data }, { on := 4, ground := Ground.chain }, { on := 0, ground := Ground.phase }, { on := 1, ground := Ground.phase }, { on := 2, ground := Ground.phase }, { on := 3, ground := Ground.phase }, { on := 4, ground := Ground.phase }], guard := none }) (v := ?_) rfl (by kernel_rfl) (by kernel_rfl) (by kernel_rfl) (fun _ _ _ h => h) (Or.inl ⟨by rfl, ?hy⟩) hHeld ?_
      case hy => (intro w hSw; (try dsimp only at hSw); go_simp; all_goals (with_reducible rfl))
      try simp only [Act.put, List.setIfInBounds_toArray, List.set_cons_zero, List.set_cons_succ]
      refine wpAnyH_done (by kernel_rfl) ?_ _
      go_wp2_with fail
      go_meet
      exact ⟨g1, g2, rfl, rfl, hne, H12, H2, hid lo1, hid lo2, hid G2⟩
    refine AllReadyH.cons (o := { dst := some 60, op := Op.makeSlice 102 (Operand.tmp 59) (Operand.tmp 59), type := 102, pos := "plain.go:146", after := #[{ on := 2, ground := Ground.data }, { on := 2, ground := Ground.data }], guard := none }) rfl (fun K hK => ?_) AllReadyH.nil
    refine step_mkB P (by omega) rfl (.tmp 59) rfl rfl ?_
    intro g1 wx1 hg1 hr1 hbl1 hl1
    have G1 := hHeld.trans (hbl1.mono hHeld.size)
    have lo1 : w3.heap.size ≤ g1 := by rw [hg1]; exact hHeld.size
    have H1 := hid hr1
    refine hK.out _ _ G1 (fun hHeld => ?_)
    clear hK K hg1 hr1 hbl1 hl1
    try simp only [Act.put, List.setIfInBounds_toArray, List.set_cons_zero, List.set_cons_succ]
    refine wpAnyH_ready (rs := [1]) (by kernel_rfl) (by simp) ?_
    refine AllReadyH.cons (o := { dst := some 58, op := Op.makeSlice 102 (Operand.tmp 57) (Operand.tmp 57), type := 102, pos := "plain.go:146", after := #[{ on := 0, ground := Ground.data }, { on := 0, ground := Ground.data }], guard := none }) rfl (fun K hK => ?_) AllReadyH.nil
    refine step_mkB P (by omega) rfl (.tmp 57) rfl rfl ?_
    intro g2 wx2 hg2 hr2 hbl2 hl2
    have G2 := G1.trans (hbl2.mono G1.size)
    have lo2 : w3.heap.size ≤ g2 := by rw [hg2]; exact G1.size
    have H2 := hid hr2
    have H12 := hid (show RowV wx2 g1 4 (fun _ => .bool false) P from (hbl2.block _ (lt_of_heap H1.out)).trans H1.out)
    have hne : g1 ≠ g2 := by have := lt_of_heap H1.out; omega
    refine hK.out _ _ G2 (fun hHeld => ?_)
    clear hK K hg2 hr2 hbl2 hl2
    try simp only [Act.put, List.setIfInBounds_toArray, List.set_cons_zero, List.set_cons_succ]
    refine wpAnyH_take (i := 4) (oi := { dst := some 8, op := Op.assign (Operand.tmp 58), type := 102, pos := "plain.go:146", after := #[{ on := 1, ground := Ground.data }, { on := 0, ground := Ground.phase }, { on := 1, ground := Ground.phase }, { on := 2, ground := Ground.textOnly Departure.lateStores }, { on := 3, ground := Ground.textOnly Departure.lateStoresUnsure }], guard := none }) (v := ?_) rfl (by kernel_rfl) (by kernel_rfl) (by kernel_rfl) (fun _ _ _ h => h) (Or.inl ⟨by rfl, ?hy⟩) hHeld ?_
    case hy => (intro w hSw; (try dsimp only at hSw); go_simp; all_goals (with_reducible rfl))
    try simp only [Act.put, List.setIfInBounds_toArray, List.set_cons_zero, List.set_cons_succ]
    refine wpAnyH_take (i := 5) (oi := { dst := some 9, op := Op.assign (Operand.tmp 60), type := 102, pos := "plain.go:146", after := #[{ on := 3, ground := Ground.data }, { on := 4, ground := Ground.chain }, { on := 0, ground := Ground.phase }, { on := 1, ground := Ground.phase }, { on := 2, ground := Ground.phase }, { on := 3, ground := Ground.phase }, { on := 4, ground := Ground.phase }], guard := none }) (v := ?_) rfl (by kernel_rfl) (by kernel_rfl) (by kernel_rfl) (fun _ _ _ h => h) (Or.inl ⟨by rfl, ?hy⟩) hHeld ?_
    case hy => (intro w hSw; (try dsimp only at hSw); go_simp; all_goals (with_reducible rfl))
    try simp only [Act.put, List.setIfInBounds_toArray, List.set_cons_zero, List.set_cons_succ]
    refine wpAnyH_done (by kernel_rfl) ?_ _
    go_wp2_with fail
    go_meet
    exact ⟨g2, g1, rfl, rfl, hne.symm, H2, H12, hid lo2, hid lo1, hid G2⟩
  case rest =>
    obtain ⟨hb, fb, rfl, rfl, hne, HH, HF, HLH, HLF, HB4⟩ := hcut
    obtain ⟨w4, rfl⟩ : ∃ y, y = wc := ⟨wc, rfl⟩
    have hmk := fun wx => mk_rows P (by omega) wx
    obtain ⟨w5, hw5⟩ : ∃ y, y = (w4.alloc (.cells (rowV (fun _ => .slice none 0 0) P).toArray 27)).alloc (.cells #[] 108) := ⟨_, rfl⟩
    have hg5 : RowV w5 w4.heap.size 27 (fun _ => .slice none 0 0) P := by rw [hw5]; exact heap_alloc (heap_new _ _) _
    have hn5 : w5.heap[w4.heap.size + 1]? = some (.cells #[] 108 (0, 0)) := by
      rw [hw5]
      have h := heap_new (w4.alloc (.cells (rowV (fun _ => .slice none 0 0) P).toArray 27)) (.cells #[] 108)
      rw [show (w4.alloc (.cells (rowV (fun _ => .slice none 0 0) P).toArray 27)).heap.size = w4.heap.size + 1 from by simp] at h
      exact h
    have hbl5 : Below w4.heap.size w4 w5 := by rw [hw5]; exact ((Below.refl _ _).alloc (Nat.le_refl _) _).alloc (by simp) _
    obtain ⟨gb, hgb⟩ : ∃ y, y = w4.heap.size := ⟨_, rfl⟩
    rw [← hgb] at hg5 hn5
    have HM5 := hid (show SMem P hb fb gb w3 w5 (fun _ => false) (fun _ => false) (fun _ => .slice none 0 0) (fun _ => []) (.slice (some ⟨gb + 1, 0, none⟩) 0 0) [] from
      { hel := (hbl5.block _ (lt_of_heap HH.out)).trans HH.out
        fau := (hbl5.block _ (lt_of_heap HF.out)).trans HF.out
        got := hg5
        row := fun j hj => ⟨rfl, .inl ⟨rfl, rfl⟩⟩
        sep := fun j j' _ _ _ q hq => by cases hq
        net := ⟨rfl, .inr ⟨gb + 1, 0, #[], rfl, by rw [hgb]; exact Nat.le_trans HB4.out.size (Nat.le_succ _), hn5, Nat.le_refl _, Nat.zero_le _, rfl, rfl⟩⟩
        ne := hne
        lh := HLH.out
        lf := HLF.out
        lg := by rw [hgb]; exact HB4.out.size
        bel := HB4.out.trans (hbl5.mono HB4.out.size) })
    have HGB := hid hgb
    have HW5 := hid hw5
    clear hw5 hg5 hn5 hbl5 hgb HH HF HLH HLF
    go_upto_region 7 with fail
    change Code.wp _ _ _ _ ((w4.alloc (.cells (rowV (fun _ => .slice none 0 0) P).toArray 27)).alloc (.cells #[] 108))
    rw [← HW5.out, ← HGB.out]
    clear HW5 HGB hmk
    go_wp2_with fail
    go_loopw [12] (fun iv wx => ∃ (k : Nat) (H : Nat → Bool), k ≤ P ∧ iv = .int .i64 k ∧ Hid (SMem P hb fb gb w3 wx H (fun _ => false) (fun _ => .slice none 0 0) (fun _ => []) (.slice (some ⟨gb + 1, 0, none⟩) 0 0) [])) (fun iv _ => P - (intOf iv).toNat)
    case atStart => exact ⟨0, _, by omega, rfl, HM5⟩
    case round =>
      obtain ⟨k, H, hk, rfl, HM⟩ := hrel
      by_cases hkP : k < P
      · as_aux_lemma =>
        have hkP' : (k : Int) < (P : Int) := by omega
        have c1 := HM.out.hel.cell k hkP
        have f1 := HM.out.hel.free k
        have HHAS := hid (Has_any a2 n2 c2 l2 (k : Int) wr (HA3.out.1.belowP HM.out.bel) (by omega))
        generalize l2.contains (k : Int) = B at *
        go_wp2_with fail
        refine HHAS.out.mono ?_
        rintro e w7 ⟨rfl, rfl⟩
        go_wp2_with fail
        exact ⟨⟨k + 1, _, by omega, by go_num, hid (HM.out.setH k B)⟩, by simp [intOf]; omega⟩
      · obtain rfl : k = P := by omega
        have hkP' : ¬ (k : Int) < (k : Int) := by omega
        obtain ⟨wo, rfl⟩ : ∃ y, y = wr := ⟨wr, rfl⟩
        go_wp2_with fail
        go_loopw [11, 13, 14] (fun nv rv iv wx => ∃ (m : Nat) (H F D S : Nat → Bool) (G : Nat → Value) (L : Nat → List Nat) (NN : List (Nat × Nat)) (R : Bool), m ≤ n3 + 1 ∧ iv = .int .i64 ((m : Int) - 1) ∧ rv = .bool R ∧ Hid (SMem k hb fb gb w3 wx H F G L nv NN) ∧ Hid (SInv obj k N H F D S NN L R) ∧ NN.length ≤ m ∧ (∀ j, (L j).length ≤ m)) (fun _ _ iv _ => ((n3 : Int) - intOf iv).toNat)
        case atStart => exact ⟨0, H, _, _, _, _, _, _, _, by omega, rfl, rfl, HM, hid (SInv.start obj k N H), Nat.le_refl _, fun j => Nat.le_refl _⟩
        case round =>
          clear HM
          obtain ⟨m, H, F, D, S, G, L, NN, R, hm, rfl, rfl, HM, HI, hNl, hLl⟩ := hrel
          have HLL := hid hLl
          clear hLl
          by_cases hmn : m ≤ n3
          · as_aux_lemma =>
            obtain ⟨J, hJ⟩ : ∃ J : Int, J = (m : Int) - 1 := ⟨_, rfl⟩
            rw [← hJ]
            have hmn' : J < (n3 : Int) := by omega
            have HJ := hid hJ
            clear hJ
            go_upto_if 82 with fail
            obtain ⟨wq, rfl⟩ : ∃ y, y = wr := ⟨wr, rfl⟩
            go_cut [11, 13] (fun nv rv wx => ∃ (H F D S : Nat → Bool) (G : Nat → Value) (L : Nat → List Nat) (NN : List (Nat × Nat)) (R : Bool), rv = .bool R ∧ Hid (SMem k hb fb gb w3 wx H F G L nv NN) ∧ Hid (SInv obj k N H F D S NN L R) ∧ NN.length ≤ m + 1 ∧ Hid (∀ j, (L j).length ≤ m + 1))
            case first =>
              have HDONE := hid (show ∀ j, (L j).length ≤ m + 1 from fun j => Nat.le_succ_of_le (HLL.out j))
              rcases Nat.eq_zero_or_pos m with hm0 | hm0
              · obtain rfl : J = -1 := by rw [HJ.out, hm0]; rfl
                go_wp2_with fail
                go_meet
                exact ⟨H, F, D, S, G, L, NN, R, rfl, HM, HI, by omega, HDONE⟩
              · obtain ⟨i, rfl⟩ : ∃ i, m = i + 1 := ⟨m - 1, by omega⟩
                obtain rfl : J = (i : Int) := by have := HJ.out; omega
                clear HJ hm0
                have hi3 : i < n3 := by omega
                obtain ⟨eb, eo, rfl, -, hec⟩ := (HE3.out.belowE HM.out.bel).1 (by omega)
                obtain ⟨ce0, ce1, ce2⟩ := hec i hi3
                clear hec
                generalize e0 i = KD at *
                generalize e1 i = A at *
                generalize e2 i = B at *
                have HIX := hid (fun (x : Int) (wx : World) (h : Below wq.heap.size wq wx) => (idx_any x k (by omega) (by omega) wx).mono fun e w' (q : (∃ r : Nat, e = .returned (.int .i64 (r : Int)) ∧ r < k) ∧ wx = w') => (⟨q.1, by rw [← q.2]; exact Below.refl _ _⟩ : (∃ r : Nat, e = .returned (.int .i64 (r : Int)) ∧ r < k) ∧ Below wx.heap.size wx w'))
                have HKE := hid (show ∀ wx, Below wq.heap.size wq wx → Below wq.heap.size wq wx ∧ wx.cell? ⟨eb, eo + i * 3, none⟩ = some (.int .i64 KD) ∧ wx.cell? ⟨eb, eo + i * 3 + 1, none⟩ = some (.int .i64 A) ∧ wx.cell? ⟨eb, eo + i * 3 + 2, none⟩ = some (.int .i64 B) from fun wx h => ⟨h, (h.cell (World.block_lt_of_cell? _ _ ce0)).trans ce0, (h.cell (World.block_lt_of_cell? _ _ ce1)).trans ce1, (h.cell (World.block_lt_of_cell? _ _ ce2)).trans ce2⟩)
                clear ce0 ce1 ce2
                go_upto_region 16 with fail
                refine wp_region_held_drew (S := (fun wx : World => Below wq.heap.size wq wx ∧ wx.cell? ⟨eb, eo + i * 3, none⟩ = some (.int .i64 KD) ∧ wx.cell? ⟨eb, eo + i * 3 + 1, none⟩ = some (.int .i64 A) ∧ wx.cell? ⟨eb, eo + i * 3 + 2, none⟩ = some (.int .i64 B))) (by kernel_rfl) (HKE.out _ (bel_drewN (Below.refl _ _) 1)) (fun hHeld => ?_)
                refine wpAnyH_take (i := 0) (oi := { dst := some 83, op := Op.move (Operand.tmp 7), type := 99, pos := "plain.go:155", after := #[], guard := none }) (v := ?_) rfl (by kernel_rfl) (by kernel_rfl) (by kernel_rfl) (fun _ _ _ h => h) (Or.inl ⟨by rfl, ?hy⟩) hHeld ?_
                case hy => (intro w hSw; (try dsimp only at hSw); obtain ⟨_, _, _, _⟩ := hSw; go_simp; all_goals (with_reducible rfl))
                try simp only [Act.put, List.setIfInBounds_toArray, List.set_cons_zero, List.set_cons_succ]
                refine wpAnyH_take (i := 1) (oi := { dst := some 84, op := Op.move (Operand.tmp 14), type := 3, pos := "plain.go:155", after := #[], guard := none }) (v := ?_) rfl (by kernel_rfl) (by kernel_rfl) (by kernel_rfl) (fun _ _ _ h => h) (Or.inl ⟨by rfl, ?hy⟩) hHeld ?_
                case hy => (intro w hSw; (try dsimp only at hSw); obtain ⟨_, _, _, _⟩ := hSw; go_simp; all_goals (with_reducible rfl))
                try simp only [Act.put, List.setIfInBounds_toArray, List.set_cons_zero, List.set_cons_succ]
                refine wpAnyH_take (i := 2) (oi := { dst := some 85, op := Op.indexAddr 99 (Operand.tmp 83) (Operand.tmp 84), type := 0, pos := "plain.go:155", after := #[{ on := 0, ground := Ground.data }, { on := 1, ground := Ground.data }], guard := none }) (v := ?_) rfl (by kernel_rfl) (by kernel_rfl) (by kernel_rfl) (fun _ _ _ h => h) (Or.inl ⟨by rfl, ?hy⟩) hHeld ?_
                case hy => (intro w hSw; (try dsimp only at hSw); obtain ⟨_, _, _, _⟩ := hSw; go_simp; all_goals (with_reducible rfl))
                try simp only [Act.put, List.setIfInBounds_toArray, List.set_cons_zero, List.set_cons_succ]
                refine wpAnyH_take (i := 3) (oi := { dst := some 86, op := Op.fieldAddr 107 (Operand.tmp 85) 1, type := 0, pos := "plain.go:155", after := #[{ on := 2, ground := Ground.data }], guard := none }) (v := ?_) rfl (by kernel_rfl) (by kernel_rfl) (by kernel_rfl) (fun _ _ _ h => h) (Or.inl ⟨by rfl, ?hy⟩) hHeld ?_
                case hy => (intro w hSw; (try dsimp only at hSw); obtain ⟨_, _, _, _⟩ := hSw; go_simp; all_goals (with_reducible rfl))
                try simp only [Act.put, List.setIfInBounds_toArray, List.set_cons_zero, List.set_cons_succ]
                refine wpAnyH_take (i := 4) (oi := { dst := some 87, op := Op.load 3 (Operand.tmp 86), type := 3, pos := "plain.go:155", after := #[{ on := 3, ground := Ground.data }], guard := none }) (v := ?_) rfl (by kernel_rfl) (by kernel_rfl) (by kernel_rfl) (fun _ _ _ h => h) (Or.inl ⟨by rfl, ?hy⟩) hHeld ?_
                case hy => (intro w hSw; (try dsimp only at hSw); obtain ⟨_, _, _, _⟩ := hSw; go_simp; all_goals (with_reducible rfl))
                try simp only [Act.put, List.setIfInBounds_toArray, List.set_cons_zero, List.set_cons_succ]
                refine wpAnyH_take (i := 5) (oi := { dst := some 88, op := Op.move (Operand.tmp 4), type := 3, pos := "plain.go:155", after := #[], guard := none }) (v := ?_) rfl (by kernel_rfl) (by kernel_rfl) (by kernel_rfl) (fun _ _ _ h => h) (Or.inl ⟨by rfl, ?hy⟩) hHeld ?_
                case hy => (intro w hSw; (try dsimp only at hSw); obtain ⟨_, _, _, _⟩ := hSw; go_simp; all_goals (with_reducible rfl))
                try simp only [Act.put, List.setIfInBounds_toArray, List.set_cons_zero, List.set_cons_succ]
                refine wpAnyH_take (i := 7) (oi := { dst := some 90, op := Op.move (Operand.tmp 7), type := 99, pos := "plain.go:155", after := #[], guard := none }) (v := ?_) rfl (by kernel_rfl) (by kernel_rfl) (by kernel_rfl) (fun _ _ _ h => h) (Or.inl ⟨by rfl, ?hy⟩) hHeld ?_
                case hy => (intro w hSw; (try dsimp only at hSw); obtain ⟨_, _, _, _⟩ := hSw; go_simp; all_goals (with_reducible rfl))
                try simp only [Act.put, List.setIfInBounds_toArray, List.set_cons_zero, List.set_cons_succ]
                refine wpAnyH_take (i := 8) (oi := { dst := some 91, op := Op.move (Operand.tmp 14), type := 3, pos := "plain.go:155", after := #[], guard := none }) (v := ?_) rfl (by kernel_rfl) (by kernel_rfl) (by kernel_rfl) (fun _ _ _ h => h) (Or.inl ⟨by rfl, ?hy⟩) hHeld ?_
                case hy => (intro w hSw; (try dsimp only at hSw); obtain ⟨_, _, _, _⟩ := hSw; go_simp; all_goals (with_reducible rfl))
                try simp only [Act.put, List.setIfInBounds_toArray, List.set_cons_zero, List.set_cons_succ]
                refine wpAnyH_take (i := 9) (oi := { dst := some 92, op := Op.indexAddr 99 (Operand.tmp 90) (Operand.tmp 91), type := 0, pos := "plain.go:155", after := #[{ on := 7, ground := Ground.data }, { on := 8, ground := Ground.data }], guard := none }) (v := ?_) rfl (by kernel_rfl) (by kernel_rfl) (by kernel_rfl) (fun _ _ _ h => h) (Or.inl ⟨by rfl, ?hy⟩) hHeld ?_
                case hy => (intro w hSw; (try dsimp only at hSw); obtain ⟨_, _, _, _⟩ := hSw; go_simp; all_goals (with_reducible rfl))
                try simp only [Act.put, List.setIfInBounds_toArray, List.set_cons_zero, List.set_cons_succ]
                refine wpAnyH_take (i := 10) (oi := { dst := some 93, op := Op.fieldAddr 107 (Operand.tmp 92) 2, type := 0, pos := "plain.go:155", after := #[{ on := 9, ground := Ground.data }], guard := none }) (v := ?_) rfl (by kernel_rfl) (by kernel_rfl) (by kernel_rfl) (fun _ _ _ h => h) (Or.inl ⟨by rfl, ?hy⟩) hHeld ?_
                case hy => (intro w hSw; (try dsimp only at hSw); obtain ⟨_, _, _, _⟩ := hSw; go_simp; all_goals (with_reducible rfl))
                try simp only [Act.put, List.setIfInBounds_toArray, List.set_cons_zero, List.set_cons_succ]
                refine wpAnyH_take (i := 11) (oi := { dst := some 94, op := Op.load 3 (Operand.tmp 93), type := 3, pos := "plain.go:155", after := #[{ on := 10, ground := Ground.data }], guard := none }) (v := ?_) rfl (by kernel_rfl) (by kernel_rfl) (by kernel_rfl) (fun _ _ _ h => h) (Or.inl ⟨by rfl, ?hy⟩) hHeld ?_
                case hy => (intro w hSw; (try dsimp only at hSw); obtain ⟨_, _, _, _⟩ := hSw; go_simp; all_goals (with_reducible rfl))
                try simp only [Act.put, List.setIfInBounds_toArray, List.set_cons_zero, List.set_cons_succ]
                refine wpAnyH_take (i := 12) (oi := { dst := some 95, op := Op.move (Operand.tmp 4), type := 3, pos := "plain.go:155", after := #[], guard := none }) (v := ?_) rfl (by kernel_rfl) (by kernel_rfl) (by kernel_rfl) (fun _ _ _ h => h) (Or.inl ⟨by rfl, ?hy⟩) hHeld ?_
                case hy => (intro w hSw; (try dsimp only at hSw); obtain ⟨_, _, _, _⟩ := hSw; go_simp; all_goals (with_reducible rfl))
                try simp only [Act.put, List.setIfInBounds_toArray, List.set_cons_zero, List.set_cons_succ]
                refine wpAnyH_ready (rs := [6]) (by kernel_rfl) (by simp) ?_
                refine AllReadyH.cons (o := { dst := some 89, op := Op.call { callee := Callee.value (Operand.func 57), args := #[Operand.tmp 87, Operand.tmp 88], argTypes := #[3, 3] }, type := 3, pos := "plain.go:155", after := #[{ on := 4, ground := Ground.data }, { on := 5, ground := Ground.data }], guard := none }) rfl (fun K hK => ?_) AllReadyH.nil
                go_simp
                refine (HIX.out _ _ hHeld.1).mono ?_
                rintro e wx1 ⟨⟨ra, rfl, hra⟩, hb1⟩
                have G1 := hHeld.1.trans (hb1.mono hHeld.1.size)
                clear hb1
                clear hHeld
                go_wp2_with fail
                refine hK.out _ _ (HKE.out _ G1) (fun hHeld => ?_)
                clear hK K
                try simp only [Act.put, List.setIfInBounds_toArray, List.set_cons_zero, List.set_cons_succ]
                refine wpAnyH_ready (rs := [13]) (by kernel_rfl) (by simp) ?_
                refine AllReadyH.cons (o := { dst := some 96, op := Op.call { callee := Callee.value (Operand.func 57), args := #[Operand.tmp 94, Operand.tmp 95], argTypes := #[3, 3] }, type := 3, pos := "plain.go:155", after := #[{ on := 11, ground := Ground.data }, { on := 12, ground := Ground.data }, { on := 6, ground := Ground.chain }], guard := none }) rfl (fun K hK => ?_) AllReadyH.nil
                go_simp
                refine (HIX.out _ _ G1).mono ?_
                rintro e wx2 ⟨⟨rb, rfl, hrb⟩, hb2⟩
                have G2 := G1.trans (hb2.mono G1.size)
                clear hb2
                clear hHeld
                go_wp2_with fail
                refine hK.out _ _ (HKE.out _ G2) (fun hHeld => ?_)
                clear hK K
                try simp only [Act.put, List.setIfInBounds_toArray, List.set_cons_zero, List.set_cons_succ]
                refine wpAnyH_take (i := 14) (oi := { dst := some 15, op := Op.assign (Operand.tmp 89), type := 3, pos := "plain.go:155", after := #[{ on := 6, ground := Ground.data }, { on := 13, ground := Ground.chain }, { on := 0, ground := Ground.phase }, { on := 1, ground := Ground.phase }, { on := 2, ground := Ground.phase }, { on := 3, ground := Ground.phase }, { on := 4, ground := Ground.phase }, { on := 5, ground := Ground.phase }, { on := 6, ground := Ground.phase }, { on := 7, ground := Ground.textOnly Departure.lateStores }, { on := 8, ground := Ground.textOnly Departure.lateStores }, { on := 9, ground := Ground.textOnly Departure.lateStores }, { on := 10, ground := Ground.textOnly Departure.lateStores }, { on := 11, ground := Ground.textOnly Departure.lateStores }, { on := 12, ground := Ground.textOnly Departure.lateStores }, { on := 13, ground := Ground.textOnly Departure.lateStoresUnsure }], guard := none }) (v := ?_) rfl (by kernel_rfl) (by kernel_rfl) (by kernel_rfl) (fun _ _ _ h => h) (Or.inl ⟨by rfl, ?hy⟩) hHeld ?_
                case hy => (intro w hSw; (try dsimp only at hSw); obtain ⟨_, _, _, _⟩ := hSw; go_simp; all_goals (with_reducible rfl))
                try simp only [Act.put, List.setIfInBounds_toArray, List.set_cons_zero, List.set_cons_succ]
                refine wpAnyH_take (i := 15) (oi := { dst := some 16, op := Op.assign (Operand.tmp 96), type := 3, pos := "plain.go:155", after := #[{ on := 13, ground := Ground.data }, { on := 14, ground := Ground.chain }, { on := 0, ground := Ground.phase }, { on := 1, ground := Ground.phase }, { on := 2, ground := Ground.phase }, { on := 3, ground := Ground.phase }, { on := 4, ground := Ground.phase }, { on := 5, ground := Ground.phase }, { on := 6, ground := Ground.phase }, { on := 7, ground := Ground.phase }, { on := 8, ground := Ground.phase }, { on := 9, ground := Ground.phase }, { on := 10, ground := Ground.phase }, { on := 11, ground := Ground.phase }, { on := 12, ground := Ground.phase }, { on := 13, ground := Ground.phase }, { on := 14, ground := Ground.phase }], guard := none }) (v := ?_) rfl (by kernel_rfl) (by kernel_rfl) (by kernel_rfl) (fun _ _ _ h => h) (Or.inl ⟨by rfl, ?hy⟩) hHeld ?_
                case hy => (intro w hSw; (try dsimp only at hSw); obtain ⟨_, _, _, _⟩ := hSw; go_simp; all_goals (with_reducible rfl))
                try simp only [Act.put, List.setIfInBounds_toArray, List.set_cons_zero, List.set_cons_succ]
                refine wpAnyH_done (by kernel_rfl) ?_ _
                obtain ⟨-, d0, d1, -⟩ := HKE.out _ G2
                have HM6 := hid (HM.out.below G2)
                have cH := HM6.out.hel.cell ra hra
                have fH := HM6.out.hel.free ra
                have cF := HM6.out.fau.cell ra hra
                have fF := HM6.out.fau.free ra
                have cG := HM6.out.got.cell ra hra
                have fG := HM6.out.got.free ra
                clear HM HKE G1 G2 hHeld
                have hsz := HM6.out.bel.size
                by_cases k1 : KD = 1
                · subst k1
                  cases hHa : H ra with
                  | false =>
                    rw [hHa] at cH
                    clear hHa
                    go_wp2_with fail
                    go_meet
                    exact ⟨H, F, D, S, G, L, NN, R, rfl, HM6, HI, by omega, HDONE⟩
                  | true =>
                    rw [hHa] at cH
                    have HHa := hid hHa
                    clear hHa
                    by_cases hab : (ra : Int) = (rb : Int)
                    · have e1 : ((ra : Int) != (rb : Int)) = false := by simp [hab]
                      clear hab
                      go_wp2_with fail
                      go_meet
                      exact ⟨H, F, D, S, G, L, NN, R, rfl, HM6, HI, by omega, HDONE⟩
                    · have e1 : ((ra : Int) != (rb : Int)) = true := by simp [hab]
                      clear hab
                      go_wp2_with (
                        (refine wpList_netK (by rfl) (.tmp 113) (.tmp 117) (by rfl) w3.heap.size _ NN (by rfl) (owns_belowP HM6.out.net ((Below.refl _ _).alloc (Nat.le_refl _) _)) (by omega) wx2.heap.size ra rb (by rfl) (heap_new _ _) (by simp; omega) ?_)
                        (intro v7 w7 hown7 hg7)
                        (have HM7 := hid ((HM6.out.below ((Below.refl _ _).alloc (Nat.le_refl _) (.cells #[.int .i64 (ra : Int), .int .i64 (rb : Int)] 108))).send hg7 hown7))
                        (clear hown7 hg7))
                      go_meet
                      exact ⟨H, F, D, S, G, L, NN ++ [(ra, rb)], R, rfl, HM7, hid (HI.out.keep hra hrb HHa.out), by simp; omega, HDONE⟩
                by_cases k2 : KD = 2
                · subst k2
                  rcases Nat.eq_zero_or_pos NN.length with hl | hl
                  · obtain ⟨na, nc, hnv⟩ := owns_shape HM6.out.net
                    subst hnv
                    have h0 : ¬ (0 : Int) < (NN.length : Int) := by omega
                    have HLz := hid hl
                    clear hl
                    go_wp2_with fail
                    go_meet
                    exact ⟨H, F, D, S, G, L, NN, R, rfl, HM6, HI, by omega, HDONE⟩
                  · obtain ⟨gn, cn, hnv, hcn, hgn, hcell⟩ := owns_cellV HM6.out.net hl
                    subst hnv
                    have h0 : (0 : Int) < (NN.length : Int) := by omega
                    go_wp2_with fail
                    refine (idx_any A NN.length hl (by omega) wx2).mono ?_
                    rintro e w7 ⟨⟨r, rfl, hr⟩, rfl⟩
                    have hr' : (r : Int) < (NN.length : Int) := by omega
                    obtain ⟨q0, q1⟩ := ncl_get NN r hr
                    have n0 := hcell _ _ q0
                    have n1 := hcell _ _ q1
                    have hmem : NN[r] ∈ NN := List.getElem_mem _
                    have hi3 := HI.out.i3 _ hmem
                    clear q0 q1 hcell
                    generalize NN[r] = xx at *
                    obtain ⟨pa, pb⟩ := xx
                    obtain ⟨hpa, hpb, -⟩ := hi3
                    dsimp only at n0 n1 hpa hpb
                    have HMEM := hid hmem
                    clear hmem
                    go_wp2_with (
                      (refine wpList_store_row (by rfl) 108 (.tmp 17) (.tmp 134) (by rfl) wx2.heap.size _ #[.int .i64 (pa : Int), .int .i64 (pb : Int)] 108 (by rfl) (by rfl) (heap_new _ _) (by kernel_rfl) rfl (arr_one _ _) ?_)
                      (intro w8 hw8 hk8))
                    have hbl8 : Below wx2.heap.size wx2 w8 := ((Below.refl _ _).alloc (Nat.le_refl wx2.heap.size) (.cells #[.int .i64 0, .int .i64 0] 108)).trans (hk8.below (by simp) (Nat.le_refl _))
                    have HM8 := hid (HM6.out.below hbl8)
                    have HK8 := hid hw8
                    obtain ⟨kb, hkb⟩ : ∃ y, y = wx2.heap.size := ⟨_, rfl⟩
                    rw [← hkb] at HK8 ⊢
                    clear hw8 hk8 hbl8 hkb n0 n1 hgn
                    have hpb' : (pb : Int) < (k : Int) := by omega
                    have HKQ := hid (show ∀ wx : World, wx.heap[kb]? = w8.heap[kb]? → wx.cell? ⟨kb, 0, none⟩ = some (.int .i64 (pa : Int)) ∧ wx.cell? ⟨kb, 1, none⟩ = some (.int .i64 (pb : Int)) from fun wx h => by
                      have h2 := h.trans HK8.out
                      exact ⟨by rw [cell_of_heap h2]; rfl, by rw [cell_of_heap h2]; rfl⟩)
                    have hLp : (L pb).length ≤ 1000 := by have := HLL.out pb; omega
                    go_upto_region 24 with fail
                    refine wp_region_held_drew (S := (fun wx : World => wx.cell? ⟨kb, 0, none⟩ = some (.int .i64 (pa : Int)) ∧ wx.cell? ⟨kb, 1, none⟩ = some (.int .i64 (pb : Int)))) (by kernel_rfl) (HKQ.out _ rfl) (fun hHeld => ?_)
                    refine wpAnyH_take (i := 0) (oi := { dst := some 135, op := Op.move (Operand.tmp 10), type := 103, pos := "plain.go:164", after := #[], guard := none }) (v := ?_) rfl (by kernel_rfl) (by kernel_rfl) (by kernel_rfl) (fun _ _ _ h => h) (Or.inl ⟨by rfl, ?hy⟩) hHeld ?_
                    case hy => (intro w hSw; (try dsimp only at hSw); obtain ⟨_, _⟩ := hSw; go_simp; all_goals (with_reducible rfl))
                    try simp only [Act.put, List.setIfInBounds_toArray, List.set_cons_zero, List.set_cons_succ]
                    refine wpAnyH_take (i := 1) (oi := { dst := some 136, op := Op.indexAddr 108 (Operand.tmp 17) (Operand.const (Value.int IntKind.i64 1)), type := 0, pos := "plain.go:164", after := #[], guard := none }) (v := ?_) rfl (by kernel_rfl) (by kernel_rfl) (by kernel_rfl) (fun _ _ _ h => h) (Or.inl ⟨by rfl, ?hy⟩) hHeld ?_
                    case hy => (intro w hSw; (try dsimp only at hSw); obtain ⟨_, _⟩ := hSw; go_simp; all_goals (with_reducible rfl))
                    try simp only [Act.put, List.setIfInBounds_toArray, List.set_cons_zero, List.set_cons_succ]
                    refine wpAnyH_take (i := 2) (oi := { dst := some 137, op := Op.load 3 (Operand.tmp 136), type := 3, pos := "plain.go:164", after := #[{ on := 1, ground := Ground.data }], guard := none }) (v := ?_) rfl (by kernel_rfl) (by kernel_rfl) (by kernel_rfl) (fun _ _ _ h => h) (Or.inl ⟨by rfl, ?hy⟩) hHeld ?_
                    case hy => (intro w hSw; (try dsimp only at hSw); obtain ⟨_, _⟩ := hSw; go_simp; all_goals (with_reducible rfl))
                    try simp only [Act.put, List.setIfInBounds_toArray, List.set_cons_zero, List.set_cons_succ]
                    refine wpAnyH_take (i := 3) (oi := { dst := some 138, op := Op.move (Operand.tmp 10), type := 103, pos := "plain.go:164", after := #[], guard := none }) (v := ?_) rfl (by kernel_rfl) (by kernel_rfl) (by kernel_rfl) (fun _ _ _ h => h) (Or.inl ⟨by rfl, ?hy⟩) hHeld ?_
                    case hy => (intro w hSw; (try dsimp only at hSw); obtain ⟨_, _⟩ := hSw; go_simp; all_goals (with_reducible rfl))
                    try simp only [Act.put, List.setIfInBounds_toArray, List.set_cons_zero, List.set_cons_succ]
                    refine wpAnyH_take (i := 4) (oi := { dst := some 139, op := Op.indexAddr 108 (Operand.tmp 17) (Operand.const (Value.int IntKind.i64 1)), type := 0, pos := "plain.go:164", after := #[], guard := none }) (v := ?_) rfl (by kernel_rfl) (by kernel_rfl) (by kernel_rfl) (fun _ _ _ h => h) (Or.inl ⟨by rfl, ?hy⟩) hHeld ?_
                    case hy => (intro w hSw; (try dsimp only at hSw); obtain ⟨_, _⟩ := hSw; go_simp; all_goals (with_reducible rfl))
                    try simp only [Act.put, List.setIfInBounds_toArray, List.set_cons_zero, List.set_cons_succ]
                    refine wpAnyH_take (i := 5) (oi := { dst := some 140, op := Op.load 3 (Operand.tmp 139), type := 3, pos := "plain.go:164", after := #[{ on := 4, ground := Ground.data }], guard := none }) (v := ?_) rfl (by kernel_rfl) (by kernel_rfl) (by kernel_rfl) (fun _ _ _ h => h) (Or.inl ⟨by rfl, ?hy⟩) hHeld ?_
                    case hy => (intro w hSw; (try dsimp only at hSw); obtain ⟨_, _⟩ := hSw; go_simp; all_goals (with_reducible rfl))
                    try simp only [Act.put, List.setIfInBounds_toArray, List.set_cons_zero, List.set_cons_succ]
                    refine wpAnyH_take (i := 6) (oi := { dst := some 141, op := Op.indexAddr 103 (Operand.tmp 138) (Operand.tmp 140), type := 0, pos := "plain.go:164", after := #[{ on := 3, ground := Ground.data }, { on := 5, ground := Ground.data }], guard := none }) (v := ?_) rfl (by kernel_rfl) (by kernel_rfl) (by kernel_rfl) (fun _ _ _ h => h) (Or.inl ⟨by rfl, ?hy⟩) hHeld ?_
                    case hy => (intro w hSw; (try dsimp only at hSw); obtain ⟨_, _⟩ := hSw; go_simp; all_goals (with_reducible rfl))
                    try simp only [Act.put, List.setIfInBounds_toArray, List.set_cons_zero, List.set_cons_succ]
                    refine wpAnyH_take (i := 8) (oi := { dst := some 143, op := Op.indexAddr 108 (Operand.tmp 17) (Operand.const (Value.int IntKind.i64 0)), type := 0, pos := "plain.go:164", after := #[], guard := none }) (v := ?_) rfl (by kernel_rfl) (by kernel_rfl) (by kernel_rfl) (fun _ _ _ h => h) (Or.inl ⟨by rfl, ?hy⟩) hHeld ?_
                    case hy => (intro w hSw; (try dsimp only at hSw); obtain ⟨_, _⟩ := hSw; go_simp; all_goals (with_reducible rfl))
                    try simp only [Act.put, List.setIfInBounds_toArray, List.set_cons_zero, List.set_cons_succ]
                    refine wpAnyH_take (i := 9) (oi := { dst := some 144, op := Op.load 3 (Operand.tmp 143), type := 3, pos := "plain.go:164", after := #[{ on := 8, ground := Ground.data }], guard := none }) (v := ?_) rfl (by kernel_rfl) (by kernel_rfl) (by kernel_rfl) (fun _ _ _ h => h) (Or.inl ⟨by rfl, ?hy⟩) hHeld ?_
                    case hy => (intro w hSw; (try dsimp only at hSw); obtain ⟨_, _⟩ := hSw; go_simp; all_goals (with_reducible rfl))
                    try simp only [Act.put, List.setIfInBounds_toArray, List.set_cons_zero, List.set_cons_succ]
                    refine wpAnyH_ready (rs := [7, 10]) (by kernel_rfl) (by simp) ?_
                    refine AllReadyH.cons (o := { dst := some 142, op := Op.load 27 (Operand.tmp 141), type := 27, pos := "plain.go:164", after := #[{ on := 6, ground := Ground.data }], guard := none }) rfl (fun K hK => ?_) (AllReadyH.cons (o := { dst := some 145, op := Op.buildSlice 27 1 #[(0, Operand.tmp 144)], type := 27, pos := "plain.go:164", after := #[{ on := 9, ground := Ground.data }], guard := none }) rfl (fun K hK => ?_) AllReadyH.nil)
                    · have cg : w8.drew.cell? ⟨gb, pb, none⟩ = some (G pb) := (HM8.out.below (bel_drewN (Below.refl w8.heap.size w8) 1)).got.cell pb hpb
                      go_simp
                      clear cg
                      refine hK.out _ _ (HKQ.out _ rfl) (fun hHeld => ?_)
                      clear hK K
                      try simp only [Act.put, List.setIfInBounds_toArray, List.set_cons_zero, List.set_cons_succ]
                      refine wpAnyH_ready (rs := [10]) (by kernel_rfl) (by simp) ?_
                      refine AllReadyH.cons (o := { dst := some 145, op := Op.buildSlice 27 1 #[(0, Operand.tmp 144)], type := 27, pos := "plain.go:164", after := #[{ on := 9, ground := Ground.data }], guard := none }) rfl (fun K hK => ?_) AllReadyH.nil
                      refine step_build1I (pa : Int) rfl (.tmp 144) rfl rfl ?_
                      intro gI w9 hgI hI9 hb9 hl9
                      have HM9 := hid ((HM8.out.below (bel_drewN (Below.refl w8.heap.size w8) 1)).below hb9)
                      have HI9 := hid hI9
                      have HE9 := hid (show w9.heap[kb]? = w8.heap[kb]? from hb9.block kb (lt_of_heap HK8.out))
                      refine hK.out _ _ (HKQ.out _ HE9.out) (fun hHeld => ?_)
                      clear hK K hgI hI9 hb9 hl9
                      try simp only [Act.put, List.setIfInBounds_toArray, List.set_cons_zero, List.set_cons_succ]
                      refine wpAnyH_ready (rs := [11]) (by kernel_rfl) (by simp) ?_
                      refine AllReadyH.cons (o := { dst := some 146, op := Op.call { callee := Callee.builtin Builtin.append, args := #[Operand.tmp 142, Operand.tmp 145], argTypes := #[27, 27] }, type := 27, pos := "plain.go:164", after := #[{ on := 7, ground := Ground.data }, { on := 10, ground := Ground.data }], guard := none }) rfl (fun K hK => ?_) AllReadyH.nil
                      refine step_comeK rfl (.tmp 142) (.tmp 145) rfl w3.heap.size (G pb) (L pb) rfl (HM9.out.row pb hpb) hLp gI pa rfl HI9.out HM9.out.bel.size ?_
                      intro v10 w10 hown10 hg10 hq10
                      have HGR := hid (show RowV w10 gb 27 G k from (HM9.out.keptT hpb hg10 gb _ _ HM9.out.got (by decide)).trans HM9.out.got)
                      have HE10 := hid (show w10.heap[kb]? = w8.heap[kb]? from (HM9.out.keptT hpb hg10 kb _ _ (HE9.out.trans HK8.out) (by decide)).trans HE9.out)
                      have HM10 := hid (HM9.out.come hpb hg10 hown10 hq10)
                      obtain ⟨va, vc, hv⟩ := owns_shape hown10
                      obtain ⟨ln, hln⟩ : ∃ y, y = (L pb ++ [pa]).length := ⟨_, rfl⟩
                      rw [← hln] at hv
                      subst hv
                      clear hln
                      refine hK.out _ _ (HKQ.out _ HE10.out) (fun hHeld => ?_)
                      clear hK K hown10 hg10 hq10
                      try simp only [Act.put, List.setIfInBounds_toArray, List.set_cons_zero, List.set_cons_succ]
                      refine wpAnyH_take (i := 12) (oi := { dst := some 147, op := Op.indexAddr 103 (Operand.tmp 135) (Operand.tmp 137), type := 0, pos := "plain.go:164", after := #[{ on := 0, ground := Ground.data }, { on := 2, ground := Ground.data }, { on := 0, ground := Ground.phase }, { on := 1, ground := Ground.phase }, { on := 2, ground := Ground.phase }, { on := 3, ground := Ground.phase }, { on := 4, ground := Ground.phase }, { on := 5, ground := Ground.phase }, { on := 6, ground := Ground.phase }, { on := 7, ground := Ground.phase }, { on := 8, ground := Ground.phase }, { on := 9, ground := Ground.phase }, { on := 10, ground := Ground.phase }, { on := 11, ground := Ground.phase }], guard := none }) (v := ?_) rfl (by kernel_rfl) (by kernel_rfl) (by kernel_rfl) (fun _ _ _ h => h) (Or.inl ⟨by rfl, ?hy⟩) hHeld ?_
                      case hy => (intro w hSw; (try dsimp only at hSw); obtain ⟨_, _⟩ := hSw; go_simp; all_goals (with_reducible rfl))
                      try simp only [Act.put, List.setIfInBounds_toArray, List.set_cons_zero, List.set_cons_succ]
                      refine wpAnyH_ready (rs := [13]) (by kernel_rfl) (by simp) ?_
                      refine AllReadyH.cons (o := { dst := none, op := Op.store 27 (Operand.tmp 147) (Operand.tmp 146), type := 0, pos := "plain.go:164", after := #[{ on := 12, ground := Ground.data }, { on := 11, ground := Ground.data }, { on := 11, ground := Ground.chain }, { on := 0, ground := Ground.phase }, { on := 1, ground := Ground.phase }, { on := 2, ground := Ground.phase }, { on := 3, ground := Ground.phase }, { on := 4, ground := Ground.phase }, { on := 5, ground := Ground.phase }, { on := 6, ground := Ground.phase }, { on := 7, ground := Ground.phase }, { on := 8, ground := Ground.phase }, { on := 9, ground := Ground.phase }, { on := 10, ground := Ground.phase }, { on := 11, ground := Ground.phase }], guard := none }) rfl (fun K hK => ?_) AllReadyH.nil
                      have cg : w10.cell? ⟨gb, pb, none⟩ = some (G pb) := HGR.out.cell pb hpb
                      have fg : w10.frozen? ⟨gb, pb, none⟩ = false := HGR.out.free pb
                      go_simp
                      clear cg fg
                      have HE11 := hid (show (w10.setCell ⟨gb, pb, none⟩ (.slice va ln vc)).heap[kb]? = w8.heap[kb]? from (heap_setCell_other w10 ⟨gb, pb, none⟩ kb (.slice va ln vc) (by show kb ≠ gb; exact ne_type (HE10.out.trans HK8.out) HGR.out (by decide))).trans HE10.out)
                      refine hK.out _ _ (HKQ.out _ HE11.out) (fun hHeld => ?_)
                      clear hK K
                      try simp only [Act.put]
                      refine wpAnyH_done (by kernel_rfl) ?_ _
                      go_wp2_with fail
                      go_meet
                      exact ⟨H, F, D, S, _, _, NN, R, rfl, HM10, hid (HI.out.come HMEM.out), by omega, hid (upd_len HLL.out pb (L pb ++ [pa]) (by have := HLL.out pb; simp; omega))⟩
                    · refine step_build1I (pa : Int) rfl (.tmp 144) rfl rfl ?_
                      intro gI w9 hgI hI9 hb9 hl9
                      have HM9 := hid ((HM8.out.below (bel_drewN (Below.refl w8.heap.size w8) 1)).below hb9)
                      have HI9 := hid hI9
                      have HE9 := hid (show w9.heap[kb]? = w8.heap[kb]? from hb9.block kb (lt_of_heap HK8.out))
                      refine hK.out _ _ (HKQ.out _ HE9.out) (fun hHeld => ?_)
                      clear hK K hgI hI9 hb9 hl9
                      try simp only [Act.put, List.setIfInBounds_toArray, List.set_cons_zero, List.set_cons_succ]
                      refine wpAnyH_ready (rs := [7]) (by kernel_rfl) (by simp) ?_
                      refine AllReadyH.cons (o := { dst := some 142, op := Op.load 27 (Operand.tmp 141), type := 27, pos := "plain.go:164", after := #[{ on := 6, ground := Ground.data }], guard := none }) rfl (fun K hK => ?_) AllReadyH.nil
                      have cg : w9.cell? ⟨gb, pb, none⟩ = some (G pb) := (HM9.out).got.cell pb hpb
                      go_simp
                      clear cg
                      refine hK.out _ _ (HKQ.out _ HE9.out) (fun hHeld => ?_)
                      clear hK K
                      try simp only [Act.put, List.setIfInBounds_toArray, List.set_cons_zero, List.set_cons_succ]
                      refine wpAnyH_ready (rs := [11]) (by kernel_rfl) (by simp) ?_
                      refine AllReadyH.cons (o := { dst := some 146, op := Op.call { callee := Callee.builtin Builtin.append, args := #[Operand.tmp 142, Operand.tmp 145], argTypes := #[27, 27] }, type := 27, pos := "plain.go:164", after := #[{ on := 7, ground := Ground.data }, { on := 10, ground := Ground.data }], guard := none }) rfl (fun K hK => ?_) AllReadyH.nil
                      refine step_comeK rfl (.tmp 142) (.tmp 145) rfl w3.heap.size (G pb) (L pb) rfl (HM9.out.row pb hpb) hLp gI pa rfl HI9.out HM9.out.bel.size ?_
                      intro v10 w10 hown10 hg10 hq10
                      have HGR := hid (show RowV w10 gb 27 G k from (HM9.out.keptT hpb hg10 gb _ _ HM9.out.got (by decide)).trans HM9.out.got)
                      have HE10 := hid (show w10.heap[kb]? = w8.heap[kb]? from (HM9.out.keptT hpb hg10 kb _ _ (HE9.out.trans HK8.out) (by decide)).trans HE9.out)
                      have HM10 := hid (HM9.out.come hpb hg10 hown10 hq10)
                      obtain ⟨va, vc, hv⟩ := owns_shape hown10
                      obtain ⟨ln, hln⟩ : ∃ y, y = (L pb ++ [pa]).length := ⟨_, rfl⟩
                      rw [← hln] at hv
                      subst hv
                      clear hln
                      refine hK.out _ _ (HKQ.out _ HE10.out) (fun hHeld => ?_)
                      clear hK K hown10 hg10 hq10
                      try simp only [Act.put, List.setIfInBounds_toArray, List.set_cons_zero, List.set_cons_succ]
                      refine wpAnyH_take (i := 12) (oi := { dst := some 147, op := Op.indexAddr 103 (Operand.tmp 135) (Operand.tmp 137), type := 0, pos := "plain.go:164", after := #[{ on := 0, ground := Ground.data }, { on := 2, ground := Ground.data }, { on := 0, ground := Ground.phase }, { on := 1, ground := Ground.phase }, { on := 2, ground := Ground.phase }, { on := 3, ground := Ground.phase }, { on := 4, ground := Ground.phase }, { on := 5, ground := Ground.phase }, { on := 6, ground := Ground.phase }, { on := 7, ground := Ground.phase }, { on := 8, ground := Ground.phase }, { on := 9, ground := Ground.phase }, { on := 10, ground := Ground.phase }, { on := 11, ground := Ground.phase }], guard := none }) (v := ?_) rfl (by kernel_rfl) (by kernel_rfl) (by kernel_rfl) (fun _ _ _ h => h) (Or.inl ⟨by rfl, ?hy⟩) hHeld ?_
                      case hy => (intro w hSw; (try dsimp only at hSw); obtain ⟨_, _⟩ := hSw; go_simp; all_goals (with_reducible rfl))
                      try simp only [Act.put, List.setIfInBounds_toArray, List.set_cons_zero, List.set_cons_succ]
                      refine wpAnyH_ready (rs := [13]) (by kernel_rfl) (by simp) ?_
                      refine AllReadyH.cons (o := { dst := none, op := Op.store 27 (Operand.tmp 147) (Operand.tmp 146), type := 0, pos := "plain.go:164", after := #[{ on := 12, ground := Ground.data }, { on := 11, ground := Ground.data }, { on := 11, ground := Ground.chain }, { on := 0, ground := Ground.phase }, { on := 1, ground := Ground.phase }, { on := 2, ground := Ground.phase }, { on := 3, ground := Ground.phase }, { on := 4, ground := Ground.phase }, { on := 5, ground := Ground.phase }, { on := 6, ground := Ground.phase }, { on := 7, ground := Ground.phase }, { on := 8, ground := Ground.phase }, { on := 9, ground := Ground.phase }, { on := 10, ground := Ground.phase }, { on := 11, ground := Ground.phase }], guard := none }) rfl (fun K hK => ?_) AllReadyH.nil
                      have cg : w10.cell? ⟨gb, pb, none⟩ = some (G pb) := HGR.out.cell pb hpb
                      have fg : w10.frozen? ⟨gb, pb, none⟩ = false := HGR.out.free pb
                      go_simp
                      clear cg fg
                      have HE11 := hid (show (w10.setCell ⟨gb, pb, none⟩ (.slice va ln vc)).heap[kb]? = w8.heap[kb]? from (heap_setCell_other w10 ⟨gb, pb, none⟩ kb (.slice va ln vc) (by show kb ≠ gb; exact ne_type (HE10.out.trans HK8.out) HGR.out (by decide))).trans HE10.out)
                      refine hK.out _ _ (HKQ.out _ HE11.out) (fun hHeld => ?_)
                      clear hK K
                      try simp only [Act.put]
                      refine wpAnyH_done (by kernel_rfl) ?_ _
                      go_wp2_with fail
                      go_meet
                      exact ⟨H, F, D, S, _, _, NN, R, rfl, HM10, hid (HI.out.come HMEM.out), by omega, hid (upd_len HLL.out pb (L pb ++ [pa]) (by have := HLL.out pb; simp; omega))⟩
                by_cases k3 : KD = 3
                · subst k3
                  obtain ⟨ga, gc, hGe, -, hgc, hisG, hnG, -⟩ := is_of_ownsZ (HM6.out.row ra hra) (wfS (L ra) (fun y hy => by have := (HI.out.i4 ra hra y hy).1; omega))
                  rw [hGe] at cG hisG
                  have HLD := hid (show ∀ wx, Below wx2.heap.size wx2 wx → (loadVar 23 ⟨ob, 0, none⟩).run Tryz.prog wx = .ok (.agg OB) wx from fun wx h => by
                    rw [HOBE.out]
                    exact load_dig HO.out (((HM6.out.bel.trans (h.mono hsz)).block _ hob).trans HOB.out))
                  have HKC := hid (show ∀ wx, Below wx2.heap.size wx2 wx → Below wx2.heap.size wx2 wx ∧ wx.cell? ⟨hb, ra, none⟩ = some (.bool (H ra)) ∧ wx.cell? ⟨gb, ra, none⟩ = some (.slice ga (L ra).length gc) ∧ (loadVar 23 ⟨ob, 0, none⟩).run Tryz.prog wx = .ok (.agg OB) wx from fun wx h => ⟨h, (h.cell (World.block_lt_of_cell? _ _ cH)).trans cH, (h.cell (World.block_lt_of_cell? _ _ cG)).trans cG, HLD.out wx h⟩)
                  have hLa : (L ra).length ≤ 1000000 := by have := HLL.out ra; omega
                  have HIN := hid (fun (wx : World) (h : Below wx2.heap.size wx2 wx) => ints_any ga (L ra).length gc ((L ra).map Int.ofNat) wx (hisG.belowP h) hnG hgc hLa)
                  have HCV := hid (fun (wx : World) (h : Below wx2.heap.size wx2 wx) (ia : Option Addr) (ic : Nat) (hi : Is wx (.slice ia (L ra).length ic) ((L ra).map Int.ofNat)) => Covered_any obj HO.out HLT.out (ra : Int) N ia (L ra).length ic ((L ra).map Int.ofNat) wx (HV3.out.below (HM6.out.bel.trans (h.mono hsz))) hi hLa)
                  rw [← HOBE.out] at HCV
                  have HDROP := hid (fun h => HI.out.drop (by omega) hra h)
                  generalize cov obj (ra : Int) N ((L ra).map Int.ofNat) = C at *
                  clear cH cG cF fF fG hisG hGe
                  go_upto_region 26 with fail
                  cases hHa : H ra with
                  | false =>
                    rw [hHa] at HKC
                    clear hHa
                    refine wp_region_held_drew (S := (fun wx : World => Below wx2.heap.size wx2 wx ∧ wx.cell? ⟨hb, ra, none⟩ = some (.bool false) ∧ wx.cell? ⟨gb, ra, none⟩ = some (.slice ga (L ra).length gc) ∧ (loadVar 23 ⟨ob, 0, none⟩).run Tryz.prog wx = .ok (.agg OB) wx)) (by kernel_rfl) (HKC.out _ (bel_drewN (Below.refl _ _) 1)) (fun hHeld => ?_)
                    refine wpAnyH_take (i := 0) (oi := { dst := some 150, op := Op.move (Operand.tmp 8), type := 102, pos := "plain.go:167", after := #[], guard := none }) (v := ?_) rfl (by kernel_rfl) (by kernel_rfl) (by kernel_rfl) (fun _ _ _ h => h) (Or.inl ⟨by rfl, ?hy⟩) hHeld ?_
                    case hy => (intro w hSw; (try dsimp only at hSw); obtain ⟨_, _, _, _⟩ := hSw; go_simp; all_goals (with_reducible rfl))
                    try simp only [Act.put, List.setIfInBounds_toArray, List.set_cons_zero, List.set_cons_succ]
                    refine wpAnyH_take (i := 1) (oi := { dst := some 151, op := Op.move (Operand.tmp 15), type := 3, pos := "plain.go:167", after := #[], guard := none }) (v := ?_) rfl (by kernel_rfl) (by kernel_rfl) (by kernel_rfl) (fun _ _ _ h => h) (Or.inl ⟨by rfl, ?hy⟩) hHeld ?_
                    case hy => (intro w hSw; (try dsimp only at hSw); obtain ⟨_, _, _, _⟩ := hSw; go_simp; all_goals (with_reducible rfl))
                    try simp only [Act.put, List.setIfInBounds_toArray, List.set_cons_zero, List.set_cons_succ]
                    refine wpAnyH_take (i := 2) (oi := { dst := some 152, op := Op.indexAddr 102 (Operand.tmp 150) (Operand.tmp 151), type := 0, pos := "plain.go:167", after := #[{ on := 0, ground := Ground.data }, { on := 1, ground := Ground.data }], guard := none }) (v := ?_) rfl (by kernel_rfl) (by kernel_rfl) (by kernel_rfl) (fun _ _ _ h => h) (Or.inl ⟨by rfl, ?hy⟩) hHeld ?_
                    case hy => (intro w hSw; (try dsimp only at hSw); obtain ⟨_, _, _, _⟩ := hSw; go_simp; all_goals (with_reducible rfl))
                    try simp only [Act.put, List.setIfInBounds_toArray, List.set_cons_zero, List.set_cons_succ]
                    refine wpAnyH_take (i := 3) (oi := { dst := some 153, op := Op.load 4 (Operand.tmp 152), type := 4, pos := "plain.go:167", after := #[{ on := 2, ground := Ground.data }], guard := none }) (v := ?_) rfl (by kernel_rfl) (by kernel_rfl) (by kernel_rfl) (fun _ _ _ h => h) (Or.inl ⟨by rfl, ?hy⟩) hHeld ?_
                    case hy => (intro w hSw; (try dsimp only at hSw); obtain ⟨_, _, _, _⟩ := hSw; go_simp; all_goals (with_reducible rfl))
                    try simp only [Act.put, List.setIfInBounds_toArray, List.set_cons_zero, List.set_cons_succ]
                    refine wpAnyH_take (i := 4) (oi := { dst := some 154, op := Op.move (Operand.tmp 153), type := 4, pos := "plain.go:167", after := #[{ on := 3, ground := Ground.data }], guard := none }) (v := ?_) rfl (by kernel_rfl) (by kernel_rfl) (by kernel_rfl) (fun _ _ _ h => h) (Or.inl ⟨by rfl, ?hy⟩) hHeld ?_
                    case hy => (intro w hSw; (try dsimp only at hSw); obtain ⟨_, _, _, _⟩ := hSw; go_simp; all_goals (with_reducible rfl))
                    try simp only [Act.put, List.setIfInBounds_toArray, List.set_cons_zero, List.set_cons_succ]
                    refine wpAnyH_take (i := 5) (oi := { dst := some 155, op := Op.load 23 (Operand.tmp 3), type := 23, pos := "plain.go:167", after := #[{ on := 4, ground := Ground.guard }], guard := some (4, true) }) (v := undef) rfl (by kernel_rfl) (by kernel_rfl) (by kernel_rfl) (fun _ _ _ h => h) (Or.inr ⟨by rfl, rfl⟩) hHeld ?_
                    try simp only [Act.put, List.setIfInBounds_toArray, List.set_cons_zero, List.set_cons_succ]
                    refine wpAnyH_take (i := 6) (oi := { dst := some 156, op := Op.move (Operand.tmp 15), type := 3, pos := "plain.go:167", after := #[{ on := 4, ground := Ground.guard }], guard := some (4, true) }) (v := undef) rfl (by kernel_rfl) (by kernel_rfl) (by kernel_rfl) (fun _ _ _ h => h) (Or.inr ⟨by rfl, rfl⟩) hHeld ?_
                    try simp only [Act.put, List.setIfInBounds_toArray, List.set_cons_zero, List.set_cons_succ]
                    refine wpAnyH_take (i := 7) (oi := { dst := some 157, op := Op.move (Operand.tmp 5), type := 3, pos := "plain.go:167", after := #[{ on := 4, ground := Ground.guard }], guard := some (4, true) }) (v := undef) rfl (by kernel_rfl) (by kernel_rfl) (by kernel_rfl) (fun _ _ _ h => h) (Or.inr ⟨by rfl, rfl⟩) hHeld ?_
                    try simp only [Act.put, List.setIfInBounds_toArray, List.set_cons_zero, List.set_cons_succ]
                    refine wpAnyH_take (i := 8) (oi := { dst := some 158, op := Op.move (Operand.tmp 10), type := 103, pos := "plain.go:167", after := #[{ on := 4, ground := Ground.guard }], guard := some (4, true) }) (v := undef) rfl (by kernel_rfl) (by kernel_rfl) (by kernel_rfl) (fun _ _ _ h => h) (Or.inr ⟨by rfl, rfl⟩) hHeld ?_
                    try simp only [Act.put, List.setIfInBounds_toArray, List.set_cons_zero, List.set_cons_succ]
                    refine wpAnyH_take (i := 9) (oi := { dst := some 159, op := Op.move (Operand.tmp 15), type := 3, pos := "plain.go:167", after := #[{ on := 4, ground := Ground.guard }], guard := some (4, true) }) (v := undef) rfl (by kernel_rfl) (by kernel_rfl) (by kernel_rfl) (fun _ _ _ h => h) (Or.inr ⟨by rfl, rfl⟩) hHeld ?_
                    try simp only [Act.put, List.setIfInBounds_toArray, List.set_cons_zero, List.set_cons_succ]
                    refine wpAnyH_take (i := 10) (oi := { dst := some 160, op := Op.indexAddr 103 (Operand.tmp 158) (Operand.tmp 159), type := 0, pos := "plain.go:167", after := #[{ on := 8, ground := Ground.data }, { on := 9, ground := Ground.data }, { on := 4, ground := Ground.guard }], guard := some (4, true) }) (v := undef) rfl (by kernel_rfl) (by kernel_rfl) (by kernel_rfl) (fun _ _ _ h => h) (Or.inr ⟨by rfl, rfl⟩) hHeld ?_
                    try simp only [Act.put, List.setIfInBounds_toArray, List.set_cons_zero, List.set_cons_succ]
                    refine wpAnyH_take (i := 11) (oi := { dst := some 161, op := Op.load 27 (Operand.tmp 160), type := 27, pos := "plain.go:167", after := #[{ on := 10, ground := Ground.data }, { on := 4, ground := Ground.guard }], guard := some (4, true) }) (v := undef) rfl (by kernel_rfl) (by kernel_rfl) (by kernel_rfl) (fun _ _ _ h => h) (Or.inr ⟨by rfl, rfl⟩) hHeld ?_
                    try simp only [Act.put, List.setIfInBounds_toArray, List.set_cons_zero, List.set_cons_succ]
                    refine wpAnyH_take (i := 12) (oi := { dst := some 162, op := Op.call { callee := Callee.value (Operand.func 23), args := #[Operand.tmp 161], argTypes := #[27] }, type := 27, pos := "plain.go:167", after := #[{ on := 11, ground := Ground.data }, { on := 4, ground := Ground.chain }, { on := 4, ground := Ground.guard }], guard := some (4, true) }) (v := undef) rfl (by kernel_rfl) (by kernel_rfl) (by kernel_rfl) (fun _ _ _ h => h) (Or.inr ⟨by rfl, rfl⟩) hHeld ?_
                    try simp only [Act.put, List.setIfInBounds_toArray, List.set_cons_zero, List.set_cons_succ]
                    refine wpAnyH_take (i := 13) (oi := { dst := some 163, op := Op.call { callee := Callee.value (Operand.func 30), args := #[Operand.tmp 155, Operand.tmp 156, Operand.tmp 157, Operand.tmp 162], argTypes := #[23, 3, 3, 27] }, type := 4, pos := "plain.go:167", after := #[{ on := 5, ground := Ground.data }, { on := 6, ground := Ground.data }, { on := 7, ground := Ground.data }, { on := 12, ground := Ground.data }, { on := 12, ground := Ground.chain }, { on := 4, ground := Ground.guard }], guard := some (4, true) }) (v := undef) rfl (by kernel_rfl) (by kernel_rfl) (by kernel_rfl) (fun _ _ _ h => h) (Or.inr ⟨by rfl, rfl⟩) hHeld ?_
                    try simp only [Act.put, List.setIfInBounds_toArray, List.set_cons_zero, List.set_cons_succ]
                    refine wpAnyH_take (i := 14) (oi := { dst := some 164, op := Op.pick (Operand.tmp 154) (Operand.tmp 163) (Operand.const (Value.bool false)), type := 4, pos := "plain.go:167", after := #[{ on := 4, ground := Ground.data }, { on := 13, ground := Ground.data }], guard := none }) (v := ?_) rfl (by kernel_rfl) (by kernel_rfl) (by kernel_rfl) (fun _ _ _ h => h) (Or.inl ⟨by rfl, ?hy⟩) hHeld ?_
                    case hy => (intro w hSw; (try dsimp only at hSw); obtain ⟨_, _, _, _⟩ := hSw; go_simp; all_goals (with_reducible rfl))
                    try simp only [Act.put, List.setIfInBounds_toArray, List.set_cons_zero, List.set_cons_succ]
                    refine wpAnyH_done (by kernel_rfl) ?_ _
                    go_wp2_with fail
                    go_meet
                    exact ⟨H, F, D, S, G, L, NN, R, rfl, hid (HM6.out.below (bel_drewN (Below.refl _ _) 1)), HI, by omega, HDONE⟩
                  | true =>
                    rw [hHa] at HKC
                    clear hHa
                    refine wp_region_held_drew (S := (fun wx : World => Below wx2.heap.size wx2 wx ∧ wx.cell? ⟨hb, ra, none⟩ = some (.bool true) ∧ wx.cell? ⟨gb, ra, none⟩ = some (.slice ga (L ra).length gc) ∧ (loadVar 23 ⟨ob, 0, none⟩).run Tryz.prog wx = .ok (.agg OB) wx)) (by kernel_rfl) (HKC.out _ (bel_drewN (Below.refl _ _) 1)) (fun hHeld => ?_)
                    refine wpAnyH_take (i := 0) (oi := { dst := some 150, op := Op.move (Operand.tmp 8), type := 102, pos := "plain.go:167", after := #[], guard := none }) (v := ?_) rfl (by kernel_rfl) (by kernel_rfl) (by kernel_rfl) (fun _ _ _ h => h) (Or.inl ⟨by rfl, ?hy⟩) hHeld ?_
                    case hy => (intro w hSw; (try dsimp only at hSw); obtain ⟨_, _, _, _⟩ := hSw; go_simp; all_goals (with_reducible rfl))
                    try simp only [Act.put, List.setIfInBounds_toArray, List.set_cons_zero, List.set_cons_succ]
                    refine wpAnyH_take (i := 1) (oi := { dst := some 151, op := Op.move (Operand.tmp 15), type := 3, pos := "plain.go:167", after := #[], guard := none }) (v := ?_) rfl (by kernel_rfl) (by kernel_rfl) (by kernel_rfl) (fun _ _ _ h => h) (Or.inl ⟨by rfl, ?hy⟩) hHeld ?_
                    case hy => (intro w hSw; (try dsimp only at hSw); obtain ⟨_, _, _, _⟩ := hSw; go_simp; all_goals (with_reducible rfl))
                    try simp only [Act.put, List.setIfInBounds_toArray, List.set_cons_zero, List.set_cons_succ]
                    refine wpAnyH_take (i := 2) (oi := { dst := some 152, op := Op.indexAddr 102 (Operand.tmp 150) (Operand.tmp 151), type := 0, pos := "plain.go:167", after := #[{ on := 0, ground := Ground.data }, { on := 1, ground := Ground.data }], guard := none }) (v := ?_) rfl (by kernel_rfl) (by kernel_rfl) (by kernel_rfl) (fun _ _ _ h => h) (Or.inl ⟨by rfl, ?hy⟩) hHeld ?_
                    case hy => (intro w hSw; (try dsimp only at hSw); obtain ⟨_, _, _, _⟩ := hSw; go_simp; all_goals (with_reducible rfl))
                    try simp only [Act.put, List.setIfInBounds_toArray, List.set_cons_zero, List.set_cons_succ]
                    refine wpAnyH_take (i := 3) (oi := { dst := some 153, op := Op.load 4 (Operand.tmp 152), type := 4, pos := "plain.go:167", after := #[{ on := 2, ground := Ground.data }], guard := none }) (v := ?_) rfl (by kernel_rfl) (by kernel_rfl) (by kernel_rfl) (fun _ _ _ h => h) (Or.inl ⟨by rfl, ?hy⟩) hHeld ?_
                    case hy => (intro w hSw; (try dsimp only at hSw); obtain ⟨_, _, _, _⟩ := hSw; go_simp; all_goals (with_reducible rfl))
                    try simp only [Act.put, List.setIfInBounds_toArray, List.set_cons_zero, List.set_cons_succ]
                    refine wpAnyH_take (i := 4) (oi := { dst := some 154, op := Op.move (Operand.tmp 153), type := 4, pos := "plain.go:167", after := #[{ on := 3, ground := Ground.data }], guard := none }) (v := ?_) rfl (by kernel_rfl) (by kernel_rfl) (by kernel_rfl) (fun _ _ _ h => h) (Or.inl ⟨by rfl, ?hy⟩) hHeld ?_
                    case hy => (intro w hSw; (try dsimp only at hSw); obtain ⟨_, _, _, _⟩ := hSw; go_simp; all_goals (with_reducible rfl))
                    try simp only [Act.put, List.setIfInBounds_toArray, List.set_cons_zero, List.set_cons_succ]
                    refine wpAnyH_take (i := 5) (oi := { dst := some 155, op := Op.load 23 (Operand.tmp 3), type := 23, pos := "plain.go:167", after := #[{ on := 4, ground := Ground.guard }], guard := some (4, true) }) (v := .agg OB) rfl (by kernel_rfl) (by kernel_rfl) (by kernel_rfl) (fun _ _ _ h => h) (Or.inl ⟨by rfl, ?hy⟩) hHeld ?_
                    case hy => (intro w hSw; exact run_load_opP hSw.2.2.2)
                    try simp only [Act.put, List.setIfInBounds_toArray, List.set_cons_zero, List.set_cons_succ]
                    refine wpAnyH_take (i := 6) (oi := { dst := some 156, op := Op.move (Operand.tmp 15), type := 3, pos := "plain.go:167", after := #[{ on := 4, ground := Ground.guard }], guard := some (4, true) }) (v := ?_) rfl (by kernel_rfl) (by kernel_rfl) (by kernel_rfl) (fun _ _ _ h => h) (Or.inl ⟨by rfl, ?hy⟩) hHeld ?_
                    case hy => (intro w hSw; (try dsimp only at hSw); obtain ⟨_, _, _, _⟩ := hSw; go_simp; all_goals (with_reducible rfl))
                    try simp only [Act.put, List.setIfInBounds_toArray, List.set_cons_zero, List.set_cons_succ]
                    refine wpAnyH_take (i := 7) (oi := { dst := some 157, op := Op.move (Operand.tmp 5), type := 3, pos := "plain.go:167", after := #[{ on := 4, ground := Ground.guard }], guard := some (4, true) }) (v := ?_) rfl (by kernel_rfl) (by kernel_rfl) (by kernel_rfl) (fun _ _ _ h => h) (Or.inl ⟨by rfl, ?hy⟩) hHeld ?_
                    case hy => (intro w hSw; (try dsimp only at hSw); obtain ⟨_, _, _, _⟩ := hSw; go_simp; all_goals (with_reducible rfl))
                    try simp only [Act.put, List.setIfInBounds_toArray, List.set_cons_zero, List.set_cons_succ]
                    refine wpAnyH_take (i := 8) (oi := { dst := some 158, op := Op.move (Operand.tmp 10), type := 103, pos := "plain.go:167", after := #[{ on := 4, ground := Ground.guard }], guard := some (4, true) }) (v := ?_) rfl (by kernel_rfl) (by kernel_rfl) (by kernel_rfl) (fun _ _ _ h => h) (Or.inl ⟨by rfl, ?hy⟩) hHeld ?_
                    case hy => (intro w hSw; (try dsimp only at hSw); obtain ⟨_, _, _, _⟩ := hSw; go_simp; all_goals (with_reducible rfl))
                    try simp only [Act.put, List.setIfInBounds_toArray, List.set_cons_zero, List.set_cons_succ]
                    refine wpAnyH_take (i := 9) (oi := { dst := some 159, op := Op.move (Operand.tmp 15), type := 3, pos := "plain.go:167", after := #[{ on := 4, ground := Ground.guard }], guard := some (4, true) }) (v := ?_) rfl (by kernel_rfl) (by kernel_rfl) (by kernel_rfl) (fun _ _ _ h => h) (Or.inl ⟨by rfl, ?hy⟩) hHeld ?_
                    case hy => (intro w hSw; (try dsimp only at hSw); obtain ⟨_, _, _, _⟩ := hSw; go_simp; all_goals (with_reducible rfl))
                    try simp only [Act.put, List.setIfInBounds_toArray, List.set_cons_zero, List.set_cons_succ]
                    refine wpAnyH_take (i := 10) (oi := { dst := some 160, op := Op.indexAddr 103 (Operand.tmp 158) (Operand.tmp 159), type := 0, pos := "plain.go:167", after := #[{ on := 8, ground := Ground.data }, { on := 9, ground := Ground.data }, { on := 4, ground := Ground.guard }], guard := some (4, true) }) (v := ?_) rfl (by kernel_rfl) (by kernel_rfl) (by kernel_rfl) (fun _ _ _ h => h) (Or.inl ⟨by rfl, ?hy⟩) hHeld ?_
                    case hy => (intro w hSw; (try dsimp only at hSw); obtain ⟨_, _, _, _⟩ := hSw; go_simp; all_goals (with_reducible rfl))
                    try simp only [Act.put, List.setIfInBounds_toArray, List.set_cons_zero, List.set_cons_succ]
                    refine wpAnyH_take (i := 11) (oi := { dst := some 161, op := Op.load 27 (Operand.tmp 160), type := 27, pos := "plain.go:167", after := #[{ on := 10, ground := Ground.data }, { on := 4, ground := Ground.guard }], guard := some (4, true) }) (v := ?_) rfl (by kernel_rfl) (by kernel_rfl) (by kernel_rfl) (fun _ _ _ h => h) (Or.inl ⟨by rfl, ?hy⟩) hHeld ?_
                    case hy => (intro w hSw; (try dsimp only at hSw); obtain ⟨_, _, _, _⟩ := hSw; go_simp; all_goals (with_reducible rfl))
                    try simp only [Act.put, List.setIfInBounds_toArray, List.set_cons_zero, List.set_cons_succ]
                    refine wpAnyH_ready (rs := [12]) (by kernel_rfl) (by simp) ?_
                    refine AllReadyH.cons (o := { dst := some 162, op := Op.call { callee := Callee.value (Operand.func 23), args := #[Operand.tmp 161], argTypes := #[27] }, type := 27, pos := "plain.go:167", after := #[{ on := 11, ground := Ground.data }, { on := 4, ground := Ground.chain }, { on := 4, ground := Ground.guard }], guard := some (4, true) }) rfl (fun K hK => ?_) AllReadyH.nil
                    go_simp
                    refine (HIN.out _ hHeld.1).mono ?_
                    rintro e wx8 ⟨ia8, ic8, rfl, hi8, hc8, hn8, hl8, hb8⟩
                    have G8 := hHeld.1.trans (hb8.mono hHeld.1.size)
                    have HI8 := hid hi8
                    clear hi8 hc8 hn8 hl8 hb8
                    clear hHeld
                    go_wp2_with fail
                    refine hK.out _ _ (HKC.out _ G8) (fun hHeld => ?_)
                    clear hK K
                    try simp only [Act.put, List.setIfInBounds_toArray, List.set_cons_zero, List.set_cons_succ]
                    refine wpAnyH_ready (rs := [13]) (by kernel_rfl) (by simp) ?_
                    refine AllReadyH.cons (o := { dst := some 163, op := Op.call { callee := Callee.value (Operand.func 30), args := #[Operand.tmp 155, Operand.tmp 156, Operand.tmp 157, Operand.tmp 162], argTypes := #[23, 3, 3, 27] }, type := 4, pos := "plain.go:167", after := #[{ on := 5, ground := Ground.data }, { on := 6, ground := Ground.data }, { on := 7, ground := Ground.data }, { on := 12, ground := Ground.data }, { on := 12, ground := Ground.chain }, { on := 4, ground := Ground.guard }], guard := some (4, true) }) rfl (fun K hK => ?_) AllReadyH.nil
                    go_simp
                    refine (HCV.out _ G8 ia8 ic8 HI8.out).mono ?_
                    rintro e wx9 ⟨rfl, hb9⟩
                    have G9 := G8.trans (hb9.mono G8.size)
                    clear hb9
                    clear hHeld
                    go_wp2_with fail
                    refine hK.out _ _ (HKC.out _ G9) (fun hHeld => ?_)
                    clear hK K
                    try simp only [Act.put, List.setIfInBounds_toArray, List.set_cons_zero, List.set_cons_succ]
                    refine wpAnyH_take (i := 14) (oi := { dst := some 164, op := Op.pick (Operand.tmp 154) (Operand.tmp 163) (Operand.const (Value.bool false)), type := 4, pos := "plain.go:167", after := #[{ on := 4, ground := Ground.data }, { on := 13, ground := Ground.data }], guard := none }) (v := ?_) rfl (by kernel_rfl) (by kernel_rfl) (by kernel_rfl) (fun _ _ _ h => h) (Or.inl ⟨by rfl, ?hy⟩) hHeld ?_
                    case hy => (intro w hSw; (try dsimp only at hSw); obtain ⟨_, _, _, _⟩ := hSw; go_simp; all_goals (with_reducible rfl))
                    try simp only [Act.put, List.setIfInBounds_toArray, List.set_cons_zero, List.set_cons_succ]
                    refine wpAnyH_done (by kernel_rfl) ?_ _
                    have HM9 := hid (HM6.out.below G9)
                    have cH9 := HM9.out.hel.cell ra hra
                    have fH9 := HM9.out.hel.free ra
                    clear G8 G9 hHeld HI8 HKC
                    cases C with
                    | false =>
                      go_wp2_with fail
                      go_meet
                      exact ⟨H, F, D, S, G, L, NN, R, rfl, HM9, HI, by omega, HDONE⟩
                    | true =>
                      go_wp2_with fail
                      go_meet
                      exact ⟨_, F, _, S, G, L, NN, true, rfl, hid (HM9.out.setH ra false), hid (HDROP.out (by first | exact rfl | trivial)), by omega, HDONE⟩
                by_cases k4 : KD = 4
                · subst k4
                  go_wp2_with fail
                  go_meet
                  exact ⟨_, F, D, _, G, L, NN, R, rfl, hid (HM6.out.setH ra true), hid (HI.out.get ra hra), by omega, HDONE⟩
                by_cases k5 : KD = 5
                · subst k5
                  have c2 := (HM6.out.setH ra false).fau.cell ra hra
                  have f2 := (HM6.out.setH ra false).fau.free ra
                  go_wp2_with fail
                  go_meet
                  exact ⟨_, _, D, S, G, L, NN, R, rfl, hid ((HM6.out.setH ra false).setF ra true), hid (HI.out.fault ra), by omega, HDONE⟩
                by_cases k6 : KD = 6
                · subst k6
                  go_wp2_with fail
                  go_meet
                  exact ⟨H, F, D, S, _, _, NN, R, rfl, hid (HM6.out.setG ra (.slice none 0 0) [] ⟨rfl, .inl ⟨rfl, rfl⟩⟩ (fun j _ _ q hq => by cases hq)), hid (HI.out.forget ra), by omega, hid (upd_len HLL.out ra [] (by simp))⟩
                go_wp2_with fail
                go_meet
                exact ⟨H, F, D, S, G, L, NN, R, rfl, HM6, HI, by omega, HDONE⟩
            case rest =>
              have hJ := HJ.out
              subst hJ
              clear HM HI HLL HJ
              obtain ⟨H, F, D, S, G, L, NN, R, rfl, HM, HI, hNl, HLL⟩ := hcut
              obtain ⟨wd, rfl⟩ : ∃ y, y = wc := ⟨wc, rfl⟩
              go_wp2_with fail
              go_loopw [18, 19, 20] (fun hv fv iv wx => ∃ q : Nat, q ≤ k ∧ iv = .int .i64 q ∧ hv = .int .i64 ((cnt H q : Nat) : Int) ∧ fv = .int .i64 ((cnt F q : Nat) : Int) ∧ Hid (wx = wd)) (fun _ _ iv _ => k - (intOf iv).toNat)
              case atStart => exact ⟨0, by omega, rfl, rfl, rfl, hid rfl⟩
              case round =>
                obtain ⟨q, hq, rfl, rfl, rfl, HW⟩ := hrel
                have hw := HW.out
                subst hw
                have hch := cnt_le H q
                have hcf := cnt_le F q
                by_cases hqk : q < k
                · as_aux_lemma =>
                  have hqk' : (q : Int) < (k : Int) := by omega
                  have c1 := HM.out.hel.cell q hqk
                  have c2 := HM.out.fau.cell q hqk
                  have HS1 := hid (cnt_succ H q)
                  have HS2 := hid (cnt_succ F q)
                  generalize cnt H q = x at *
                  generalize cnt F q = y at *
                  generalize H q = Hq at *
                  generalize F q = Fq at *
                  cases Hq <;> cases Fq
                  all_goals
                    go_wp2_with fail
                    exact ⟨⟨q + 1, by omega, by go_num, by rw [HS1.out]; go_num, by rw [HS2.out]; go_num, hid (by trivial)⟩, by simp [intOf]; omega⟩
                · obtain rfl : q = k := by omega
                  have hqq : ¬ (q : Int) < (q : Int) := by omega
                  have HSF := hid (fun h => HI.out.safe (by omega) h)
                  have HRE := hid HI.out.reach
                  generalize cnt H q = x at *
                  generalize cnt F q = y at *
                  by_cases hx : N ≤ (x : Int)
                  · have hs := HSF.out (.inr hx)
                    have hd : (R || decide (N ≤ (x : Int))) = true := by simp [hx]
                    rw [hd] at HRE
                    clear HSF hd HI
                    cases R
                    all_goals
                      go_wp2_with fail
                      exact ⟨⟨m + 1, H, F, D, S, G, L, NN, _, by omega, by go_num, rfl, HM, HRE, hNl, HLL.out⟩, by simp [intOf]; omega⟩
                  · have hd : (R || decide (N ≤ (x : Int))) = R := by simp [hx]
                    rw [hd] at HRE
                    cases R with
                    | true =>
                      have hs := HSF.out (.inl rfl)
                      clear HSF hd HI
                      go_wp2_with fail
                      exact ⟨⟨m + 1, H, F, D, S, G, L, NN, _, by omega, by go_num, rfl, HM, HRE, hNl, HLL.out⟩, by simp [intOf]; omega⟩
                    | false =>
                      clear HSF hd HI
                      go_wp2_with fail
                      exact ⟨⟨m + 1, H, F, D, S, G, L, NN, _, by omega, by go_num, rfl, HM, HRE, hNl, HLL.out⟩, by simp [intOf]; omega⟩
          · have hmn' : ¬ (m : Int) - 1 < (n3 : Int) := by omega
            go_wp2_with fail
            refine (HEND.out _ HM.out.bel).mono ?_
            rintro e w9 ⟨rfl, hb9⟩
            go_wp2_with fail
            go_ret
            exact ⟨rfl, hb9⟩
end Go.Proofs.YtjgiiciniplbnaaGreatDoor

namespace Go.Proofs.YtjgiiciniplbnaaGreatDoor.placeSafe
open Go.ChangeShapes Go.WideShapes Go.ChangeAt Go.RowKit Go.WideMaps Go.WideElems
open Go.ChangeMaps (open_string shut_string)
set_option linter.unusedVariables false

set_option maxRecDepth 100000 in
theorem lifted (os : Os) (started : os.Started) (H : Type) (enc : TypeId × Value → H) :
    ReturnsInHanded {} Tryz.checked os 11 .any (fun w args => (Rows.placeSafeSpec.pre enc Tryz.prog Tryz.f11 [] false w args ∧ laidMetH Tryz.prog laidA w) ∧ sizedMet enc Tryz.prog Tryz.f11 (OpenSpec.ofChange Rows.placeSafeSpec) false w args)
      (Rows.placeSafeSpec.post enc Tryz.prog Tryz.f11 false true false false) := by
  refine returnsInHanded_of_change_and (C := Tryz.checked) (X := fun w _ => laidMetH Tryz.prog laidA w) (fun _ _ _ hh h => h.of_heap hh) ownD started (by kernel_rfl) Tryz.func11
    (ChangeSpec.witness_shaped (enc := enc) (C := Tryz.checked) (os := os) (X := fun w _ => laidMetH Tryz.prog laidA w) false (World.doorLaid Tryz.prog 24 os) #[.agg (u8s (List.replicate 32 0) ++ ([.int .i64 0, .int .i64 0, .slice none 0 0, .slice none 0 0] : List Value)).toArray] 8 rfl (World.shaped_of_RefB (by kernel_rfl) (by kernel_rfl)) (by kernel_rfl) (by kernel_rfl) (by kernel_rfl) (door_metA os _)) ?_
  intro W base args ds gs before hval0 hW _ _ hL _
  have hval : ∀ (j : Nat) t v, Tryz.f11.params[j]? = some t → args[j]? = some v → Value.okWide Tryz.prog W .any base t v := hval0
  have hW' := hW
  obtain ⟨p, q, hA0, hV, rfl, hfz, hnd⟩ := hW
  have hA : DataW.TrodAll enc Tryz.prog W 0 (fun _ => true) true Tryz.f11.params.toList args.toList ds p := hA0
  rw [Tryz.params11] at hA hval
  obtain ⟨v0, vs0, d0, ds0, p0, q0, hargs, rfl, rfl, h0, r0⟩ := trodAll_cons hA
  obtain ⟨rfl, rfl, rfl⟩ := trodAll_nil r0
  obtain rfl : args = #[v0] := by cases args; simp_all
  obtain ⟨rfl, rfl⟩ := trodVars_none hV
  have k0 := h0
  have lt0 : ∀ x ∈ p0, x.block < W.heap.size := by obtain ⟨m, hm⟩ := k0; exact DataW.trod_lt m _ _ _ hm
  obtain ⟨od0, sx0, sy0, sa0, sn0, sc0, sl0, ea0, en0, ec0, ee0, ef0, eg0, rfl, vo0, vl0, vx0, vy0, vi0, ve0⟩ := open_swarm (hval 0 101 v0 rfl rfl) h0
  clear hA0 hval0
  refine (safe_walk W (vars_of_laid hL) od0 sx0 sy0 sa0 sn0 sc0 sl0 ea0 en0 ec0 ee0 ef0 eg0 vo0 vl0 vx0 vy0 vi0 ve0).mono fun e W' ⟨he, bel⟩ => ?_
  subst he
  exact ⟨_, rfl, _, _, _, [], _, [], hW', trodAll_mk1 (shut_bool Tryz.underlying4 _), (trodAll_cons_mk (Below.trod Facts.laidOut (by kernel_rfl) (of_decide_eq_true (by kernel_rfl)) k0 bel lt0) trodAll_mk0), rfl, bel.frame _, fun h => by cases h⟩

set_option maxHeartbeats 4000000 in
set_option maxRecDepth 1000000 in
theorem closed : joinedFacts Tryz.pinned.checked.prog 11 Tryz.f11 Rows.placeSafeSpec Rows.placeSafeRow = true := by
  unfold joinedFacts
  refine (Facts.and2 (Facts.and2 (Facts.and2 (Facts.and2 (Facts.and2 (Facts.and2 (Facts.and2 (Facts.and2 (Facts.and2 (Facts.and2 (Facts.and2 (Facts.and2 (Facts.and2 (Facts.and2 (Facts.and2 (Facts.and2 (Facts.and2 (Facts.and2 (Facts.and2 (Facts.and2 (Facts.and2 (Facts.and2 (Facts.and2 (Facts.and2 (Facts.and2 (Facts.and2 (Facts.and2 (Facts.and2 (Facts.and2 (Facts.and2 (Facts.and2 ?_ Facts.laidOut) Facts.mapsR) ?_) ?_) ?_) Facts.stops) ?_) Facts.knobs) ?_) ?_) ?_) ?_) ?_) ?_) ?_) ?_) ?_) ?_) ?_) ?_) ?_) Facts.keys) ?_) Facts.heard) Facts.enter) ?_) ?_) ?_) ?_) ?_) ?_)
  all_goals (as_aux_lemma => kernel_rfl)

theorem over : Rows.placeSafeRow.holds Tryz.pinned (OpenSpec.ofChange Rows.placeSafeSpec) :=
  OpenClaim.holds_of_wide 11 Tryz.f11 rfl rfl rfl rfl rfl rfl rfl ⟨rfl, rfl, rfl, rfl, rfl⟩ rfl rfl rfl rfl rfl (by as_aux_lemma => kernel_rfl) Tryz.func11 closed
    (of_decide_eq_true (by as_aux_lemma => kernel_rfl)) (by unfold Func.isWrapper; first | (rw [if_pos (by decide +kernel)]; kernel_rfl) | (rw [if_neg (by decide +kernel)]; exact ⟨rfl, rfl⟩))
    (fun os started H enc _ => lifted os started H enc)
end Go.Proofs.YtjgiiciniplbnaaGreatDoor.placeSafe
namespace Go.Proofs.YtjgiiciniplbnaaGreatDoor
open Go
set_option maxHeartbeats 4000000 in
set_option maxRecDepth 1000000 in
theorem placeSafe_holds : Rows.PlaceSafeCardSaid :=
  Claim7.holds_tied_plain_at .later [] [.data, .data] true (true, "4a085e94ccebdf24e9b63843c722f4a968f2e6f610b760c9b6f284c344973c54") false
    placeSafe.over (fun _ h => by cases h) (by as_aux_lemma => kernel_rfl) (fun _ h => by cases h) placeSafe_row_tie rfl ⟨rfl, rfl⟩ (by as_aux_lemma => kernel_rfl) rfl
    (fun f fn hf hfn => by
      obtain rfl : f = 11 := Option.some.inj ((show Tryz.prog.funcNamed "stolon/stolonlaw07.PlaceSafe" = some 11 by as_aux_lemma => kernel_rfl).symm.trans hf) |>.symm
      obtain rfl : fn = Tryz.f11 := (Option.some.inj (Tryz.func11.symm.trans hfn)).symm
      exact ⟨by as_aux_lemma => kernel_rfl, fun j t ht => by
        rw [Tryz.params11] at ht
        rcases j with _ | j
        · obtain rfl : t = 101 := by simpa using ht.symm
          exact (show Tryz.prog.wantsStandIn 101 = false by as_aux_lemma => kernel_rfl)
        · simp at ht⟩)
    (by as_aux_lemma => kernel_rfl)
#print axioms placeSafe_holds
end Go.Proofs.YtjgiiciniplbnaaGreatDoor
