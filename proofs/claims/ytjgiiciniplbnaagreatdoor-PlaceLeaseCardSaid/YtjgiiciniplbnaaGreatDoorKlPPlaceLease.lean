/-
  PlaceLease: for every input the call returns true, and each argument reads behind it as before; the listed variables hold what the program's text lays (tied). No other condition.
-/
import Derived.Test.YtjgiiciniplbnaaGreatDoorKl1
import Derived.Deep.DeepCutAuto
import Derived.Test.YtjgiiciniplbnaaGreatDoorKa3
import Derived.Test.YtjgiiciniplbnaaGreatDoorCards
import Derived.Test.YtjgiiciniplbnaaGreatDoorTie
import Derived.ShutString
import Derived.ChangeOld
import Derived.Below
namespace Go.Proofs.YtjgiiciniplbnaaGreatDoor
open Go Go.RowKit Go.Lib Go.Sort
open Go.Maps (Keyed)
set_option linter.unusedVariables false

theorem Cl1.below {w w' : World} {cb ob ib : Nat} {kl : Lit} {p : Nat} {t : Int} (h : Cl1 w cb ob ib kl p t) (b : Below w.heap.size w w') : Cl1 w' cb ob ib kl p t :=
  ⟨(b.block cb (lt_of_heap h.blk)).trans h.blk, ownsMap_below h.out b, ownsMap_below h.inn b, h.ne1, h.ne2, h.ne3⟩
theorem cmpP_self (obj : List Nat) (a : Int) : decide (cmpP obj a a < 0) = false := by
  have h : cmpP obj a a = 0 := cmpRk_self _ _
  rw [h]
  rfl
theorem is_nilI (w : World) : Is w (.slice none 0 0) [] := ⟨none, 0, rfl, fun n h => absurd h List.not_mem_nil, fun h => absurd rfl h⟩
theorem lease_1 (obj : List Nat) (p : Nat) (t m x1 : Int) (h0 : 0 ≤ m) : blkd obj p t x1 (t + m) [(p : Int), x1] [] = (decide (m < 12) && decide (cmpP obj (p : Int) x1 < 0)) := by
  have e1 : decide (t ≤ t + m) = true := decide_eq_true (by omega)
  have e2 : t + m - t = m := by omega
  have e3 : setL [(p : Int), x1] p = true := by simp [setL]
  have e4 : setL [] p = false := rfl
  unfold blkd
  rw [e1, e2, e3, e4]
  simp
theorem lease_2 (obj : List Nat) (p : Nat) (t m x1 : Int) : blkd obj p t x1 (t + m) [x1] [] = false := by
  unfold blkd
  by_cases e : x1 = (p : Int)
  · rw [e, cmpP_self]
    simp
  · have e3 : setL [x1] p = false := by simp [setL]; exact fun h => e h.symm
    rw [e3]
    simp
theorem lease_3 (obj : List Nat) (p : Nat) (t m x1 : Int) : blkd obj p t x1 (t + m) [(p : Int), x1] [(p : Int)] = false := by
  have e3 : setL [(p : Int)] p = true := by simp [setL]
  unfold blkd
  rw [e3]
  simp
theorem lease_4 (obj : List Nat) (p : Nat) (t m x1 : Int) : blkd obj p t (p : Int) (t + m) [(p : Int), x1] [] = false := by
  unfold blkd
  rw [cmpP_self]
  simp
theorem lease_c (t m : Int) (h0 : 0 ≤ m) : curr t (t + m) = decide (m < 12) := by
  have e1 : decide (t ≤ t + m) = true := decide_eq_true (by omega)
  have e2 : t + m - t = m := by omega
  unfold curr
  rw [e1, e2]
  simp
theorem one_keys (p : Nat) (d : DataW Unit) : intKeys ((DataW.map []).put (.int .i64 (p : Int)) d) = [(p : Int)] := rfl
set_option maxRecDepth 100000 in
set_option maxHeartbeats 16000000 in
theorem le_walk (w : World) (V : Vars w shaRound shaStart) (obj : List Nat) (x0 x1 x2 x3 : Int) (ho : obj.length = 32) (hlt : ∀ x ∈ obj, x < 256) (hx0 : (Lit.int .i64 x0).wf = true) (hx1 : (Lit.int .i64 x1).wf = true) (hx2 : (Lit.int .u64 x2).wf = true) (hx3 : (Lit.int .u64 x3).wf = true) :
    Calls Tryz.prog 12 #[.agg (u8s obj ++ ([.int .i64 x0, .int .i64 x1, .int .u64 x2, .int .u64 x3] : List Value)).toArray] w fun e w' => e = .returned (.bool true) ∧ Below w.heap.size w w' := by
  obtain ⟨w1, hw1⟩ : ∃ y, y = w.alloc (.cells (u8s obj ++ ([.int .i64 x0, .int .i64 x1, .int .u64 x2, .int .u64 x3] : List Value)).toArray 111) := ⟨_, rfl⟩
  have hb1 : Below w.heap.size w w1 := by rw [hw1]; exact (Below.refl _ _).alloc (Nat.le_refl _) _
  have HRX := hid (show w1.heap[w.heap.size]? = some (.cells (u8s obj ++ ([.int .i64 x0, .int .i64 x1, .int .u64 x2, .int .u64 x3] : List Value)).toArray 111 (0, 0)) from by rw [hw1]; exact heap_new _ _)
  have HB1 := hid hb1
  have HW1 := hid hw1
  have HO := hid ho
  have HLT := hid hlt
  have HIFS := hid (infoDA obj ho)
  have HIZ := hid (zeroDA obj ho)
  have HONE := hid (oneDA obj)
  have HIF := hid (infoD obj ho)
  obtain ⟨kl, hkl⟩ := key_dig obj ho hlt
  have HKL := hid hkl
  obtain ⟨h2a, h2b⟩ : 0 ≤ x2 ∧ x2 < 18446744073709551616 := by
    have e1 : IntKind.u64.min = 0 := rfl
    have e2 : IntKind.u64.max = 18446744073709551615 := rfl
    simp only [Lit.wf, Bool.and_eq_true, decide_eq_true_eq] at hx2
    omega
  obtain ⟨h3a, h3b⟩ : 0 ≤ x3 ∧ x3 < 18446744073709551616 := by
    have e1 : IntKind.u64.min = 0 := rfl
    have e2 : IntKind.u64.max = 18446744073709551615 := rfl
    simp only [Lit.wf, Bool.and_eq_true, decide_eq_true_eq] at hx3
    omega
  have HEND := hid (fun (wx : World) (h : Below w.heap.size w wx) => (known_pl wx (V.below h)).mono fun e w' (q : e = .returned (.bool true) ∧ Below wx.heap.size wx w') => (⟨q.1, h.trans (q.2.mono h.size)⟩ : e = .returned (.bool true) ∧ Below w.heap.size w w'))
  have HV := hid V
  obtain ⟨OB, hOB⟩ : ∃ y, y = (u8s obj).toArray := ⟨_, rfl⟩
  rw [← hOB] at HIFS HIZ HONE
  have HOBE := hid hOB
  clear V hb1 hw1 hkl hOB hx0 hx1 hx2 hx3
  go_enter Tryz.func12, Tryz.ntmps12
  go_upto_region 1 with fail
  rw [← HW1.out]
  clear HW1
  have HKP := hid (show ∀ wx, Below w1.heap.size w1 wx → (fun wx => Below w1.heap.size w1 wx ∧ wx.cell? ⟨w.heap.size, 32, none⟩ = some (.int .i64 x0) ∧ wx.cell? ⟨w.heap.size, 33, none⟩ = some (.int .i64 x1) ∧ wx.cell? ⟨w.heap.size, 34, none⟩ = some (.int .u64 x2) ∧ wx.cell? ⟨w.heap.size, 35, none⟩ = some (.int .u64 x3) ∧ (loadVar 23 ⟨w.heap.size, 0, none⟩).run Tryz.prog wx = .ok (.agg OB) wx) wx from fun wx hx => by
    have hr := (hx.block w.heap.size (lt_of_heap HRX.out)).trans HRX.out
    rw [HOBE.out]
    exact ⟨hx, box_cell hr HO.out 0 _ rfl, box_cell hr HO.out 1 _ rfl, box_cell hr HO.out 2 _ rfl, box_cell hr HO.out 3 _ rfl, box_dig hr HO.out⟩)
  refine wp_region_held_drew (S := (fun wx => Below w1.heap.size w1 wx ∧ wx.cell? ⟨w.heap.size, 32, none⟩ = some (.int .i64 x0) ∧ wx.cell? ⟨w.heap.size, 33, none⟩ = some (.int .i64 x1) ∧ wx.cell? ⟨w.heap.size, 34, none⟩ = some (.int .u64 x2) ∧ wx.cell? ⟨w.heap.size, 35, none⟩ = some (.int .u64 x3) ∧ (loadVar 23 ⟨w.heap.size, 0, none⟩).run Tryz.prog wx = .ok (.agg OB) wx)) (by kernel_rfl) (HKP.out _ (bel_drewN (Below.refl _ _) 1)) (fun hHeld => ?_)
  refine wpAnyH_take (i := 0) (oi := { dst := some 12, op := Op.fieldAddr 111 (Operand.tmp 1) 0, type := 0, pos := "plain.go:204", after := #[], guard := none }) (v := ?_) rfl (by kernel_rfl) (by kernel_rfl) (by kernel_rfl) (fun _ _ _ h => h) (Or.inl ⟨by rfl, ?hy⟩) hHeld ?_
  case hy => (intro w hSw; (try dsimp only at hSw); obtain ⟨_, _, _, _, _, _⟩ := hSw; go_simp; all_goals (with_reducible rfl))
  try simp only [Act.put, List.setIfInBounds_toArray, List.set_cons_zero, List.set_cons_succ]
  refine wpAnyH_take (i := 1) (oi := { dst := some 13, op := Op.load 23 (Operand.tmp 12), type := 23, pos := "plain.go:204", after := #[{ on := 0, ground := Ground.data }], guard := none }) (v := .agg OB) rfl (by kernel_rfl) (by kernel_rfl) (by kernel_rfl) (fun _ _ _ h => h) (Or.inl ⟨by rfl, ?hy⟩) hHeld ?_
  case hy => (intro w hSw; exact run_load_opP hSw.2.2.2.2.2)
  try simp only [Act.put, List.setIfInBounds_toArray, List.set_cons_zero, List.set_cons_succ]
  refine wpAnyH_take (i := 2) (oi := { dst := some 14, op := Op.fieldAddr 111 (Operand.tmp 1) 1, type := 0, pos := "plain.go:204", after := #[{ on := 11, ground := Ground.gcOnly Departure.lateStores }], guard := none }) (v := ?_) rfl (by kernel_rfl) (by kernel_rfl) (by kernel_rfl) (fun _ _ _ h => h) (Or.inl ⟨by rfl, ?hy⟩) hHeld ?_
  case hy => (intro w hSw; (try dsimp only at hSw); obtain ⟨_, _, _, _, _, _⟩ := hSw; go_simp; all_goals (with_reducible rfl))
  try simp only [Act.put, List.setIfInBounds_toArray, List.set_cons_zero, List.set_cons_succ]
  refine wpAnyH_take (i := 3) (oi := { dst := some 15, op := Op.load 3 (Operand.tmp 14), type := 3, pos := "plain.go:204", after := #[{ on := 2, ground := Ground.data }, { on := 11, ground := Ground.gcOnly Departure.lateStores }], guard := none }) (v := ?_) rfl (by kernel_rfl) (by kernel_rfl) (by kernel_rfl) (fun _ _ _ h => h) (Or.inl ⟨by rfl, ?hy⟩) hHeld ?_
  case hy => (intro w hSw; (try dsimp only at hSw); obtain ⟨_, _, _, _, _, _⟩ := hSw; go_simp; all_goals (with_reducible rfl))
  try simp only [Act.put, List.setIfInBounds_toArray, List.set_cons_zero, List.set_cons_succ]
  refine wpAnyH_take (i := 4) (oi := { dst := some 16, op := Op.fieldAddr 111 (Operand.tmp 1) 2, type := 0, pos := "plain.go:204", after := #[{ on := 12, ground := Ground.gcOnly Departure.lateStores }], guard := none }) (v := ?_) rfl (by kernel_rfl) (by kernel_rfl) (by kernel_rfl) (fun _ _ _ h => h) (Or.inl ⟨by rfl, ?hy⟩) hHeld ?_
  case hy => (intro w hSw; (try dsimp only at hSw); obtain ⟨_, _, _, _, _, _⟩ := hSw; go_simp; all_goals (with_reducible rfl))
  try simp only [Act.put, List.setIfInBounds_toArray, List.set_cons_zero, List.set_cons_succ]
  refine wpAnyH_take (i := 5) (oi := { dst := some 17, op := Op.load 3 (Operand.tmp 16), type := 3, pos := "plain.go:204", after := #[{ on := 4, ground := Ground.data }, { on := 12, ground := Ground.gcOnly Departure.lateStores }], guard := none }) (v := ?_) rfl (by kernel_rfl) (by kernel_rfl) (by kernel_rfl) (fun _ _ _ h => h) (Or.inl ⟨by rfl, ?hy⟩) hHeld ?_
  case hy => (intro w hSw; (try dsimp only at hSw); obtain ⟨_, _, _, _, _, _⟩ := hSw; go_simp; all_goals (with_reducible rfl))
  try simp only [Act.put, List.setIfInBounds_toArray, List.set_cons_zero, List.set_cons_succ]
  refine wpAnyH_take (i := 6) (oi := { dst := some 18, op := Op.fieldAddr 111 (Operand.tmp 1) 3, type := 0, pos := "plain.go:204", after := #[{ on := 13, ground := Ground.gcOnly Departure.lateStores }], guard := none }) (v := ?_) rfl (by kernel_rfl) (by kernel_rfl) (by kernel_rfl) (fun _ _ _ h => h) (Or.inl ⟨by rfl, ?hy⟩) hHeld ?_
  case hy => (intro w hSw; (try dsimp only at hSw); obtain ⟨_, _, _, _, _, _⟩ := hSw; go_simp; all_goals (with_reducible rfl))
  try simp only [Act.put, List.setIfInBounds_toArray, List.set_cons_zero, List.set_cons_succ]
  refine wpAnyH_take (i := 7) (oi := { dst := some 19, op := Op.load 43 (Operand.tmp 18), type := 43, pos := "plain.go:204", after := #[{ on := 6, ground := Ground.data }, { on := 13, ground := Ground.gcOnly Departure.lateStores }], guard := none }) (v := ?_) rfl (by kernel_rfl) (by kernel_rfl) (by kernel_rfl) (fun _ _ _ h => h) (Or.inl ⟨by rfl, ?hy⟩) hHeld ?_
  case hy => (intro w hSw; (try dsimp only at hSw); obtain ⟨_, _, _, _, _, _⟩ := hSw; go_simp; all_goals (with_reducible rfl))
  try simp only [Act.put, List.setIfInBounds_toArray, List.set_cons_zero, List.set_cons_succ]
  refine wpAnyH_take (i := 8) (oi := { dst := some 20, op := Op.fieldAddr 111 (Operand.tmp 1) 4, type := 0, pos := "plain.go:204", after := #[{ on := 14, ground := Ground.gcOnly Departure.lateStores }], guard := none }) (v := ?_) rfl (by kernel_rfl) (by kernel_rfl) (by kernel_rfl) (fun _ _ _ h => h) (Or.inl ⟨by rfl, ?hy⟩) hHeld ?_
  case hy => (intro w hSw; (try dsimp only at hSw); obtain ⟨_, _, _, _, _, _⟩ := hSw; go_simp; all_goals (with_reducible rfl))
  try simp only [Act.put, List.setIfInBounds_toArray, List.set_cons_zero, List.set_cons_succ]
  refine wpAnyH_take (i := 9) (oi := { dst := some 21, op := Op.load 43 (Operand.tmp 20), type := 43, pos := "plain.go:204", after := #[{ on := 8, ground := Ground.data }, { on := 14, ground := Ground.gcOnly Departure.lateStores }], guard := none }) (v := ?_) rfl (by kernel_rfl) (by kernel_rfl) (by kernel_rfl) (fun _ _ _ h => h) (Or.inl ⟨by rfl, ?hy⟩) hHeld ?_
  case hy => (intro w hSw; (try dsimp only at hSw); obtain ⟨_, _, _, _, _, _⟩ := hSw; go_simp; all_goals (with_reducible rfl))
  try simp only [Act.put, List.setIfInBounds_toArray, List.set_cons_zero, List.set_cons_succ]
  refine wpAnyH_ready (rs := [10]) (by kernel_rfl) (by simp) ?_
  refine AllReadyH.cons (o := { dst := some 3, op := Op.alloc 23, type := 0, pos := "plain.go:204", after := #[], guard := none }) rfl (fun K hK => ?_) AllReadyH.nil
  go_simp
  refine hK.out _ _ (HKP.out _ ((bel_drewN (Below.refl w1.heap.size w1) 1).alloc (by simp) _)) (fun hHeld => ?_)
  clear hK K
  try simp only [Act.put, List.setIfInBounds_toArray, List.set_cons_zero, List.set_cons_succ]
  refine wpAnyH_ready (rs := [11]) (by kernel_rfl) (by simp) ?_
  refine AllReadyH.cons (o := { dst := none, op := Op.store 23 (Operand.tmp 3) (Operand.tmp 13), type := 0, pos := "plain.go:204", after := #[{ on := 10, ground := Ground.data }, { on := 1, ground := Ground.data }, { on := 0, ground := Ground.phase }, { on := 1, ground := Ground.phase }, { on := 2, ground := Ground.textOnly Departure.lateStores }, { on := 3, ground := Ground.textOnly Departure.lateStores }, { on := 4, ground := Ground.textOnly Departure.lateStores }, { on := 5, ground := Ground.textOnly Departure.lateStores }, { on := 6, ground := Ground.textOnly Departure.lateStores }, { on := 7, ground := Ground.textOnly Departure.lateStores }, { on := 8, ground := Ground.textOnly Departure.lateStores }, { on := 9, ground := Ground.textOnly Departure.lateStores }, { on := 10, ground := Ground.phase }], guard := none }) rfl (fun K hK => ?_) AllReadyH.nil
  refine step_store_row rfl 23 (.tmp 3) (.tmp 13) rfl w1.heap.size (u8s (List.replicate 32 0)).toArray OB 23 rfl rfl (heap_new _ _) HIFS.out HIZ.out HONE.out ?_
  intro w3 hw3 hk3
  have HOB := hid (show OwnD w3 w1.heap.size obj from by rw [HOBE.out] at hw3; exact hw3)
  have HB3 := hid (((bel_drewN (Below.refl w1.heap.size w1) 1).alloc (by simp) (.cells (u8s (List.replicate 32 0)).toArray 23)).trans (hk3.below (by simp) (Nat.le_refl _)))
  clear hw3 hk3
  refine hK.out _ _ (HKP.out _ HB3.out) (fun hHeld => ?_)
  clear hK K
  try simp only [Act.put]
  refine wpAnyH_take (i := 12) (oi := { dst := some 4, op := Op.assign (Operand.tmp 15), type := 3, pos := "plain.go:204", after := #[{ on := 3, ground := Ground.data }, { on := 11, ground := Ground.chain }, { on := 0, ground := Ground.phase }, { on := 1, ground := Ground.phase }, { on := 2, ground := Ground.phase }, { on := 3, ground := Ground.phase }, { on := 4, ground := Ground.textOnly Departure.lateStores }, { on := 5, ground := Ground.textOnly Departure.lateStores }, { on := 6, ground := Ground.textOnly Departure.lateStores }, { on := 7, ground := Ground.textOnly Departure.lateStores }, { on := 8, ground := Ground.textOnly Departure.lateStores }, { on := 9, ground := Ground.textOnly Departure.lateStores }, { on := 10, ground := Ground.phase }, { on := 11, ground := Ground.phase }], guard := none }) (v := ?_) rfl (by kernel_rfl) (by kernel_rfl) (by kernel_rfl) (fun _ _ _ h => h) (Or.inl ⟨by rfl, ?hy⟩) hHeld ?_
  case hy => (intro w hSw; (try dsimp only at hSw); obtain ⟨_, _, _, _, _, _⟩ := hSw; go_simp; all_goals (with_reducible rfl))
  try simp only [Act.put, List.setIfInBounds_toArray, List.set_cons_zero, List.set_cons_succ]
  refine wpAnyH_take (i := 13) (oi := { dst := some 5, op := Op.assign (Operand.tmp 17), type := 3, pos := "plain.go:204", after := #[{ on := 5, ground := Ground.data }, { on := 12, ground := Ground.chain }, { on := 0, ground := Ground.phase }, { on := 1, ground := Ground.phase }, { on := 2, ground := Ground.phase }, { on := 3, ground := Ground.phase }, { on := 4, ground := Ground.phase }, { on := 5, ground := Ground.phase }, { on := 6, ground := Ground.textOnly Departure.lateStores }, { on := 7, ground := Ground.textOnly Departure.lateStores }, { on := 8, ground := Ground.textOnly Departure.lateStores }, { on := 9, ground := Ground.textOnly Departure.lateStores }, { on := 10, ground := Ground.phase }, { on := 11, ground := Ground.phase }, { on := 12, ground := Ground.phase }], guard := none }) (v := ?_) rfl (by kernel_rfl) (by kernel_rfl) (by kernel_rfl) (fun _ _ _ h => h) (Or.inl ⟨by rfl, ?hy⟩) hHeld ?_
  case hy => (intro w hSw; (try dsimp only at hSw); obtain ⟨_, _, _, _, _, _⟩ := hSw; go_simp; all_goals (with_reducible rfl))
  try simp only [Act.put, List.setIfInBounds_toArray, List.set_cons_zero, List.set_cons_succ]
  refine wpAnyH_take (i := 14) (oi := { dst := some 6, op := Op.assign (Operand.tmp 19), type := 43, pos := "plain.go:204", after := #[{ on := 7, ground := Ground.data }, { on := 13, ground := Ground.chain }, { on := 0, ground := Ground.phase }, { on := 1, ground := Ground.phase }, { on := 2, ground := Ground.phase }, { on := 3, ground := Ground.phase }, { on := 4, ground := Ground.phase }, { on := 5, ground := Ground.phase }, { on := 6, ground := Ground.phase }, { on := 7, ground := Ground.phase }, { on := 8, ground := Ground.textOnly Departure.lateStores }, { on := 9, ground := Ground.textOnly Departure.lateStores }, { on := 10, ground := Ground.phase }, { on := 11, ground := Ground.phase }, { on := 12, ground := Ground.phase }, { on := 13, ground := Ground.phase }], guard := none }) (v := ?_) rfl (by kernel_rfl) (by kernel_rfl) (by kernel_rfl) (fun _ _ _ h => h) (Or.inl ⟨by rfl, ?hy⟩) hHeld ?_
  case hy => (intro w hSw; (try dsimp only at hSw); obtain ⟨_, _, _, _, _, _⟩ := hSw; go_simp; all_goals (with_reducible rfl))
  try simp only [Act.put, List.setIfInBounds_toArray, List.set_cons_zero, List.set_cons_succ]
  refine wpAnyH_take (i := 15) (oi := { dst := some 7, op := Op.assign (Operand.tmp 21), type := 43, pos := "plain.go:204", after := #[{ on := 9, ground := Ground.data }, { on := 14, ground := Ground.chain }, { on := 0, ground := Ground.phase }, { on := 1, ground := Ground.phase }, { on := 2, ground := Ground.phase }, { on := 3, ground := Ground.phase }, { on := 4, ground := Ground.phase }, { on := 5, ground := Ground.phase }, { on := 6, ground := Ground.phase }, { on := 7, ground := Ground.phase }, { on := 8, ground := Ground.phase }, { on := 9, ground := Ground.phase }, { on := 10, ground := Ground.phase }, { on := 11, ground := Ground.phase }, { on := 12, ground := Ground.phase }, { on := 13, ground := Ground.phase }, { on := 14, ground := Ground.phase }], guard := none }) (v := ?_) rfl (by kernel_rfl) (by kernel_rfl) (by kernel_rfl) (fun _ _ _ h => h) (Or.inl ⟨by rfl, ?hy⟩) hHeld ?_
  case hy => (intro w hSw; (try dsimp only at hSw); obtain ⟨_, _, _, _, _, _⟩ := hSw; go_simp; all_goals (with_reducible rfl))
  try simp only [Act.put, List.setIfInBounds_toArray, List.set_cons_zero, List.set_cons_succ]
  refine wpAnyH_done (by kernel_rfl) ?_ _
  have HBW := hid (HB1.out.trans (HB3.out.mono HB1.out.size))
  have hjb : w1.heap.size < w3.heap.size := lt_of_heap HOB.out
  obtain ⟨jb, hjbe⟩ : ∃ y, y = w1.heap.size := ⟨_, rfl⟩
  rw [← hjbe] at HOB hjb ⊢
  clear hjbe HKP HRX HIFS HIZ HONE HB1 HB3
  go_upto_region 2 with fail
  go_cut [39] (fun v wx => Hid (wx = w3) ∧ ∃ r, v = .bool r ∧ (r = false → 0 ≤ x0 ∧ x0 ≤ 15 ∧ 0 ≤ x1 ∧ x1 ≤ 15 ∧ x2 ≤ 4611686018427387904))
  case first =>
    by_cases c1 : x0 < 0
    · go_wp2_with fail
      go_meet
      exact ⟨hid rfl, true, rfl, fun h => by cases h⟩
    by_cases c2 : 15 < x0
    · go_wp2_with fail
      go_meet
      exact ⟨hid rfl, true, rfl, fun h => by cases h⟩
    by_cases c3 : x1 < 0
    · go_wp2_with fail
      go_meet
      exact ⟨hid rfl, true, rfl, fun h => by cases h⟩
    by_cases c4 : 15 < x1
    · go_wp2_with fail
      go_meet
      exact ⟨hid rfl, true, rfl, fun h => by cases h⟩
    by_cases c5 : 4611686018427387904 < x2
    · go_wp2_with fail
      go_meet
      exact ⟨hid rfl, true, rfl, fun h => by cases h⟩
    · go_wp2_with fail
      go_meet
      exact ⟨hid rfl, false, rfl, fun _ => by omega⟩
  case rest =>
  obtain ⟨hw, r, rfl, hrr⟩ := hcut
  rw [hw.out]
  clear hw
  cases r with
  | true =>
    clear hrr
    go_wp2_with fail
    refine (HEND.out _ HBW.out).mono ?_
    rintro e w4 ⟨rfl, hb4⟩
    go_wp2_with fail
    go_ret
    exact ⟨rfl, hb4⟩
  | false =>
    obtain ⟨g1, g2, g3, g4, g5⟩ := hrr rfl
    clear hrr
    obtain ⟨p, rfl⟩ : ∃ q : Nat, x0 = (q : Int) := ⟨x0.toNat, by omega⟩
    have hp : p < 16 := by omega
    obtain ⟨m, hm⟩ : ∃ y, y = x3.tmod 30 := ⟨_, rfl⟩
    have hm0 : 0 ≤ m ∧ m < 30 := by
      rw [hm, Int.tmod_eq_emod_of_nonneg h3a]
      omega
    obtain ⟨m0, m1⟩ := hm0
    have hmE := hm.symm
    have q1 : IntKind.u64.wrap m = m := by rw [IntKind.wrap_u64]; omega
    have q2 : IntKind.u64.wrap (x2 + m) = x2 + m := by rw [IntKind.wrap_u64]; omega
    have HL1 := hid (lease_1 obj p x2 m x1 m0)
    have HL2 := hid (lease_2 obj p x2 m x1)
    have HL3 := hid (lease_3 obj p x2 m x1)
    have HL4 := hid (lease_4 obj p x2 m x1)
    have HLC := hid (lease_c x2 m m0)
    clear hm g1 g2
    go_wp2_with fail
    refine (NewClaims_any w3).mono ?_
    rintro e w4 ⟨rfl, hc4, hb4⟩
    obtain ⟨cb, hcb⟩ : ∃ y, y = w3.heap.size + 1 := ⟨_, rfl⟩
    obtain ⟨mb, hmb⟩ : ∃ y, y = w3.heap.size := ⟨_, rfl⟩
    rw [← hcb, ← hmb] at hc4
    rw [← hcb]
    have HMB := hid hmb
    have HC4 := hid hc4
    have HB4 := hid hb4
    have HRA4 := hid (range_own ((hb4.block jb hjb).trans HOB.out))
    have hwm : w.heap.size ≤ mb := by rw [hmb]; exact HBW.out.size
    clear hc4 hb4 hcb hmb
    go_wp2_with (refine wpList_load_mid (by rfl) 23 (.tmp 3) (by rfl) jb 0 (by rfl) (u8s obj) _ HRA4.out Tryz.underlying23 rfl HIF.out ?_)
    refine (Note_first obj HO.out kl HKL.out p hp x2 h2a h2b cb mb w4 HC4.out).mono ?_
    rintro e w5 ⟨rfl, ib, hcl, hib, hk5⟩
    have HCL := hid hcl
    have HBW4 := hid (HBW.out.trans (HB4.out.mono HBW.out.size))
    have HBW5 := hid (HBW4.out.trans (hk5.below HBW4.out.size hwm))
    have HRA := hid (show ∀ wx : World, Below w5.heap.size w5 wx → wx.rangeAt jb 0 (u8s obj) from fun wx h => by
      have h1 : jb < w4.heap.size := Nat.lt_of_lt_of_le hjb HB4.out.size
      exact range_own ((h.block jb (Nat.lt_of_lt_of_le h1 hk5.size)).trans ((hk5.block jb h1 (by have := HMB.out; omega)).trans ((HB4.out.block jb hjb).trans HOB.out))))
    have HO5 := hid (show OwnD w5 jb obj from by
      have h1 : jb < w4.heap.size := Nat.lt_of_lt_of_le hjb HB4.out.size
      exact (hk5.block jb h1 (by have := HMB.out; omega)).trans ((HB4.out.block jb hjb).trans HOB.out))
    have HJ5 := hid (lt_of_heap HO5.out)
    have hwi : w.heap.size ≤ ib := Nat.le_trans HBW4.out.size hib
    have HV5 := hid (HV.out.below HBW5.out)
    have HBL := hid (fun (wx : World) (h : Below w5.heap.size w5 wx) (self : Int) (al : Option Addr) (nl cl : Nat) (ll : List Int) (ah : Option Addr) (nh ch : Nat) (lh : List Int) (hil : Is wx (.slice al nl cl) ll) (hnl : nl ≤ 1000000) (hih : Is wx (.slice ah nh ch) lh) (hnh : nh ≤ 1000000) =>
      Blocked_one obj HO.out HLT.out kl HKL.out p hp x2 h2a h2b cb mb ib self (x2 + m) (by omega) (by omega) al nl cl ll ah nh ch lh wx (HV5.out.below h) (HCL.out.below h) hil hnl hih hnh)
    have HIB := hid hib
    clear hcl hk5 hib HRA4
    have HRA5 := hid (HRA.out w5 (Below.refl _ _))
    go_wp2_with (refine wpList_load_mid (by rfl) 23 (.tmp 3) (by rfl) jb 0 (by rfl) (u8s obj) _ HRA5.out Tryz.underlying23 rfl HIF.out ?_)
    refine (Better_any obj HO.out HLT.out (p : Int) x1 w5 HV5.out).mono ?_
    rintro e w6 ⟨rfl, hb6⟩
    have HB6 := hid hb6
    obtain ⟨BB, hBB⟩ : ∃ y, y = decide (cmpP obj (p : Int) x1 < 0) := ⟨_, rfl⟩
    rw [← hBB] at HL1 ⊢
    clear hb6 hBB HRA5
    go_upto_region 9 with fail
    obtain ⟨w7, hw7⟩ : ∃ y, y = w6.alloc (.cells #[.int .i64 (p : Int), .int .i64 x1] 3) := ⟨_, rfl⟩
    rw [← hw7]
    have HWP := hid (show ∀ y ∈ [(p : Int), x1], (Lit.int .i64 y).wf = true from fun y hy => by
      have e1 : IntKind.i64.min = -9223372036854775808 := rfl
      have e2 : IntKind.i64.max = 9223372036854775807 := rfl
      simp only [List.mem_cons, List.not_mem_nil, or_false] at hy
      simp only [Lit.wf, Bool.and_eq_true, decide_eq_true_eq]
      omega)
    have HI7 := hid (show Is w7 (.slice (some ⟨w6.heap.size, 0, none⟩) 2 2) [(p : Int), x1] from by rw [hw7]; exact is_i64 w6 [(p : Int), x1] HWP.out)
    have HB7 := hid (show Below w5.heap.size w5 w7 from HB6.out.trans (by rw [hw7]; exact (Below.refl _ _).alloc HB6.out.size _))
    obtain ⟨b6, hb6⟩ : ∃ y, y = w6.heap.size := ⟨_, rfl⟩
    rw [← hb6] at HI7 ⊢
    clear hw7 hb6
    have HAT := hid (show ((DataW.map []).put kl (.lit (.int .i64 (ib : Int)))).atKey kl .nil = DataW.lit (H := Unit) (.int .i64 (ib : Int)) from Maps.atKey_put_same Maps.isMap_empty (keyedD.key HKL.out) _ _)
    have HDL := hid (show (((DataW.map []).put kl (.lit (.int .i64 (ib : Int)))).del kl).atKey kl .nil = (DataW.nil : DataW Unit) from Maps.atKey_del_same _)
    have HSZ := hid (show Maps.size ((DataW.map [] : DataW Unit).put (.int .i64 (p : Int)) (.lit (.int .u64 x2))) ≤ 1000000 from by rw [(one_size (show WideAt.IsKeyLit (.int .i64 (p : Int)) from trivial)).1]; omega)
    have hji : jb ≠ ib := by
      have h1 := HB4.out.size
      have h2 := HIB.out
      omega
    have hjm : jb ≠ mb := by have := HMB.out; omega
    cases BB with
    | false =>
      by_cases hm12 : m < 12
      · as_aux_lemma =>
        have dm := decide_eq_true hm12
        have e1 := HL1.out.trans (show (decide (m < 12) && false) = false from by rw [dm]; rfl)
        have HE1 := hid e1
        clear e1 HL1
        have HR7 := hid (HRA.out w7 HB7.out)
        go_wp2_with (refine wpList_load_mid (by rfl) 23 (.tmp 3) (by rfl) jb 0 (by rfl) (u8s obj) _ HR7.out Tryz.underlying23 rfl HIF.out ?_)
        have h1 := HBL.out w7 HB7.out x1 (some ⟨b6, 0, none⟩) 2 2 [(p : Int), x1] none 0 0 [] HI7.out (by omega) (is_nilI _) (by omega)
        rw [HE1.out] at h1
        refine h1.mono ?_
        rintro e w8 ⟨rfl, hb8⟩
        have HB8 := hid (HB7.out.trans (hb8.mono HB7.out.size))
        have HI8 := hid (HI7.out.belowP hb8)
        have HR8 := hid (HRA.out w8 HB8.out)
        clear hb8 h1 HE1 HR7
        go_wp2_with (refine wpList_load_wantP (by rfl) 23 (.tmp 3) (by rfl) jb 0 (by rfl) (u8s obj) _ HR8.out Tryz.underlying23 rfl HIF.out ?_)
        have hb9 : Below w5.heap.size w5 (w8.alloc (.cells #[.int .i64 x1] 3)) := HB8.out.alloc HB8.out.size _
        have h2 := HBL.out _ hb9 x1 (some ⟨w8.heap.size, 0, none⟩) 1 1 [x1] none 0 0 [] (is_i64 w8 [x1] (fun y hy => HWP.out y (List.mem_cons_of_mem _ hy))) (by omega) (is_nilI _) (by omega)
        rw [HL2.out] at h2
        refine h2.mono ?_
        rintro e w9 ⟨rfl, hb10⟩
        have HB9 := hid (hb9.trans (hb10.mono hb9.size))
        have HI9 := hid ((HI8.out.belowP ((Below.refl w8.heap.size w8).alloc (Nat.le_refl _) (.cells #[.int .i64 x1] 3))).belowP hb10)
        have HR9 := hid (HRA.out w9 HB9.out)
        clear hb9 hb10 h2 HR8
        go_wp2_with (refine wpList_load_wantP (by rfl) 23 (.tmp 3) (by rfl) jb 0 (by rfl) (u8s obj) _ HR9.out Tryz.underlying23 rfl HIF.out ?_)
        have hb11 : Below w5.heap.size w5 (w9.alloc (.cells #[.int .i64 (p : Int)] 3)) := HB9.out.alloc HB9.out.size _
        have h3 := HBL.out _ hb11 x1 (some ⟨b6, 0, none⟩) 2 2 [(p : Int), x1] (some ⟨w9.heap.size, 0, none⟩) 1 1 [(p : Int)] (HI9.out.belowP ((Below.refl w9.heap.size w9).alloc (Nat.le_refl _) (.cells #[.int .i64 (p : Int)] 3))) (by omega) (is_i64 w9 [(p : Int)] (fun y hy => HWP.out y (by simp only [List.mem_cons, List.not_mem_nil, or_false] at hy ⊢; exact .inl hy))) (by omega)
        rw [HL3.out] at h3
        refine h3.mono ?_
        rintro e w10 ⟨rfl, hb12⟩
        have HB10 := hid (hb11.trans (hb12.mono hb11.size))
        have HI10 := hid ((HI9.out.belowP ((Below.refl w9.heap.size w9).alloc (Nat.le_refl _) (.cells #[.int .i64 (p : Int)] 3))).belowP hb12)
        have HR10 := hid (HRA.out w10 HB10.out)
        clear hb11 hb12 h3 HR9
        obtain ⟨w11, rfl⟩ : ∃ y, y = w10 := ⟨_, rfl⟩
        have HB11 := HB10
        go_wp2_with fail
        refine (Sweep_one obj HO.out kl HKL.out p hp x2 h2a h2b cb mb ib (x2 + m) (by omega) (by omega) w11 (HCL.out.below HB11.out)).mono ?_
        rintro e w12 ⟨rfl, hk2, hor⟩
        rw [HLC.out, dm] at hor
        have HBW11 := hid (HBW5.out.trans (HB11.out.mono HBW5.out.size))
        have HBW12 := hid (HBW11.out.trans (hk2.below HBW11.out.size hwm hwi))
        have HR12 := hid (range_own ((hk2.block jb (Nat.lt_of_lt_of_le HJ5.out HB11.out.size) hjm hji).trans ((HB11.out.block jb HJ5.out).trans HO5.out)))
        have HOR := hid hor
        clear hk2 hor
        go_wp2_with (refine wpList_load_mid (by rfl) 23 (.tmp 3) (by rfl) jb 0 (by rfl) (u8s obj) _ HR12.out Tryz.underlying23 rfl HIF.out ?_)
        obtain ⟨-, hcl⟩ := HOR.out.resolve_right (fun h => by cases h.1)
        refine (Claimants_some obj HO.out kl HKL.out cb mb ib 1 1 _ _ w12 hcl.blk hcl.out HAT.out hcl.inn HSZ.out).mono ?_
        rintro e w13 ⟨v, ss, rfl, hS, hrow, -, hb14⟩
        have hlen : ss.length = 1 := by have h := hS.length_eq; rw [one_keys] at h; exact h
        obtain ⟨-, hr⟩ := hrow
        rw [hlen] at hr
        obtain ⟨g, cap, cur, rfl, -⟩ := hr.resolve_left (fun h => by cases h.2)
        have HB14 := hid (HBW12.out.trans (hb14.mono HBW12.out.size))
        clear hb14 hS hlen hr hcl
        go_wp2_with fail
        refine (HEND.out _ HB14.out).mono ?_
        rintro e w15 ⟨rfl, hb15⟩
        go_wp2_with fail
        go_ret
        exact ⟨rfl, hb15⟩
      · as_aux_lemma =>
        have dm := decide_eq_false hm12
        have e1 := HL1.out.trans (show (decide (m < 12) && false) = false from by rw [dm]; rfl)
        have HE1 := hid e1
        clear e1 HL1
        have HR7 := hid (HRA.out w7 HB7.out)
        go_wp2_with (refine wpList_load_mid (by rfl) 23 (.tmp 3) (by rfl) jb 0 (by rfl) (u8s obj) _ HR7.out Tryz.underlying23 rfl HIF.out ?_)
        have h1 := HBL.out w7 HB7.out x1 (some ⟨b6, 0, none⟩) 2 2 [(p : Int), x1] none 0 0 [] HI7.out (by omega) (is_nilI _) (by omega)
        rw [HE1.out] at h1
        refine h1.mono ?_
        rintro e w8 ⟨rfl, hb8⟩
        have HB8 := hid (HB7.out.trans (hb8.mono HB7.out.size))
        have HI8 := hid (HI7.out.belowP hb8)
        have HR8 := hid (HRA.out w8 HB8.out)
        clear hb8 h1 HE1 HR7
        go_wp2_with (refine wpList_load_wantP (by rfl) 23 (.tmp 3) (by rfl) jb 0 (by rfl) (u8s obj) _ HR8.out Tryz.underlying23 rfl HIF.out ?_)
        have hb9 : Below w5.heap.size w5 (w8.alloc (.cells #[.int .i64 x1] 3)) := HB8.out.alloc HB8.out.size _
        have h2 := HBL.out _ hb9 x1 (some ⟨w8.heap.size, 0, none⟩) 1 1 [x1] none 0 0 [] (is_i64 w8 [x1] (fun y hy => HWP.out y (List.mem_cons_of_mem _ hy))) (by omega) (is_nilI _) (by omega)
        rw [HL2.out] at h2
        refine h2.mono ?_
        rintro e w9 ⟨rfl, hb10⟩
        have HB9 := hid (hb9.trans (hb10.mono hb9.size))
        have HI9 := hid ((HI8.out.belowP ((Below.refl w8.heap.size w8).alloc (Nat.le_refl _) (.cells #[.int .i64 x1] 3))).belowP hb10)
        have HR9 := hid (HRA.out w9 HB9.out)
        clear hb9 hb10 h2 HR8
        go_wp2_with (refine wpList_load_wantP (by rfl) 23 (.tmp 3) (by rfl) jb 0 (by rfl) (u8s obj) _ HR9.out Tryz.underlying23 rfl HIF.out ?_)
        have hb11 : Below w5.heap.size w5 (w9.alloc (.cells #[.int .i64 (p : Int)] 3)) := HB9.out.alloc HB9.out.size _
        have h3 := HBL.out _ hb11 x1 (some ⟨b6, 0, none⟩) 2 2 [(p : Int), x1] (some ⟨w9.heap.size, 0, none⟩) 1 1 [(p : Int)] (HI9.out.belowP ((Below.refl w9.heap.size w9).alloc (Nat.le_refl _) (.cells #[.int .i64 (p : Int)] 3))) (by omega) (is_i64 w9 [(p : Int)] (fun y hy => HWP.out y (by simp only [List.mem_cons, List.not_mem_nil, or_false] at hy ⊢; exact .inl hy))) (by omega)
        rw [HL3.out] at h3
        refine h3.mono ?_
        rintro e w10 ⟨rfl, hb12⟩
        have HB10 := hid (hb11.trans (hb12.mono hb11.size))
        have HI10 := hid ((HI9.out.belowP ((Below.refl w9.heap.size w9).alloc (Nat.le_refl _) (.cells #[.int .i64 (p : Int)] 3))).belowP hb12)
        have HR10 := hid (HRA.out w10 HB10.out)
        clear hb11 hb12 h3 HR9
        obtain ⟨w11, rfl⟩ : ∃ y, y = w10 := ⟨_, rfl⟩
        have HB11 := HB10
        go_wp2_with fail
        refine (Sweep_one obj HO.out kl HKL.out p hp x2 h2a h2b cb mb ib (x2 + m) (by omega) (by omega) w11 (HCL.out.below HB11.out)).mono ?_
        rintro e w12 ⟨rfl, hk2, hor⟩
        rw [HLC.out, dm] at hor
        have HBW11 := hid (HBW5.out.trans (HB11.out.mono HBW5.out.size))
        have HBW12 := hid (HBW11.out.trans (hk2.below HBW11.out.size hwm hwi))
        have HR12 := hid (range_own ((hk2.block jb (Nat.lt_of_lt_of_le HJ5.out HB11.out.size) hjm hji).trans ((HB11.out.block jb HJ5.out).trans HO5.out)))
        have HOR := hid hor
        clear hk2 hor
        go_wp2_with (refine wpList_load_mid (by rfl) 23 (.tmp 3) (by rfl) jb 0 (by rfl) (u8s obj) _ HR12.out Tryz.underlying23 rfl HIF.out ?_)
        obtain ⟨-, hc1, hc2⟩ := HOR.out.resolve_left (fun h => by cases h.1)
        refine (Claimants_none obj HO.out kl HKL.out cb mb 1 _ w12 hc1 hc2 HDL.out).mono ?_
        rintro e w13 ⟨rfl, hb14⟩
        have HB14 := hid (HBW12.out.trans (hb14.mono HBW12.out.size))
        clear hb14 hc1 hc2
        go_wp2_with fail
        refine (HEND.out _ HB14.out).mono ?_
        rintro e w15 ⟨rfl, hb15⟩
        go_wp2_with fail
        go_ret
        exact ⟨rfl, hb15⟩
    | true =>
      by_cases hm12 : m < 12
      · as_aux_lemma =>
        have dm := decide_eq_true hm12
        have e1 := HL1.out.trans (show (decide (m < 12) && true) = true from by rw [dm]; rfl)
        have HE1 := hid e1
        clear e1 HL1
        have HR7 := hid (HRA.out w7 HB7.out)
        go_wp2_with (refine wpList_load_mid (by rfl) 23 (.tmp 3) (by rfl) jb 0 (by rfl) (u8s obj) _ HR7.out Tryz.underlying23 rfl HIF.out ?_)
        have h1 := HBL.out w7 HB7.out x1 (some ⟨b6, 0, none⟩) 2 2 [(p : Int), x1] none 0 0 [] HI7.out (by omega) (is_nilI _) (by omega)
        rw [HE1.out] at h1
        refine h1.mono ?_
        rintro e w8 ⟨rfl, hb8⟩
        have HB8 := hid (HB7.out.trans (hb8.mono HB7.out.size))
        have HI8 := hid (HI7.out.belowP hb8)
        have HR8 := hid (HRA.out w8 HB8.out)
        clear hb8 h1 HE1 HR7
        go_wp2_with (refine wpList_load_wantP (by rfl) 23 (.tmp 3) (by rfl) jb 0 (by rfl) (u8s obj) _ HR8.out Tryz.underlying23 rfl HIF.out ?_)
        have hb9 : Below w5.heap.size w5 (w8.alloc (.cells #[.int .i64 x1] 3)) := HB8.out.alloc HB8.out.size _
        have h2 := HBL.out _ hb9 x1 (some ⟨w8.heap.size, 0, none⟩) 1 1 [x1] none 0 0 [] (is_i64 w8 [x1] (fun y hy => HWP.out y (List.mem_cons_of_mem _ hy))) (by omega) (is_nilI _) (by omega)
        rw [HL2.out] at h2
        refine h2.mono ?_
        rintro e w9 ⟨rfl, hb10⟩
        have HB9 := hid (hb9.trans (hb10.mono hb9.size))
        have HI9 := hid ((HI8.out.belowP ((Below.refl w8.heap.size w8).alloc (Nat.le_refl _) (.cells #[.int .i64 x1] 3))).belowP hb10)
        have HR9 := hid (HRA.out w9 HB9.out)
        clear hb9 hb10 h2 HR8
        go_wp2_with (refine wpList_load_wantP (by rfl) 23 (.tmp 3) (by rfl) jb 0 (by rfl) (u8s obj) _ HR9.out Tryz.underlying23 rfl HIF.out ?_)
        have hb11 : Below w5.heap.size w5 (w9.alloc (.cells #[.int .i64 (p : Int)] 3)) := HB9.out.alloc HB9.out.size _
        have h3 := HBL.out _ hb11 x1 (some ⟨b6, 0, none⟩) 2 2 [(p : Int), x1] (some ⟨w9.heap.size, 0, none⟩) 1 1 [(p : Int)] (HI9.out.belowP ((Below.refl w9.heap.size w9).alloc (Nat.le_refl _) (.cells #[.int .i64 (p : Int)] 3))) (by omega) (is_i64 w9 [(p : Int)] (fun y hy => HWP.out y (by simp only [List.mem_cons, List.not_mem_nil, or_false] at hy ⊢; exact .inl hy))) (by omega)
        rw [HL3.out] at h3
        refine h3.mono ?_
        rintro e w10 ⟨rfl, hb12⟩
        have HB10 := hid (hb11.trans (hb12.mono hb11.size))
        have HI10 := hid ((HI9.out.belowP ((Below.refl w9.heap.size w9).alloc (Nat.le_refl _) (.cells #[.int .i64 (p : Int)] 3))).belowP hb12)
        have HR10 := hid (HRA.out w10 HB10.out)
        clear hb11 hb12 h3 HR9
        go_wp2_with (refine wpList_load_wantP (by rfl) 23 (.tmp 3) (by rfl) jb 0 (by rfl) (u8s obj) _ HR10.out Tryz.underlying23 rfl HIF.out ?_)
        have h4 := HBL.out w10 HB10.out (p : Int) (some ⟨b6, 0, none⟩) 2 2 [(p : Int), x1] none 0 0 [] HI10.out (by omega) (is_nilI _) (by omega)
        rw [HL4.out] at h4
        refine h4.mono ?_
        rintro e w11 ⟨rfl, hb13⟩
        have HB11 := hid (HB10.out.trans (hb13.mono HB10.out.size))
        clear hb13 h4
        go_wp2_with fail
        refine (Sweep_one obj HO.out kl HKL.out p hp x2 h2a h2b cb mb ib (x2 + m) (by omega) (by omega) w11 (HCL.out.below HB11.out)).mono ?_
        rintro e w12 ⟨rfl, hk2, hor⟩
        rw [HLC.out, dm] at hor
        have HBW11 := hid (HBW5.out.trans (HB11.out.mono HBW5.out.size))
        have HBW12 := hid (HBW11.out.trans (hk2.below HBW11.out.size hwm hwi))
        have HR12 := hid (range_own ((hk2.block jb (Nat.lt_of_lt_of_le HJ5.out HB11.out.size) hjm hji).trans ((HB11.out.block jb HJ5.out).trans HO5.out)))
        have HOR := hid hor
        clear hk2 hor
        go_wp2_with (refine wpList_load_mid (by rfl) 23 (.tmp 3) (by rfl) jb 0 (by rfl) (u8s obj) _ HR12.out Tryz.underlying23 rfl HIF.out ?_)
        obtain ⟨-, hcl⟩ := HOR.out.resolve_right (fun h => by cases h.1)
        refine (Claimants_some obj HO.out kl HKL.out cb mb ib 1 1 _ _ w12 hcl.blk hcl.out HAT.out hcl.inn HSZ.out).mono ?_
        rintro e w13 ⟨v, ss, rfl, hS, hrow, -, hb14⟩
        have hlen : ss.length = 1 := by have h := hS.length_eq; rw [one_keys] at h; exact h
        obtain ⟨-, hr⟩ := hrow
        rw [hlen] at hr
        obtain ⟨g, cap, cur, rfl, -⟩ := hr.resolve_left (fun h => by cases h.2)
        have HB14 := hid (HBW12.out.trans (hb14.mono HBW12.out.size))
        clear hb14 hS hlen hr hcl
        go_wp2_with fail
        refine (HEND.out _ HB14.out).mono ?_
        rintro e w15 ⟨rfl, hb15⟩
        go_wp2_with fail
        go_ret
        exact ⟨rfl, hb15⟩
      · as_aux_lemma =>
        have dm := decide_eq_false hm12
        have e1 := HL1.out.trans (show (decide (m < 12) && true) = false from by rw [dm]; rfl)
        have HE1 := hid e1
        clear e1 HL1
        have HR7 := hid (HRA.out w7 HB7.out)
        go_wp2_with (refine wpList_load_mid (by rfl) 23 (.tmp 3) (by rfl) jb 0 (by rfl) (u8s obj) _ HR7.out Tryz.underlying23 rfl HIF.out ?_)
        have h1 := HBL.out w7 HB7.out x1 (some ⟨b6, 0, none⟩) 2 2 [(p : Int), x1] none 0 0 [] HI7.out (by omega) (is_nilI _) (by omega)
        rw [HE1.out] at h1
        refine h1.mono ?_
        rintro e w8 ⟨rfl, hb8⟩
        have HB8 := hid (HB7.out.trans (hb8.mono HB7.out.size))
        have HI8 := hid (HI7.out.belowP hb8)
        have HR8 := hid (HRA.out w8 HB8.out)
        clear hb8 h1 HE1 HR7
        go_wp2_with (refine wpList_load_wantP (by rfl) 23 (.tmp 3) (by rfl) jb 0 (by rfl) (u8s obj) _ HR8.out Tryz.underlying23 rfl HIF.out ?_)
        have hb9 : Below w5.heap.size w5 (w8.alloc (.cells #[.int .i64 x1] 3)) := HB8.out.alloc HB8.out.size _
        have h2 := HBL.out _ hb9 x1 (some ⟨w8.heap.size, 0, none⟩) 1 1 [x1] none 0 0 [] (is_i64 w8 [x1] (fun y hy => HWP.out y (List.mem_cons_of_mem _ hy))) (by omega) (is_nilI _) (by omega)
        rw [HL2.out] at h2
        refine h2.mono ?_
        rintro e w9 ⟨rfl, hb10⟩
        have HB9 := hid (hb9.trans (hb10.mono hb9.size))
        have HI9 := hid ((HI8.out.belowP ((Below.refl w8.heap.size w8).alloc (Nat.le_refl _) (.cells #[.int .i64 x1] 3))).belowP hb10)
        have HR9 := hid (HRA.out w9 HB9.out)
        clear hb9 hb10 h2 HR8
        go_wp2_with (refine wpList_load_wantP (by rfl) 23 (.tmp 3) (by rfl) jb 0 (by rfl) (u8s obj) _ HR9.out Tryz.underlying23 rfl HIF.out ?_)
        have hb11 : Below w5.heap.size w5 (w9.alloc (.cells #[.int .i64 (p : Int)] 3)) := HB9.out.alloc HB9.out.size _
        have h3 := HBL.out _ hb11 x1 (some ⟨b6, 0, none⟩) 2 2 [(p : Int), x1] (some ⟨w9.heap.size, 0, none⟩) 1 1 [(p : Int)] (HI9.out.belowP ((Below.refl w9.heap.size w9).alloc (Nat.le_refl _) (.cells #[.int .i64 (p : Int)] 3))) (by omega) (is_i64 w9 [(p : Int)] (fun y hy => HWP.out y (by simp only [List.mem_cons, List.not_mem_nil, or_false] at hy ⊢; exact .inl hy))) (by omega)
        rw [HL3.out] at h3
        refine h3.mono ?_
        rintro e w10 ⟨rfl, hb12⟩
        have HB10 := hid (hb11.trans (hb12.mono hb11.size))
        have HI10 := hid ((HI9.out.belowP ((Below.refl w9.heap.size w9).alloc (Nat.le_refl _) (.cells #[.int .i64 (p : Int)] 3))).belowP hb12)
        have HR10 := hid (HRA.out w10 HB10.out)
        clear hb11 hb12 h3 HR9
        go_wp2_with (refine wpList_load_wantP (by rfl) 23 (.tmp 3) (by rfl) jb 0 (by rfl) (u8s obj) _ HR10.out Tryz.underlying23 rfl HIF.out ?_)
        have h4 := HBL.out w10 HB10.out (p : Int) (some ⟨b6, 0, none⟩) 2 2 [(p : Int), x1] none 0 0 [] HI10.out (by omega) (is_nilI _) (by omega)
        rw [HL4.out] at h4
        refine h4.mono ?_
        rintro e w11 ⟨rfl, hb13⟩
        have HB11 := hid (HB10.out.trans (hb13.mono HB10.out.size))
        clear hb13 h4
        go_wp2_with fail
        refine (Sweep_one obj HO.out kl HKL.out p hp x2 h2a h2b cb mb ib (x2 + m) (by omega) (by omega) w11 (HCL.out.below HB11.out)).mono ?_
        rintro e w12 ⟨rfl, hk2, hor⟩
        rw [HLC.out, dm] at hor
        have HBW11 := hid (HBW5.out.trans (HB11.out.mono HBW5.out.size))
        have HBW12 := hid (HBW11.out.trans (hk2.below HBW11.out.size hwm hwi))
        have HR12 := hid (range_own ((hk2.block jb (Nat.lt_of_lt_of_le HJ5.out HB11.out.size) hjm hji).trans ((HB11.out.block jb HJ5.out).trans HO5.out)))
        have HOR := hid hor
        clear hk2 hor
        go_wp2_with (refine wpList_load_mid (by rfl) 23 (.tmp 3) (by rfl) jb 0 (by rfl) (u8s obj) _ HR12.out Tryz.underlying23 rfl HIF.out ?_)
        obtain ⟨-, hc1, hc2⟩ := HOR.out.resolve_left (fun h => by cases h.1)
        refine (Claimants_none obj HO.out kl HKL.out cb mb 1 _ w12 hc1 hc2 HDL.out).mono ?_
        rintro e w13 ⟨rfl, hb14⟩
        have HB14 := hid (HBW12.out.trans (hb14.mono HBW12.out.size))
        clear hb14 hc1 hc2
        go_wp2_with fail
        refine (HEND.out _ HB14.out).mono ?_
        rintro e w15 ⟨rfl, hb15⟩
        go_wp2_with fail
        go_ret
        exact ⟨rfl, hb15⟩
end Go.Proofs.YtjgiiciniplbnaaGreatDoor

namespace Go.Proofs.YtjgiiciniplbnaaGreatDoor.placeLease
open Go.ChangeShapes Go.WideShapes Go.ChangeAt Go.RowKit Go.WideMaps Go.WideElems
open Go.ChangeMaps (open_string shut_string)
set_option linter.unusedVariables false

set_option maxRecDepth 100000 in
theorem lifted (os : Os) (started : os.Started) (H : Type) (enc : TypeId × Value → H) :
    ReturnsInHanded {} Tryz.checked os 12 .any (fun w args => (Rows.placeLeaseSpec.pre enc Tryz.prog Tryz.f12 [] false w args ∧ laidMetH Tryz.prog laidA w) ∧ sizedMet enc Tryz.prog Tryz.f12 (OpenSpec.ofChange Rows.placeLeaseSpec) false w args)
      (Rows.placeLeaseSpec.post enc Tryz.prog Tryz.f12 false true false false) := by
  refine returnsInHanded_of_change_and (C := Tryz.checked) (X := fun w _ => laidMetH Tryz.prog laidA w) (fun _ _ _ hh h => h.of_heap hh) ownD started (by kernel_rfl) Tryz.func12
    (ChangeSpec.witness_shaped (enc := enc) (C := Tryz.checked) (os := os) (X := fun w _ => laidMetH Tryz.prog laidA w) false (World.doorLaid Tryz.prog 24 os) #[.agg (u8s (List.replicate 32 0) ++ ([.int .i64 0, .int .i64 0, .int .u64 0, .int .u64 0] : List Value)).toArray] 8 rfl (World.shaped_of_RefB (by kernel_rfl) (by kernel_rfl)) (by kernel_rfl) (by kernel_rfl) (by kernel_rfl) (door_metA os _)) ?_
  intro W base args ds gs before hval0 hW _ _ hL _
  have hval : ∀ (j : Nat) t v, Tryz.f12.params[j]? = some t → args[j]? = some v → Value.okWide Tryz.prog W .any base t v := hval0
  have hW' := hW
  obtain ⟨p, q, hA0, hV, rfl, hfz, hnd⟩ := hW
  have hA : DataW.TrodAll enc Tryz.prog W 0 (fun _ => true) true Tryz.f12.params.toList args.toList ds p := hA0
  rw [Tryz.params12] at hA hval
  obtain ⟨v0, vs0, d0, ds0, p0, q0, hargs, rfl, rfl, h0, r0⟩ := trodAll_cons hA
  obtain ⟨rfl, rfl, rfl⟩ := trodAll_nil r0
  obtain rfl : args = #[v0] := by cases args; simp_all
  obtain ⟨rfl, rfl⟩ := trodVars_none hV
  have k0 := h0
  have lt0 : ∀ x ∈ p0, x.block < W.heap.size := by obtain ⟨m, hm⟩ := k0; exact DataW.trod_lt m _ _ _ hm
  obtain ⟨od0, x00, x01, x02, x03, rfl, ho0, hl0, w00, w01, w02, w03⟩ := open_lease (hval 0 111 v0 rfl rfl) h0
  clear hA0 hval0
  refine (le_walk W (vars_of_laid hL) od0 x00 x01 x02 x03 ho0 hl0 w00 w01 w02 w03).mono fun e W' ⟨he, bel⟩ => ?_
  subst he
  exact ⟨_, rfl, _, _, _, [], _, [], hW', trodAll_mk1 (shut_bool Tryz.underlying4 _), (trodAll_cons_mk (Below.trod Facts.laidOut (by kernel_rfl) (of_decide_eq_true (by kernel_rfl)) k0 bel lt0) trodAll_mk0), rfl, bel.frame _, fun h => by cases h⟩

set_option maxHeartbeats 4000000 in
set_option maxRecDepth 1000000 in
theorem closed : joinedFacts Tryz.pinned.checked.prog 12 Tryz.f12 Rows.placeLeaseSpec Rows.placeLeaseRow = true := by
  unfold joinedFacts
  refine (Facts.and2 (Facts.and2 (Facts.and2 (Facts.and2 (Facts.and2 (Facts.and2 (Facts.and2 (Facts.and2 (Facts.and2 (Facts.and2 (Facts.and2 (Facts.and2 (Facts.and2 (Facts.and2 (Facts.and2 (Facts.and2 (Facts.and2 (Facts.and2 (Facts.and2 (Facts.and2 (Facts.and2 (Facts.and2 (Facts.and2 (Facts.and2 (Facts.and2 (Facts.and2 (Facts.and2 (Facts.and2 (Facts.and2 (Facts.and2 (Facts.and2 ?_ Facts.laidOut) Facts.mapsR) ?_) ?_) ?_) Facts.stops) ?_) Facts.knobs) ?_) ?_) ?_) ?_) ?_) ?_) ?_) ?_) ?_) ?_) ?_) ?_) ?_) Facts.keys) ?_) Facts.heard) Facts.enter) ?_) ?_) ?_) ?_) ?_) ?_)
  all_goals (as_aux_lemma => kernel_rfl)

theorem over : Rows.placeLeaseRow.holds Tryz.pinned (OpenSpec.ofChange Rows.placeLeaseSpec) :=
  OpenClaim.holds_of_wide 12 Tryz.f12 rfl rfl rfl rfl rfl rfl rfl ⟨rfl, rfl, rfl, rfl, rfl⟩ rfl rfl rfl rfl rfl (by as_aux_lemma => kernel_rfl) Tryz.func12 closed
    (of_decide_eq_true (by as_aux_lemma => kernel_rfl)) (by unfold Func.isWrapper; first | (rw [if_pos (by decide +kernel)]; kernel_rfl) | (rw [if_neg (by decide +kernel)]; exact ⟨rfl, rfl⟩))
    (fun os started H enc _ => lifted os started H enc)
end Go.Proofs.YtjgiiciniplbnaaGreatDoor.placeLease
namespace Go.Proofs.YtjgiiciniplbnaaGreatDoor
open Go
set_option maxHeartbeats 4000000 in
set_option maxRecDepth 1000000 in
theorem placeLease_holds : Rows.PlaceLeaseCardSaid :=
  Claim7.holds_tied_plain_at .later [] [.data, .data] true (true, "4a085e94ccebdf24e9b63843c722f4a968f2e6f610b760c9b6f284c344973c54") false
    placeLease.over (fun _ h => by cases h) (by as_aux_lemma => kernel_rfl) (fun _ h => by cases h) placeLease_row_tie rfl ⟨rfl, rfl⟩ (by as_aux_lemma => kernel_rfl) rfl
    (fun f fn hf hfn => by
      obtain rfl : f = 12 := Option.some.inj ((show Tryz.prog.funcNamed "stolon/stolonlaw07.PlaceLease" = some 12 by as_aux_lemma => kernel_rfl).symm.trans hf) |>.symm
      obtain rfl : fn = Tryz.f12 := (Option.some.inj (Tryz.func12.symm.trans hfn)).symm
      exact ⟨by as_aux_lemma => kernel_rfl, fun j t ht => by
        rw [Tryz.params12] at ht
        rcases j with _ | j
        · obtain rfl : t = 111 := by simpa using ht.symm
          exact (show Tryz.prog.wantsStandIn 111 = false by as_aux_lemma => kernel_rfl)
        · simp at ht⟩)
    (by as_aux_lemma => kernel_rfl)
#print axioms placeLease_holds
end Go.Proofs.YtjgiiciniplbnaaGreatDoor
