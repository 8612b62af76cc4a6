/-
  PlaceNothing: for every input the call returns true, and each argument reads behind it as before; the listed variables hold what the program's text lays (tied). No other condition.
-/
import Derived.Test.YtjgiiciniplbnaaGreatDoorKb3
import Derived.Deep.DeepCutAuto
import Derived.Test.YtjgiiciniplbnaaGreatDoorKa3
import Derived.Test.YtjgiiciniplbnaaGreatDoorKa1
import Derived.ChangeKeysEq
import Derived.OpenShut
import Derived.WideShapes
import Derived.Test.YtjgiiciniplbnaaGreatDoorCards
import Derived.Test.YtjgiiciniplbnaaGreatDoorTie
import Derived.ShutString
import Derived.ChangeOld
import Derived.Below
namespace Go.Proofs.YtjgiiciniplbnaaGreatDoor
open Go Go.RowKit Go.Lib Go.Sort
set_option linter.unusedVariables false

set_option maxRecDepth 100000 in
set_option maxHeartbeats 16000000 in
theorem nothing_walk (w : World) (V : Vars w shaRound shaStart) (obj : List Nat) (ho : obj.length = 32) (hb : ∀ i, obj.getD i 0 < 256)
    (k n t s : Int) (od : List Nat) (ma : Option Addr) (mm mc : Nat) (mD : List (List Nat)) (x : Int) (pa : Option Addr) (pn pc : Nat) (pl : List Nat) (ix : Int)
    (hod : od.length = 32) (hol : ∀ y ∈ od, y < 256) (hD : Dgs w ma mm mc mD) (hx : (Lit.int .i64 x).wf = true) (hp : By w pa pn pc pl) (hix : (Lit.int .i64 ix).wf = true) :
    Calls Tryz.prog 7 #[.agg (u8s obj).toArray, .agg (ocells k n t s od (.slice ma mm mc) x (.slice pa pn pc) ix).toArray] w fun e w' => e = .returned (.bool true) ∧ Below w.heap.size w w' := by
  obtain ⟨w2, hw2⟩ : ∃ y, y = (w.alloc (.cells (u8s obj).toArray 23)).alloc (.cells (ocells k n t s od (.slice ma mm mc) x (.slice pa pn pc) ix).toArray 70) := ⟨_, rfl⟩
  obtain ⟨b, hbe⟩ : ∃ y, y = w.heap.size := ⟨_, rfl⟩
  have hb2 : Below w.heap.size w w2 := by rw [hw2]; exact ((Below.refl _ _).alloc (Nat.le_refl _) _).alloc (by simp) _
  have HR0 := hid (show OwnD w2 b obj from by rw [hw2, hbe]; exact heap_alloc (heap_new _ _) _)
  have HR1 := hid (show w2.heap[b + 1]? = some (.cells (ocells k n t s od (.slice ma mm mc) x (.slice pa pn pc) ix).toArray 70 (0, 0)) from by
    rw [hw2]
    have h := heap_new (w.alloc (.cells (u8s obj).toArray 23)) (.cells (ocells k n t s od (.slice ma mm mc) x (.slice pa pn pc) ix).toArray 70)
    rw [show (w.alloc (.cells (u8s obj).toArray 23)).heap.size = b + 1 from by rw [hbe]; simp] at h
    exact h)
  have hml := mcells_length k n t s od (.slice ma mm mc) hod
  have HCL := hid (show ∀ wx : World, Below w2.heap.size w2 wx → wx.cell? ⟨b + 1, 36, none⟩ = some (.slice ma mm mc) ∧ wx.cell? ⟨b + 1, 37, none⟩ = some (.int .i64 x) ∧ wx.cell? ⟨b + 1, 38, none⟩ = some (.slice pa pn pc) ∧ wx.cell? ⟨b + 1, 39, none⟩ = some (.int .i64 ix) from fun wx h => by
    have hr := (h.block _ (lt_of_heap HR1.out)).trans HR1.out
    have hl : ∀ j, j < 37 → (ocells k n t s od (.slice ma mm mc) x (.slice pa pn pc) ix)[j]? = (mcells k n t s od (.slice ma mm mc))[j]? := fun j hj => List.getElem?_append_left (by omega)
    have hg : ∀ j, (ocells k n t s od (.slice ma mm mc) x (.slice pa pn pc) ix)[37 + j]? = ([.int .i64 x, .slice pa pn pc, .int .i64 ix] : List Value)[j]? := fun j => by
      unfold ocells
      rw [List.getElem?_append_right (by omega), hml]
      congr 1
      omega
    refine ⟨?_, ?_, ?_, ?_⟩
    · rw [cell_of_heap hr, List.getElem?_toArray, hl 36 (by omega)]
      unfold mcells
      rw [List.getElem?_append_right (by simp [u8s, hod])]
      simp [u8s, hod]
    · rw [cell_of_heap hr, List.getElem?_toArray]; exact hg 0
    · rw [cell_of_heap hr, List.getElem?_toArray]; exact hg 1
    · rw [cell_of_heap hr, List.getElem?_toArray]; exact hg 2)
  have HRM := hid (show ∀ wx : World, Below w2.heap.size w2 wx → wx.rangeAt (b + 1) 0 (mcells k n t s od (.slice ma mm mc)) from fun wx h j v hj => by
    have hr := (h.block _ (lt_of_heap HR1.out)).trans HR1.out
    rw [Nat.zero_add, cell_of_heap hr, List.getElem?_toArray]
    unfold ocells
    rw [List.getElem?_append_left (List.getElem?_eq_some_iff.1 hj).1]
    exact hj)
  have HRD := hid (show ∀ wx : World, Below w2.heap.size w2 wx → wx.rangeAt b 0 (u8s obj) from fun wx h => range_own ((h.block _ (lt_of_heap HR0.out)).trans HR0.out))
  have HIF := hid (infoD obj ho)
  have HIM := hid (show (Tryz.prog.info? 62).map (·.size) = some (mcells k n t s od (.slice ma mm mc)).length from by rw [hml]; kernel_rfl)
  have HIZ := hid infoMz
  have HOZ := hid (show mz.all (·.oneCell') = true from mcells_one 0 0 0 0 _ none 0 0)
  have HB2 := hid hb2
  have HV := hid (V.below hb2)
  have HDG := hid (hD.below hb2)
  have HPB := hid (show By w2 pa pn pc pl from ⟨hp.1.below hb2, hp.2⟩)
  have HOD := hid hod
  have HBB := hid hbe
  have HW2 := hid hw2
  have HEND := hid (fun (wx : World) (h : Below w2.heap.size w2 wx) => (known_pl wx (HV.out.below h)).mono fun e w' (q : e = .returned (.bool true) ∧ Below wx.heap.size wx w') => (⟨q.1, HB2.out.trans ((h.trans (q.2.mono h.size)).mono HB2.out.size)⟩ : e = .returned (.bool true) ∧ Below w.heap.size w w'))
  clear V hw2 hbe hb2 hD hp hml ho hb
  go_enter Tryz.func7, Tryz.ntmps7
  go_upto_region 1 with fail
  change Code.wp _ _ _ _ ((w.alloc (.cells (u8s obj).toArray 23)).alloc (.cells (ocells k n t s od (.slice ma mm mc) x (.slice pa pn pc) ix).toArray 70))
  rw [← HW2.out, ← HBB.out]
  clear HW2
  obtain ⟨c36, c37, c38, c39⟩ := HCL.out w2 (Below.refl _ _)
  rcases Nat.lt_or_ge 60 mm with hs0 | hs0
  · have hs0' : (60 : Int) < (mm : Int) := by omega
    go_wp2_with fail
    refine (HEND.out _ (Below.refl _ _)).mono ?_
    rintro e w4 ⟨rfl, hb4⟩
    go_wp2_with fail
    go_ret
    exact ⟨rfl, hb4⟩
  rcases Nat.lt_or_ge 2000 pn with hs1 | hs1
  · have hs0' : ¬ (60 : Int) < (mm : Int) := by omega
    have hs1' : (2000 : Int) < (pn : Int) := by omega
    go_wp2_with fail
    refine (HEND.out _ (Below.refl _ _)).mono ?_
    rintro e w4 ⟨rfl, hb4⟩
    go_wp2_with fail
    go_ret
    exact ⟨rfl, hb4⟩
  have hs0' : ¬ (60 : Int) < (mm : Int) := by omega
  have hs1' : ¬ (2000 : Int) < (pn : Int) := by omega
  go_wp2_with (refine wpList_load_mid (by rfl) 23 (.tmp 2) (by rfl) b 0 (by rfl) (u8s obj) _ (HRD.out _ (Below.refl _ _)) Tryz.underlying23 rfl HIF.out ?_)
  refine (Note_nil obj 1 1 w2).mono ?_
  rintro e w3 ⟨rfl, hb3⟩
  go_wp2_with fail
  refine (Sweep_nil 1 w3).mono ?_
  rintro e w4 ⟨rfl, hb4⟩
  have G4 := hid (hb3.trans (hb4.mono hb3.size))
  clear hb3 hb4 c36 c37 c38 c39
  go_wp2_with fail
  refine (newField_any w4).mono ?_
  rintro e w5 ⟨rfl, -, hb5⟩
  have G5 := hid (G4.out.trans (hb5.mono G4.out.size))
  clear hb5
  go_wp2_with fail
  refine (Data_nil _ w5).mono ?_
  rintro e w6 ⟨rfl, hb6⟩
  have G6 := hid (G5.out.trans (hb6.mono G5.out.size))
  clear hb6
  go_wp2_with fail
  go_upto_region 8 with fail
  have HC6 := hid (show ∀ wx : World, Below w6.heap.size w6 wx → Below w6.heap.size w6 wx ∧ wx.cell? ⟨b + 1, 39, none⟩ = some (.int .i64 ix) from fun wx h => ⟨h, (HCL.out wx (G6.out.trans (h.mono G6.out.size))).2.2.2⟩)
  go_cut [10] (fun v wx => v = .int .i64 1 ∧ Hid (Below w6.heap.size w6 wx))
  case first =>
    refine wp_region_held_drew (S := (fun wx : World => Below w6.heap.size w6 wx ∧ wx.cell? ⟨b + 1, 39, none⟩ = some (.int .i64 ix))) (by kernel_rfl) (HC6.out _ (bel_drewN (Below.refl w6.heap.size w6) 1)) (fun hHeld => ?_)
    refine wpAnyH_take (i := 0) (oi := { dst := some 38, op := Op.move (Operand.tmp 6), type := 58, pos := "law.go:176", after := #[], guard := none }) (v := ?_) rfl (by kernel_rfl) (by kernel_rfl) (by kernel_rfl) (fun _ _ _ h => h) (Or.inl ⟨by rfl, ?hy⟩) hHeld ?_
    case hy => (intro w hSw; (try dsimp only at hSw); obtain ⟨_, _⟩ := hSw; go_simp; all_goals (with_reducible rfl))
    try simp only [Act.put, List.setIfInBounds_toArray, List.set_cons_zero, List.set_cons_succ]
    refine wpAnyH_take (i := 2) (oi := { dst := some 40, op := Op.fieldAddr 70 (Operand.tmp 3) 2, type := 0, pos := "law.go:176", after := #[], guard := none }) (v := ?_) rfl (by kernel_rfl) (by kernel_rfl) (by kernel_rfl) (fun _ _ _ h => h) (Or.inl ⟨by rfl, ?hy⟩) hHeld ?_
    case hy => (intro w hSw; (try dsimp only at hSw); obtain ⟨_, _⟩ := hSw; go_simp; all_goals (with_reducible rfl))
    try simp only [Act.put, List.setIfInBounds_toArray, List.set_cons_zero, List.set_cons_succ]
    refine wpAnyH_take (i := 3) (oi := { dst := some 41, op := Op.load 3 (Operand.tmp 40), type := 3, pos := "law.go:176", after := #[{ on := 2, ground := Ground.data }], guard := none }) (v := ?_) rfl (by kernel_rfl) (by kernel_rfl) (by kernel_rfl) (fun _ _ _ h => h) (Or.inl ⟨by rfl, ?hy⟩) hHeld ?_
    case hy => (intro w hSw; (try dsimp only at hSw); obtain ⟨_, _⟩ := hSw; go_simp; all_goals (with_reducible rfl))
    try simp only [Act.put, List.setIfInBounds_toArray, List.set_cons_zero, List.set_cons_succ]
    refine wpAnyH_ready (rs := [1, 8]) (by kernel_rfl) (by simp) ?_
    refine AllReadyH.cons (o := { dst := some 39, op := Op.call { callee := Callee.value (Operand.func 41), args := #[], argTypes := #[] }, type := 56, pos := "law.go:176", after := #[], guard := none }) rfl (fun K hK => ?_) ?_
    · skip
      go_simp
      refine (newField_any _).mono ?_
      rintro e wx1 ⟨rfl, -, hb1⟩
      have G1x := ((bel_drewN (Below.refl w6.heap.size w6) 1)).trans (hb1.mono ((bel_drewN (Below.refl w6.heap.size w6) 1)).size)
      clear hHeld hb1
      go_wp2_with fail
      refine hK.out _ _ (HC6.out _ G1x) (fun hHeld => ?_)
      clear hK K
      try simp only [Act.put, List.setIfInBounds_toArray, List.set_cons_zero, List.set_cons_succ]
      refine wpAnyH_ready (rs := [4, 8]) (by kernel_rfl) (by simp) ?_
      refine AllReadyH.cons (o := { dst := some 42, op := Op.call { callee := Callee.value (Operand.func 54), args := #[Operand.tmp 38, Operand.tmp 39, Operand.tmp 41], argTypes := #[58, 56, 3] }, type := 86, pos := "law.go:176", after := #[{ on := 0, ground := Ground.data }, { on := 1, ground := Ground.data }, { on := 3, ground := Ground.data }, { on := 1, ground := Ground.chain }], guard := none }) rfl (fun K hK => ?_) ?_
      · skip
        go_simp
        refine (Piece_nil _ _ _).mono ?_
        rintro e wx2 ⟨rfl, hb2⟩
        have G2x := (G1x).trans (hb2.mono (G1x).size)
        clear hHeld hb2
        go_wp2_with fail
        refine hK.out _ _ (HC6.out _ G2x) (fun hHeld => ?_)
        clear hK K
        try simp only [Act.put, List.setIfInBounds_toArray, List.set_cons_zero, List.set_cons_succ]
        refine wpAnyH_take (i := 5) (oi := { dst := some 37, op := Op.move (Operand.tmp 42), type := 86, pos := "law.go:176", after := #[{ on := 4, ground := Ground.data }], guard := none }) (v := ?_) rfl (by kernel_rfl) (by kernel_rfl) (by kernel_rfl) (fun _ _ _ h => h) (Or.inl ⟨by rfl, ?hy⟩) hHeld ?_
        case hy => (intro w hSw; (try dsimp only at hSw); obtain ⟨_, _⟩ := hSw; go_simp; all_goals (with_reducible rfl))
        try simp only [Act.put, List.setIfInBounds_toArray, List.set_cons_zero, List.set_cons_succ]
        refine wpAnyH_take (i := 6) (oi := { dst := some 43, op := Op.extract (Operand.tmp 37) 0, type := 68, pos := "law.go:176", after := #[{ on := 5, ground := Ground.data }], guard := none }) (v := ?_) rfl (by kernel_rfl) (by kernel_rfl) (by kernel_rfl) (fun _ _ _ h => h) (Or.inl ⟨by rfl, ?hy⟩) hHeld ?_
        case hy => (intro w hSw; (try dsimp only at hSw); obtain ⟨_, _⟩ := hSw; go_simp; all_goals (with_reducible rfl))
        try simp only [Act.put, List.setIfInBounds_toArray, List.set_cons_zero, List.set_cons_succ]
        refine wpAnyH_take (i := 7) (oi := { dst := some 44, op := Op.extract (Operand.tmp 37) 1, type := 73, pos := "law.go:176", after := #[{ on := 5, ground := Ground.data }, { on := 9, ground := Ground.gcOnly Departure.lateStores }], guard := none }) (v := ?_) rfl (by kernel_rfl) (by kernel_rfl) (by kernel_rfl) (fun _ _ _ h => h) (Or.inl ⟨by rfl, ?hy⟩) hHeld ?_
        case hy => (intro w hSw; (try dsimp only at hSw); obtain ⟨_, _⟩ := hSw; go_simp; all_goals (with_reducible rfl))
        try simp only [Act.put, List.setIfInBounds_toArray, List.set_cons_zero, List.set_cons_succ]
        refine wpAnyH_ready (rs := [8]) (by kernel_rfl) (by simp) ?_
        refine AllReadyH.cons (o := { dst := some 9, op := Op.alloc 68, type := 0, pos := "law.go:176", after := #[], guard := none }) rfl (fun K hK => ?_) AllReadyH.nil
        go_simp
        have G3x : Below w6.heap.size w6 (wx2.alloc (.cells #[.int .i64 0, .slice none 0 0] 68)) := (G2x).alloc (G2x).size _
        have F_3 := hid (show (wx2.alloc (.cells #[.int .i64 0, .slice none 0 0] 68)).heap[wx2.heap.size]? = some (.cells #[.int .i64 0, .slice none 0 0] 68 (0, 0)) from heap_new wx2 (.cells #[.int .i64 0, .slice none 0 0] 68))
        have lo3 : w6.heap.size ≤ wx2.heap.size := (G2x).size
        refine hK.out _ _ (HC6.out _ G3x) (fun hHeld => ?_)
        clear hK K
        try simp only [Act.put, List.setIfInBounds_toArray, List.set_cons_zero, List.set_cons_succ]
        refine wpAnyH_ready (rs := [9]) (by kernel_rfl) (by simp) ?_
        refine AllReadyH.cons (o := { dst := none, op := Op.store 68 (Operand.tmp 9) (Operand.tmp 43), type := 0, pos := "law.go:176", after := #[{ on := 8, ground := Ground.data }, { on := 6, ground := Ground.data }, { on := 4, ground := Ground.chain }, { on := 0, ground := Ground.phase }, { on := 1, ground := Ground.phase }, { on := 2, ground := Ground.phase }, { on := 3, ground := Ground.phase }, { on := 4, ground := Ground.phase }, { on := 5, ground := Ground.phase }, { on := 6, ground := Ground.phase }, { on := 7, ground := Ground.textOnly Departure.lateStores }, { on := 8, ground := Ground.phase }], guard := none }) rfl (fun K hK => ?_) AllReadyH.nil
        refine step_store_row rfl 68 (.tmp 9) (.tmp 43) rfl (wx2.heap.size) #[.int .i64 0, .slice none 0 0] #[.int .i64 0, .slice none 0 0] 68 rfl rfl F_3.out (by kernel_rfl) rfl (piece_allO 0 none 0 0) ?_
        intro wx4 hw4 hk4
        have G4x := (G3x).trans (hk4.below (G3x).size lo3)
        clear hw4 hk4
        refine hK.out _ _ (HC6.out _ G4x) (fun hHeld => ?_)
        clear hK K
        try simp only [Act.put]
        refine wpAnyH_take (i := 10) (oi := { dst := some 10, op := Op.assign (Operand.tmp 44), type := 73, pos := "law.go:176", after := #[{ on := 7, ground := Ground.data }, { on := 9, ground := Ground.chain }, { on := 0, ground := Ground.phase }, { on := 1, ground := Ground.phase }, { on := 2, ground := Ground.phase }, { on := 3, ground := Ground.phase }, { on := 4, ground := Ground.phase }, { on := 5, ground := Ground.phase }, { on := 6, ground := Ground.phase }, { on := 7, ground := Ground.phase }, { on := 8, ground := Ground.phase }, { on := 9, ground := Ground.phase }], guard := none }) (v := ?_) rfl (by kernel_rfl) (by kernel_rfl) (by kernel_rfl) (fun _ _ _ h => h) (Or.inl ⟨by rfl, ?hy⟩) hHeld ?_
        case hy => (intro w hSw; (try dsimp only at hSw); obtain ⟨_, _⟩ := hSw; go_simp; all_goals (with_reducible rfl))
        try simp only [Act.put, List.setIfInBounds_toArray, List.set_cons_zero, List.set_cons_succ]
        refine wpAnyH_done (by kernel_rfl) ?_ _
        go_wp2_with fail
        go_meet
        exact ⟨rfl, hid G4x⟩
      refine AllReadyH.cons (o := { dst := some 9, op := Op.alloc 68, type := 0, pos := "law.go:176", after := #[], guard := none }) rfl (fun K hK => ?_) AllReadyH.nil
      go_simp
      have G5x : Below w6.heap.size w6 (wx1.alloc (.cells #[.int .i64 0, .slice none 0 0] 68)) := (G1x).alloc (G1x).size _
      have F_5 := hid (show (wx1.alloc (.cells #[.int .i64 0, .slice none 0 0] 68)).heap[wx1.heap.size]? = some (.cells #[.int .i64 0, .slice none 0 0] 68 (0, 0)) from heap_new wx1 (.cells #[.int .i64 0, .slice none 0 0] 68))
      have lo5 : w6.heap.size ≤ wx1.heap.size := (G1x).size
      refine hK.out _ _ (HC6.out _ G5x) (fun hHeld => ?_)
      clear hK K
      try simp only [Act.put, List.setIfInBounds_toArray, List.set_cons_zero, List.set_cons_succ]
      refine wpAnyH_ready (rs := [4]) (by kernel_rfl) (by simp) ?_
      refine AllReadyH.cons (o := { dst := some 42, op := Op.call { callee := Callee.value (Operand.func 54), args := #[Operand.tmp 38, Operand.tmp 39, Operand.tmp 41], argTypes := #[58, 56, 3] }, type := 86, pos := "law.go:176", after := #[{ on := 0, ground := Ground.data }, { on := 1, ground := Ground.data }, { on := 3, ground := Ground.data }, { on := 1, ground := Ground.chain }], guard := none }) rfl (fun K hK => ?_) AllReadyH.nil
      go_simp
      refine (Piece_nil _ _ _).mono ?_
      rintro e wx6 ⟨rfl, hb6⟩
      have G6x := (G5x).trans (hb6.mono (G5x).size)
      have F_6 := hid ((hb6.block _ (lt_of_heap F_5.out)).trans F_5.out)
      clear hHeld hb6
      go_wp2_with fail
      refine hK.out _ _ (HC6.out _ G6x) (fun hHeld => ?_)
      clear hK K
      try simp only [Act.put, List.setIfInBounds_toArray, List.set_cons_zero, List.set_cons_succ]
      refine wpAnyH_take (i := 5) (oi := { dst := some 37, op := Op.move (Operand.tmp 42), type := 86, pos := "law.go:176", after := #[{ on := 4, ground := Ground.data }], guard := none }) (v := ?_) rfl (by kernel_rfl) (by kernel_rfl) (by kernel_rfl) (fun _ _ _ h => h) (Or.inl ⟨by rfl, ?hy⟩) hHeld ?_
      case hy => (intro w hSw; (try dsimp only at hSw); obtain ⟨_, _⟩ := hSw; go_simp; all_goals (with_reducible rfl))
      try simp only [Act.put, List.setIfInBounds_toArray, List.set_cons_zero, List.set_cons_succ]
      refine wpAnyH_take (i := 6) (oi := { dst := some 43, op := Op.extract (Operand.tmp 37) 0, type := 68, pos := "law.go:176", after := #[{ on := 5, ground := Ground.data }], guard := none }) (v := ?_) rfl (by kernel_rfl) (by kernel_rfl) (by kernel_rfl) (fun _ _ _ h => h) (Or.inl ⟨by rfl, ?hy⟩) hHeld ?_
      case hy => (intro w hSw; (try dsimp only at hSw); obtain ⟨_, _⟩ := hSw; go_simp; all_goals (with_reducible rfl))
      try simp only [Act.put, List.setIfInBounds_toArray, List.set_cons_zero, List.set_cons_succ]
      refine wpAnyH_take (i := 7) (oi := { dst := some 44, op := Op.extract (Operand.tmp 37) 1, type := 73, pos := "law.go:176", after := #[{ on := 5, ground := Ground.data }, { on := 9, ground := Ground.gcOnly Departure.lateStores }], guard := none }) (v := ?_) rfl (by kernel_rfl) (by kernel_rfl) (by kernel_rfl) (fun _ _ _ h => h) (Or.inl ⟨by rfl, ?hy⟩) hHeld ?_
      case hy => (intro w hSw; (try dsimp only at hSw); obtain ⟨_, _⟩ := hSw; go_simp; all_goals (with_reducible rfl))
      try simp only [Act.put, List.setIfInBounds_toArray, List.set_cons_zero, List.set_cons_succ]
      refine wpAnyH_ready (rs := [9]) (by kernel_rfl) (by simp) ?_
      refine AllReadyH.cons (o := { dst := none, op := Op.store 68 (Operand.tmp 9) (Operand.tmp 43), type := 0, pos := "law.go:176", after := #[{ on := 8, ground := Ground.data }, { on := 6, ground := Ground.data }, { on := 4, ground := Ground.chain }, { on := 0, ground := Ground.phase }, { on := 1, ground := Ground.phase }, { on := 2, ground := Ground.phase }, { on := 3, ground := Ground.phase }, { on := 4, ground := Ground.phase }, { on := 5, ground := Ground.phase }, { on := 6, ground := Ground.phase }, { on := 7, ground := Ground.textOnly Departure.lateStores }, { on := 8, ground := Ground.phase }], guard := none }) rfl (fun K hK => ?_) AllReadyH.nil
      refine step_store_row rfl 68 (.tmp 9) (.tmp 43) rfl (wx1.heap.size) #[.int .i64 0, .slice none 0 0] #[.int .i64 0, .slice none 0 0] 68 rfl rfl F_6.out (by kernel_rfl) rfl (piece_allO 0 none 0 0) ?_
      intro wx7 hw7 hk7
      have G7x := (G6x).trans (hk7.below (G6x).size lo5)
      clear hw7 hk7
      refine hK.out _ _ (HC6.out _ G7x) (fun hHeld => ?_)
      clear hK K
      try simp only [Act.put]
      refine wpAnyH_take (i := 10) (oi := { dst := some 10, op := Op.assign (Operand.tmp 44), type := 73, pos := "law.go:176", after := #[{ on := 7, ground := Ground.data }, { on := 9, ground := Ground.chain }, { on := 0, ground := Ground.phase }, { on := 1, ground := Ground.phase }, { on := 2, ground := Ground.phase }, { on := 3, ground := Ground.phase }, { on := 4, ground := Ground.phase }, { on := 5, ground := Ground.phase }, { on := 6, ground := Ground.phase }, { on := 7, ground := Ground.phase }, { on := 8, ground := Ground.phase }, { on := 9, ground := Ground.phase }], guard := none }) (v := ?_) rfl (by kernel_rfl) (by kernel_rfl) (by kernel_rfl) (fun _ _ _ h => h) (Or.inl ⟨by rfl, ?hy⟩) hHeld ?_
      case hy => (intro w hSw; (try dsimp only at hSw); obtain ⟨_, _⟩ := hSw; go_simp; all_goals (with_reducible rfl))
      try simp only [Act.put, List.setIfInBounds_toArray, List.set_cons_zero, List.set_cons_succ]
      refine wpAnyH_done (by kernel_rfl) ?_ _
      go_wp2_with fail
      go_meet
      exact ⟨rfl, hid G7x⟩
    refine AllReadyH.cons (o := { dst := some 9, op := Op.alloc 68, type := 0, pos := "law.go:176", after := #[], guard := none }) rfl (fun K hK => ?_) AllReadyH.nil
    go_simp
    have G8x : Below w6.heap.size w6 ((w6.drewN 1).alloc (.cells #[.int .i64 0, .slice none 0 0] 68)) := ((bel_drewN (Below.refl w6.heap.size w6) 1)).alloc ((bel_drewN (Below.refl w6.heap.size w6) 1)).size _
    have F_8 := hid (show ((w6.drewN 1).alloc (.cells #[.int .i64 0, .slice none 0 0] 68)).heap[w6.heap.size]? = some (.cells #[.int .i64 0, .slice none 0 0] 68 (0, 0)) from heap_new (w6.drewN 1) (.cells #[.int .i64 0, .slice none 0 0] 68))
    have lo8 : w6.heap.size ≤ w6.heap.size := ((bel_drewN (Below.refl w6.heap.size w6) 1)).size
    refine hK.out _ _ (HC6.out _ G8x) (fun hHeld => ?_)
    clear hK K
    try simp only [Act.put, List.setIfInBounds_toArray, List.set_cons_zero, List.set_cons_succ]
    refine wpAnyH_ready (rs := [1]) (by kernel_rfl) (by simp) ?_
    refine AllReadyH.cons (o := { dst := some 39, op := Op.call { callee := Callee.value (Operand.func 41), args := #[], argTypes := #[] }, type := 56, pos := "law.go:176", after := #[], guard := none }) rfl (fun K hK => ?_) AllReadyH.nil
    go_simp
    refine (newField_any _).mono ?_
    rintro e wx9 ⟨rfl, -, hb9⟩
    have G9x := (G8x).trans (hb9.mono (G8x).size)
    have F_9 := hid ((hb9.block _ (lt_of_heap F_8.out)).trans F_8.out)
    clear hHeld hb9
    go_wp2_with fail
    refine hK.out _ _ (HC6.out _ G9x) (fun hHeld => ?_)
    clear hK K
    try simp only [Act.put, List.setIfInBounds_toArray, List.set_cons_zero, List.set_cons_succ]
    refine wpAnyH_ready (rs := [4]) (by kernel_rfl) (by simp) ?_
    refine AllReadyH.cons (o := { dst := some 42, op := Op.call { callee := Callee.value (Operand.func 54), args := #[Operand.tmp 38, Operand.tmp 39, Operand.tmp 41], argTypes := #[58, 56, 3] }, type := 86, pos := "law.go:176", after := #[{ on := 0, ground := Ground.data }, { on := 1, ground := Ground.data }, { on := 3, ground := Ground.data }, { on := 1, ground := Ground.chain }], guard := none }) rfl (fun K hK => ?_) AllReadyH.nil
    go_simp
    refine (Piece_nil _ _ _).mono ?_
    rintro e wx10 ⟨rfl, hb10⟩
    have G10x := (G9x).trans (hb10.mono (G9x).size)
    have F_10 := hid ((hb10.block _ (lt_of_heap F_9.out)).trans F_9.out)
    clear hHeld hb10
    go_wp2_with fail
    refine hK.out _ _ (HC6.out _ G10x) (fun hHeld => ?_)
    clear hK K
    try simp only [Act.put, List.setIfInBounds_toArray, List.set_cons_zero, List.set_cons_succ]
    refine wpAnyH_take (i := 5) (oi := { dst := some 37, op := Op.move (Operand.tmp 42), type := 86, pos := "law.go:176", after := #[{ on := 4, ground := Ground.data }], guard := none }) (v := ?_) rfl (by kernel_rfl) (by kernel_rfl) (by kernel_rfl) (fun _ _ _ h => h) (Or.inl ⟨by rfl, ?hy⟩) hHeld ?_
    case hy => (intro w hSw; (try dsimp only at hSw); obtain ⟨_, _⟩ := hSw; go_simp; all_goals (with_reducible rfl))
    try simp only [Act.put, List.setIfInBounds_toArray, List.set_cons_zero, List.set_cons_succ]
    refine wpAnyH_take (i := 6) (oi := { dst := some 43, op := Op.extract (Operand.tmp 37) 0, type := 68, pos := "law.go:176", after := #[{ on := 5, ground := Ground.data }], guard := none }) (v := ?_) rfl (by kernel_rfl) (by kernel_rfl) (by kernel_rfl) (fun _ _ _ h => h) (Or.inl ⟨by rfl, ?hy⟩) hHeld ?_
    case hy => (intro w hSw; (try dsimp only at hSw); obtain ⟨_, _⟩ := hSw; go_simp; all_goals (with_reducible rfl))
    try simp only [Act.put, List.setIfInBounds_toArray, List.set_cons_zero, List.set_cons_succ]
    refine wpAnyH_take (i := 7) (oi := { dst := some 44, op := Op.extract (Operand.tmp 37) 1, type := 73, pos := "law.go:176", after := #[{ on := 5, ground := Ground.data }, { on := 9, ground := Ground.gcOnly Departure.lateStores }], guard := none }) (v := ?_) rfl (by kernel_rfl) (by kernel_rfl) (by kernel_rfl) (fun _ _ _ h => h) (Or.inl ⟨by rfl, ?hy⟩) hHeld ?_
    case hy => (intro w hSw; (try dsimp only at hSw); obtain ⟨_, _⟩ := hSw; go_simp; all_goals (with_reducible rfl))
    try simp only [Act.put, List.setIfInBounds_toArray, List.set_cons_zero, List.set_cons_succ]
    refine wpAnyH_ready (rs := [9]) (by kernel_rfl) (by simp) ?_
    refine AllReadyH.cons (o := { dst := none, op := Op.store 68 (Operand.tmp 9) (Operand.tmp 43), type := 0, pos := "law.go:176", after := #[{ on := 8, ground := Ground.data }, { on := 6, ground := Ground.data }, { on := 4, ground := Ground.chain }, { on := 0, ground := Ground.phase }, { on := 1, ground := Ground.phase }, { on := 2, ground := Ground.phase }, { on := 3, ground := Ground.phase }, { on := 4, ground := Ground.phase }, { on := 5, ground := Ground.phase }, { on := 6, ground := Ground.phase }, { on := 7, ground := Ground.textOnly Departure.lateStores }, { on := 8, ground := Ground.phase }], guard := none }) rfl (fun K hK => ?_) AllReadyH.nil
    refine step_store_row rfl 68 (.tmp 9) (.tmp 43) rfl (w6.heap.size) #[.int .i64 0, .slice none 0 0] #[.int .i64 0, .slice none 0 0] 68 rfl rfl F_10.out (by kernel_rfl) rfl (piece_allO 0 none 0 0) ?_
    intro wx11 hw11 hk11
    have G11x := (G10x).trans (hk11.below (G10x).size lo8)
    clear hw11 hk11
    refine hK.out _ _ (HC6.out _ G11x) (fun hHeld => ?_)
    clear hK K
    try simp only [Act.put]
    refine wpAnyH_take (i := 10) (oi := { dst := some 10, op := Op.assign (Operand.tmp 44), type := 73, pos := "law.go:176", after := #[{ on := 7, ground := Ground.data }, { on := 9, ground := Ground.chain }, { on := 0, ground := Ground.phase }, { on := 1, ground := Ground.phase }, { on := 2, ground := Ground.phase }, { on := 3, ground := Ground.phase }, { on := 4, ground := Ground.phase }, { on := 5, ground := Ground.phase }, { on := 6, ground := Ground.phase }, { on := 7, ground := Ground.phase }, { on := 8, ground := Ground.phase }, { on := 9, ground := Ground.phase }], guard := none }) (v := ?_) rfl (by kernel_rfl) (by kernel_rfl) (by kernel_rfl) (fun _ _ _ h => h) (Or.inl ⟨by rfl, ?hy⟩) hHeld ?_
    case hy => (intro w hSw; (try dsimp only at hSw); obtain ⟨_, _⟩ := hSw; go_simp; all_goals (with_reducible rfl))
    try simp only [Act.put, List.setIfInBounds_toArray, List.set_cons_zero, List.set_cons_succ]
    refine wpAnyH_done (by kernel_rfl) ?_ _
    go_wp2_with fail
    go_meet
    exact ⟨rfl, hid G11x⟩
  case rest =>
    obtain ⟨rfl, HBC⟩ := hcut
    have G7 := hid (G6.out.trans (HBC.out.mono G6.out.size))
    clear HBC
    go_wp2_with fail
    refine (Manifest_nil wc).mono ?_
    rintro e w8 ⟨rfl, hb8⟩
    have G8 := hid (G7.out.trans (hb8.mono G7.out.size))
    clear hb8
    go_wp2_with (first
      | (refine wpList_store_row (by rfl) 62 (.tmp 11) (.tmp 48) (by rfl) w8.heap.size _ mz 62 (by rfl) (by rfl) (heap_new _ _) HIZ.out rfl HOZ.out ?_
         intro w9 hw9 hk9
         have G9 := hid ((G8.out.alloc G8.out.size (.cells mz 62)).trans (hk9.below (Nat.le_trans G8.out.size (by simp)) G8.out.size))
         clear hw9 hk9)
      | ((have h9 := G9.out)
         (refine wpList_load_mid (by rfl) 23 (.tmp 2) (by rfl) b 0 (by rfl) (u8s obj) _ (HRD.out _ h9) Tryz.underlying23 rfl HIF.out ?_)))
    refine (Blocked_nil obj 2 1 _ _ _).mono ?_
    rintro e w10 ⟨rfl, hb10⟩
    have G10 := hid ((G9.out.alloc G9.out.size (.cells #[.int .i64 1, .int .i64 2] 3)).trans (hb10.mono (Nat.le_trans G9.out.size (by simp))))
    clear hb10
    go_wp2_with (refine wpList_load_wantP (by rfl) 23 (.tmp 2) (by rfl) b 0 (by rfl) (u8s obj) _ (HRD.out _ G10.out) Tryz.underlying23 rfl HIF.out ?_)
    refine (Claimants_nil obj w10).mono ?_
    rintro e w11 ⟨rfl, hb11⟩
    have G11 := hid (G10.out.trans (hb11.mono G10.out.size))
    clear hb11
    obtain ⟨-, c37, c38, -⟩ := HCL.out w11 G11.out
    go_wp2_with (refine wpList_load_wantP (by rfl) 62 (.tmp 64) (by rfl) (b + 1) 0 (by rfl) (mcells k n t s od (.slice ma mm mc)) _ (HRM.out _ G11.out) Tryz.underlying62 rfl HIM.out ?_)
    refine (own_pl k n t s od ma mm mc mD x pa pn pc pl w11 HOD.out (HDG.out.below G11.out) (by omega) (HPB.out.1.below G11.out) HPB.out.2.2 (by omega)).mono ?_
    rintro e w12 ⟨a', c', pa', pc', rfl, -, -, -, -, -, -, hb12⟩
    have G12 := hid (G11.out.trans (hb12.mono G11.out.size))
    clear hb12 c37 c38
    go_wp2_with fail
    refine (Offer_nil _ _ w12).mono ?_
    rintro e w13 ⟨rfl, hb13⟩
    have G13 := hid (G12.out.trans (hb13.mono G12.out.size))
    clear hb13
    go_wp2_with fail
    refine (Ready_nil w13).mono ?_
    rintro e w14 ⟨rfl, hb14⟩
    have G14 := hid (G13.out.trans (hb14.mono G13.out.size))
    clear hb14
    go_wp2_with fail
    refine (Indices_nil w14).mono ?_
    rintro e w15 ⟨rfl, hb15⟩
    have G15 := hid (G14.out.trans (hb15.mono G14.out.size))
    clear hb15
    go_wp2_with fail
    refine (HEND.out w15 G15.out).mono ?_
    rintro e w16 ⟨rfl, hb16⟩
    go_wp2_with fail
    go_ret
    exact ⟨rfl, hb16⟩
end Go.Proofs.YtjgiiciniplbnaaGreatDoor

namespace Go.Proofs.YtjgiiciniplbnaaGreatDoor
open Go Go.RowKit
set_option linter.unusedVariables false

def cellN (v : Option Value) : Nat := match v with | some (.int _ n) => n.toNat | _ => 0
theorem cellN_int (k : IntKind) (n : Nat) : cellN (some (.int k (n : Int))) = n := rfl
theorem open_arr32 {P : Program} {t e : TypeId} (ht : P.underlying t = some (.array 32 e)) (he : P.underlying e = some (.int .u8)) (hc : P.cellsOf t = 32) (hc1 : P.cellsOf e = 1)
    {H : Type} {enc : TypeId × Value → H} {W : World} {r : Reach} {base b0 : Nat} {spare : Nat → Bool} {held : Bool} {v : Value} {d : DataW H} {ps : List MemPlace}
    (hval : Value.okWide P W r b0 t v) (h : DataW.Trod enc P W base spare held t v d ps) :
    ∃ l : List Nat, v = .agg (u8s l).toArray ∧ l.length = 32 ∧ ∀ i, l.getD i 0 < 256 := by
  simp only [Value.okWide, ht] at hval
  obtain ⟨cs, rfl, hsz, _⟩ := hval
  rw [hc] at hsz
  obtain ⟨fuel, hf⟩ := h
  obtain ⟨xs, m, _, _, _, hxl, hall⟩ := DataW.trod_array ht hf
  have each : ∀ i, i < 32 → ∃ n : Nat, cs[i]? = some (.int .u8 (n : Int)) ∧ n < 256 := fun i hi => by
    have h1 := hall i hi
    rw [hc1, List.getElem?_eq_getElem (show i < xs.length by omega)] at h1
    obtain ⟨n, h2, _, hw⟩ := DataW.trod_int he h1
    have h3 := getElem?_of_chunk (xs := cs) h2
    have h4 := bounds_u8 hw
    exact ⟨n.toNat, by rw [Nat.mul_one] at h3; rw [h3, Int.toNat_of_nonneg h4.1], by omega⟩
  have hat : ∀ i, i < 32 → ((List.range 32).map fun i => cellN cs[i]?)[i]? = some (cellN cs[i]?) := fun i hi => by
    rw [List.getElem?_map, List.getElem?_range hi]
    rfl
  have hlen : ((List.range 32).map fun i => cellN cs[i]?).length = 32 := by rw [List.length_map, List.length_range]
  generalize (List.range 32).map (fun i => cellN cs[i]?) = l at *
  refine ⟨l, ?_, hlen, fun i => ?_⟩
  · congr 1
    apply Array.ext_getElem?
    intro i
    by_cases hi : i < 32
    · obtain ⟨n, h1, h2⟩ := each i hi
      have h3 := hat i hi
      rw [h1, cellN_int] at h3
      rw [h1, List.getElem?_toArray]
      unfold u8s
      rw [List.getElem?_map, h3]
      rfl
    · rw [Array.getElem?_eq_none (by omega), List.getElem?_toArray, List.getElem?_eq_none (by unfold u8s; rw [List.length_map]; omega)]
  · rw [List.getD_eq_getElem?_getD]
    by_cases hi : i < 32
    · obtain ⟨n, h1, h2⟩ := each i hi
      have h3 := hat i hi
      rw [h1, cellN_int] at h3
      rw [h3]
      exact h2
    · rw [List.getElem?_eq_none (by omega)]
      exact Nat.succ_pos _
set_option maxRecDepth 100000 in
theorem open_dig {H : Type} {enc : TypeId × Value → H} {W : World} {base b0 : Nat} {spare : Nat → Bool} {held : Bool} {v : Value} {d : DataW H} {ps : List MemPlace}
    (hval : Value.okWide Tryz.prog W .any b0 23 v) (h : DataW.Trod enc Tryz.prog W base spare held 23 v d ps) :
    ∃ l : List Nat, v = .agg (u8s l).toArray ∧ l.length = 32 ∧ ∀ i, l.getD i 0 < 256 :=
  open_arr32 (P := Tryz.prog) (t := 23) (e := 5) Tryz.underlying23 Tryz.underlying5 (by kernel_rfl) (by kernel_rfl) (W := W) (r := .any) (b0 := b0) (v := v) (enc := enc) (base := base) (spare := spare) (held := held) (d := d) (ps := ps) hval h
end Go.Proofs.YtjgiiciniplbnaaGreatDoor

namespace Go.Proofs.YtjgiiciniplbnaaGreatDoor.placeNothing
open Go.ChangeShapes Go.WideShapes Go.ChangeAt Go.RowKit Go.WideMaps Go.WideElems
open Go.ChangeMaps (open_string shut_string)
set_option linter.unusedVariables false

set_option maxRecDepth 100000 in
theorem lifted (os : Os) (started : os.Started) (H : Type) (enc : TypeId × Value → H) :
    ReturnsInHanded {} Tryz.checked os 7 .any (fun w args => (Rows.placeNothingSpec.pre enc Tryz.prog Tryz.f7 [] false w args ∧ laidMetH Tryz.prog laidA w) ∧ sizedMet enc Tryz.prog Tryz.f7 (OpenSpec.ofChange Rows.placeNothingSpec) false w args)
      (Rows.placeNothingSpec.post enc Tryz.prog Tryz.f7 false true false false) := by
  refine returnsInHanded_of_change_and (C := Tryz.checked) (X := fun w _ => laidMetH Tryz.prog laidA w) (fun _ _ _ hh h => h.of_heap hh) ownD started (by kernel_rfl) Tryz.func7
    (ChangeSpec.witness_shaped (enc := enc) (C := Tryz.checked) (os := os) (X := fun w _ => laidMetH Tryz.prog laidA w) false (World.doorLaid Tryz.prog 24 os) #[.agg (u8s (List.replicate 32 0)).toArray, .agg (ocells 0 0 0 0 (List.replicate 32 0) (.slice none 0 0) 0 (.slice none 0 0) 0).toArray] 8 rfl (World.shaped_of_RefB (by kernel_rfl) (by kernel_rfl)) (by kernel_rfl) (by kernel_rfl) (by kernel_rfl) (door_metA os _)) ?_
  intro W base args ds gs before hval0 hW _ _ hL _
  have hval : ∀ (j : Nat) t v, Tryz.f7.params[j]? = some t → args[j]? = some v → Value.okWide Tryz.prog W .any base t v := hval0
  have hW' := hW
  obtain ⟨p, q, hA0, hV, rfl, hfz, hnd⟩ := hW
  have hA : DataW.TrodAll enc Tryz.prog W 0 (fun _ => true) true Tryz.f7.params.toList args.toList ds p := hA0
  rw [Tryz.params7] at hA hval
  obtain ⟨v0, vs0, d0, ds0, p0, q0, hargs, rfl, rfl, h0, r0⟩ := trodAll_cons hA
  obtain ⟨v1, vs1, d1, ds1, p1, q1, rfl, rfl, rfl, h1, r1⟩ := trodAll_cons r0
  obtain ⟨rfl, rfl, rfl⟩ := trodAll_nil r1
  obtain rfl : args = #[v0, v1] := by cases args; simp_all
  obtain ⟨rfl, rfl⟩ := trodVars_none hV
  have k0 := h0
  have lt0 : ∀ x ∈ p0, x.block < W.heap.size := by obtain ⟨m, hm⟩ := k0; exact DataW.trod_lt m _ _ _ hm
  obtain ⟨l0, rfl, hl0, hb0⟩ := open_dig (hval 0 23 v0 rfl rfl) h0
  have k1 := h1
  have lt1 : ∀ x ∈ p1, x.block < W.heap.size := by obtain ⟨m, hm⟩ := k1; exact DataW.trod_lt m _ _ _ hm
  obtain ⟨ok1, on1, ot1, os1, oo1, oa1, om1, oc1, oD1, ox1, opa1, opn1, opc1, ol1, oi1, rfl, vo1, vl1, vD1, vx1, vb1, vi1⟩ := open_offer (hval 1 70 v1 rfl rfl) h1
  clear hA0 hval0
  refine (nothing_walk W (vars_of_laid hL) l0 hl0 hb0 ok1 on1 ot1 os1 oo1 oa1 om1 oc1 oD1 ox1 opa1 opn1 opc1 ol1 oi1 vo1 vl1 vD1 vx1 vb1 vi1).mono fun e W' ⟨he, bel⟩ => ?_
  subst he
  exact ⟨_, rfl, _, _, _, [], _, [], hW', trodAll_mk1 (shut_bool Tryz.underlying4 _), (trodAll_cons_mk (Below.trod Facts.laidOut (by kernel_rfl) (of_decide_eq_true (by kernel_rfl)) k0 bel lt0) (trodAll_cons_mk (Below.trod Facts.laidOut (by kernel_rfl) (of_decide_eq_true (by kernel_rfl)) k1 bel lt1) trodAll_mk0)), rfl, bel.frame _, fun h => by cases h⟩

set_option maxHeartbeats 4000000 in
set_option maxRecDepth 1000000 in
theorem closed : joinedFacts Tryz.pinned.checked.prog 7 Tryz.f7 Rows.placeNothingSpec Rows.placeNothingRow = true := by
  unfold joinedFacts
  refine (Facts.and2 (Facts.and2 (Facts.and2 (Facts.and2 (Facts.and2 (Facts.and2 (Facts.and2 (Facts.and2 (Facts.and2 (Facts.and2 (Facts.and2 (Facts.and2 (Facts.and2 (Facts.and2 (Facts.and2 (Facts.and2 (Facts.and2 (Facts.and2 (Facts.and2 (Facts.and2 (Facts.and2 (Facts.and2 (Facts.and2 (Facts.and2 (Facts.and2 (Facts.and2 (Facts.and2 (Facts.and2 (Facts.and2 (Facts.and2 (Facts.and2 ?_ Facts.laidOut) Facts.mapsR) ?_) ?_) ?_) Facts.stops) ?_) Facts.knobs) ?_) ?_) ?_) ?_) ?_) ?_) ?_) ?_) ?_) ?_) ?_) ?_) ?_) Facts.keys) ?_) Facts.heard) Facts.enter) ?_) ?_) ?_) ?_) ?_) ?_)
  all_goals (as_aux_lemma => kernel_rfl)

theorem over : Rows.placeNothingRow.holds Tryz.pinned (OpenSpec.ofChange Rows.placeNothingSpec) :=
  OpenClaim.holds_of_wide 7 Tryz.f7 rfl rfl rfl rfl rfl rfl rfl ⟨rfl, rfl, rfl, rfl, rfl⟩ rfl rfl rfl rfl rfl (by as_aux_lemma => kernel_rfl) Tryz.func7 closed
    (of_decide_eq_true (by as_aux_lemma => kernel_rfl)) (by unfold Func.isWrapper; first | (rw [if_pos (by decide +kernel)]; kernel_rfl) | (rw [if_neg (by decide +kernel)]; exact ⟨rfl, rfl⟩))
    (fun os started H enc _ => lifted os started H enc)
end Go.Proofs.YtjgiiciniplbnaaGreatDoor.placeNothing
namespace Go.Proofs.YtjgiiciniplbnaaGreatDoor
open Go
set_option maxHeartbeats 4000000 in
set_option maxRecDepth 1000000 in
theorem placeNothing_holds : Rows.PlaceNothingCardSaid :=
  Claim7.holds_tied_plain_at .later [] [.data, .data] true (true, "4a085e94ccebdf24e9b63843c722f4a968f2e6f610b760c9b6f284c344973c54") false
    placeNothing.over (fun _ h => by cases h) (by as_aux_lemma => kernel_rfl) (fun _ h => by cases h) placeNothing_row_tie rfl ⟨rfl, rfl⟩ (by as_aux_lemma => kernel_rfl) rfl
    (fun f fn hf hfn => by
      obtain rfl : f = 7 := Option.some.inj ((show Tryz.prog.funcNamed "stolon/stolonlaw07.PlaceNothing" = some 7 by as_aux_lemma => kernel_rfl).symm.trans hf) |>.symm
      obtain rfl : fn = Tryz.f7 := (Option.some.inj (Tryz.func7.symm.trans hfn)).symm
      exact ⟨by as_aux_lemma => kernel_rfl, fun j t ht => by
        rw [Tryz.params7] at ht
        rcases j with _ | _ | j
        · obtain rfl : t = 23 := by simpa using ht.symm
          exact (show Tryz.prog.wantsStandIn 23 = false by as_aux_lemma => kernel_rfl)
        · obtain rfl : t = 70 := by simpa using ht.symm
          exact (show Tryz.prog.wantsStandIn 70 = false by as_aux_lemma => kernel_rfl)
        · simp at ht⟩)
    (by as_aux_lemma => kernel_rfl)
#print axioms placeNothing_holds
end Go.Proofs.YtjgiiciniplbnaaGreatDoor
