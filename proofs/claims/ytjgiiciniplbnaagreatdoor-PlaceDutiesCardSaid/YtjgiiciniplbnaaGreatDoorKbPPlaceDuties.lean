/-
  PlaceDuties: for every input the call returns true, and each argument reads behind it as before; the listed variables hold what the program's text lays (tied). No other condition.
-/
import Derived.Test.YtjgiiciniplbnaaGreatDoorKb3
import Derived.Test.YtjgiiciniplbnaaGreatDoorKb1
import Derived.Test.YtjgiiciniplbnaaGreatDoorCards
import Derived.Test.YtjgiiciniplbnaaGreatDoorTie
import Derived.ShutString
import Derived.ChangeOld
import Derived.Below
namespace Go.Proofs.YtjgiiciniplbnaaGreatDoor
open Go Go.RowKit Go.Lib Go.Sort
set_option linter.unusedVariables false

set_option maxRecDepth 100000 in
set_option maxHeartbeats 24000000 in
theorem duties_walk (w : World) (V : Vars w shaRound shaStart) (R : Rnds w) (obj : List Nat) (self N : Int) (a0 : Option Addr) (n0 c0 : Nat) (l0 : List Int) (a1 : Option Addr) (n1 c1 : Nat) (l1 : List Int) (held buried : Bool)
    (ho : obj.length = 32) (hlt : ∀ x ∈ obj, x < 256) (hself : (Lit.int .i64 self).wf = true) (hN : (Lit.int .i64 N).wf = true) (h0 : In w a0 n0 c0 l0) (h1 : In w a1 n1 c1 l1) :
    Calls Tryz.prog 4 #[.agg (u8s obj ++ ([.int .i64 self, .int .i64 N, .slice a0 n0 c0, .slice a1 n1 c1, .bool held, .bool buried] : List Value)).toArray] w fun e w' => e = .returned (.bool true) ∧ Below w.heap.size w w' := by
  obtain ⟨w1, hw1⟩ : ∃ y, y = w.alloc (.cells (u8s obj ++ ([.int .i64 self, .int .i64 N, .slice a0 n0 c0, .slice a1 n1 c1, .bool held, .bool buried] : List Value)).toArray 31) := ⟨_, rfl⟩
  have hb1 : Below w.heap.size w w1 := by rw [hw1]; exact (Below.refl _ _).alloc (Nat.le_refl _) _
  have HRX := hid (show w1.heap[w.heap.size]? = some (.cells (u8s obj ++ ([.int .i64 self, .int .i64 N, .slice a0 n0 c0, .slice a1 n1 c1, .bool held, .bool buried] : List Value)).toArray 31 (0, 0)) from by rw [hw1]; exact heap_new _ _)
  have HB1 := hid hb1
  have HW1 := hid hw1
  have HV1 := hid (V.below hb1)
  have HR1 := hid (R.below hb1)
  have HO := hid ho
  have HLT := hid hlt
  have HA := hid (show In w1 a0 n0 c0 l0 from ⟨h0.1.belowP hb1, h0.2⟩)
  have HH := hid (show In w1 a1 n1 c1 l1 from ⟨h1.1.belowP hb1, h1.2⟩)
  have HEND := hid (fun (wx : World) (h : Below w1.heap.size w1 wx) => (known_pl wx (HV1.out.below h)).mono fun e w' (q : e = .returned (.bool true) ∧ Below wx.heap.size wx w') => (⟨q.1, HB1.out.trans ((h.trans (q.2.mono h.size)).mono HB1.out.size)⟩ : e = .returned (.bool true) ∧ Below w.heap.size w w'))
  obtain ⟨OB, hOB⟩ : ∃ y, y = (u8s obj).toArray := ⟨_, rfl⟩
  have HL1 := hid (show ∀ wx, Below w1.heap.size w1 wx → wx.cell? ⟨w.heap.size, 32, none⟩ = some (.int .i64 self) ∧ wx.cell? ⟨w.heap.size, 33, none⟩ = some (.int .i64 N) ∧ wx.cell? ⟨w.heap.size, 34, none⟩ = some (.slice a0 n0 c0) ∧ wx.cell? ⟨w.heap.size, 35, none⟩ = some (.slice a1 n1 c1) ∧ wx.cell? ⟨w.heap.size, 36, none⟩ = some (.bool held) ∧ wx.cell? ⟨w.heap.size, 37, none⟩ = some (.bool buried) ∧ (loadVar 23 ⟨w.heap.size, 0, none⟩).run Tryz.prog wx = .ok (.agg OB) wx from fun wx hx => by
    have hr := (hx.block w.heap.size (lt_of_heap HRX.out)).trans HRX.out
    rw [hOB]
    exact ⟨box_cell hr HO.out 0 _ rfl, box_cell hr HO.out 1 _ rfl, box_cell hr HO.out 2 _ rfl, box_cell hr HO.out 3 _ rfl, box_cell hr HO.out 4 _ rfl, box_cell hr HO.out 5 _ rfl, box_dig hr HO.out⟩)
  have HOBE := hid hOB
  clear V R hb1 hw1 ho hlt h0 h1 hOB
  go_enter Tryz.func4, Tryz.ntmps4
  go_upto_region 1 with fail
  rw [← HW1.out]
  clear HW1
  obtain ⟨c32, c33, c34, c35, c36, c37, -⟩ := HL1.out w1 (Below.refl _ _)
  rcases Nat.lt_or_ge 100 n0 with hs0 | hs0
  · have hs0' : (100 : Int) < (n0 : Int) := by omega
    go_wp2_with fail
    refine (HEND.out _ (Below.refl _ _)).mono ?_
    rintro e w4 ⟨rfl, hb4⟩
    go_wp2_with fail
    go_ret
    exact ⟨rfl, hb4⟩
  rcases Nat.lt_or_ge 100 n1 with hs1 | hs1
  · have hs0' : ¬ (100 : Int) < (n0 : Int) := by omega
    have hs1' : (100 : Int) < (n1 : Int) := by omega
    go_wp2_with fail
    refine (HEND.out _ (Below.refl _ _)).mono ?_
    rintro e w4 ⟨rfl, hb4⟩
    go_wp2_with fail
    go_ret
    exact ⟨rfl, hb4⟩
  have hs0' : ¬ (100 : Int) < (n0 : Int) := by omega
  have hs1' : ¬ (100 : Int) < (n1 : Int) := by omega
  go_upto_region 3 with fail
  have HIN := hid (fun (wx : World) (h : Below w1.heap.size w1 wx) => ints_any a0 n0 c0 l0 wx (HA.out.1.belowP h) HA.out.2.2 HA.out.2.1 (by omega))
  have HIM := hid (fun (wx : World) (h : Below w1.heap.size w1 wx) => ints_any a1 n1 c1 l1 wx (HH.out.1.belowP h) HH.out.2.2 HH.out.2.1 (by omega))
  have HK1 := hid (show ∀ wx, Below w1.heap.size w1 wx → Below w1.heap.size w1 wx ∧ wx.cell? ⟨w.heap.size, 32, none⟩ = some (.int .i64 self) ∧ wx.cell? ⟨w.heap.size, 33, none⟩ = some (.int .i64 N) ∧ wx.cell? ⟨w.heap.size, 34, none⟩ = some (.slice a0 n0 c0) ∧ wx.cell? ⟨w.heap.size, 35, none⟩ = some (.slice a1 n1 c1) ∧ wx.cell? ⟨w.heap.size, 36, none⟩ = some (.bool held) ∧ wx.cell? ⟨w.heap.size, 37, none⟩ = some (.bool buried) ∧ (loadVar 23 ⟨w.heap.size, 0, none⟩).run Tryz.prog wx = .ok (.agg OB) wx from fun wx h => ⟨h, HL1.out wx h⟩)
  clear c32 c33 c34 c35 c36 c37
  refine wp_region_held_drew (S := (fun wx => Below w1.heap.size w1 wx ∧ wx.cell? ⟨w.heap.size, 32, none⟩ = some (.int .i64 self) ∧ wx.cell? ⟨w.heap.size, 33, none⟩ = some (.int .i64 N) ∧ wx.cell? ⟨w.heap.size, 34, none⟩ = some (.slice a0 n0 c0) ∧ wx.cell? ⟨w.heap.size, 35, none⟩ = some (.slice a1 n1 c1) ∧ wx.cell? ⟨w.heap.size, 36, none⟩ = some (.bool held) ∧ wx.cell? ⟨w.heap.size, 37, none⟩ = some (.bool buried) ∧ (loadVar 23 ⟨w.heap.size, 0, none⟩).run Tryz.prog wx = .ok (.agg OB) wx)) (by kernel_rfl) (HK1.out _ (bel_drewN (Below.refl _ _) 1)) (fun hHeld => ?_)
  refine wpAnyH_take (i := 0) (oi := { dst := some 16, op := Op.fieldAddr 31 (Operand.tmp 1) 3, type := 0, pos := "law.go:65", after := #[], guard := none }) (v := ?_) rfl (by kernel_rfl) (by kernel_rfl) (by kernel_rfl) (fun _ _ _ h => h) (Or.inl ⟨by rfl, ?hy⟩) hHeld ?_
  case hy => (intro w hSw; (try dsimp only at hSw); obtain ⟨_, _, _, _, _, _, _, _⟩ := hSw; go_simp; all_goals (with_reducible rfl))
  try simp only [Act.put, List.setIfInBounds_toArray, List.set_cons_zero, List.set_cons_succ]
  refine wpAnyH_take (i := 1) (oi := { dst := some 17, op := Op.load 27 (Operand.tmp 16), type := 27, pos := "law.go:65", after := #[{ on := 0, ground := Ground.data }], guard := none }) (v := ?_) rfl (by kernel_rfl) (by kernel_rfl) (by kernel_rfl) (fun _ _ _ h => h) (Or.inl ⟨by rfl, ?hy⟩) hHeld ?_
  case hy => (intro w hSw; (try dsimp only at hSw); obtain ⟨_, _, _, _, _, _, _, _⟩ := hSw; go_simp; all_goals (with_reducible rfl))
  try simp only [Act.put, List.setIfInBounds_toArray, List.set_cons_zero, List.set_cons_succ]
  refine wpAnyH_take (i := 3) (oi := { dst := some 19, op := Op.fieldAddr 31 (Operand.tmp 1) 4, type := 0, pos := "law.go:65", after := #[], guard := none }) (v := ?_) rfl (by kernel_rfl) (by kernel_rfl) (by kernel_rfl) (fun _ _ _ h => h) (Or.inl ⟨by rfl, ?hy⟩) hHeld ?_
  case hy => (intro w hSw; (try dsimp only at hSw); obtain ⟨_, _, _, _, _, _, _, _⟩ := hSw; go_simp; all_goals (with_reducible rfl))
  try simp only [Act.put, List.setIfInBounds_toArray, List.set_cons_zero, List.set_cons_succ]
  refine wpAnyH_take (i := 4) (oi := { dst := some 20, op := Op.load 27 (Operand.tmp 19), type := 27, pos := "law.go:65", after := #[{ on := 3, ground := Ground.data }], guard := none }) (v := ?_) rfl (by kernel_rfl) (by kernel_rfl) (by kernel_rfl) (fun _ _ _ h => h) (Or.inl ⟨by rfl, ?hy⟩) hHeld ?_
  case hy => (intro w hSw; (try dsimp only at hSw); obtain ⟨_, _, _, _, _, _, _, _⟩ := hSw; go_simp; all_goals (with_reducible rfl))
  try simp only [Act.put, List.setIfInBounds_toArray, List.set_cons_zero, List.set_cons_succ]
  refine wpAnyH_ready (rs := [2]) (by kernel_rfl) (by simp) ?_
  refine AllReadyH.cons (o := { dst := some 18, op := Op.call { callee := Callee.value (Operand.func 23), args := #[Operand.tmp 17], argTypes := #[27] }, type := 27, pos := "law.go:65", after := #[{ on := 1, ground := Ground.data }], guard := none }) rfl (fun K hK => ?_) AllReadyH.nil
  go_simp
  refine (HIN.out _ hHeld.1).mono ?_
  rintro e w3 ⟨ia, ica, rfl, hi3, hc3, hn3, hl3, hb3⟩
  have G3 := hHeld.1.trans (hb3.mono hHeld.1.size)
  have HI3 := hid hi3
  clear hi3 hc3 hn3 hl3 hb3
  clear hHeld
  go_wp2_with fail
  refine hK.out _ _ (HK1.out _ G3) (fun hHeld => ?_)
  clear hK K
  try simp only [Act.put, List.setIfInBounds_toArray, List.set_cons_zero, List.set_cons_succ]
  refine wpAnyH_ready (rs := [5]) (by kernel_rfl) (by simp) ?_
  refine AllReadyH.cons (o := { dst := some 21, op := Op.call { callee := Callee.value (Operand.func 23), args := #[Operand.tmp 20], argTypes := #[27] }, type := 27, pos := "law.go:65", after := #[{ on := 4, ground := Ground.data }, { on := 2, ground := Ground.chain }], guard := none }) rfl (fun K hK => ?_) AllReadyH.nil
  go_simp
  refine (HIM.out _ G3).mono ?_
  rintro e w4 ⟨ib, icb, rfl, hi4, hc4, hn4, hl4, hb4⟩
  have G4 := G3.trans (hb4.mono G3.size)
  have HIA := hid (HI3.out.belowP hb4)
  have HIB := hid hi4
  clear hi4 hc4 hn4 hl4 hb4
  clear hHeld
  go_wp2_with fail
  refine hK.out _ _ (HK1.out _ G4) (fun hHeld => ?_)
  clear hK K
  try simp only [Act.put, List.setIfInBounds_toArray, List.set_cons_zero, List.set_cons_succ]
  refine wpAnyH_take (i := 6) (oi := { dst := some 3, op := Op.assign (Operand.tmp 18), type := 27, pos := "law.go:65", after := #[{ on := 2, ground := Ground.data }, { on := 5, ground := Ground.chain }, { on := 0, ground := Ground.phase }, { on := 1, ground := Ground.phase }, { on := 2, ground := Ground.phase }, { on := 3, ground := Ground.textOnly Departure.lateStores }, { on := 4, ground := Ground.textOnly Departure.lateStores }, { on := 5, ground := Ground.textOnly Departure.lateStoresUnsure }], guard := none }) (v := ?_) rfl (by kernel_rfl) (by kernel_rfl) (by kernel_rfl) (fun _ _ _ h => h) (Or.inl ⟨by rfl, ?hy⟩) hHeld ?_
  case hy => (intro w hSw; (try dsimp only at hSw); obtain ⟨_, _, _, _, _, _, _, _⟩ := hSw; go_simp; all_goals (with_reducible rfl))
  try simp only [Act.put, List.setIfInBounds_toArray, List.set_cons_zero, List.set_cons_succ]
  refine wpAnyH_take (i := 7) (oi := { dst := some 4, op := Op.assign (Operand.tmp 21), type := 27, pos := "law.go:65", after := #[{ on := 5, ground := Ground.data }, { on := 6, ground := Ground.chain }, { on := 0, ground := Ground.phase }, { on := 1, ground := Ground.phase }, { on := 2, ground := Ground.phase }, { on := 3, ground := Ground.phase }, { on := 4, ground := Ground.phase }, { on := 5, ground := Ground.phase }, { on := 6, ground := Ground.phase }], guard := none }) (v := ?_) rfl (by kernel_rfl) (by kernel_rfl) (by kernel_rfl) (fun _ _ _ h => h) (Or.inl ⟨by rfl, ?hy⟩) hHeld ?_
  case hy => (intro w hSw; (try dsimp only at hSw); obtain ⟨_, _, _, _, _, _, _, _⟩ := hSw; go_simp; all_goals (with_reducible rfl))
  try simp only [Act.put, List.setIfInBounds_toArray, List.set_cons_zero, List.set_cons_succ]
  refine wpAnyH_done (by kernel_rfl) ?_ _
  have HB4 := hid G4
  clear G3 G4 HI3 hHeld HK1 HIN HIM
  have HK4 := hid (show ∀ wx, Below w4.heap.size w4 wx → Below w4.heap.size w4 wx ∧ wx.cell? ⟨w.heap.size, 32, none⟩ = some (.int .i64 self) ∧ wx.cell? ⟨w.heap.size, 33, none⟩ = some (.int .i64 N) ∧ wx.cell? ⟨w.heap.size, 34, none⟩ = some (.slice a0 n0 c0) ∧ wx.cell? ⟨w.heap.size, 35, none⟩ = some (.slice a1 n1 c1) ∧ wx.cell? ⟨w.heap.size, 36, none⟩ = some (.bool held) ∧ wx.cell? ⟨w.heap.size, 37, none⟩ = some (.bool buried) ∧ (loadVar 23 ⟨w.heap.size, 0, none⟩).run Tryz.prog wx = .ok (.agg OB) wx from fun wx h => ⟨h, HL1.out wx (HB4.out.trans (h.mono HB4.out.size))⟩)
  have HA4 := hid (fun (wx : World) (h : Below w4.heap.size w4 wx) => HA.out.1.belowP (HB4.out.trans (h.mono HB4.out.size)))
  have HH4 := hid (fun (wx : World) (h : Below w4.heap.size w4 wx) => HH.out.1.belowP (HB4.out.trans (h.mono HB4.out.size)))
  have HV4 := hid (fun (wx : World) (h : Below w4.heap.size w4 wx) => HV1.out.below (HB4.out.trans (h.mono HB4.out.size)))
  have HR4 := hid (fun (wx : World) (h : Below w4.heap.size w4 wx) => HR1.out.below (HB4.out.trans (h.mono HB4.out.size)))
  have HENDK := hid (fun (wx : World) (h : Below w4.heap.size w4 wx) => (known_pl wx (HV4.out wx h)).mono fun e w' (q : e = .returned (.bool true) ∧ Below wx.heap.size wx w') => (⟨q.1, q.2, HB1.out.trans ((HB4.out.trans ((h.trans (q.2.mono h.size)).mono HB4.out.size)).mono HB1.out.size)⟩ : e = .returned (.bool true) ∧ Below wx.heap.size wx w' ∧ Below w.heap.size w w'))
  have HCP := hid (fun (wx : World) (h : Below w4.heap.size w4 wx) => Chosen_any obj HO.out HLT.out ia n0 ica l0 N wx (HV4.out wx h) (HIA.out.belowP h) (by omega))
  have HCR := hid (fun (wx : World) (h : Below w4.heap.size w4 wx) => rChosen_any obj HO.out HLT.out a0 n0 c0 l0 N wx (HR4.out wx h) (HA4.out wx h) (by omega))
  have HSP := hid (fun (wx : World) (h : Below w4.heap.size w4 wx) => Sources_any self ib n1 icb l1 ia n0 ica l0 wx (HIB.out.belowP h) (HIA.out.belowP h) (by omega) (by omega))
  have HSR := hid (fun (wx : World) (h : Below w4.heap.size w4 wx) => rSources_any self a1 n1 c1 l1 a0 n0 c0 l0 wx (HH4.out wx h) (HA4.out wx h) (by omega) (by omega))
  have HDP := hid (fun (wx : World) (h : Below w4.heap.size w4 wx) => Duty_any obj HO.out HLT.out self ia n0 ica l0 N held buried wx (HV4.out wx h) (HIA.out.belowP h) (by omega))
  have HDR := hid (fun (wx : World) (h : Below w4.heap.size w4 wx) => rDuty_any obj HO.out HLT.out self a0 n0 c0 l0 N held buried wx (HR4.out wx h) (HA4.out wx h) (by omega))
  have HVP := hid (fun (wx : World) (h : Below w4.heap.size w4 wx) => Covered_any obj HO.out HLT.out self N ib n1 icb l1 wx (HV4.out wx h) (HIB.out.belowP h) (by omega))
  have HVR := hid (fun (wx : World) (h : Below w4.heap.size w4 wx) => rCovered_any obj HO.out HLT.out self N a1 n1 c1 l1 wx (HR4.out wx h) (HH4.out wx h) (by omega))
  have HSA := hid (fun (wx : World) (h : Below w4.heap.size w4 wx) => same_any ia n0 ica l0 a0 n0 c0 l0 wx (HIA.out.belowP h) (HA4.out wx h) (by omega) (by omega))
  have HSB := hid (fun (wx : World) (h : Below w4.heap.size w4 wx) => same_any ib n1 icb l1 a1 n1 c1 l1 wx (HIB.out.belowP h) (HH4.out wx h) (by omega) (by omega))
  rw [show decide (l0 = l0) = true from decide_eq_true rfl] at HSA
  rw [show decide (l1 = l1) = true from decide_eq_true rfl] at HSB
  rw [← HOBE.out] at HCP HCR HDP HDR HVP HVR
  have HE1 := hid (show chosenL obj l0 N = (rkd obj (setL l0)).take (chN N (rkd obj (setL l0)).length) from rfl)
  have HRL := hid (rkd_lt obj (setL l0))
  have HML := hid (chN_le N (rkd obj (setL l0)).length)
  have HSL := hid (show (srcL self l1 l0 16).length ≤ 1000000 from Nat.le_trans (srcL_le self l1 l0 16) (by omega))
  have hm16 : (rkd obj (setL l0)).length ≤ 16 := by rw [rkd_length]; exact memb_le _ _
  generalize chosenL obj l0 N = CL at *
  generalize rkd obj (setL l0) = RL at *
  generalize chN N RL.length = m at *
  generalize srcL self l1 l0 16 = SL at *
  generalize dty obj self l0 N held buried = D at *
  generalize cov obj self N l1 = C at *
  have HCL := hid (show CL.length ≤ 1000000 from by rw [HE1.out, List.length_take]; omega)
  have HMM := hid (show m ≤ 1000000 from Nat.le_trans HML.out (by omega))
  clear HV4 HR4 HL1 HV1 HR1
  go_upto_region 4 with fail
  refine wp_region_held_drew (S := (fun wx => Below w4.heap.size w4 wx ∧ wx.cell? ⟨w.heap.size, 32, none⟩ = some (.int .i64 self) ∧ wx.cell? ⟨w.heap.size, 33, none⟩ = some (.int .i64 N) ∧ wx.cell? ⟨w.heap.size, 34, none⟩ = some (.slice a0 n0 c0) ∧ wx.cell? ⟨w.heap.size, 35, none⟩ = some (.slice a1 n1 c1) ∧ wx.cell? ⟨w.heap.size, 36, none⟩ = some (.bool held) ∧ wx.cell? ⟨w.heap.size, 37, none⟩ = some (.bool buried) ∧ (loadVar 23 ⟨w.heap.size, 0, none⟩).run Tryz.prog wx = .ok (.agg OB) wx)) (by kernel_rfl) (HK4.out _ (bel_drewN (Below.refl _ _) 1)) (fun hHeld => ?_)
  refine wpAnyH_take (i := 0) (oi := { dst := some 22, op := Op.fieldAddr 31 (Operand.tmp 1) 0, type := 0, pos := "law.go:66", after := #[], guard := none }) (v := ?_) rfl (by kernel_rfl) (by kernel_rfl) (by kernel_rfl) (fun _ _ _ h => h) (Or.inl ⟨by rfl, ?hy⟩) hHeld ?_
  case hy => (intro w hSw; (try dsimp only at hSw); obtain ⟨_, _, _, _, _, _, _, _⟩ := hSw; go_simp; all_goals (with_reducible rfl))
  try simp only [Act.put, List.setIfInBounds_toArray, List.set_cons_zero, List.set_cons_succ]
  refine wpAnyH_take (i := 1) (oi := { dst := some 23, op := Op.load 23 (Operand.tmp 22), type := 23, pos := "law.go:66", after := #[{ on := 0, ground := Ground.data }], guard := none }) (v := .agg OB) rfl (by kernel_rfl) (by kernel_rfl) (by kernel_rfl) (fun _ _ _ h => h) (Or.inl ⟨by rfl, ?hy⟩) hHeld ?_
  case hy => (intro w hSw; exact run_load_opP hSw.2.2.2.2.2.2.2)
  try simp only [Act.put, List.setIfInBounds_toArray, List.set_cons_zero, List.set_cons_succ]
  refine wpAnyH_take (i := 2) (oi := { dst := some 24, op := Op.move (Operand.tmp 3), type := 27, pos := "law.go:66", after := #[], guard := none }) (v := ?_) rfl (by kernel_rfl) (by kernel_rfl) (by kernel_rfl) (fun _ _ _ h => h) (Or.inl ⟨by rfl, ?hy⟩) hHeld ?_
  case hy => (intro w hSw; (try dsimp only at hSw); obtain ⟨_, _, _, _, _, _, _, _⟩ := hSw; go_simp; all_goals (with_reducible rfl))
  try simp only [Act.put, List.setIfInBounds_toArray, List.set_cons_zero, List.set_cons_succ]
  refine wpAnyH_take (i := 3) (oi := { dst := some 25, op := Op.fieldAddr 31 (Operand.tmp 1) 2, type := 0, pos := "law.go:66", after := #[], guard := none }) (v := ?_) rfl (by kernel_rfl) (by kernel_rfl) (by kernel_rfl) (fun _ _ _ h => h) (Or.inl ⟨by rfl, ?hy⟩) hHeld ?_
  case hy => (intro w hSw; (try dsimp only at hSw); obtain ⟨_, _, _, _, _, _, _, _⟩ := hSw; go_simp; all_goals (with_reducible rfl))
  try simp only [Act.put, List.setIfInBounds_toArray, List.set_cons_zero, List.set_cons_succ]
  refine wpAnyH_take (i := 4) (oi := { dst := some 26, op := Op.load 3 (Operand.tmp 25), type := 3, pos := "law.go:66", after := #[{ on := 3, ground := Ground.data }], guard := none }) (v := ?_) rfl (by kernel_rfl) (by kernel_rfl) (by kernel_rfl) (fun _ _ _ h => h) (Or.inl ⟨by rfl, ?hy⟩) hHeld ?_
  case hy => (intro w hSw; (try dsimp only at hSw); obtain ⟨_, _, _, _, _, _, _, _⟩ := hSw; go_simp; all_goals (with_reducible rfl))
  try simp only [Act.put, List.setIfInBounds_toArray, List.set_cons_zero, List.set_cons_succ]
  refine wpAnyH_take (i := 6) (oi := { dst := some 28, op := Op.fieldAddr 31 (Operand.tmp 1) 0, type := 0, pos := "law.go:66", after := #[], guard := none }) (v := ?_) rfl (by kernel_rfl) (by kernel_rfl) (by kernel_rfl) (fun _ _ _ h => h) (Or.inl ⟨by rfl, ?hy⟩) hHeld ?_
  case hy => (intro w hSw; (try dsimp only at hSw); obtain ⟨_, _, _, _, _, _, _, _⟩ := hSw; go_simp; all_goals (with_reducible rfl))
  try simp only [Act.put, List.setIfInBounds_toArray, List.set_cons_zero, List.set_cons_succ]
  refine wpAnyH_take (i := 7) (oi := { dst := some 29, op := Op.load 23 (Operand.tmp 28), type := 23, pos := "law.go:66", after := #[{ on := 6, ground := Ground.data }], guard := none }) (v := .agg OB) rfl (by kernel_rfl) (by kernel_rfl) (by kernel_rfl) (fun _ _ _ h => h) (Or.inl ⟨by rfl, ?hy⟩) hHeld ?_
  case hy => (intro w hSw; exact run_load_opP hSw.2.2.2.2.2.2.2)
  try simp only [Act.put, List.setIfInBounds_toArray, List.set_cons_zero, List.set_cons_succ]
  refine wpAnyH_take (i := 8) (oi := { dst := some 30, op := Op.fieldAddr 31 (Operand.tmp 1) 3, type := 0, pos := "law.go:66", after := #[], guard := none }) (v := ?_) rfl (by kernel_rfl) (by kernel_rfl) (by kernel_rfl) (fun _ _ _ h => h) (Or.inl ⟨by rfl, ?hy⟩) hHeld ?_
  case hy => (intro w hSw; (try dsimp only at hSw); obtain ⟨_, _, _, _, _, _, _, _⟩ := hSw; go_simp; all_goals (with_reducible rfl))
  try simp only [Act.put, List.setIfInBounds_toArray, List.set_cons_zero, List.set_cons_succ]
  refine wpAnyH_take (i := 9) (oi := { dst := some 31, op := Op.load 27 (Operand.tmp 30), type := 27, pos := "law.go:66", after := #[{ on := 8, ground := Ground.data }], guard := none }) (v := ?_) rfl (by kernel_rfl) (by kernel_rfl) (by kernel_rfl) (fun _ _ _ h => h) (Or.inl ⟨by rfl, ?hy⟩) hHeld ?_
  case hy => (intro w hSw; (try dsimp only at hSw); obtain ⟨_, _, _, _, _, _, _, _⟩ := hSw; go_simp; all_goals (with_reducible rfl))
  try simp only [Act.put, List.setIfInBounds_toArray, List.set_cons_zero, List.set_cons_succ]
  refine wpAnyH_take (i := 10) (oi := { dst := some 32, op := Op.fieldAddr 31 (Operand.tmp 1) 2, type := 0, pos := "law.go:66", after := #[], guard := none }) (v := ?_) rfl (by kernel_rfl) (by kernel_rfl) (by kernel_rfl) (fun _ _ _ h => h) (Or.inl ⟨by rfl, ?hy⟩) hHeld ?_
  case hy => (intro w hSw; (try dsimp only at hSw); obtain ⟨_, _, _, _, _, _, _, _⟩ := hSw; go_simp; all_goals (with_reducible rfl))
  try simp only [Act.put, List.setIfInBounds_toArray, List.set_cons_zero, List.set_cons_succ]
  refine wpAnyH_take (i := 11) (oi := { dst := some 33, op := Op.load 3 (Operand.tmp 32), type := 3, pos := "law.go:66", after := #[{ on := 10, ground := Ground.data }], guard := none }) (v := ?_) rfl (by kernel_rfl) (by kernel_rfl) (by kernel_rfl) (fun _ _ _ h => h) (Or.inl ⟨by rfl, ?hy⟩) hHeld ?_
  case hy => (intro w hSw; (try dsimp only at hSw); obtain ⟨_, _, _, _, _, _, _, _⟩ := hSw; go_simp; all_goals (with_reducible rfl))
  try simp only [Act.put, List.setIfInBounds_toArray, List.set_cons_zero, List.set_cons_succ]
  refine wpAnyH_ready (rs := [5]) (by kernel_rfl) (by simp) ?_
  refine AllReadyH.cons (o := { dst := some 27, op := Op.call { callee := Callee.value (Operand.func 24), args := #[Operand.tmp 23, Operand.tmp 24, Operand.tmp 26], argTypes := #[23, 27, 3] }, type := 27, pos := "law.go:66", after := #[{ on := 1, ground := Ground.data }, { on := 2, ground := Ground.data }, { on := 4, ground := Ground.data }], guard := none }) rfl (fun K hK => ?_) AllReadyH.nil
  go_simp
  refine (HCP.out _ hHeld.1).mono ?_
  rintro e wx5 ⟨pb, rfl, hoi, hlo5, hb5⟩
  have G5 := hHeld.1.trans (hb5.mono hHeld.1.size)
  have HOI := hid hoi
  clear hoi hlo5 hb5
  clear hHeld
  go_wp2_with fail
  refine hK.out _ _ (HK4.out _ G5) (fun hHeld => ?_)
  clear hK K
  try simp only [Act.put, List.setIfInBounds_toArray, List.set_cons_zero, List.set_cons_succ]
  refine wpAnyH_ready (rs := [12]) (by kernel_rfl) (by simp) ?_
  refine AllReadyH.cons (o := { dst := some 34, op := Op.call { callee := Callee.value (Operand.func 25), args := #[Operand.tmp 29, Operand.tmp 31, Operand.tmp 33], argTypes := #[23, 27, 3] }, type := 27, pos := "law.go:66", after := #[{ on := 7, ground := Ground.data }, { on := 9, ground := Ground.data }, { on := 11, ground := Ground.data }, { on := 5, ground := Ground.chain }], guard := none }) rfl (fun K hK => ?_) AllReadyH.nil
  go_simp
  refine (HCR.out _ G5).mono ?_
  rintro e wx6 ⟨a6, c6, rfl, hi6, hc6, hn6, hb6⟩
  have G6 := G5.trans (hb6.mono G5.size)
  have HSM := hid (same_any (some ⟨pb, 0, none⟩) m RL.length (CL.map Int.ofNat) a6 CL.length c6 (CL.map Int.ofNat) wx6 (by rw [HE1.out]; exact is_of_own (HOI.out.below hb6) m RL.length HML.out HRL.out) hi6 HMM.out HCL.out)
  rw [show decide (CL.map Int.ofNat = CL.map Int.ofNat) = true from decide_eq_true rfl] at HSM
  clear hi6 hc6 hn6 hb6
  clear hHeld
  go_wp2_with fail
  refine hK.out _ _ (HK4.out _ G6) (fun hHeld => ?_)
  clear hK K
  try simp only [Act.put, List.setIfInBounds_toArray, List.set_cons_zero, List.set_cons_succ]
  refine wpAnyH_ready (rs := [13]) (by kernel_rfl) (by simp) ?_
  refine AllReadyH.cons (o := { dst := some 35, op := Op.call { callee := Callee.value (Operand.func 19), args := #[Operand.tmp 27, Operand.tmp 34], argTypes := #[27, 27] }, type := 4, pos := "law.go:66", after := #[{ on := 5, ground := Ground.data }, { on := 12, ground := Ground.data }, { on := 12, ground := Ground.chain }], guard := none }) rfl (fun K hK => ?_) AllReadyH.nil
  go_simp
  refine HSM.out.mono ?_
  rintro e wx7 ⟨rfl, hb7⟩
  have G7 := G6.trans (hb7.mono G6.size)
  clear hb7
  clear hHeld
  go_wp2_with fail
  refine hK.out _ _ (HK4.out _ G7) (fun hHeld => ?_)
  clear hK K
  try simp only [Act.put, List.setIfInBounds_toArray, List.set_cons_zero, List.set_cons_succ]
  refine wpAnyH_take (i := 14) (oi := { dst := some 36, op := Op.unOp UnOp.not 4 (Operand.tmp 35), type := 4, pos := "law.go:66", after := #[{ on := 13, ground := Ground.data }], guard := none }) (v := ?_) rfl (by kernel_rfl) (by kernel_rfl) (by kernel_rfl) (fun _ _ _ h => h) (Or.inl ⟨by rfl, ?hy⟩) hHeld ?_
  case hy => (intro w hSw; (try dsimp only at hSw); obtain ⟨_, _, _, _, _, _, _, _⟩ := hSw; go_simp; all_goals (with_reducible rfl))
  try simp only [Act.put, List.setIfInBounds_toArray, List.set_cons_zero, List.set_cons_succ]
  refine wpAnyH_take (i := 15) (oi := { dst := some 37, op := Op.move (Operand.tmp 36), type := 4, pos := "law.go:66", after := #[{ on := 14, ground := Ground.data }, { on := 13, ground := Ground.chain }], guard := none }) (v := ?_) rfl (by kernel_rfl) (by kernel_rfl) (by kernel_rfl) (fun _ _ _ h => h) (Or.inl ⟨by rfl, ?hy⟩) hHeld ?_
  case hy => (intro w hSw; (try dsimp only at hSw); obtain ⟨_, _, _, _, _, _, _, _⟩ := hSw; go_simp; all_goals (with_reducible rfl))
  try simp only [Act.put, List.setIfInBounds_toArray, List.set_cons_zero, List.set_cons_succ]
  refine wpAnyH_take (i := 16) (oi := { dst := some 38, op := Op.fieldAddr 31 (Operand.tmp 1) 1, type := 0, pos := "law.go:66", after := #[{ on := 15, ground := Ground.guard }], guard := some (15, false) }) (v := ?_) rfl (by kernel_rfl) (by kernel_rfl) (by kernel_rfl) (fun _ _ _ h => h) (Or.inl ⟨by rfl, ?hy⟩) hHeld ?_
  case hy => (intro w hSw; (try dsimp only at hSw); obtain ⟨_, _, _, _, _, _, _, _⟩ := hSw; go_simp; all_goals (with_reducible rfl))
  try simp only [Act.put, List.setIfInBounds_toArray, List.set_cons_zero, List.set_cons_succ]
  refine wpAnyH_take (i := 17) (oi := { dst := some 39, op := Op.load 3 (Operand.tmp 38), type := 3, pos := "law.go:66", after := #[{ on := 16, ground := Ground.data }, { on := 15, ground := Ground.guard }], guard := some (15, false) }) (v := ?_) rfl (by kernel_rfl) (by kernel_rfl) (by kernel_rfl) (fun _ _ _ h => h) (Or.inl ⟨by rfl, ?hy⟩) hHeld ?_
  case hy => (intro w hSw; (try dsimp only at hSw); obtain ⟨_, _, _, _, _, _, _, _⟩ := hSw; go_simp; all_goals (with_reducible rfl))
  try simp only [Act.put, List.setIfInBounds_toArray, List.set_cons_zero, List.set_cons_succ]
  refine wpAnyH_take (i := 18) (oi := { dst := some 40, op := Op.move (Operand.tmp 4), type := 27, pos := "law.go:66", after := #[{ on := 15, ground := Ground.guard }], guard := some (15, false) }) (v := ?_) rfl (by kernel_rfl) (by kernel_rfl) (by kernel_rfl) (fun _ _ _ h => h) (Or.inl ⟨by rfl, ?hy⟩) hHeld ?_
  case hy => (intro w hSw; (try dsimp only at hSw); obtain ⟨_, _, _, _, _, _, _, _⟩ := hSw; go_simp; all_goals (with_reducible rfl))
  try simp only [Act.put, List.setIfInBounds_toArray, List.set_cons_zero, List.set_cons_succ]
  refine wpAnyH_take (i := 19) (oi := { dst := some 41, op := Op.move (Operand.tmp 3), type := 27, pos := "law.go:66", after := #[{ on := 15, ground := Ground.guard }], guard := some (15, false) }) (v := ?_) rfl (by kernel_rfl) (by kernel_rfl) (by kernel_rfl) (fun _ _ _ h => h) (Or.inl ⟨by rfl, ?hy⟩) hHeld ?_
  case hy => (intro w hSw; (try dsimp only at hSw); obtain ⟨_, _, _, _, _, _, _, _⟩ := hSw; go_simp; all_goals (with_reducible rfl))
  try simp only [Act.put, List.setIfInBounds_toArray, List.set_cons_zero, List.set_cons_succ]
  refine wpAnyH_take (i := 21) (oi := { dst := some 43, op := Op.fieldAddr 31 (Operand.tmp 1) 1, type := 0, pos := "law.go:66", after := #[{ on := 15, ground := Ground.guard }], guard := some (15, false) }) (v := ?_) rfl (by kernel_rfl) (by kernel_rfl) (by kernel_rfl) (fun _ _ _ h => h) (Or.inl ⟨by rfl, ?hy⟩) hHeld ?_
  case hy => (intro w hSw; (try dsimp only at hSw); obtain ⟨_, _, _, _, _, _, _, _⟩ := hSw; go_simp; all_goals (with_reducible rfl))
  try simp only [Act.put, List.setIfInBounds_toArray, List.set_cons_zero, List.set_cons_succ]
  refine wpAnyH_take (i := 22) (oi := { dst := some 44, op := Op.load 3 (Operand.tmp 43), type := 3, pos := "law.go:66", after := #[{ on := 21, ground := Ground.data }, { on := 15, ground := Ground.guard }], guard := some (15, false) }) (v := ?_) rfl (by kernel_rfl) (by kernel_rfl) (by kernel_rfl) (fun _ _ _ h => h) (Or.inl ⟨by rfl, ?hy⟩) hHeld ?_
  case hy => (intro w hSw; (try dsimp only at hSw); obtain ⟨_, _, _, _, _, _, _, _⟩ := hSw; go_simp; all_goals (with_reducible rfl))
  try simp only [Act.put, List.setIfInBounds_toArray, List.set_cons_zero, List.set_cons_succ]
  refine wpAnyH_take (i := 23) (oi := { dst := some 45, op := Op.fieldAddr 31 (Operand.tmp 1) 4, type := 0, pos := "law.go:66", after := #[{ on := 15, ground := Ground.guard }], guard := some (15, false) }) (v := ?_) rfl (by kernel_rfl) (by kernel_rfl) (by kernel_rfl) (fun _ _ _ h => h) (Or.inl ⟨by rfl, ?hy⟩) hHeld ?_
  case hy => (intro w hSw; (try dsimp only at hSw); obtain ⟨_, _, _, _, _, _, _, _⟩ := hSw; go_simp; all_goals (with_reducible rfl))
  try simp only [Act.put, List.setIfInBounds_toArray, List.set_cons_zero, List.set_cons_succ]
  refine wpAnyH_take (i := 24) (oi := { dst := some 46, op := Op.load 27 (Operand.tmp 45), type := 27, pos := "law.go:66", after := #[{ on := 23, ground := Ground.data }, { on := 15, ground := Ground.guard }], guard := some (15, false) }) (v := ?_) rfl (by kernel_rfl) (by kernel_rfl) (by kernel_rfl) (fun _ _ _ h => h) (Or.inl ⟨by rfl, ?hy⟩) hHeld ?_
  case hy => (intro w hSw; (try dsimp only at hSw); obtain ⟨_, _, _, _, _, _, _, _⟩ := hSw; go_simp; all_goals (with_reducible rfl))
  try simp only [Act.put, List.setIfInBounds_toArray, List.set_cons_zero, List.set_cons_succ]
  refine wpAnyH_take (i := 25) (oi := { dst := some 47, op := Op.fieldAddr 31 (Operand.tmp 1) 3, type := 0, pos := "law.go:66", after := #[{ on := 15, ground := Ground.guard }], guard := some (15, false) }) (v := ?_) rfl (by kernel_rfl) (by kernel_rfl) (by kernel_rfl) (fun _ _ _ h => h) (Or.inl ⟨by rfl, ?hy⟩) hHeld ?_
  case hy => (intro w hSw; (try dsimp only at hSw); obtain ⟨_, _, _, _, _, _, _, _⟩ := hSw; go_simp; all_goals (with_reducible rfl))
  try simp only [Act.put, List.setIfInBounds_toArray, List.set_cons_zero, List.set_cons_succ]
  refine wpAnyH_take (i := 26) (oi := { dst := some 48, op := Op.load 27 (Operand.tmp 47), type := 27, pos := "law.go:66", after := #[{ on := 25, ground := Ground.data }, { on := 15, ground := Ground.guard }], guard := some (15, false) }) (v := ?_) rfl (by kernel_rfl) (by kernel_rfl) (by kernel_rfl) (fun _ _ _ h => h) (Or.inl ⟨by rfl, ?hy⟩) hHeld ?_
  case hy => (intro w hSw; (try dsimp only at hSw); obtain ⟨_, _, _, _, _, _, _, _⟩ := hSw; go_simp; all_goals (with_reducible rfl))
  try simp only [Act.put, List.setIfInBounds_toArray, List.set_cons_zero, List.set_cons_succ]
  refine wpAnyH_ready (rs := [20]) (by kernel_rfl) (by simp) ?_
  refine AllReadyH.cons (o := { dst := some 42, op := Op.call { callee := Callee.value (Operand.func 26), args := #[Operand.tmp 39, Operand.tmp 40, Operand.tmp 41], argTypes := #[3, 27, 27] }, type := 27, pos := "law.go:66", after := #[{ on := 17, ground := Ground.data }, { on := 18, ground := Ground.data }, { on := 19, ground := Ground.data }, { on := 15, ground := Ground.chain }, { on := 15, ground := Ground.guard }], guard := some (15, false) }) rfl (fun K hK => ?_) AllReadyH.nil
  go_simp
  refine (HSP.out _ G7).mono ?_
  rintro e wx8 ⟨a8, c8, rfl, hi8, hb8⟩
  have G8 := G7.trans (hb8.mono G7.size)
  have HI8 := hid hi8
  clear hi8 hb8
  clear hHeld
  go_wp2_with fail
  refine hK.out _ _ (HK4.out _ G8) (fun hHeld => ?_)
  clear hK K
  try simp only [Act.put, List.setIfInBounds_toArray, List.set_cons_zero, List.set_cons_succ]
  refine wpAnyH_ready (rs := [27]) (by kernel_rfl) (by simp) ?_
  refine AllReadyH.cons (o := { dst := some 49, op := Op.call { callee := Callee.value (Operand.func 27), args := #[Operand.tmp 44, Operand.tmp 46, Operand.tmp 48], argTypes := #[3, 27, 27] }, type := 27, pos := "law.go:66", after := #[{ on := 22, ground := Ground.data }, { on := 24, ground := Ground.data }, { on := 26, ground := Ground.data }, { on := 20, ground := Ground.chain }, { on := 15, ground := Ground.guard }], guard := some (15, false) }) rfl (fun K hK => ?_) AllReadyH.nil
  go_simp
  refine (HSR.out _ G8).mono ?_
  rintro e wx9 ⟨a9, c9, rfl, hi9, hb9⟩
  have G9 := G8.trans (hb9.mono G8.size)
  have HSN := hid (same_any a8 SL.length c8 (SL.map Int.ofNat) a9 SL.length c9 (SL.map Int.ofNat) wx9 (HI8.out.belowP hb9) hi9 HSL.out HSL.out)
  rw [show decide (SL.map Int.ofNat = SL.map Int.ofNat) = true from decide_eq_true rfl] at HSN
  clear hi9 hb9
  clear hHeld
  go_wp2_with fail
  refine hK.out _ _ (HK4.out _ G9) (fun hHeld => ?_)
  clear hK K
  try simp only [Act.put, List.setIfInBounds_toArray, List.set_cons_zero, List.set_cons_succ]
  refine wpAnyH_ready (rs := [28]) (by kernel_rfl) (by simp) ?_
  refine AllReadyH.cons (o := { dst := some 50, op := Op.call { callee := Callee.value (Operand.func 19), args := #[Operand.tmp 42, Operand.tmp 49], argTypes := #[27, 27] }, type := 4, pos := "law.go:66", after := #[{ on := 20, ground := Ground.data }, { on := 27, ground := Ground.data }, { on := 27, ground := Ground.chain }, { on := 15, ground := Ground.guard }], guard := some (15, false) }) rfl (fun K hK => ?_) AllReadyH.nil
  go_simp
  refine HSN.out.mono ?_
  rintro e wx10 ⟨rfl, hb10⟩
  have G10 := G9.trans (hb10.mono G9.size)
  clear hb10
  clear hHeld
  go_wp2_with fail
  refine hK.out _ _ (HK4.out _ G10) (fun hHeld => ?_)
  clear hK K
  try simp only [Act.put, List.setIfInBounds_toArray, List.set_cons_zero, List.set_cons_succ]
  refine wpAnyH_take (i := 29) (oi := { dst := some 51, op := Op.unOp UnOp.not 4 (Operand.tmp 50), type := 4, pos := "law.go:66", after := #[{ on := 28, ground := Ground.data }, { on := 15, ground := Ground.guard }], guard := some (15, false) }) (v := ?_) rfl (by kernel_rfl) (by kernel_rfl) (by kernel_rfl) (fun _ _ _ h => h) (Or.inl ⟨by rfl, ?hy⟩) hHeld ?_
  case hy => (intro w hSw; (try dsimp only at hSw); obtain ⟨_, _, _, _, _, _, _, _⟩ := hSw; go_simp; all_goals (with_reducible rfl))
  try simp only [Act.put, List.setIfInBounds_toArray, List.set_cons_zero, List.set_cons_succ]
  refine wpAnyH_take (i := 30) (oi := { dst := some 52, op := Op.pick (Operand.tmp 37) (Operand.const (Value.bool true)) (Operand.tmp 51), type := 4, pos := "law.go:66", after := #[{ on := 15, ground := Ground.data }, { on := 29, ground := Ground.data }], guard := none }) (v := ?_) rfl (by kernel_rfl) (by kernel_rfl) (by kernel_rfl) (fun _ _ _ h => h) (Or.inl ⟨by rfl, ?hy⟩) hHeld ?_
  case hy => (intro w hSw; (try dsimp only at hSw); obtain ⟨_, _, _, _, _, _, _, _⟩ := hSw; go_simp; all_goals (with_reducible rfl))
  try simp only [Act.put, List.setIfInBounds_toArray, List.set_cons_zero, List.set_cons_succ]
  refine wpAnyH_done (by kernel_rfl) ?_ _
  have HB10 := hid G10
  clear G5 G6 G7 G8 G9 G10 HOI HI8 HSM HSN hHeld HCP HCR HSP HSR
  go_wp2_with fail
  go_upto_region 6 with fail
  refine wp_region_held_drew (S := (fun wx => Below w4.heap.size w4 wx ∧ wx.cell? ⟨w.heap.size, 32, none⟩ = some (.int .i64 self) ∧ wx.cell? ⟨w.heap.size, 33, none⟩ = some (.int .i64 N) ∧ wx.cell? ⟨w.heap.size, 34, none⟩ = some (.slice a0 n0 c0) ∧ wx.cell? ⟨w.heap.size, 35, none⟩ = some (.slice a1 n1 c1) ∧ wx.cell? ⟨w.heap.size, 36, none⟩ = some (.bool held) ∧ wx.cell? ⟨w.heap.size, 37, none⟩ = some (.bool buried) ∧ (loadVar 23 ⟨w.heap.size, 0, none⟩).run Tryz.prog wx = .ok (.agg OB) wx)) (by kernel_rfl) (HK4.out _ (bel_drewN HB10.out 1)) (fun hHeld => ?_)
  refine wpAnyH_take (i := 0) (oi := { dst := some 53, op := Op.fieldAddr 31 (Operand.tmp 1) 0, type := 0, pos := "law.go:69", after := #[], guard := none }) (v := ?_) rfl (by kernel_rfl) (by kernel_rfl) (by kernel_rfl) (fun _ _ _ h => h) (Or.inl ⟨by rfl, ?hy⟩) hHeld ?_
  case hy => (intro w hSw; (try dsimp only at hSw); obtain ⟨_, _, _, _, _, _, _, _⟩ := hSw; go_simp; all_goals (with_reducible rfl))
  try simp only [Act.put, List.setIfInBounds_toArray, List.set_cons_zero, List.set_cons_succ]
  refine wpAnyH_take (i := 1) (oi := { dst := some 54, op := Op.load 23 (Operand.tmp 53), type := 23, pos := "law.go:69", after := #[{ on := 0, ground := Ground.data }], guard := none }) (v := .agg OB) rfl (by kernel_rfl) (by kernel_rfl) (by kernel_rfl) (fun _ _ _ h => h) (Or.inl ⟨by rfl, ?hy⟩) hHeld ?_
  case hy => (intro w hSw; exact run_load_opP hSw.2.2.2.2.2.2.2)
  try simp only [Act.put, List.setIfInBounds_toArray, List.set_cons_zero, List.set_cons_succ]
  refine wpAnyH_take (i := 2) (oi := { dst := some 55, op := Op.fieldAddr 31 (Operand.tmp 1) 1, type := 0, pos := "law.go:69", after := #[], guard := none }) (v := ?_) rfl (by kernel_rfl) (by kernel_rfl) (by kernel_rfl) (fun _ _ _ h => h) (Or.inl ⟨by rfl, ?hy⟩) hHeld ?_
  case hy => (intro w hSw; (try dsimp only at hSw); obtain ⟨_, _, _, _, _, _, _, _⟩ := hSw; go_simp; all_goals (with_reducible rfl))
  try simp only [Act.put, List.setIfInBounds_toArray, List.set_cons_zero, List.set_cons_succ]
  refine wpAnyH_take (i := 3) (oi := { dst := some 56, op := Op.load 3 (Operand.tmp 55), type := 3, pos := "law.go:69", after := #[{ on := 2, ground := Ground.data }], guard := none }) (v := ?_) rfl (by kernel_rfl) (by kernel_rfl) (by kernel_rfl) (fun _ _ _ h => h) (Or.inl ⟨by rfl, ?hy⟩) hHeld ?_
  case hy => (intro w hSw; (try dsimp only at hSw); obtain ⟨_, _, _, _, _, _, _, _⟩ := hSw; go_simp; all_goals (with_reducible rfl))
  try simp only [Act.put, List.setIfInBounds_toArray, List.set_cons_zero, List.set_cons_succ]
  refine wpAnyH_take (i := 4) (oi := { dst := some 57, op := Op.move (Operand.tmp 3), type := 27, pos := "law.go:69", after := #[], guard := none }) (v := ?_) rfl (by kernel_rfl) (by kernel_rfl) (by kernel_rfl) (fun _ _ _ h => h) (Or.inl ⟨by rfl, ?hy⟩) hHeld ?_
  case hy => (intro w hSw; (try dsimp only at hSw); obtain ⟨_, _, _, _, _, _, _, _⟩ := hSw; go_simp; all_goals (with_reducible rfl))
  try simp only [Act.put, List.setIfInBounds_toArray, List.set_cons_zero, List.set_cons_succ]
  refine wpAnyH_take (i := 5) (oi := { dst := some 58, op := Op.fieldAddr 31 (Operand.tmp 1) 2, type := 0, pos := "law.go:69", after := #[], guard := none }) (v := ?_) rfl (by kernel_rfl) (by kernel_rfl) (by kernel_rfl) (fun _ _ _ h => h) (Or.inl ⟨by rfl, ?hy⟩) hHeld ?_
  case hy => (intro w hSw; (try dsimp only at hSw); obtain ⟨_, _, _, _, _, _, _, _⟩ := hSw; go_simp; all_goals (with_reducible rfl))
  try simp only [Act.put, List.setIfInBounds_toArray, List.set_cons_zero, List.set_cons_succ]
  refine wpAnyH_take (i := 6) (oi := { dst := some 59, op := Op.load 3 (Operand.tmp 58), type := 3, pos := "law.go:69", after := #[{ on := 5, ground := Ground.data }], guard := none }) (v := ?_) rfl (by kernel_rfl) (by kernel_rfl) (by kernel_rfl) (fun _ _ _ h => h) (Or.inl ⟨by rfl, ?hy⟩) hHeld ?_
  case hy => (intro w hSw; (try dsimp only at hSw); obtain ⟨_, _, _, _, _, _, _, _⟩ := hSw; go_simp; all_goals (with_reducible rfl))
  try simp only [Act.put, List.setIfInBounds_toArray, List.set_cons_zero, List.set_cons_succ]
  refine wpAnyH_take (i := 7) (oi := { dst := some 60, op := Op.fieldAddr 31 (Operand.tmp 1) 5, type := 0, pos := "law.go:69", after := #[], guard := none }) (v := ?_) rfl (by kernel_rfl) (by kernel_rfl) (by kernel_rfl) (fun _ _ _ h => h) (Or.inl ⟨by rfl, ?hy⟩) hHeld ?_
  case hy => (intro w hSw; (try dsimp only at hSw); obtain ⟨_, _, _, _, _, _, _, _⟩ := hSw; go_simp; all_goals (with_reducible rfl))
  try simp only [Act.put, List.setIfInBounds_toArray, List.set_cons_zero, List.set_cons_succ]
  refine wpAnyH_take (i := 8) (oi := { dst := some 61, op := Op.load 4 (Operand.tmp 60), type := 4, pos := "law.go:69", after := #[{ on := 7, ground := Ground.data }], guard := none }) (v := ?_) rfl (by kernel_rfl) (by kernel_rfl) (by kernel_rfl) (fun _ _ _ h => h) (Or.inl ⟨by rfl, ?hy⟩) hHeld ?_
  case hy => (intro w hSw; (try dsimp only at hSw); obtain ⟨_, _, _, _, _, _, _, _⟩ := hSw; go_simp; all_goals (with_reducible rfl))
  try simp only [Act.put, List.setIfInBounds_toArray, List.set_cons_zero, List.set_cons_succ]
  refine wpAnyH_take (i := 9) (oi := { dst := some 62, op := Op.fieldAddr 31 (Operand.tmp 1) 6, type := 0, pos := "law.go:69", after := #[], guard := none }) (v := ?_) rfl (by kernel_rfl) (by kernel_rfl) (by kernel_rfl) (fun _ _ _ h => h) (Or.inl ⟨by rfl, ?hy⟩) hHeld ?_
  case hy => (intro w hSw; (try dsimp only at hSw); obtain ⟨_, _, _, _, _, _, _, _⟩ := hSw; go_simp; all_goals (with_reducible rfl))
  try simp only [Act.put, List.setIfInBounds_toArray, List.set_cons_zero, List.set_cons_succ]
  refine wpAnyH_take (i := 10) (oi := { dst := some 63, op := Op.load 4 (Operand.tmp 62), type := 4, pos := "law.go:69", after := #[{ on := 9, ground := Ground.data }], guard := none }) (v := ?_) rfl (by kernel_rfl) (by kernel_rfl) (by kernel_rfl) (fun _ _ _ h => h) (Or.inl ⟨by rfl, ?hy⟩) hHeld ?_
  case hy => (intro w hSw; (try dsimp only at hSw); obtain ⟨_, _, _, _, _, _, _, _⟩ := hSw; go_simp; all_goals (with_reducible rfl))
  try simp only [Act.put, List.setIfInBounds_toArray, List.set_cons_zero, List.set_cons_succ]
  refine wpAnyH_take (i := 12) (oi := { dst := some 65, op := Op.fieldAddr 31 (Operand.tmp 1) 0, type := 0, pos := "law.go:69", after := #[], guard := none }) (v := ?_) rfl (by kernel_rfl) (by kernel_rfl) (by kernel_rfl) (fun _ _ _ h => h) (Or.inl ⟨by rfl, ?hy⟩) hHeld ?_
  case hy => (intro w hSw; (try dsimp only at hSw); obtain ⟨_, _, _, _, _, _, _, _⟩ := hSw; go_simp; all_goals (with_reducible rfl))
  try simp only [Act.put, List.setIfInBounds_toArray, List.set_cons_zero, List.set_cons_succ]
  refine wpAnyH_take (i := 13) (oi := { dst := some 66, op := Op.load 23 (Operand.tmp 65), type := 23, pos := "law.go:69", after := #[{ on := 12, ground := Ground.data }], guard := none }) (v := .agg OB) rfl (by kernel_rfl) (by kernel_rfl) (by kernel_rfl) (fun _ _ _ h => h) (Or.inl ⟨by rfl, ?hy⟩) hHeld ?_
  case hy => (intro w hSw; exact run_load_opP hSw.2.2.2.2.2.2.2)
  try simp only [Act.put, List.setIfInBounds_toArray, List.set_cons_zero, List.set_cons_succ]
  refine wpAnyH_take (i := 14) (oi := { dst := some 67, op := Op.fieldAddr 31 (Operand.tmp 1) 1, type := 0, pos := "law.go:69", after := #[], guard := none }) (v := ?_) rfl (by kernel_rfl) (by kernel_rfl) (by kernel_rfl) (fun _ _ _ h => h) (Or.inl ⟨by rfl, ?hy⟩) hHeld ?_
  case hy => (intro w hSw; (try dsimp only at hSw); obtain ⟨_, _, _, _, _, _, _, _⟩ := hSw; go_simp; all_goals (with_reducible rfl))
  try simp only [Act.put, List.setIfInBounds_toArray, List.set_cons_zero, List.set_cons_succ]
  refine wpAnyH_take (i := 15) (oi := { dst := some 68, op := Op.load 3 (Operand.tmp 67), type := 3, pos := "law.go:69", after := #[{ on := 14, ground := Ground.data }], guard := none }) (v := ?_) rfl (by kernel_rfl) (by kernel_rfl) (by kernel_rfl) (fun _ _ _ h => h) (Or.inl ⟨by rfl, ?hy⟩) hHeld ?_
  case hy => (intro w hSw; (try dsimp only at hSw); obtain ⟨_, _, _, _, _, _, _, _⟩ := hSw; go_simp; all_goals (with_reducible rfl))
  try simp only [Act.put, List.setIfInBounds_toArray, List.set_cons_zero, List.set_cons_succ]
  refine wpAnyH_take (i := 16) (oi := { dst := some 69, op := Op.fieldAddr 31 (Operand.tmp 1) 3, type := 0, pos := "law.go:69", after := #[], guard := none }) (v := ?_) rfl (by kernel_rfl) (by kernel_rfl) (by kernel_rfl) (fun _ _ _ h => h) (Or.inl ⟨by rfl, ?hy⟩) hHeld ?_
  case hy => (intro w hSw; (try dsimp only at hSw); obtain ⟨_, _, _, _, _, _, _, _⟩ := hSw; go_simp; all_goals (with_reducible rfl))
  try simp only [Act.put, List.setIfInBounds_toArray, List.set_cons_zero, List.set_cons_succ]
  refine wpAnyH_take (i := 17) (oi := { dst := some 70, op := Op.load 27 (Operand.tmp 69), type := 27, pos := "law.go:69", after := #[{ on := 16, ground := Ground.data }], guard := none }) (v := ?_) rfl (by kernel_rfl) (by kernel_rfl) (by kernel_rfl) (fun _ _ _ h => h) (Or.inl ⟨by rfl, ?hy⟩) hHeld ?_
  case hy => (intro w hSw; (try dsimp only at hSw); obtain ⟨_, _, _, _, _, _, _, _⟩ := hSw; go_simp; all_goals (with_reducible rfl))
  try simp only [Act.put, List.setIfInBounds_toArray, List.set_cons_zero, List.set_cons_succ]
  refine wpAnyH_take (i := 18) (oi := { dst := some 71, op := Op.fieldAddr 31 (Operand.tmp 1) 2, type := 0, pos := "law.go:69", after := #[], guard := none }) (v := ?_) rfl (by kernel_rfl) (by kernel_rfl) (by kernel_rfl) (fun _ _ _ h => h) (Or.inl ⟨by rfl, ?hy⟩) hHeld ?_
  case hy => (intro w hSw; (try dsimp only at hSw); obtain ⟨_, _, _, _, _, _, _, _⟩ := hSw; go_simp; all_goals (with_reducible rfl))
  try simp only [Act.put, List.setIfInBounds_toArray, List.set_cons_zero, List.set_cons_succ]
  refine wpAnyH_take (i := 19) (oi := { dst := some 72, op := Op.load 3 (Operand.tmp 71), type := 3, pos := "law.go:69", after := #[{ on := 18, ground := Ground.data }], guard := none }) (v := ?_) rfl (by kernel_rfl) (by kernel_rfl) (by kernel_rfl) (fun _ _ _ h => h) (Or.inl ⟨by rfl, ?hy⟩) hHeld ?_
  case hy => (intro w hSw; (try dsimp only at hSw); obtain ⟨_, _, _, _, _, _, _, _⟩ := hSw; go_simp; all_goals (with_reducible rfl))
  try simp only [Act.put, List.setIfInBounds_toArray, List.set_cons_zero, List.set_cons_succ]
  refine wpAnyH_take (i := 20) (oi := { dst := some 73, op := Op.fieldAddr 31 (Operand.tmp 1) 5, type := 0, pos := "law.go:69", after := #[], guard := none }) (v := ?_) rfl (by kernel_rfl) (by kernel_rfl) (by kernel_rfl) (fun _ _ _ h => h) (Or.inl ⟨by rfl, ?hy⟩) hHeld ?_
  case hy => (intro w hSw; (try dsimp only at hSw); obtain ⟨_, _, _, _, _, _, _, _⟩ := hSw; go_simp; all_goals (with_reducible rfl))
  try simp only [Act.put, List.setIfInBounds_toArray, List.set_cons_zero, List.set_cons_succ]
  refine wpAnyH_take (i := 21) (oi := { dst := some 74, op := Op.load 4 (Operand.tmp 73), type := 4, pos := "law.go:69", after := #[{ on := 20, ground := Ground.data }], guard := none }) (v := ?_) rfl (by kernel_rfl) (by kernel_rfl) (by kernel_rfl) (fun _ _ _ h => h) (Or.inl ⟨by rfl, ?hy⟩) hHeld ?_
  case hy => (intro w hSw; (try dsimp only at hSw); obtain ⟨_, _, _, _, _, _, _, _⟩ := hSw; go_simp; all_goals (with_reducible rfl))
  try simp only [Act.put, List.setIfInBounds_toArray, List.set_cons_zero, List.set_cons_succ]
  refine wpAnyH_take (i := 22) (oi := { dst := some 75, op := Op.fieldAddr 31 (Operand.tmp 1) 6, type := 0, pos := "law.go:69", after := #[], guard := none }) (v := ?_) rfl (by kernel_rfl) (by kernel_rfl) (by kernel_rfl) (fun _ _ _ h => h) (Or.inl ⟨by rfl, ?hy⟩) hHeld ?_
  case hy => (intro w hSw; (try dsimp only at hSw); obtain ⟨_, _, _, _, _, _, _, _⟩ := hSw; go_simp; all_goals (with_reducible rfl))
  try simp only [Act.put, List.setIfInBounds_toArray, List.set_cons_zero, List.set_cons_succ]
  refine wpAnyH_take (i := 23) (oi := { dst := some 76, op := Op.load 4 (Operand.tmp 75), type := 4, pos := "law.go:69", after := #[{ on := 22, ground := Ground.data }], guard := none }) (v := ?_) rfl (by kernel_rfl) (by kernel_rfl) (by kernel_rfl) (fun _ _ _ h => h) (Or.inl ⟨by rfl, ?hy⟩) hHeld ?_
  case hy => (intro w hSw; (try dsimp only at hSw); obtain ⟨_, _, _, _, _, _, _, _⟩ := hSw; go_simp; all_goals (with_reducible rfl))
  try simp only [Act.put, List.setIfInBounds_toArray, List.set_cons_zero, List.set_cons_succ]
  refine wpAnyH_ready (rs := [11]) (by kernel_rfl) (by simp) ?_
  refine AllReadyH.cons (o := { dst := some 64, op := Op.call { callee := Callee.value (Operand.func 28), args := #[Operand.tmp 54, Operand.tmp 56, Operand.tmp 57, Operand.tmp 59, Operand.tmp 61, Operand.tmp 63], argTypes := #[23, 3, 27, 3, 4, 4] }, type := 35, pos := "law.go:69", after := #[{ on := 1, ground := Ground.data }, { on := 3, ground := Ground.data }, { on := 4, ground := Ground.data }, { on := 6, ground := Ground.data }, { on := 8, ground := Ground.data }, { on := 10, ground := Ground.data }], guard := none }) rfl (fun K hK => ?_) AllReadyH.nil
  go_simp
  refine (HDP.out _ hHeld.1).mono ?_
  rintro e wx11 ⟨rfl, hb11⟩
  have G11 := hHeld.1.trans (hb11.mono hHeld.1.size)
  clear hb11
  clear hHeld
  go_wp2_with fail
  refine hK.out _ _ (HK4.out _ G11) (fun hHeld => ?_)
  clear hK K
  try simp only [Act.put, List.setIfInBounds_toArray, List.set_cons_zero, List.set_cons_succ]
  refine wpAnyH_ready (rs := [24]) (by kernel_rfl) (by simp) ?_
  refine AllReadyH.cons (o := { dst := some 77, op := Op.call { callee := Callee.value (Operand.func 29), args := #[Operand.tmp 66, Operand.tmp 68, Operand.tmp 70, Operand.tmp 72, Operand.tmp 74, Operand.tmp 76], argTypes := #[23, 3, 27, 3, 4, 4] }, type := 35, pos := "law.go:69", after := #[{ on := 13, ground := Ground.data }, { on := 15, ground := Ground.data }, { on := 17, ground := Ground.data }, { on := 19, ground := Ground.data }, { on := 21, ground := Ground.data }, { on := 23, ground := Ground.data }, { on := 11, ground := Ground.chain }], guard := none }) rfl (fun K hK => ?_) AllReadyH.nil
  go_simp
  refine (HDR.out _ G11).mono ?_
  rintro e wx12 ⟨rfl, hb12⟩
  have G12 := G11.trans (hb12.mono G11.size)
  clear hb12
  clear hHeld
  go_wp2_with fail
  refine hK.out _ _ (HK4.out _ G12) (fun hHeld => ?_)
  clear hK K
  try simp only [Act.put, List.setIfInBounds_toArray, List.set_cons_zero, List.set_cons_succ]
  refine wpAnyH_take (i := 25) (oi := { dst := some 78, op := Op.binOp BinOp.neq 35 (Operand.tmp 64) (Operand.tmp 77) 35, type := 4, pos := "law.go:69", after := #[{ on := 11, ground := Ground.data }, { on := 24, ground := Ground.data }], guard := none }) (v := ?_) rfl (by kernel_rfl) (by kernel_rfl) (by kernel_rfl) (fun _ _ _ h => h) (Or.inl ⟨by rfl, ?hy⟩) hHeld ?_
  case hy => (intro w hSw; (try dsimp only at hSw); obtain ⟨_, _, _, _, _, _, _, _⟩ := hSw; go_simp; all_goals (with_reducible rfl))
  try simp only [Act.put, List.setIfInBounds_toArray, List.set_cons_zero, List.set_cons_succ]
  refine wpAnyH_done (by kernel_rfl) ?_ _
  have HB12 := hid G12
  clear G11 G12 hHeld HDP HDR
  go_wp2_with fail
  go_upto_region 8 with fail
  refine wp_region_held_drew (S := (fun wx => Below w4.heap.size w4 wx ∧ wx.cell? ⟨w.heap.size, 32, none⟩ = some (.int .i64 self) ∧ wx.cell? ⟨w.heap.size, 33, none⟩ = some (.int .i64 N) ∧ wx.cell? ⟨w.heap.size, 34, none⟩ = some (.slice a0 n0 c0) ∧ wx.cell? ⟨w.heap.size, 35, none⟩ = some (.slice a1 n1 c1) ∧ wx.cell? ⟨w.heap.size, 36, none⟩ = some (.bool held) ∧ wx.cell? ⟨w.heap.size, 37, none⟩ = some (.bool buried) ∧ (loadVar 23 ⟨w.heap.size, 0, none⟩).run Tryz.prog wx = .ok (.agg OB) wx)) (by kernel_rfl) (HK4.out _ (bel_drewN HB12.out 1)) (fun hHeld => ?_)
  refine wpAnyH_take (i := 0) (oi := { dst := some 79, op := Op.fieldAddr 31 (Operand.tmp 1) 0, type := 0, pos := "law.go:72", after := #[], guard := none }) (v := ?_) rfl (by kernel_rfl) (by kernel_rfl) (by kernel_rfl) (fun _ _ _ h => h) (Or.inl ⟨by rfl, ?hy⟩) hHeld ?_
  case hy => (intro w hSw; (try dsimp only at hSw); obtain ⟨_, _, _, _, _, _, _, _⟩ := hSw; go_simp; all_goals (with_reducible rfl))
  try simp only [Act.put, List.setIfInBounds_toArray, List.set_cons_zero, List.set_cons_succ]
  refine wpAnyH_take (i := 1) (oi := { dst := some 80, op := Op.load 23 (Operand.tmp 79), type := 23, pos := "law.go:72", after := #[{ on := 0, ground := Ground.data }], guard := none }) (v := .agg OB) rfl (by kernel_rfl) (by kernel_rfl) (by kernel_rfl) (fun _ _ _ h => h) (Or.inl ⟨by rfl, ?hy⟩) hHeld ?_
  case hy => (intro w hSw; exact run_load_opP hSw.2.2.2.2.2.2.2)
  try simp only [Act.put, List.setIfInBounds_toArray, List.set_cons_zero, List.set_cons_succ]
  refine wpAnyH_take (i := 2) (oi := { dst := some 81, op := Op.fieldAddr 31 (Operand.tmp 1) 1, type := 0, pos := "law.go:72", after := #[], guard := none }) (v := ?_) rfl (by kernel_rfl) (by kernel_rfl) (by kernel_rfl) (fun _ _ _ h => h) (Or.inl ⟨by rfl, ?hy⟩) hHeld ?_
  case hy => (intro w hSw; (try dsimp only at hSw); obtain ⟨_, _, _, _, _, _, _, _⟩ := hSw; go_simp; all_goals (with_reducible rfl))
  try simp only [Act.put, List.setIfInBounds_toArray, List.set_cons_zero, List.set_cons_succ]
  refine wpAnyH_take (i := 3) (oi := { dst := some 82, op := Op.load 3 (Operand.tmp 81), type := 3, pos := "law.go:72", after := #[{ on := 2, ground := Ground.data }], guard := none }) (v := ?_) rfl (by kernel_rfl) (by kernel_rfl) (by kernel_rfl) (fun _ _ _ h => h) (Or.inl ⟨by rfl, ?hy⟩) hHeld ?_
  case hy => (intro w hSw; (try dsimp only at hSw); obtain ⟨_, _, _, _, _, _, _, _⟩ := hSw; go_simp; all_goals (with_reducible rfl))
  try simp only [Act.put, List.setIfInBounds_toArray, List.set_cons_zero, List.set_cons_succ]
  refine wpAnyH_take (i := 4) (oi := { dst := some 83, op := Op.fieldAddr 31 (Operand.tmp 1) 2, type := 0, pos := "law.go:72", after := #[], guard := none }) (v := ?_) rfl (by kernel_rfl) (by kernel_rfl) (by kernel_rfl) (fun _ _ _ h => h) (Or.inl ⟨by rfl, ?hy⟩) hHeld ?_
  case hy => (intro w hSw; (try dsimp only at hSw); obtain ⟨_, _, _, _, _, _, _, _⟩ := hSw; go_simp; all_goals (with_reducible rfl))
  try simp only [Act.put, List.setIfInBounds_toArray, List.set_cons_zero, List.set_cons_succ]
  refine wpAnyH_take (i := 5) (oi := { dst := some 84, op := Op.load 3 (Operand.tmp 83), type := 3, pos := "law.go:72", after := #[{ on := 4, ground := Ground.data }], guard := none }) (v := ?_) rfl (by kernel_rfl) (by kernel_rfl) (by kernel_rfl) (fun _ _ _ h => h) (Or.inl ⟨by rfl, ?hy⟩) hHeld ?_
  case hy => (intro w hSw; (try dsimp only at hSw); obtain ⟨_, _, _, _, _, _, _, _⟩ := hSw; go_simp; all_goals (with_reducible rfl))
  try simp only [Act.put, List.setIfInBounds_toArray, List.set_cons_zero, List.set_cons_succ]
  refine wpAnyH_take (i := 6) (oi := { dst := some 85, op := Op.move (Operand.tmp 4), type := 27, pos := "law.go:72", after := #[], guard := none }) (v := ?_) rfl (by kernel_rfl) (by kernel_rfl) (by kernel_rfl) (fun _ _ _ h => h) (Or.inl ⟨by rfl, ?hy⟩) hHeld ?_
  case hy => (intro w hSw; (try dsimp only at hSw); obtain ⟨_, _, _, _, _, _, _, _⟩ := hSw; go_simp; all_goals (with_reducible rfl))
  try simp only [Act.put, List.setIfInBounds_toArray, List.set_cons_zero, List.set_cons_succ]
  refine wpAnyH_take (i := 8) (oi := { dst := some 87, op := Op.fieldAddr 31 (Operand.tmp 1) 0, type := 0, pos := "law.go:72", after := #[], guard := none }) (v := ?_) rfl (by kernel_rfl) (by kernel_rfl) (by kernel_rfl) (fun _ _ _ h => h) (Or.inl ⟨by rfl, ?hy⟩) hHeld ?_
  case hy => (intro w hSw; (try dsimp only at hSw); obtain ⟨_, _, _, _, _, _, _, _⟩ := hSw; go_simp; all_goals (with_reducible rfl))
  try simp only [Act.put, List.setIfInBounds_toArray, List.set_cons_zero, List.set_cons_succ]
  refine wpAnyH_take (i := 9) (oi := { dst := some 88, op := Op.load 23 (Operand.tmp 87), type := 23, pos := "law.go:72", after := #[{ on := 8, ground := Ground.data }], guard := none }) (v := .agg OB) rfl (by kernel_rfl) (by kernel_rfl) (by kernel_rfl) (fun _ _ _ h => h) (Or.inl ⟨by rfl, ?hy⟩) hHeld ?_
  case hy => (intro w hSw; exact run_load_opP hSw.2.2.2.2.2.2.2)
  try simp only [Act.put, List.setIfInBounds_toArray, List.set_cons_zero, List.set_cons_succ]
  refine wpAnyH_take (i := 10) (oi := { dst := some 89, op := Op.fieldAddr 31 (Operand.tmp 1) 1, type := 0, pos := "law.go:72", after := #[], guard := none }) (v := ?_) rfl (by kernel_rfl) (by kernel_rfl) (by kernel_rfl) (fun _ _ _ h => h) (Or.inl ⟨by rfl, ?hy⟩) hHeld ?_
  case hy => (intro w hSw; (try dsimp only at hSw); obtain ⟨_, _, _, _, _, _, _, _⟩ := hSw; go_simp; all_goals (with_reducible rfl))
  try simp only [Act.put, List.setIfInBounds_toArray, List.set_cons_zero, List.set_cons_succ]
  refine wpAnyH_take (i := 11) (oi := { dst := some 90, op := Op.load 3 (Operand.tmp 89), type := 3, pos := "law.go:72", after := #[{ on := 10, ground := Ground.data }], guard := none }) (v := ?_) rfl (by kernel_rfl) (by kernel_rfl) (by kernel_rfl) (fun _ _ _ h => h) (Or.inl ⟨by rfl, ?hy⟩) hHeld ?_
  case hy => (intro w hSw; (try dsimp only at hSw); obtain ⟨_, _, _, _, _, _, _, _⟩ := hSw; go_simp; all_goals (with_reducible rfl))
  try simp only [Act.put, List.setIfInBounds_toArray, List.set_cons_zero, List.set_cons_succ]
  refine wpAnyH_take (i := 12) (oi := { dst := some 91, op := Op.fieldAddr 31 (Operand.tmp 1) 2, type := 0, pos := "law.go:72", after := #[], guard := none }) (v := ?_) rfl (by kernel_rfl) (by kernel_rfl) (by kernel_rfl) (fun _ _ _ h => h) (Or.inl ⟨by rfl, ?hy⟩) hHeld ?_
  case hy => (intro w hSw; (try dsimp only at hSw); obtain ⟨_, _, _, _, _, _, _, _⟩ := hSw; go_simp; all_goals (with_reducible rfl))
  try simp only [Act.put, List.setIfInBounds_toArray, List.set_cons_zero, List.set_cons_succ]
  refine wpAnyH_take (i := 13) (oi := { dst := some 92, op := Op.load 3 (Operand.tmp 91), type := 3, pos := "law.go:72", after := #[{ on := 12, ground := Ground.data }], guard := none }) (v := ?_) rfl (by kernel_rfl) (by kernel_rfl) (by kernel_rfl) (fun _ _ _ h => h) (Or.inl ⟨by rfl, ?hy⟩) hHeld ?_
  case hy => (intro w hSw; (try dsimp only at hSw); obtain ⟨_, _, _, _, _, _, _, _⟩ := hSw; go_simp; all_goals (with_reducible rfl))
  try simp only [Act.put, List.setIfInBounds_toArray, List.set_cons_zero, List.set_cons_succ]
  refine wpAnyH_take (i := 14) (oi := { dst := some 93, op := Op.fieldAddr 31 (Operand.tmp 1) 4, type := 0, pos := "law.go:72", after := #[], guard := none }) (v := ?_) rfl (by kernel_rfl) (by kernel_rfl) (by kernel_rfl) (fun _ _ _ h => h) (Or.inl ⟨by rfl, ?hy⟩) hHeld ?_
  case hy => (intro w hSw; (try dsimp only at hSw); obtain ⟨_, _, _, _, _, _, _, _⟩ := hSw; go_simp; all_goals (with_reducible rfl))
  try simp only [Act.put, List.setIfInBounds_toArray, List.set_cons_zero, List.set_cons_succ]
  refine wpAnyH_take (i := 15) (oi := { dst := some 94, op := Op.load 27 (Operand.tmp 93), type := 27, pos := "law.go:72", after := #[{ on := 14, ground := Ground.data }], guard := none }) (v := ?_) rfl (by kernel_rfl) (by kernel_rfl) (by kernel_rfl) (fun _ _ _ h => h) (Or.inl ⟨by rfl, ?hy⟩) hHeld ?_
  case hy => (intro w hSw; (try dsimp only at hSw); obtain ⟨_, _, _, _, _, _, _, _⟩ := hSw; go_simp; all_goals (with_reducible rfl))
  try simp only [Act.put, List.setIfInBounds_toArray, List.set_cons_zero, List.set_cons_succ]
  refine wpAnyH_ready (rs := [7]) (by kernel_rfl) (by simp) ?_
  refine AllReadyH.cons (o := { dst := some 86, op := Op.call { callee := Callee.value (Operand.func 30), args := #[Operand.tmp 80, Operand.tmp 82, Operand.tmp 84, Operand.tmp 85], argTypes := #[23, 3, 3, 27] }, type := 4, pos := "law.go:72", after := #[{ on := 1, ground := Ground.data }, { on := 3, ground := Ground.data }, { on := 5, ground := Ground.data }, { on := 6, ground := Ground.data }], guard := none }) rfl (fun K hK => ?_) AllReadyH.nil
  go_simp
  refine (HVP.out _ hHeld.1).mono ?_
  rintro e wx13 ⟨rfl, hb13⟩
  have G13 := hHeld.1.trans (hb13.mono hHeld.1.size)
  clear hb13
  clear hHeld
  go_wp2_with fail
  refine hK.out _ _ (HK4.out _ G13) (fun hHeld => ?_)
  clear hK K
  try simp only [Act.put, List.setIfInBounds_toArray, List.set_cons_zero, List.set_cons_succ]
  refine wpAnyH_ready (rs := [16]) (by kernel_rfl) (by simp) ?_
  refine AllReadyH.cons (o := { dst := some 95, op := Op.call { callee := Callee.value (Operand.func 31), args := #[Operand.tmp 88, Operand.tmp 90, Operand.tmp 92, Operand.tmp 94], argTypes := #[23, 3, 3, 27] }, type := 4, pos := "law.go:72", after := #[{ on := 9, ground := Ground.data }, { on := 11, ground := Ground.data }, { on := 13, ground := Ground.data }, { on := 15, ground := Ground.data }, { on := 7, ground := Ground.chain }], guard := none }) rfl (fun K hK => ?_) AllReadyH.nil
  go_simp
  refine (HVR.out _ G13).mono ?_
  rintro e wx14 ⟨rfl, hb14⟩
  have G14 := G13.trans (hb14.mono G13.size)
  clear hb14
  clear hHeld
  go_wp2_with fail
  refine hK.out _ _ (HK4.out _ G14) (fun hHeld => ?_)
  clear hK K
  try simp only [Act.put, List.setIfInBounds_toArray, List.set_cons_zero, List.set_cons_succ]
  refine wpAnyH_take (i := 17) (oi := { dst := some 96, op := Op.binOp BinOp.eql 4 (Operand.tmp 86) (Operand.tmp 95) 4, type := 4, pos := "law.go:72", after := #[{ on := 7, ground := Ground.data }, { on := 16, ground := Ground.data }], guard := none }) (v := ?_) rfl (by kernel_rfl) (by kernel_rfl) (by kernel_rfl) (fun _ _ _ h => h) (Or.inl ⟨by rfl, ?hy⟩) hHeld ?_
  case hy => (intro w hSw; (try dsimp only at hSw); obtain ⟨_, _, _, _, _, _, _, _⟩ := hSw; go_simp; all_goals (with_reducible rfl))
  try simp only [Act.put, List.setIfInBounds_toArray, List.set_cons_zero, List.set_cons_succ]
  refine wpAnyH_take (i := 18) (oi := { dst := some 97, op := Op.move (Operand.tmp 96), type := 4, pos := "law.go:72", after := #[{ on := 17, ground := Ground.data }, { on := 16, ground := Ground.chain }], guard := none }) (v := ?_) rfl (by kernel_rfl) (by kernel_rfl) (by kernel_rfl) (fun _ _ _ h => h) (Or.inl ⟨by rfl, ?hy⟩) hHeld ?_
  case hy => (intro w hSw; (try dsimp only at hSw); obtain ⟨_, _, _, _, _, _, _, _⟩ := hSw; go_simp; all_goals (with_reducible rfl))
  try simp only [Act.put, List.setIfInBounds_toArray, List.set_cons_zero, List.set_cons_succ]
  refine wpAnyH_take (i := 19) (oi := { dst := some 98, op := Op.move (Operand.tmp 3), type := 27, pos := "law.go:72", after := #[{ on := 18, ground := Ground.guard }], guard := some (18, true) }) (v := ?_) rfl (by kernel_rfl) (by kernel_rfl) (by kernel_rfl) (fun _ _ _ h => h) (Or.inl ⟨by rfl, ?hy⟩) hHeld ?_
  case hy => (intro w hSw; (try dsimp only at hSw); obtain ⟨_, _, _, _, _, _, _, _⟩ := hSw; go_simp; all_goals (with_reducible rfl))
  try simp only [Act.put, List.setIfInBounds_toArray, List.set_cons_zero, List.set_cons_succ]
  refine wpAnyH_take (i := 20) (oi := { dst := some 99, op := Op.fieldAddr 31 (Operand.tmp 1) 3, type := 0, pos := "law.go:72", after := #[{ on := 18, ground := Ground.guard }], guard := some (18, true) }) (v := ?_) rfl (by kernel_rfl) (by kernel_rfl) (by kernel_rfl) (fun _ _ _ h => h) (Or.inl ⟨by rfl, ?hy⟩) hHeld ?_
  case hy => (intro w hSw; (try dsimp only at hSw); obtain ⟨_, _, _, _, _, _, _, _⟩ := hSw; go_simp; all_goals (with_reducible rfl))
  try simp only [Act.put, List.setIfInBounds_toArray, List.set_cons_zero, List.set_cons_succ]
  refine wpAnyH_take (i := 21) (oi := { dst := some 100, op := Op.load 27 (Operand.tmp 99), type := 27, pos := "law.go:72", after := #[{ on := 20, ground := Ground.data }, { on := 18, ground := Ground.guard }], guard := some (18, true) }) (v := ?_) rfl (by kernel_rfl) (by kernel_rfl) (by kernel_rfl) (fun _ _ _ h => h) (Or.inl ⟨by rfl, ?hy⟩) hHeld ?_
  case hy => (intro w hSw; (try dsimp only at hSw); obtain ⟨_, _, _, _, _, _, _, _⟩ := hSw; go_simp; all_goals (with_reducible rfl))
  try simp only [Act.put, List.setIfInBounds_toArray, List.set_cons_zero, List.set_cons_succ]
  refine wpAnyH_ready (rs := [22]) (by kernel_rfl) (by simp) ?_
  refine AllReadyH.cons (o := { dst := some 101, op := Op.call { callee := Callee.value (Operand.func 19), args := #[Operand.tmp 98, Operand.tmp 100], argTypes := #[27, 27] }, type := 4, pos := "law.go:72", after := #[{ on := 19, ground := Ground.data }, { on := 21, ground := Ground.data }, { on := 18, ground := Ground.chain }, { on := 18, ground := Ground.guard }], guard := some (18, true) }) rfl (fun K hK => ?_) AllReadyH.nil
  go_simp
  refine (HSA.out _ G14).mono ?_
  rintro e wx15 ⟨rfl, hb15⟩
  have G15 := G14.trans (hb15.mono G14.size)
  clear hb15
  clear hHeld
  go_wp2_with fail
  refine hK.out _ _ (HK4.out _ G15) (fun hHeld => ?_)
  clear hK K
  try simp only [Act.put, List.setIfInBounds_toArray, List.set_cons_zero, List.set_cons_succ]
  refine wpAnyH_take (i := 23) (oi := { dst := some 102, op := Op.pick (Operand.tmp 97) (Operand.tmp 101) (Operand.const (Value.bool false)), type := 4, pos := "law.go:72", after := #[{ on := 18, ground := Ground.data }, { on := 22, ground := Ground.data }], guard := none }) (v := ?_) rfl (by kernel_rfl) (by kernel_rfl) (by kernel_rfl) (fun _ _ _ h => h) (Or.inl ⟨by rfl, ?hy⟩) hHeld ?_
  case hy => (intro w hSw; (try dsimp only at hSw); obtain ⟨_, _, _, _, _, _, _, _⟩ := hSw; go_simp; all_goals (with_reducible rfl))
  try simp only [Act.put, List.setIfInBounds_toArray, List.set_cons_zero, List.set_cons_succ]
  refine wpAnyH_take (i := 24) (oi := { dst := some 103, op := Op.move (Operand.tmp 102), type := 4, pos := "law.go:72", after := #[{ on := 23, ground := Ground.data }, { on := 22, ground := Ground.chain }], guard := none }) (v := ?_) rfl (by kernel_rfl) (by kernel_rfl) (by kernel_rfl) (fun _ _ _ h => h) (Or.inl ⟨by rfl, ?hy⟩) hHeld ?_
  case hy => (intro w hSw; (try dsimp only at hSw); obtain ⟨_, _, _, _, _, _, _, _⟩ := hSw; go_simp; all_goals (with_reducible rfl))
  try simp only [Act.put, List.setIfInBounds_toArray, List.set_cons_zero, List.set_cons_succ]
  refine wpAnyH_take (i := 25) (oi := { dst := some 104, op := Op.move (Operand.tmp 4), type := 27, pos := "law.go:72", after := #[{ on := 24, ground := Ground.guard }], guard := some (24, true) }) (v := ?_) rfl (by kernel_rfl) (by kernel_rfl) (by kernel_rfl) (fun _ _ _ h => h) (Or.inl ⟨by rfl, ?hy⟩) hHeld ?_
  case hy => (intro w hSw; (try dsimp only at hSw); obtain ⟨_, _, _, _, _, _, _, _⟩ := hSw; go_simp; all_goals (with_reducible rfl))
  try simp only [Act.put, List.setIfInBounds_toArray, List.set_cons_zero, List.set_cons_succ]
  refine wpAnyH_take (i := 26) (oi := { dst := some 105, op := Op.fieldAddr 31 (Operand.tmp 1) 4, type := 0, pos := "law.go:72", after := #[{ on := 24, ground := Ground.guard }], guard := some (24, true) }) (v := ?_) rfl (by kernel_rfl) (by kernel_rfl) (by kernel_rfl) (fun _ _ _ h => h) (Or.inl ⟨by rfl, ?hy⟩) hHeld ?_
  case hy => (intro w hSw; (try dsimp only at hSw); obtain ⟨_, _, _, _, _, _, _, _⟩ := hSw; go_simp; all_goals (with_reducible rfl))
  try simp only [Act.put, List.setIfInBounds_toArray, List.set_cons_zero, List.set_cons_succ]
  refine wpAnyH_take (i := 27) (oi := { dst := some 106, op := Op.load 27 (Operand.tmp 105), type := 27, pos := "law.go:72", after := #[{ on := 26, ground := Ground.data }, { on := 24, ground := Ground.guard }], guard := some (24, true) }) (v := ?_) rfl (by kernel_rfl) (by kernel_rfl) (by kernel_rfl) (fun _ _ _ h => h) (Or.inl ⟨by rfl, ?hy⟩) hHeld ?_
  case hy => (intro w hSw; (try dsimp only at hSw); obtain ⟨_, _, _, _, _, _, _, _⟩ := hSw; go_simp; all_goals (with_reducible rfl))
  try simp only [Act.put, List.setIfInBounds_toArray, List.set_cons_zero, List.set_cons_succ]
  refine wpAnyH_ready (rs := [28]) (by kernel_rfl) (by simp) ?_
  refine AllReadyH.cons (o := { dst := some 107, op := Op.call { callee := Callee.value (Operand.func 19), args := #[Operand.tmp 104, Operand.tmp 106], argTypes := #[27, 27] }, type := 4, pos := "law.go:72", after := #[{ on := 25, ground := Ground.data }, { on := 27, ground := Ground.data }, { on := 24, ground := Ground.chain }, { on := 24, ground := Ground.guard }], guard := some (24, true) }) rfl (fun K hK => ?_) AllReadyH.nil
  go_simp
  refine (HSB.out _ G15).mono ?_
  rintro e wx16 ⟨rfl, hb16⟩
  have G16 := G15.trans (hb16.mono G15.size)
  clear hb16
  clear hHeld
  go_wp2_with fail
  refine hK.out _ _ (HK4.out _ G16) (fun hHeld => ?_)
  clear hK K
  try simp only [Act.put, List.setIfInBounds_toArray, List.set_cons_zero, List.set_cons_succ]
  refine wpAnyH_take (i := 29) (oi := { dst := some 108, op := Op.pick (Operand.tmp 103) (Operand.tmp 107) (Operand.const (Value.bool false)), type := 4, pos := "law.go:72", after := #[{ on := 24, ground := Ground.data }, { on := 28, ground := Ground.data }], guard := none }) (v := ?_) rfl (by kernel_rfl) (by kernel_rfl) (by kernel_rfl) (fun _ _ _ h => h) (Or.inl ⟨by rfl, ?hy⟩) hHeld ?_
  case hy => (intro w hSw; (try dsimp only at hSw); obtain ⟨_, _, _, _, _, _, _, _⟩ := hSw; go_simp; all_goals (with_reducible rfl))
  try simp only [Act.put, List.setIfInBounds_toArray, List.set_cons_zero, List.set_cons_succ]
  refine wpAnyH_take (i := 30) (oi := { dst := some 109, op := Op.move (Operand.tmp 108), type := 4, pos := "law.go:72", after := #[{ on := 29, ground := Ground.data }, { on := 28, ground := Ground.chain }], guard := none }) (v := ?_) rfl (by kernel_rfl) (by kernel_rfl) (by kernel_rfl) (fun _ _ _ h => h) (Or.inl ⟨by rfl, ?hy⟩) hHeld ?_
  case hy => (intro w hSw; (try dsimp only at hSw); obtain ⟨_, _, _, _, _, _, _, _⟩ := hSw; go_simp; all_goals (with_reducible rfl))
  try simp only [Act.put, List.setIfInBounds_toArray, List.set_cons_zero, List.set_cons_succ]
  refine wpAnyH_ready (rs := [31]) (by kernel_rfl) (by simp) ?_
  refine AllReadyH.cons (o := { dst := some 110, op := Op.call { callee := Callee.value (Operand.func 22), args := #[], argTypes := #[] }, type := 4, pos := "law.go:72", after := #[{ on := 30, ground := Ground.chain }, { on := 30, ground := Ground.guard }], guard := some (30, true) }) rfl (fun K hK => ?_) AllReadyH.nil
  go_simp
  refine (HENDK.out _ G16).mono ?_
  rintro e wx17 ⟨rfl, hb17, hb30⟩
  have G17 := G16.trans (hb17.mono G16.size)
  clear hb17
  clear hHeld
  go_wp2_with fail
  refine hK.out _ _ (HK4.out _ G17) (fun hHeld => ?_)
  clear hK K
  try simp only [Act.put, List.setIfInBounds_toArray, List.set_cons_zero, List.set_cons_succ]
  refine wpAnyH_take (i := 32) (oi := { dst := some 111, op := Op.pick (Operand.tmp 109) (Operand.tmp 110) (Operand.const (Value.bool false)), type := 4, pos := "law.go:72", after := #[{ on := 30, ground := Ground.data }, { on := 31, ground := Ground.data }], guard := none }) (v := ?_) rfl (by kernel_rfl) (by kernel_rfl) (by kernel_rfl) (fun _ _ _ h => h) (Or.inl ⟨by rfl, ?hy⟩) hHeld ?_
  case hy => (intro w hSw; (try dsimp only at hSw); obtain ⟨_, _, _, _, _, _, _, _⟩ := hSw; go_simp; all_goals (with_reducible rfl))
  try simp only [Act.put, List.setIfInBounds_toArray, List.set_cons_zero, List.set_cons_succ]
  refine wpAnyH_take (i := 33) (oi := { dst := some 2, op := Op.assign (Operand.tmp 111), type := 4, pos := "law.go:72", after := #[{ on := 32, ground := Ground.data }, { on := 31, ground := Ground.chain }, { on := 0, ground := Ground.phase }, { on := 1, ground := Ground.phase }, { on := 2, ground := Ground.phase }, { on := 3, ground := Ground.phase }, { on := 4, ground := Ground.phase }, { on := 5, ground := Ground.phase }, { on := 6, ground := Ground.phase }, { on := 7, ground := Ground.phase }, { on := 8, ground := Ground.phase }, { on := 9, ground := Ground.phase }, { on := 10, ground := Ground.phase }, { on := 11, ground := Ground.phase }, { on := 12, ground := Ground.phase }, { on := 13, ground := Ground.phase }, { on := 14, ground := Ground.phase }, { on := 15, ground := Ground.phase }, { on := 16, ground := Ground.phase }, { on := 17, ground := Ground.phase }, { on := 18, ground := Ground.phase }, { on := 19, ground := Ground.phase }, { on := 20, ground := Ground.phase }, { on := 21, ground := Ground.phase }, { on := 22, ground := Ground.phase }, { on := 23, ground := Ground.phase }, { on := 24, ground := Ground.phase }, { on := 25, ground := Ground.phase }, { on := 26, ground := Ground.phase }, { on := 27, ground := Ground.phase }, { on := 28, ground := Ground.phase }, { on := 29, ground := Ground.phase }, { on := 30, ground := Ground.phase }, { on := 31, ground := Ground.phase }, { on := 32, ground := Ground.phase }], guard := none }) (v := ?_) rfl (by kernel_rfl) (by kernel_rfl) (by kernel_rfl) (fun _ _ _ h => h) (Or.inl ⟨by rfl, ?hy⟩) hHeld ?_
  case hy => (intro w hSw; (try dsimp only at hSw); obtain ⟨_, _, _, _, _, _, _, _⟩ := hSw; go_simp; all_goals (with_reducible rfl))
  try simp only [Act.put, List.setIfInBounds_toArray, List.set_cons_zero, List.set_cons_succ]
  refine wpAnyH_done (by kernel_rfl) ?_ _
  go_wp2_with fail
  go_ret
  exact ⟨rfl, hb30⟩
end Go.Proofs.YtjgiiciniplbnaaGreatDoor

namespace Go.Proofs.YtjgiiciniplbnaaGreatDoor.placeDuties
open Go.ChangeShapes Go.WideShapes Go.ChangeAt Go.RowKit Go.WideMaps Go.WideElems
open Go.ChangeMaps (open_string shut_string)
set_option linter.unusedVariables false

set_option maxRecDepth 100000 in
theorem lifted (os : Os) (started : os.Started) (H : Type) (enc : TypeId × Value → H) :
    ReturnsInHanded {} Tryz.checked os 4 .any (fun w args => (Rows.placeDutiesSpec.pre enc Tryz.prog Tryz.f4 [] false w args ∧ laidMetH Tryz.prog laidB w) ∧ sizedMet enc Tryz.prog Tryz.f4 (OpenSpec.ofChange Rows.placeDutiesSpec) false w args)
      (Rows.placeDutiesSpec.post enc Tryz.prog Tryz.f4 false true false false) := by
  refine returnsInHanded_of_change_and (C := Tryz.checked) (X := fun w _ => laidMetH Tryz.prog laidB w) (fun _ _ _ hh h => h.of_heap hh) ownD started (by kernel_rfl) Tryz.func4
    (ChangeSpec.witness_shaped (enc := enc) (C := Tryz.checked) (os := os) (X := fun w _ => laidMetH Tryz.prog laidB w) false (World.doorLaid Tryz.prog 24 os) #[.agg (u8s (List.replicate 32 0) ++ ([.int .i64 0, .int .i64 0, .slice none 0 0, .slice none 0 0, .bool false, .bool false] : List Value)).toArray] 8 rfl (World.shaped_of_RefB (by kernel_rfl) (by kernel_rfl)) (by kernel_rfl) (by kernel_rfl) (by kernel_rfl) (door_metB os _)) ?_
  intro W base args ds gs before hval0 hW _ _ hL _
  have hval : ∀ (j : Nat) t v, Tryz.f4.params[j]? = some t → args[j]? = some v → Value.okWide Tryz.prog W .any base t v := hval0
  have hW' := hW
  obtain ⟨p, q, hA0, hV, rfl, hfz, hnd⟩ := hW
  have hA : DataW.TrodAll enc Tryz.prog W 0 (fun _ => true) true Tryz.f4.params.toList args.toList ds p := hA0
  rw [Tryz.params4] at hA hval
  obtain ⟨v0, vs0, d0, ds0, p0, q0, hargs, rfl, rfl, h0, r0⟩ := trodAll_cons hA
  obtain ⟨rfl, rfl, rfl⟩ := trodAll_nil r0
  obtain rfl : args = #[v0] := by cases args; simp_all
  obtain ⟨rfl, rfl⟩ := trodVars_none hV
  have k0 := h0
  have lt0 : ∀ x ∈ p0, x.block < W.heap.size := by obtain ⟨m, hm⟩ := k0; exact DataW.trod_lt m _ _ _ hm
  obtain ⟨od0, x00, x01, a02, n02, c02, l02, a03, n03, c03, l03, b04, b05, rfl, ho0, hl0, w00, w01, w02, w03⟩ := open_case (hval 0 31 v0 rfl rfl) h0
  clear hA0 hval0
  refine (duties_walk W (vars_of_laidB hL) (rnds_of_laidB hL) od0 x00 x01 a02 n02 c02 l02 a03 n03 c03 l03 b04 b05 ho0 hl0 w00 w01 w02 w03).mono fun e W' ⟨he, bel⟩ => ?_
  subst he
  exact ⟨_, rfl, _, _, _, [], _, [], hW', trodAll_mk1 (shut_bool Tryz.underlying4 _), (trodAll_cons_mk (Below.trod Facts.laidOut (by kernel_rfl) (of_decide_eq_true (by kernel_rfl)) k0 bel lt0) trodAll_mk0), rfl, bel.frame _, fun h => by cases h⟩

set_option maxHeartbeats 4000000 in
set_option maxRecDepth 1000000 in
theorem closed : joinedFacts Tryz.pinned.checked.prog 4 Tryz.f4 Rows.placeDutiesSpec Rows.placeDutiesRow = true := by
  unfold joinedFacts
  refine (Facts.and2 (Facts.and2 (Facts.and2 (Facts.and2 (Facts.and2 (Facts.and2 (Facts.and2 (Facts.and2 (Facts.and2 (Facts.and2 (Facts.and2 (Facts.and2 (Facts.and2 (Facts.and2 (Facts.and2 (Facts.and2 (Facts.and2 (Facts.and2 (Facts.and2 (Facts.and2 (Facts.and2 (Facts.and2 (Facts.and2 (Facts.and2 (Facts.and2 (Facts.and2 (Facts.and2 (Facts.and2 (Facts.and2 (Facts.and2 (Facts.and2 ?_ Facts.laidOut) Facts.mapsR) ?_) ?_) ?_) Facts.stops) ?_) Facts.knobs) ?_) ?_) ?_) ?_) ?_) ?_) ?_) ?_) ?_) ?_) ?_) ?_) ?_) Facts.keys) ?_) Facts.heard) Facts.enter) ?_) ?_) ?_) ?_) ?_) ?_)
  all_goals (as_aux_lemma => kernel_rfl)

theorem over : Rows.placeDutiesRow.holds Tryz.pinned (OpenSpec.ofChange Rows.placeDutiesSpec) :=
  OpenClaim.holds_of_wide 4 Tryz.f4 rfl rfl rfl rfl rfl rfl rfl ⟨rfl, rfl, rfl, rfl, rfl⟩ rfl rfl rfl rfl rfl (by as_aux_lemma => kernel_rfl) Tryz.func4 closed
    (of_decide_eq_true (by as_aux_lemma => kernel_rfl)) (by unfold Func.isWrapper; first | (rw [if_pos (by decide +kernel)]; kernel_rfl) | (rw [if_neg (by decide +kernel)]; exact ⟨rfl, rfl⟩))
    (fun os started H enc _ => lifted os started H enc)
end Go.Proofs.YtjgiiciniplbnaaGreatDoor.placeDuties
namespace Go.Proofs.YtjgiiciniplbnaaGreatDoor
open Go
set_option maxHeartbeats 4000000 in
set_option maxRecDepth 1000000 in
theorem placeDuties_holds : Rows.PlaceDutiesCardSaid :=
  Claim7.holds_tied_plain_at .later [] [.data, .data, .data] true (true, "4a085e94ccebdf24e9b63843c722f4a968f2e6f610b760c9b6f284c344973c54") false
    placeDuties.over (fun _ h => by cases h) (by as_aux_lemma => kernel_rfl) (fun _ h => by cases h) placeDuties_row_tie rfl ⟨rfl, rfl⟩ (by as_aux_lemma => kernel_rfl) rfl
    (fun f fn hf hfn => by
      obtain rfl : f = 4 := Option.some.inj ((show Tryz.prog.funcNamed "stolon/stolonlaw07.PlaceDuties" = some 4 by as_aux_lemma => kernel_rfl).symm.trans hf) |>.symm
      obtain rfl : fn = Tryz.f4 := (Option.some.inj (Tryz.func4.symm.trans hfn)).symm
      exact ⟨by as_aux_lemma => kernel_rfl, fun j t ht => by
        rw [Tryz.params4] at ht
        rcases j with _ | j
        · obtain rfl : t = 31 := by simpa using ht.symm
          exact (show Tryz.prog.wantsStandIn 31 = false by as_aux_lemma => kernel_rfl)
        · simp at ht⟩)
    (by as_aux_lemma => kernel_rfl)
#print axioms placeDuties_holds
end Go.Proofs.YtjgiiciniplbnaaGreatDoor
