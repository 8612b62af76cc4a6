/-
  PlaceSettles: for every input the call returns true, and each argument reads behind it as before; the listed variables hold what the program's text lays (tied). No other condition.
-/
import Derived.Test.YtjgiiciniplbnaaGreatDoorKb1
import Derived.Test.YtjgiiciniplbnaaGreatDoorKa3
import Derived.Test.YtjgiiciniplbnaaGreatDoorCards
import Derived.Test.YtjgiiciniplbnaaGreatDoorTie
import Derived.ShutString
import Derived.ChangeOld
import Derived.Below
namespace Go.Proofs.YtjgiiciniplbnaaGreatDoor
open Go Go.RowKit Go.Lib Go.Sort
set_option linter.unusedVariables false

theorem chN_all (N : Int) (L : Nat) (h1 : 1 ≤ N) (h2 : N ≤ (L : Int)) : ((chN N L : Nat) : Int) = N := by unfold chN; omega
/-- what a peer of a settled object has to do -/
def dtyS (H K : Bool) : Int := if K && !H then 1 else if H && !K then 2 else 0
theorem dty_set (obj : List Nat) (self : Int) (li : List Int) (n : Int) (H : Bool) (h1 : 1 ≤ n) (h2 : n ≤ ((memb (setL li) 16).length : Int)) : dty obj self li n H false = dtyS H (((chosenL obj li n).map Int.ofNat).contains self) := by
  have hl : (((chosenL obj li n).length : Nat) : Int) = n := by
    unfold chosenL
    rw [List.length_take, Nat.min_eq_left (chN_le _ _)]
    exact chN_all n _ h1 (by rw [rkd_length]; exact h2)
  unfold dty dtyS
  rw [hl]
  have : ¬ n < 1 := by omega
  simp [this]
theorem memb_wf (S : Nat → Bool) (k : Nat) (hk : k ≤ 16) : ∀ n ∈ (memb S k).map Int.ofNat, (Lit.int .i64 n).wf = true := fun n hn => by
  obtain ⟨y, hy, rfl⟩ := List.mem_map.1 hn
  have := memb_lt S k y hy
  simp [Lit.wf]
  have e1 : IntKind.i64.min = -9223372036854775808 := rfl
  have e2 : IntKind.i64.max = 9223372036854775807 := rfl
  omega
set_option maxRecDepth 100000 in
set_option maxHeartbeats 16000000 in
theorem settles_walk (w : World) (V : Vars w shaRound shaStart) (obj : List Nat) (a0 : Option Addr) (n0 c0 : Nat) (l0 : List Int) (a1 : Option Addr) (n1 c1 : Nat) (l1 : List Int) (N : Int)
    (ho : obj.length = 32) (hlt : ∀ x ∈ obj, x < 256) (h0 : In w a0 n0 c0 l0) (h1 : In w a1 n1 c1 l1) (hN : (Lit.int .i64 N).wf = true) :
    Calls Tryz.prog 10 #[.agg (u8s obj ++ ([.slice a0 n0 c0, .slice a1 n1 c1, .int .i64 N] : List Value)).toArray] w fun e w' => e = .returned (.bool true) ∧ Below w.heap.size w w' := by
  obtain ⟨w1, hw1⟩ : ∃ y, y = w.alloc (.cells (u8s obj ++ ([.slice a0 n0 c0, .slice a1 n1 c1, .int .i64 N] : List Value)).toArray 97) := ⟨_, rfl⟩
  have hb1 : Below w.heap.size w w1 := by rw [hw1]; exact (Below.refl _ _).alloc (Nat.le_refl _) _
  have HRX := hid (show w1.heap[w.heap.size]? = some (.cells (u8s obj ++ ([.slice a0 n0 c0, .slice a1 n1 c1, .int .i64 N] : List Value)).toArray 97 (0, 0)) from by rw [hw1]; exact heap_new _ _)
  have HB1 := hid hb1
  have HW1 := hid hw1
  have HV1 := hid (V.below hb1)
  have HO := hid ho
  have HLT := hid hlt
  have HA := hid (show In w1 a0 n0 c0 l0 from ⟨h0.1.belowP hb1, h0.2⟩)
  have HH := hid (show In w1 a1 n1 c1 l1 from ⟨h1.1.belowP hb1, h1.2⟩)
  have HIFS := hid (infoDA obj ho)
  have HIZ := hid (zeroDA obj ho)
  have HONE := hid (oneDA obj)
  have HKN := hid (fun (wx : World) (v : Vars wx shaRound shaStart) => known_pl wx v)
  obtain ⟨OB, hOB⟩ : ∃ y, y = (u8s obj).toArray := ⟨_, rfl⟩
  rw [← hOB] at HIFS HIZ HONE
  have HOBE := hid hOB
  clear V hb1 hw1 ho hlt h0 h1 hOB
  go_enter Tryz.func10, Tryz.ntmps10
  go_upto_region 1 with fail
  rw [← HW1.out]
  clear HW1
  have HKP := hid (show ∀ wx, Below w1.heap.size w1 wx → (fun wx => Below w1.heap.size w1 wx ∧ wx.cell? ⟨w.heap.size, 32, none⟩ = some (.slice a0 n0 c0) ∧ wx.cell? ⟨w.heap.size, 33, none⟩ = some (.slice a1 n1 c1) ∧ wx.cell? ⟨w.heap.size, 34, none⟩ = some (.int .i64 N) ∧ (loadVar 23 ⟨w.heap.size, 0, none⟩).run Tryz.prog wx = .ok (.agg OB) wx) wx from fun wx hx => by
    have hr := (hx.block w.heap.size (lt_of_heap HRX.out)).trans HRX.out
    rw [HOBE.out]
    exact ⟨hx, box_cell hr HO.out 0 _ rfl, box_cell hr HO.out 1 _ rfl, box_cell hr HO.out 2 _ rfl, box_dig hr HO.out⟩)
  refine wp_region_held_drew (S := (fun wx => Below w1.heap.size w1 wx ∧ wx.cell? ⟨w.heap.size, 32, none⟩ = some (.slice a0 n0 c0) ∧ wx.cell? ⟨w.heap.size, 33, none⟩ = some (.slice a1 n1 c1) ∧ wx.cell? ⟨w.heap.size, 34, none⟩ = some (.int .i64 N) ∧ (loadVar 23 ⟨w.heap.size, 0, none⟩).run Tryz.prog wx = .ok (.agg OB) wx)) (by kernel_rfl) (HKP.out _ (bel_drewN (Below.refl _ _) 1)) (fun hHeld => ?_)
  refine wpAnyH_take (i := 0) (oi := { dst := some 15, op := Op.fieldAddr 97 (Operand.tmp 1) 0, type := 0, pos := "plain.go:93", after := #[], guard := none }) (v := ?_) rfl (by kernel_rfl) (by kernel_rfl) (by kernel_rfl) (fun _ _ _ h => h) (Or.inl ⟨by rfl, ?hy⟩) hHeld ?_
  case hy => (intro w hSw; (try dsimp only at hSw); obtain ⟨_, _, _, _, _⟩ := hSw; go_simp; all_goals (with_reducible rfl))
  try simp only [Act.put, List.setIfInBounds_toArray, List.set_cons_zero, List.set_cons_succ]
  refine wpAnyH_take (i := 1) (oi := { dst := some 16, op := Op.load 23 (Operand.tmp 15), type := 23, pos := "plain.go:93", after := #[{ on := 0, ground := Ground.data }], guard := none }) (v := .agg OB) rfl (by kernel_rfl) (by kernel_rfl) (by kernel_rfl) (fun _ _ _ h => h) (Or.inl ⟨by rfl, ?hy⟩) hHeld ?_
  case hy => (intro w hSw; exact run_load_opP hSw.2.2.2.2)
  try simp only [Act.put, List.setIfInBounds_toArray, List.set_cons_zero, List.set_cons_succ]
  refine wpAnyH_take (i := 2) (oi := { dst := some 17, op := Op.fieldAddr 97 (Operand.tmp 1) 1, type := 0, pos := "plain.go:93", after := #[{ on := 9, ground := Ground.gcOnly Departure.lateStores }], guard := none }) (v := ?_) rfl (by kernel_rfl) (by kernel_rfl) (by kernel_rfl) (fun _ _ _ h => h) (Or.inl ⟨by rfl, ?hy⟩) hHeld ?_
  case hy => (intro w hSw; (try dsimp only at hSw); obtain ⟨_, _, _, _, _⟩ := hSw; go_simp; all_goals (with_reducible rfl))
  try simp only [Act.put, List.setIfInBounds_toArray, List.set_cons_zero, List.set_cons_succ]
  refine wpAnyH_take (i := 3) (oi := { dst := some 18, op := Op.load 27 (Operand.tmp 17), type := 27, pos := "plain.go:93", after := #[{ on := 2, ground := Ground.data }, { on := 9, ground := Ground.gcOnly Departure.lateStores }], guard := none }) (v := ?_) rfl (by kernel_rfl) (by kernel_rfl) (by kernel_rfl) (fun _ _ _ h => h) (Or.inl ⟨by rfl, ?hy⟩) hHeld ?_
  case hy => (intro w hSw; (try dsimp only at hSw); obtain ⟨_, _, _, _, _⟩ := hSw; go_simp; all_goals (with_reducible rfl))
  try simp only [Act.put, List.setIfInBounds_toArray, List.set_cons_zero, List.set_cons_succ]
  refine wpAnyH_take (i := 4) (oi := { dst := some 19, op := Op.fieldAddr 97 (Operand.tmp 1) 2, type := 0, pos := "plain.go:93", after := #[{ on := 10, ground := Ground.gcOnly Departure.lateStores }], guard := none }) (v := ?_) rfl (by kernel_rfl) (by kernel_rfl) (by kernel_rfl) (fun _ _ _ h => h) (Or.inl ⟨by rfl, ?hy⟩) hHeld ?_
  case hy => (intro w hSw; (try dsimp only at hSw); obtain ⟨_, _, _, _, _⟩ := hSw; go_simp; all_goals (with_reducible rfl))
  try simp only [Act.put, List.setIfInBounds_toArray, List.set_cons_zero, List.set_cons_succ]
  refine wpAnyH_take (i := 5) (oi := { dst := some 20, op := Op.load 27 (Operand.tmp 19), type := 27, pos := "plain.go:93", after := #[{ on := 4, ground := Ground.data }, { on := 10, ground := Ground.gcOnly Departure.lateStores }], guard := none }) (v := ?_) rfl (by kernel_rfl) (by kernel_rfl) (by kernel_rfl) (fun _ _ _ h => h) (Or.inl ⟨by rfl, ?hy⟩) hHeld ?_
  case hy => (intro w hSw; (try dsimp only at hSw); obtain ⟨_, _, _, _, _⟩ := hSw; go_simp; all_goals (with_reducible rfl))
  try simp only [Act.put, List.setIfInBounds_toArray, List.set_cons_zero, List.set_cons_succ]
  refine wpAnyH_take (i := 6) (oi := { dst := some 21, op := Op.fieldAddr 97 (Operand.tmp 1) 3, type := 0, pos := "plain.go:93", after := #[{ on := 11, ground := Ground.gcOnly Departure.lateStores }], guard := none }) (v := ?_) rfl (by kernel_rfl) (by kernel_rfl) (by kernel_rfl) (fun _ _ _ h => h) (Or.inl ⟨by rfl, ?hy⟩) hHeld ?_
  case hy => (intro w hSw; (try dsimp only at hSw); obtain ⟨_, _, _, _, _⟩ := hSw; go_simp; all_goals (with_reducible rfl))
  try simp only [Act.put, List.setIfInBounds_toArray, List.set_cons_zero, List.set_cons_succ]
  refine wpAnyH_take (i := 7) (oi := { dst := some 22, op := Op.load 3 (Operand.tmp 21), type := 3, pos := "plain.go:93", after := #[{ on := 6, ground := Ground.data }, { on := 11, ground := Ground.gcOnly Departure.lateStores }], guard := none }) (v := ?_) rfl (by kernel_rfl) (by kernel_rfl) (by kernel_rfl) (fun _ _ _ h => h) (Or.inl ⟨by rfl, ?hy⟩) hHeld ?_
  case hy => (intro w hSw; (try dsimp only at hSw); obtain ⟨_, _, _, _, _⟩ := hSw; go_simp; all_goals (with_reducible rfl))
  try simp only [Act.put, List.setIfInBounds_toArray, List.set_cons_zero, List.set_cons_succ]
  refine wpAnyH_ready (rs := [8]) (by kernel_rfl) (by simp) ?_
  refine AllReadyH.cons (o := { dst := some 3, op := Op.alloc 23, type := 0, pos := "plain.go:93", after := #[], guard := none }) rfl (fun K hK => ?_) AllReadyH.nil
  go_simp
  refine hK.out _ _ (HKP.out _ ((bel_drewN (Below.refl w1.heap.size w1) 1).alloc (by simp) _)) (fun hHeld => ?_)
  clear hK K
  try simp only [Act.put, List.setIfInBounds_toArray, List.set_cons_zero, List.set_cons_succ]
  refine wpAnyH_ready (rs := [9]) (by kernel_rfl) (by simp) ?_
  refine AllReadyH.cons (o := { dst := none, op := Op.store 23 (Operand.tmp 3) (Operand.tmp 16), type := 0, pos := "plain.go:93", after := #[{ on := 8, ground := Ground.data }, { on := 1, ground := Ground.data }, { on := 0, ground := Ground.phase }, { on := 1, ground := Ground.phase }, { on := 2, ground := Ground.textOnly Departure.lateStores }, { on := 3, ground := Ground.textOnly Departure.lateStores }, { on := 4, ground := Ground.textOnly Departure.lateStores }, { on := 5, ground := Ground.textOnly Departure.lateStores }, { on := 6, ground := Ground.textOnly Departure.lateStores }, { on := 7, ground := Ground.textOnly Departure.lateStores }, { on := 8, ground := Ground.phase }], guard := none }) rfl (fun K hK => ?_) AllReadyH.nil
  refine step_store_row rfl 23 (.tmp 3) (.tmp 16) rfl w1.heap.size (u8s (List.replicate 32 0)).toArray OB 23 rfl rfl (heap_new _ _) HIFS.out HIZ.out HONE.out ?_
  intro w3 hw3 hk3
  have HOB := hid (show OwnD w3 w1.heap.size obj from by rw [HOBE.out] at hw3; exact hw3)
  have HB3 := hid (((bel_drewN (Below.refl w1.heap.size w1) 1).alloc (by simp) (.cells (u8s (List.replicate 32 0)).toArray 23)).trans (hk3.below (by simp) (Nat.le_refl _)))
  clear hw3 hk3
  refine hK.out _ _ (HKP.out _ HB3.out) (fun hHeld => ?_)
  clear hK K
  try simp only [Act.put, List.setIfInBounds_toArray, List.set_cons_zero, List.set_cons_succ]
  refine wpAnyH_take (i := 10) (oi := { dst := some 4, op := Op.assign (Operand.tmp 18), type := 27, pos := "plain.go:93", after := #[{ on := 3, ground := Ground.data }, { on := 9, ground := Ground.chain }, { on := 0, ground := Ground.phase }, { on := 1, ground := Ground.phase }, { on := 2, ground := Ground.phase }, { on := 3, ground := Ground.phase }, { on := 4, ground := Ground.textOnly Departure.lateStores }, { on := 5, ground := Ground.textOnly Departure.lateStores }, { on := 6, ground := Ground.textOnly Departure.lateStores }, { on := 7, ground := Ground.textOnly Departure.lateStores }, { on := 8, ground := Ground.phase }, { on := 9, ground := Ground.phase }], guard := none }) (v := ?_) rfl (by kernel_rfl) (by kernel_rfl) (by kernel_rfl) (fun _ _ _ h => h) (Or.inl ⟨by rfl, ?hy⟩) hHeld ?_
  case hy => (intro w hSw; (try dsimp only at hSw); obtain ⟨_, _, _, _, _⟩ := hSw; go_simp; all_goals (with_reducible rfl))
  try simp only [Act.put, List.setIfInBounds_toArray, List.set_cons_zero, List.set_cons_succ]
  refine wpAnyH_take (i := 11) (oi := { dst := some 5, op := Op.assign (Operand.tmp 20), type := 27, pos := "plain.go:93", after := #[{ on := 5, ground := Ground.data }, { on := 10, ground := Ground.chain }, { on := 0, ground := Ground.phase }, { on := 1, ground := Ground.phase }, { on := 2, ground := Ground.phase }, { on := 3, ground := Ground.phase }, { on := 4, ground := Ground.phase }, { on := 5, ground := Ground.phase }, { on := 6, ground := Ground.textOnly Departure.lateStores }, { on := 7, ground := Ground.textOnly Departure.lateStores }, { on := 8, ground := Ground.phase }, { on := 9, ground := Ground.phase }, { on := 10, ground := Ground.phase }], guard := none }) (v := ?_) rfl (by kernel_rfl) (by kernel_rfl) (by kernel_rfl) (fun _ _ _ h => h) (Or.inl ⟨by rfl, ?hy⟩) hHeld ?_
  case hy => (intro w hSw; (try dsimp only at hSw); obtain ⟨_, _, _, _, _⟩ := hSw; go_simp; all_goals (with_reducible rfl))
  try simp only [Act.put, List.setIfInBounds_toArray, List.set_cons_zero, List.set_cons_succ]
  refine wpAnyH_take (i := 12) (oi := { dst := some 6, op := Op.assign (Operand.tmp 22), type := 3, pos := "plain.go:93", after := #[{ on := 7, ground := Ground.data }, { on := 11, ground := Ground.chain }, { on := 0, ground := Ground.phase }, { on := 1, ground := Ground.phase }, { on := 2, ground := Ground.phase }, { on := 3, ground := Ground.phase }, { on := 4, ground := Ground.phase }, { on := 5, ground := Ground.phase }, { on := 6, ground := Ground.phase }, { on := 7, ground := Ground.phase }, { on := 8, ground := Ground.phase }, { on := 9, ground := Ground.phase }, { on := 10, ground := Ground.phase }, { on := 11, ground := Ground.phase }], guard := none }) (v := ?_) rfl (by kernel_rfl) (by kernel_rfl) (by kernel_rfl) (fun _ _ _ h => h) (Or.inl ⟨by rfl, ?hy⟩) hHeld ?_
  case hy => (intro w hSw; (try dsimp only at hSw); obtain ⟨_, _, _, _, _⟩ := hSw; go_simp; all_goals (with_reducible rfl))
  try simp only [Act.put, List.setIfInBounds_toArray, List.set_cons_zero, List.set_cons_succ]
  refine wpAnyH_done (by kernel_rfl) ?_ _
  have HV3 := hid (HV1.out.below HB3.out)
  have HBW := hid (HB1.out.trans (HB3.out.mono HB1.out.size))
  have HA3 := hid (show In w3 a0 n0 c0 l0 from ⟨HA.out.1.belowP HB3.out, HA.out.2⟩)
  have HH3 := hid (show In w3 a1 n1 c1 l1 from ⟨HH.out.1.belowP HB3.out, HH.out.2⟩)
  have hob : w1.heap.size < w3.heap.size := lt_of_heap HOB.out
  obtain ⟨ob, hobe⟩ : ∃ y, y = w1.heap.size := ⟨_, rfl⟩
  rw [← hobe] at HOB hob ⊢
  clear hobe HKP HRX HIFS HIZ HONE HV1 HB1 HB3 HA HH
  have HEND := hid (fun (wx : World) (h : Below w3.heap.size w3 wx) => (HKN.out wx (HV3.out.below h)).mono fun e w' (q : e = .returned (.bool true) ∧ Below wx.heap.size wx w') => (⟨q.1, HBW.out.trans ((h.trans (q.2.mono h.size)).mono HBW.out.size)⟩ : e = .returned (.bool true) ∧ Below w.heap.size w w'))
  rcases Nat.lt_or_ge 16 n0 with hs0 | hs0
  · have hs0' : (16 : Int) < (n0 : Int) := by omega
    go_wp2_with fail
    refine (HEND.out _ (Below.refl _ _)).mono ?_
    rintro e w4 ⟨rfl, hb4⟩
    go_wp2_with fail
    go_ret
    exact ⟨rfl, hb4⟩
  rcases Nat.lt_or_ge 16 n1 with hs1 | hs1
  · have hs0' : ¬ (16 : Int) < (n0 : Int) := by omega
    have hs1' : (16 : Int) < (n1 : Int) := by omega
    go_wp2_with fail
    refine (HEND.out _ (Below.refl _ _)).mono ?_
    rintro e w4 ⟨rfl, hb4⟩
    go_wp2_with fail
    go_ret
    exact ⟨rfl, hb4⟩
  have hs0' : ¬ (16 : Int) < (n0 : Int) := by omega
  have hs1' : ¬ (16 : Int) < (n1 : Int) := by omega
  go_wp2_with fail
  go_loopw [7, 8] (fun av iv wx => ∃ k : Nat, k ≤ 16 ∧ iv = .int .i64 k ∧ Hid (wx.ownsRow w3.heap.size 3 1 av (memb (setL l0) k).length (i64z ((memb (setL l0) k).map Int.ofNat))) ∧ Hid (Below w3.heap.size w3 wx)) (fun _ iv _ => 16 - (intOf iv).toNat)
  case atStart => exact ⟨0, by omega, rfl, hid (ownsZ_new (heap_new _ _)), hid ((Below.refl _ _).alloc (Nat.le_refl _) _)⟩
  case round =>
    obtain ⟨k, hk, rfl, HOW, HBR⟩ := hrel
    by_cases hk16 : k < 16
    · as_aux_lemma =>
      have hk16' : (k : Int) < 16 := by omega
      have HHAS := hid (Has_any a0 n0 c0 l0 (k : Int) wr (HA3.out.1.belowP HBR.out) (by omega))
      have HMS := hid (memb_succ (setL l0) k)
      have hml := memb_le (setL l0) k
      have HWF := hid (show ∀ n ∈ [(k : Int)], (Lit.int .i64 n).wf = true from fun n hn => by
        simp only [List.mem_cons, List.not_mem_nil, or_false] at hn
        subst hn
        simp [Lit.wf]
        have e1 : IntKind.i64.min = -9223372036854775808 := rfl
        have e2 : IntKind.i64.max = 9223372036854775807 := rfl
        omega)
      go_wp2_with fail
      refine HHAS.out.mono ?_
      rintro e w5 ⟨rfl, rfl⟩
      have HSS := hid (show l0.contains (k : Int) = setL l0 k from rfl)
      rw [HSS.out]
      cases hS : setL l0 k with
      | false =>
        have e1 : memb (setL l0) (k + 1) = memb (setL l0) k := by rw [HMS.out, hS]; rfl
        have E1 := hid e1
        clear e1 hS HSS
        go_wp2_with fail
        exact ⟨⟨k + 1, by omega, by go_num, by rw [E1.out]; exact HOW, HBR⟩, by simp [intOf]; omega⟩
      | true =>
        have e1 : memb (setL l0) (k + 1) = memb (setL l0) k ++ [k] := by rw [HMS.out, hS]; rfl
        have E1 := hid e1
        clear e1 hS HSS
        go_wp2_with (
          (have h0 := HWF.out)
          (refine wpList_appendZ (by rfl) (.tmp 40) (.tmp 42) (by rfl) w3.heap.size _ (memb (setL l0) k).length ((memb (setL l0) k).map Int.ofNat) (by rfl) (owns_belowP HOW.out ((Below.refl _ _).alloc (Nat.le_refl _) _)) (by omega) (some ⟨_, 0, none⟩) 1 1 [(k : Int)] (by rfl) (is_i64 _ [(k : Int)] h0) (by intro h; cases h) (by omega) (by omega) (by simp; have := HBR.out.size; omega) ?_)
          (intro v6 w6 hown6 hb6)
          (have HOW6 := hid hown6)
          (have HB6 := hid ((HBR.out.alloc HBR.out.size (.cells #[.int .i64 (k : Int)] 3)).trans hb6))
          (clear hown6 hb6))
        exact ⟨⟨k + 1, by omega, by go_num, by rw [E1.out]; simpa using HOW6, HB6⟩, by simp [intOf]; omega⟩
    · obtain rfl : k = 16 := by omega
      obtain ⟨wo, rfl⟩ : ∃ y, y = wr := ⟨wr, rfl⟩
      have hwf := memb_wf (setL l0) 16 (by omega)
      have hal16 := memb_le (setL l0) 16
      obtain ⟨aa, ac, rfl, -, hac, hisA, hnA, -⟩ := is_of_ownsZ HOW.out hwf
      have HALL := hid hisA
      have HLN := hid (show (memb (setL l0) 16).length = (rkd obj (setL l0)).length from (rkd_length _ _).symm)
      have HDS := hid (fun (self : Int) (H : Bool) (h1 : 1 ≤ N) (h2 : N ≤ ((memb (setL l0) 16).length : Int)) => dty_set obj self l0 N H h1 h2)
      generalize hAL : memb (setL l0) 16 = AL at *
      clear hAL hisA HOW hwf
      obtain ⟨L, hL⟩ : ∃ L, L = AL.length := ⟨_, rfl⟩
      rw [← hL] at HALL HLN HDS hal16 hac ⊢
      have HLE := hid hL
      clear hL
      by_cases hN1 : N < 1
      · go_wp2_with fail
        refine (HEND.out _ HBR.out).mono ?_
        rintro e w4 ⟨rfl, hb4⟩
        go_wp2_with fail
        go_ret
        exact ⟨rfl, hb4⟩
      by_cases hN2 : (L : Int) < N
      · go_wp2_with fail
        refine (HEND.out _ HBR.out).mono ?_
        rintro e w4 ⟨rfl, hb4⟩
        go_wp2_with fail
        go_ret
        exact ⟨rfl, hb4⟩
      obtain ⟨m, hm⟩ : ∃ m, m = chN N (rkd obj (setL l0)).length := ⟨_, rfl⟩
      have hmN : ((m : Nat) : Int) = N := by rw [hm, ← HLN.out]; exact chN_all N L (by omega) (by omega)
      have HCL := hid (show chosenL obj l0 N = (rkd obj (setL l0)).take m from by rw [hm]; rfl)
      have HML := hid (show m ≤ (rkd obj (setL l0)).length from by rw [hm]; exact chN_le _ _)
      have HRL := hid (rkd_lt obj (setL l0))
      have HIN := hid (fun (wx : World) (h : Below wo.heap.size wo wx) => ints_any a0 n0 c0 l0 wx ((HA3.out.1.belowP HBR.out).belowP h) HA3.out.2.2 HA3.out.2.1 (by omega))
      have HVR := hid (HV3.out.below HBR.out)
      have HCH := hid (fun (wx : World) (h : Below wo.heap.size wo wx) (ia : Option Addr) (ic : Nat) (hi : Is wx (.slice ia n0 ic) l0) => Chosen_any obj HO.out HLT.out ia n0 ic l0 N wx (HVR.out.below h) hi (by omega))
      rw [← hm] at HCH
      have HDT := hid (fun (x : Int) (H : Bool) (wx : World) (h : Below wo.heap.size wo wx) (ia : Option Addr) (ic : Nat) (hi : Is wx (.slice ia n0 ic) l0) => (show Calls Tryz.prog 28 #[.agg OB, .int .i64 x, .slice ia n0 ic, .int .i64 N, .bool H, .bool false] wx fun e w' => e = .returned (.int .u8 (dtyS H (((chosenL obj l0 N).map Int.ofNat).contains x))) ∧ Below wx.heap.size wx w' from by
        have h2 := Duty_any obj HO.out HLT.out x ia n0 ic l0 N H false wx (HVR.out.below h) hi (by omega)
        rw [HDS.out x H (by omega) (by omega), ← HOBE.out] at h2
        exact h2))
      rw [← HOBE.out] at HCH
      rw [HCL.out] at HDT
      generalize rkd obj (setL l0) = RL at *
      have HOBR := hid (show OwnD wo ob obj from (HBR.out.block ob hob).trans HOB.out)
      have HKP2 := hid (show ∀ wx, Below wo.heap.size wo wx → Below wo.heap.size wo wx ∧ (loadVar 23 ⟨ob, 0, none⟩).run Tryz.prog wx = .ok (.agg OB) wx from fun wx h => ⟨h, by
        rw [HOBE.out]
        exact load_dig HO.out ((h.block _ (lt_of_heap HOBR.out)).trans HOBR.out)⟩)
      have HMN := hid hmN
      clear hm HCL HLN HDS hmN
      have hlo := HBR.out.size
      go_upto_region 12 with fail
      refine wp_region_held_drew (S := (fun wx => Below wo.heap.size wo wx ∧ (loadVar 23 ⟨ob, 0, none⟩).run Tryz.prog wx = .ok (.agg OB) wx)) (by kernel_rfl) (HKP2.out _ (bel_drewN (Below.refl _ _) 1)) (fun hHeld => ?_)
      refine wpAnyH_take (i := 0) (oi := { dst := some 53, op := Op.load 23 (Operand.tmp 3), type := 23, pos := "plain.go:106", after := #[], guard := none }) (v := .agg OB) rfl (by kernel_rfl) (by kernel_rfl) (by kernel_rfl) (fun _ _ _ h => h) (Or.inl ⟨by rfl, ?hy⟩) hHeld ?_
      case hy => (intro w hSw; exact run_load_opP hSw.2)
      try simp only [Act.put, List.setIfInBounds_toArray, List.set_cons_zero, List.set_cons_succ]
      refine wpAnyH_take (i := 1) (oi := { dst := some 54, op := Op.move (Operand.tmp 4), type := 27, pos := "plain.go:106", after := #[], guard := none }) (v := ?_) rfl (by kernel_rfl) (by kernel_rfl) (by kernel_rfl) (fun _ _ _ h => h) (Or.inl ⟨by rfl, ?hy⟩) hHeld ?_
      case hy => (intro w hSw; (try dsimp only at hSw); obtain ⟨_, _⟩ := hSw; go_simp; all_goals (with_reducible rfl))
      try simp only [Act.put, List.setIfInBounds_toArray, List.set_cons_zero, List.set_cons_succ]
      refine wpAnyH_take (i := 3) (oi := { dst := some 56, op := Op.move (Operand.tmp 6), type := 3, pos := "plain.go:106", after := #[], guard := none }) (v := ?_) rfl (by kernel_rfl) (by kernel_rfl) (by kernel_rfl) (fun _ _ _ h => h) (Or.inl ⟨by rfl, ?hy⟩) hHeld ?_
      case hy => (intro w hSw; (try dsimp only at hSw); obtain ⟨_, _⟩ := hSw; go_simp; all_goals (with_reducible rfl))
      try simp only [Act.put, List.setIfInBounds_toArray, List.set_cons_zero, List.set_cons_succ]
      refine wpAnyH_ready (rs := [2]) (by kernel_rfl) (by simp) ?_
      refine AllReadyH.cons (o := { dst := some 55, op := Op.call { callee := Callee.value (Operand.func 23), args := #[Operand.tmp 54], argTypes := #[27] }, type := 27, pos := "plain.go:106", after := #[{ on := 1, ground := Ground.data }], guard := none }) rfl (fun K hK => ?_) AllReadyH.nil
      go_simp
      refine (HIN.out _ hHeld.1).mono ?_
      rintro e w5 ⟨ia5, ic5, rfl, hi5, hc5, hn5, hl5, hb5⟩
      have G5 := hHeld.1.trans (hb5.mono hHeld.1.size)
      have HI5 := hid hi5
      clear hi5 hc5 hn5 hl5 hb5
      clear hHeld
      go_wp2_with fail
      refine hK.out _ _ (HKP2.out _ G5) (fun hHeld => ?_)
      clear hK K
      try simp only [Act.put, List.setIfInBounds_toArray, List.set_cons_zero, List.set_cons_succ]
      refine wpAnyH_ready (rs := [4]) (by kernel_rfl) (by simp) ?_
      refine AllReadyH.cons (o := { dst := some 57, op := Op.call { callee := Callee.value (Operand.func 24), args := #[Operand.tmp 53, Operand.tmp 55, Operand.tmp 56], argTypes := #[23, 27, 3] }, type := 27, pos := "plain.go:106", after := #[{ on := 0, ground := Ground.data }, { on := 2, ground := Ground.data }, { on := 3, ground := Ground.data }, { on := 2, ground := Ground.chain }], guard := none }) rfl (fun K hK => ?_) AllReadyH.nil
      go_simp
      refine (HCH.out _ G5 ia5 ic5 HI5.out).mono ?_
      rintro e w6 ⟨pb, rfl, hoi, hlo6, hb6⟩
      have G6 := G5.trans (hb6.mono G5.size)
      have HOI := hid hoi
      clear hoi hlo6 hb6
      clear hHeld
      go_wp2_with fail
      refine hK.out _ _ (HKP2.out _ G6) (fun hHeld => ?_)
      clear hK K
      try simp only [Act.put, List.setIfInBounds_toArray, List.set_cons_zero, List.set_cons_succ]
      refine wpAnyH_take (i := 5) (oi := { dst := some 9, op := Op.assign (Operand.tmp 57), type := 27, pos := "plain.go:106", after := #[{ on := 4, ground := Ground.data }, { on := 4, ground := Ground.chain }, { on := 0, ground := Ground.phase }, { on := 1, ground := Ground.phase }, { on := 2, ground := Ground.phase }, { on := 3, ground := Ground.phase }, { on := 4, ground := Ground.phase }], guard := none }) (v := ?_) rfl (by kernel_rfl) (by kernel_rfl) (by kernel_rfl) (fun _ _ _ h => h) (Or.inl ⟨by rfl, ?hy⟩) hHeld ?_
      case hy => (intro w hSw; (try dsimp only at hSw); obtain ⟨_, _⟩ := hSw; go_simp; all_goals (with_reducible rfl))
      try simp only [Act.put, List.setIfInBounds_toArray, List.set_cons_zero, List.set_cons_succ]
      refine wpAnyH_done (by kernel_rfl) ?_ _
      have hqN : (((m : Nat) : Int) == N) = true := by simp [HMN.out]
      have HCI := hid (is_of_own HOI.out m RL.length HML.out HRL.out)
      have hm16 : m ≤ 16 := by have := HMN.out; omega
      have HBW6 := hid (HBR.out.trans (G6.mono HBR.out.size))
      have HG6 := hid G6
      clear G6 G5 HOI hHeld HI5
      go_wp2_with fail
      generalize hCC : (RL.take m).map Int.ofNat = CC at *
      clear hCC
      go_loopw [10, 11, 12] (fun qv rv iv wx => ∃ (Q : Bool) (k : Nat), k ≤ L ∧ iv = .int .i64 k ∧ qv = .bool Q ∧ rv = .bool Q ∧ Hid (Below w6.heap.size w6 wx)) (fun _ _ iv _ => L - (intOf iv).toNat)
      case atStart => exact ⟨true, 0, by omega, rfl, rfl, rfl, hid (Below.refl _ _)⟩
      case round =>
        obtain ⟨Q, k, hk, rfl, rfl, rfl, HB7⟩ := hrel
        have HB67 := hid (HG6.out.trans (HB7.out.mono HG6.out.size))
        by_cases hkL : k < L
        · as_aux_lemma =>
          have hkL' : (k : Int) < (L : Int) := by omega
          obtain ⟨gb, go, rfl, cx⟩ := (HALL.out.belowP HB67.out).atP k hkL
          generalize (AL.map Int.ofNat).getD k 0 = x at *
          have HHH := hid (Has_any a1 n1 c1 l1 x wr (HH3.out.1.belowP (HBR.out.trans (HB67.out.mono HBR.out.size))) (by omega))
          have HDX := hid (fun (H : Bool) (wx : World) (h : Below wr.heap.size wr wx) (ia : Option Addr) (ic : Nat) (hi : Is wx (.slice ia n0 ic) l0) => HDT.out x H wx (HB67.out.trans (h.mono HB67.out.size)) ia ic hi)
          have HINR := hid (fun (wx : World) (h : Below wr.heap.size wr wx) => HIN.out wx (HB67.out.trans (h.mono HB67.out.size)))
          have HHC := hid (fun (wx : World) (h : Below wr.heap.size wr wx) => Has_any (some ⟨pb, 0, none⟩) m RL.length CC x wx (HCI.out.belowP (HB7.out.trans (h.mono HB7.out.size))) (by omega))
          have HKP3 := hid (show ∀ wx, Below wr.heap.size wr wx → Below wr.heap.size wr wx ∧ wx.cell? ⟨gb, go + k, none⟩ = some (.int .i64 x) ∧ (loadVar 23 ⟨ob, 0, none⟩).run Tryz.prog wx = .ok (.agg OB) wx from fun wx h => ⟨h, (h.cell (World.block_lt_of_cell? _ _ cx)).trans cx, (HKP2.out wx (HB67.out.trans (h.mono HB67.out.size))).2⟩)
          generalize CC.contains x = K at *
          clear HDT HIN HALL HCI
          go_wp2_with fail
          refine HHH.out.mono ?_
          rintro e w7 ⟨rfl, rfl⟩
          clear HHH
          generalize l1.contains x = H at *
          go_upto_region 18 with fail
          refine wp_region_held_drew (S := (fun wx => Below wr.heap.size wr wx ∧ wx.cell? ⟨gb, go + k, none⟩ = some (.int .i64 x) ∧ (loadVar 23 ⟨ob, 0, none⟩).run Tryz.prog wx = .ok (.agg OB) wx)) (by kernel_rfl) (HKP3.out _ (bel_drewN (Below.refl _ _) 1)) (fun hHeld => ?_)
          refine wpAnyH_take (i := 0) (oi := { dst := some 74, op := Op.load 23 (Operand.tmp 3), type := 23, pos := "plain.go:110", after := #[], guard := none }) (v := .agg OB) rfl (by kernel_rfl) (by kernel_rfl) (by kernel_rfl) (fun _ _ _ h => h) (Or.inl ⟨by rfl, ?hy⟩) hHeld ?_
          case hy => (intro w hSw; exact run_load_opP hSw.2.2)
          try simp only [Act.put, List.setIfInBounds_toArray, List.set_cons_zero, List.set_cons_succ]
          refine wpAnyH_take (i := 1) (oi := { dst := some 75, op := Op.move (Operand.tmp 7), type := 27, pos := "plain.go:110", after := #[], guard := none }) (v := ?_) rfl (by kernel_rfl) (by kernel_rfl) (by kernel_rfl) (fun _ _ _ h => h) (Or.inl ⟨by rfl, ?hy⟩) hHeld ?_
          case hy => (intro w hSw; (try dsimp only at hSw); obtain ⟨_, _, _⟩ := hSw; go_simp; all_goals (with_reducible rfl))
          try simp only [Act.put, List.setIfInBounds_toArray, List.set_cons_zero, List.set_cons_succ]
          refine wpAnyH_take (i := 2) (oi := { dst := some 76, op := Op.move (Operand.tmp 12), type := 3, pos := "plain.go:110", after := #[], guard := none }) (v := ?_) rfl (by kernel_rfl) (by kernel_rfl) (by kernel_rfl) (fun _ _ _ h => h) (Or.inl ⟨by rfl, ?hy⟩) hHeld ?_
          case hy => (intro w hSw; (try dsimp only at hSw); obtain ⟨_, _, _⟩ := hSw; go_simp; all_goals (with_reducible rfl))
          try simp only [Act.put, List.setIfInBounds_toArray, List.set_cons_zero, List.set_cons_succ]
          refine wpAnyH_take (i := 3) (oi := { dst := some 77, op := Op.indexAddr 27 (Operand.tmp 75) (Operand.tmp 76), type := 0, pos := "plain.go:110", after := #[{ on := 1, ground := Ground.data }, { on := 2, ground := Ground.data }], guard := none }) (v := ?_) rfl (by kernel_rfl) (by kernel_rfl) (by kernel_rfl) (fun _ _ _ h => h) (Or.inl ⟨by rfl, ?hy⟩) hHeld ?_
          case hy => (intro w hSw; (try dsimp only at hSw); obtain ⟨_, _, _⟩ := hSw; go_simp; all_goals (with_reducible rfl))
          try simp only [Act.put, List.setIfInBounds_toArray, List.set_cons_zero, List.set_cons_succ]
          refine wpAnyH_take (i := 4) (oi := { dst := some 78, op := Op.load 3 (Operand.tmp 77), type := 3, pos := "plain.go:110", after := #[{ on := 3, ground := Ground.data }], guard := none }) (v := ?_) rfl (by kernel_rfl) (by kernel_rfl) (by kernel_rfl) (fun _ _ _ h => h) (Or.inl ⟨by rfl, ?hy⟩) hHeld ?_
          case hy => (intro w hSw; (try dsimp only at hSw); obtain ⟨_, _, _⟩ := hSw; go_simp; all_goals (with_reducible rfl))
          try simp only [Act.put, List.setIfInBounds_toArray, List.set_cons_zero, List.set_cons_succ]
          refine wpAnyH_take (i := 5) (oi := { dst := some 79, op := Op.move (Operand.tmp 4), type := 27, pos := "plain.go:110", after := #[], guard := none }) (v := ?_) rfl (by kernel_rfl) (by kernel_rfl) (by kernel_rfl) (fun _ _ _ h => h) (Or.inl ⟨by rfl, ?hy⟩) hHeld ?_
          case hy => (intro w hSw; (try dsimp only at hSw); obtain ⟨_, _, _⟩ := hSw; go_simp; all_goals (with_reducible rfl))
          try simp only [Act.put, List.setIfInBounds_toArray, List.set_cons_zero, List.set_cons_succ]
          refine wpAnyH_take (i := 7) (oi := { dst := some 81, op := Op.move (Operand.tmp 6), type := 3, pos := "plain.go:110", after := #[], guard := none }) (v := ?_) rfl (by kernel_rfl) (by kernel_rfl) (by kernel_rfl) (fun _ _ _ h => h) (Or.inl ⟨by rfl, ?hy⟩) hHeld ?_
          case hy => (intro w hSw; (try dsimp only at hSw); obtain ⟨_, _, _⟩ := hSw; go_simp; all_goals (with_reducible rfl))
          try simp only [Act.put, List.setIfInBounds_toArray, List.set_cons_zero, List.set_cons_succ]
          refine wpAnyH_take (i := 8) (oi := { dst := some 82, op := Op.move (Operand.tmp 13), type := 4, pos := "plain.go:110", after := #[], guard := none }) (v := ?_) rfl (by kernel_rfl) (by kernel_rfl) (by kernel_rfl) (fun _ _ _ h => h) (Or.inl ⟨by rfl, ?hy⟩) hHeld ?_
          case hy => (intro w hSw; (try dsimp only at hSw); obtain ⟨_, _, _⟩ := hSw; go_simp; all_goals (with_reducible rfl))
          try simp only [Act.put, List.setIfInBounds_toArray, List.set_cons_zero, List.set_cons_succ]
          refine wpAnyH_ready (rs := [6]) (by kernel_rfl) (by simp) ?_
          refine AllReadyH.cons (o := { dst := some 80, op := Op.call { callee := Callee.value (Operand.func 23), args := #[Operand.tmp 79], argTypes := #[27] }, type := 27, pos := "plain.go:110", after := #[{ on := 5, ground := Ground.data }], guard := none }) rfl (fun K hK => ?_) AllReadyH.nil
          go_simp
          refine (HINR.out _ hHeld.1).mono ?_
          rintro e w7 ⟨ia7, ic7, rfl, hi7, hc7, hn7, hl7, hb7⟩
          have G7 := hHeld.1.trans (hb7.mono hHeld.1.size)
          have HI7 := hid hi7
          clear hi7 hc7 hn7 hl7 hb7
          clear hHeld
          go_wp2_with fail
          refine hK.out _ _ (HKP3.out _ G7) (fun hHeld => ?_)
          clear hK K
          try simp only [Act.put, List.setIfInBounds_toArray, List.set_cons_zero, List.set_cons_succ]
          refine wpAnyH_ready (rs := [9]) (by kernel_rfl) (by simp) ?_
          refine AllReadyH.cons (o := { dst := some 83, op := Op.call { callee := Callee.value (Operand.func 28), args := #[Operand.tmp 74, Operand.tmp 78, Operand.tmp 80, Operand.tmp 81, Operand.tmp 82, Operand.const (Value.bool false)], argTypes := #[23, 3, 27, 3, 4, 4] }, type := 35, pos := "plain.go:110", after := #[{ on := 0, ground := Ground.data }, { on := 4, ground := Ground.data }, { on := 6, ground := Ground.data }, { on := 7, ground := Ground.data }, { on := 8, ground := Ground.data }, { on := 6, ground := Ground.chain }], guard := none }) rfl (fun K hK => ?_) AllReadyH.nil
          go_simp
          refine (HDX.out H _ G7 ia7 ic7 HI7.out).mono ?_
          rintro e w8 ⟨rfl, hb8⟩
          have G8 := G7.trans (hb8.mono G7.size)
          clear hb8
          clear hHeld
          go_wp2_with fail
          refine hK.out _ _ (HKP3.out _ G8) (fun hHeld => ?_)
          clear hK K
          try simp only [Act.put, List.setIfInBounds_toArray, List.set_cons_zero, List.set_cons_succ]
          refine wpAnyH_take (i := 10) (oi := { dst := some 14, op := Op.assign (Operand.tmp 83), type := 35, pos := "plain.go:110", after := #[{ on := 9, ground := Ground.data }, { on := 9, ground := Ground.chain }, { on := 0, ground := Ground.phase }, { on := 1, ground := Ground.phase }, { on := 2, ground := Ground.phase }, { on := 3, ground := Ground.phase }, { on := 4, ground := Ground.phase }, { on := 5, ground := Ground.phase }, { on := 6, ground := Ground.phase }, { on := 7, ground := Ground.phase }, { on := 8, ground := Ground.phase }, { on := 9, ground := Ground.phase }], guard := none }) (v := ?_) rfl (by kernel_rfl) (by kernel_rfl) (by kernel_rfl) (fun _ _ _ h => h) (Or.inl ⟨by rfl, ?hy⟩) hHeld ?_
          case hy => (intro w hSw; (try dsimp only at hSw); obtain ⟨_, _, _⟩ := hSw; go_simp; all_goals (with_reducible rfl))
          try simp only [Act.put, List.setIfInBounds_toArray, List.set_cons_zero, List.set_cons_succ]
          refine wpAnyH_done (by kernel_rfl) ?_ _
          have cx8 := (G8.cell (World.block_lt_of_cell? _ _ cx)).trans cx
          have HHC8 := hid (HHC.out w8 G8)
          have HBE := hid (HB7.out.trans (G8.mono HB7.out.size))
          clear HHC HKP3 HDX HINR G7 G8 hHeld HI7 cx
          obtain ⟨D, hD⟩ : ∃ D, D = dtyS H K := ⟨_, rfl⟩
          rw [← hD]
          cases H <;> cases K <;> cases Q
          all_goals
            simp [dtyS] at hD
            subst hD
            go_wp2_with fail
            first
              | exact ⟨⟨_, k + 1, by omega, by go_num, rfl, rfl, HBE⟩, by simp [intOf]; omega⟩
              | (refine HHC8.out.mono ?_
                 rintro e w9 ⟨rfl, rfl⟩
                 go_wp2_with fail
                 exact ⟨⟨_, k + 1, by omega, by go_num, rfl, rfl, HBE⟩, by simp [intOf]; omega⟩)
        · obtain rfl : k = L := by omega
          have HBE := hid (HBR.out.trans (HB67.out.mono HBR.out.size))
          have hkL' : ¬ (k : Int) < (k : Int) := by omega
          cases Q
          all_goals
            go_wp2_with fail
            refine (HEND.out _ HBE.out).mono ?_
            rintro e w9 ⟨rfl, hb9⟩
            go_wp2_with fail
            go_ret
            exact ⟨rfl, hb9⟩
end Go.Proofs.YtjgiiciniplbnaaGreatDoor

namespace Go.Proofs.YtjgiiciniplbnaaGreatDoor.placeSettles
open Go.ChangeShapes Go.WideShapes Go.ChangeAt Go.RowKit Go.WideMaps Go.WideElems
open Go.ChangeMaps (open_string shut_string)
set_option linter.unusedVariables false

set_option maxRecDepth 100000 in
theorem lifted (os : Os) (started : os.Started) (H : Type) (enc : TypeId × Value → H) :
    ReturnsInHanded {} Tryz.checked os 10 .any (fun w args => (Rows.placeSettlesSpec.pre enc Tryz.prog Tryz.f10 [] false w args ∧ laidMetH Tryz.prog laidA w) ∧ sizedMet enc Tryz.prog Tryz.f10 (OpenSpec.ofChange Rows.placeSettlesSpec) false w args)
      (Rows.placeSettlesSpec.post enc Tryz.prog Tryz.f10 false true false false) := by
  refine returnsInHanded_of_change_and (C := Tryz.checked) (X := fun w _ => laidMetH Tryz.prog laidA w) (fun _ _ _ hh h => h.of_heap hh) ownD started (by kernel_rfl) Tryz.func10
    (ChangeSpec.witness_shaped (enc := enc) (C := Tryz.checked) (os := os) (X := fun w _ => laidMetH Tryz.prog laidA w) false (World.doorLaid Tryz.prog 24 os) #[.agg (u8s (List.replicate 32 0) ++ ([.slice none 0 0, .slice none 0 0, .int .i64 0] : List Value)).toArray] 8 rfl (World.shaped_of_RefB (by kernel_rfl) (by kernel_rfl)) (by kernel_rfl) (by kernel_rfl) (by kernel_rfl) (door_metA os _)) ?_
  intro W base args ds gs before hval0 hW _ _ hL _
  have hval : ∀ (j : Nat) t v, Tryz.f10.params[j]? = some t → args[j]? = some v → Value.okWide Tryz.prog W .any base t v := hval0
  have hW' := hW
  obtain ⟨p, q, hA0, hV, rfl, hfz, hnd⟩ := hW
  have hA : DataW.TrodAll enc Tryz.prog W 0 (fun _ => true) true Tryz.f10.params.toList args.toList ds p := hA0
  rw [Tryz.params10] at hA hval
  obtain ⟨v0, vs0, d0, ds0, p0, q0, hargs, rfl, rfl, h0, r0⟩ := trodAll_cons hA
  obtain ⟨rfl, rfl, rfl⟩ := trodAll_nil r0
  obtain rfl : args = #[v0] := by cases args; simp_all
  obtain ⟨rfl, rfl⟩ := trodVars_none hV
  have k0 := h0
  have lt0 : ∀ x ∈ p0, x.block < W.heap.size := by obtain ⟨m, hm⟩ := k0; exact DataW.trod_lt m _ _ _ hm
  obtain ⟨od0, a00, n00, c00, l00, a01, n01, c01, l01, x02, rfl, ho0, hl0, w00, w01, w02⟩ := open_settled (hval 0 97 v0 rfl rfl) h0
  clear hA0 hval0
  refine (settles_walk W (vars_of_laid hL) od0 a00 n00 c00 l00 a01 n01 c01 l01 x02 ho0 hl0 w00 w01 w02).mono fun e W' ⟨he, bel⟩ => ?_
  subst he
  exact ⟨_, rfl, _, _, _, [], _, [], hW', trodAll_mk1 (shut_bool Tryz.underlying4 _), (trodAll_cons_mk (Below.trod Facts.laidOut (by kernel_rfl) (of_decide_eq_true (by kernel_rfl)) k0 bel lt0) trodAll_mk0), rfl, bel.frame _, fun h => by cases h⟩

set_option maxHeartbeats 4000000 in
set_option maxRecDepth 1000000 in
theorem closed : joinedFacts Tryz.pinned.checked.prog 10 Tryz.f10 Rows.placeSettlesSpec Rows.placeSettlesRow = true := by
  unfold joinedFacts
  refine (Facts.and2 (Facts.and2 (Facts.and2 (Facts.and2 (Facts.and2 (Facts.and2 (Facts.and2 (Facts.and2 (Facts.and2 (Facts.and2 (Facts.and2 (Facts.and2 (Facts.and2 (Facts.and2 (Facts.and2 (Facts.and2 (Facts.and2 (Facts.and2 (Facts.and2 (Facts.and2 (Facts.and2 (Facts.and2 (Facts.and2 (Facts.and2 (Facts.and2 (Facts.and2 (Facts.and2 (Facts.and2 (Facts.and2 (Facts.and2 (Facts.and2 ?_ Facts.laidOut) Facts.mapsR) ?_) ?_) ?_) Facts.stops) ?_) Facts.knobs) ?_) ?_) ?_) ?_) ?_) ?_) ?_) ?_) ?_) ?_) ?_) ?_) ?_) Facts.keys) ?_) Facts.heard) Facts.enter) ?_) ?_) ?_) ?_) ?_) ?_)
  all_goals (as_aux_lemma => kernel_rfl)

theorem over : Rows.placeSettlesRow.holds Tryz.pinned (OpenSpec.ofChange Rows.placeSettlesSpec) :=
  OpenClaim.holds_of_wide 10 Tryz.f10 rfl rfl rfl rfl rfl rfl rfl ⟨rfl, rfl, rfl, rfl, rfl⟩ rfl rfl rfl rfl rfl (by as_aux_lemma => kernel_rfl) Tryz.func10 closed
    (of_decide_eq_true (by as_aux_lemma => kernel_rfl)) (by unfold Func.isWrapper; first | (rw [if_pos (by decide +kernel)]; kernel_rfl) | (rw [if_neg (by decide +kernel)]; exact ⟨rfl, rfl⟩))
    (fun os started H enc _ => lifted os started H enc)
end Go.Proofs.YtjgiiciniplbnaaGreatDoor.placeSettles
namespace Go.Proofs.YtjgiiciniplbnaaGreatDoor
open Go
set_option maxHeartbeats 4000000 in
set_option maxRecDepth 1000000 in
theorem placeSettles_holds : Rows.PlaceSettlesCardSaid :=
  Claim7.holds_tied_plain_at .later [] [.data, .data] true (true, "4a085e94ccebdf24e9b63843c722f4a968f2e6f610b760c9b6f284c344973c54") false
    placeSettles.over (fun _ h => by cases h) (by as_aux_lemma => kernel_rfl) (fun _ h => by cases h) placeSettles_row_tie rfl ⟨rfl, rfl⟩ (by as_aux_lemma => kernel_rfl) rfl
    (fun f fn hf hfn => by
      obtain rfl : f = 10 := Option.some.inj ((show Tryz.prog.funcNamed "stolon/stolonlaw07.PlaceSettles" = some 10 by as_aux_lemma => kernel_rfl).symm.trans hf) |>.symm
      obtain rfl : fn = Tryz.f10 := (Option.some.inj (Tryz.func10.symm.trans hfn)).symm
      exact ⟨by as_aux_lemma => kernel_rfl, fun j t ht => by
        rw [Tryz.params10] at ht
        rcases j with _ | j
        · obtain rfl : t = 97 := by simpa using ht.symm
          exact (show Tryz.prog.wantsStandIn 97 = false by as_aux_lemma => kernel_rfl)
        · simp at ht⟩)
    (by as_aux_lemma => kernel_rfl)
#print axioms placeSettles_holds
end Go.Proofs.YtjgiiciniplbnaaGreatDoor
