/-
  PlaceMinimal: for every input the call returns true, and each argument reads behind it as before; the listed variables hold what the program's text lays (tied). No other condition.
-/
import Derived.Test.YtjgiiciniplbnaaGreatDoorKb1
import Derived.Deep.DeepCutAuto
import Derived.Test.YtjgiiciniplbnaaGreatDoorKa3
import Derived.Test.YtjgiiciniplbnaaGreatDoorCards
import Derived.Test.YtjgiiciniplbnaaGreatDoorTie
import Derived.ShutString
import Derived.ChangeOld
import Derived.Below
namespace Go.Proofs.YtjgiiciniplbnaaGreatDoor
open Go Go.RowKit Go.Lib Go.Sort
set_option linter.unusedVariables false

theorem rkd_back (obj : List Nat) (l : List Int) (G : Int) : rkd obj (setL (lessL l G ++ l)) = rkd obj (setL l) := rkd_congr fun i hi => by
  unfold setL lessL
  rw [Bool.eq_iff_iff, List.contains_iff_mem, List.contains_iff_mem, List.mem_append, List.mem_filter]
  constructor
  · rintro (h | h)
    · exact h.1
    · exact h
  · exact .inr
theorem less_sub (l : List Int) (G : Int) : (∀ n ∈ lessL l G, n ∈ l) ∧ (lessL l G).length ≤ l.length := ⟨fun n h => (List.mem_filter.1 h).1, List.length_filter_le _ _⟩
theorem own_ne {sa : Option Addr} {n c B lo pb : Nat} (h : ∀ ad, sa = some ad → lo ≤ ad.block ∧ ad.block < B) (hp : B ≤ pb) : some pb ≠ (Value.slice sa n c).ownBlock := fun e => by
  cases sa with
  | none => cases e
  | some ad =>
    have h1 := h ad rfl
    have h2 : pb = ad.block := Option.some.inj e
    omega
theorem newsOf_le (B A : List Nat) : newsOf B A ≤ A.length := List.length_filter_le _ _
set_option maxRecDepth 100000 in
set_option maxHeartbeats 24000000 in
theorem minimal_walk (w : World) (V : Vars w shaRound shaStart) (obj : List Nat) (a0 : Option Addr) (n0 c0 : Nat) (l0 : List Int) (N G : Int)
    (ho : obj.length = 32) (hlt : ∀ x ∈ obj, x < 256) (h0 : In w a0 n0 c0 l0) (hN : (Lit.int .i64 N).wf = true) (hG : (Lit.int .i64 G).wf = true) :
    Calls Tryz.prog 9 #[.agg (u8s obj ++ ([.slice a0 n0 c0, .int .i64 N, .int .i64 G] : List Value)).toArray] w fun e w' => e = .returned (.bool true) ∧ Below w.heap.size w w' := by
  obtain ⟨w1, hw1⟩ : ∃ y, y = w.alloc (.cells (u8s obj ++ ([.slice a0 n0 c0, .int .i64 N, .int .i64 G] : List Value)).toArray 93) := ⟨_, rfl⟩
  have hb1 : Below w.heap.size w w1 := by rw [hw1]; exact (Below.refl _ _).alloc (Nat.le_refl _) _
  have HRX := hid (show w1.heap[w.heap.size]? = some (.cells (u8s obj ++ ([.slice a0 n0 c0, .int .i64 N, .int .i64 G] : List Value)).toArray 93 (0, 0)) from by rw [hw1]; exact heap_new _ _)
  have HB1 := hid hb1
  have HW1 := hid hw1
  have HV1 := hid (V.below hb1)
  have HO := hid ho
  have HLT := hid hlt
  have HA := hid (show In w1 a0 n0 c0 l0 from ⟨h0.1.belowP hb1, h0.2⟩)
  have HIFS := hid (infoDA obj ho)
  have HIZ := hid (zeroDA obj ho)
  have HONE := hid (oneDA obj)
  have HKN := hid (fun (wx : World) (v : Vars wx shaRound shaStart) => known_pl wx v)
  obtain ⟨OB, hOB⟩ : ∃ y, y = (u8s obj).toArray := ⟨_, rfl⟩
  rw [← hOB] at HIFS HIZ HONE
  have HOBE := hid hOB
  clear V hb1 hw1 ho hlt h0 hOB
  go_enter Tryz.func9, Tryz.ntmps9
  go_upto_region 1 with fail
  rw [← HW1.out]
  clear HW1
  have HKP := hid (show ∀ wx, Below w1.heap.size w1 wx → (fun wx => Below w1.heap.size w1 wx ∧ wx.cell? ⟨w.heap.size, 32, none⟩ = some (.slice a0 n0 c0) ∧ wx.cell? ⟨w.heap.size, 33, none⟩ = some (.int .i64 N) ∧ wx.cell? ⟨w.heap.size, 34, none⟩ = some (.int .i64 G) ∧ (loadVar 23 ⟨w.heap.size, 0, none⟩).run Tryz.prog wx = .ok (.agg OB) wx) wx from fun wx hx => by
    have hr := (hx.block w.heap.size (lt_of_heap HRX.out)).trans HRX.out
    rw [HOBE.out]
    exact ⟨hx, box_cell hr HO.out 0 _ rfl, box_cell hr HO.out 1 _ rfl, box_cell hr HO.out 2 _ rfl, box_dig hr HO.out⟩)
  refine wp_region_held_drew (S := (fun wx => Below w1.heap.size w1 wx ∧ wx.cell? ⟨w.heap.size, 32, none⟩ = some (.slice a0 n0 c0) ∧ wx.cell? ⟨w.heap.size, 33, none⟩ = some (.int .i64 N) ∧ wx.cell? ⟨w.heap.size, 34, none⟩ = some (.int .i64 G) ∧ (loadVar 23 ⟨w.heap.size, 0, none⟩).run Tryz.prog wx = .ok (.agg OB) wx)) (by kernel_rfl) (HKP.out _ (bel_drewN (Below.refl _ _) 1)) (fun hHeld => ?_)
  refine wpAnyH_take (i := 0) (oi := { dst := some 14, op := Op.fieldAddr 93 (Operand.tmp 1) 0, type := 0, pos := "plain.go:53", after := #[], guard := none }) (v := ?_) rfl (by kernel_rfl) (by kernel_rfl) (by kernel_rfl) (fun _ _ _ h => h) (Or.inl ⟨by rfl, ?hy⟩) hHeld ?_
  case hy => (intro w hSw; (try dsimp only at hSw); obtain ⟨_, _, _, _, _⟩ := hSw; go_simp; all_goals (with_reducible rfl))
  try simp only [Act.put, List.setIfInBounds_toArray, List.set_cons_zero, List.set_cons_succ]
  refine wpAnyH_take (i := 1) (oi := { dst := some 15, op := Op.load 23 (Operand.tmp 14), type := 23, pos := "plain.go:53", after := #[{ on := 0, ground := Ground.data }], guard := none }) (v := .agg OB) rfl (by kernel_rfl) (by kernel_rfl) (by kernel_rfl) (fun _ _ _ h => h) (Or.inl ⟨by rfl, ?hy⟩) hHeld ?_
  case hy => (intro w hSw; exact run_load_opP hSw.2.2.2.2)
  try simp only [Act.put, List.setIfInBounds_toArray, List.set_cons_zero, List.set_cons_succ]
  refine wpAnyH_take (i := 2) (oi := { dst := some 16, op := Op.fieldAddr 93 (Operand.tmp 1) 1, type := 0, pos := "plain.go:53", after := #[{ on := 9, ground := Ground.gcOnly Departure.lateStores }], guard := none }) (v := ?_) rfl (by kernel_rfl) (by kernel_rfl) (by kernel_rfl) (fun _ _ _ h => h) (Or.inl ⟨by rfl, ?hy⟩) hHeld ?_
  case hy => (intro w hSw; (try dsimp only at hSw); obtain ⟨_, _, _, _, _⟩ := hSw; go_simp; all_goals (with_reducible rfl))
  try simp only [Act.put, List.setIfInBounds_toArray, List.set_cons_zero, List.set_cons_succ]
  refine wpAnyH_take (i := 3) (oi := { dst := some 17, op := Op.load 27 (Operand.tmp 16), type := 27, pos := "plain.go:53", after := #[{ on := 2, ground := Ground.data }, { on := 9, ground := Ground.gcOnly Departure.lateStores }], guard := none }) (v := ?_) rfl (by kernel_rfl) (by kernel_rfl) (by kernel_rfl) (fun _ _ _ h => h) (Or.inl ⟨by rfl, ?hy⟩) hHeld ?_
  case hy => (intro w hSw; (try dsimp only at hSw); obtain ⟨_, _, _, _, _⟩ := hSw; go_simp; all_goals (with_reducible rfl))
  try simp only [Act.put, List.setIfInBounds_toArray, List.set_cons_zero, List.set_cons_succ]
  refine wpAnyH_take (i := 4) (oi := { dst := some 18, op := Op.fieldAddr 93 (Operand.tmp 1) 2, type := 0, pos := "plain.go:53", after := #[{ on := 10, ground := Ground.gcOnly Departure.lateStores }], guard := none }) (v := ?_) rfl (by kernel_rfl) (by kernel_rfl) (by kernel_rfl) (fun _ _ _ h => h) (Or.inl ⟨by rfl, ?hy⟩) hHeld ?_
  case hy => (intro w hSw; (try dsimp only at hSw); obtain ⟨_, _, _, _, _⟩ := hSw; go_simp; all_goals (with_reducible rfl))
  try simp only [Act.put, List.setIfInBounds_toArray, List.set_cons_zero, List.set_cons_succ]
  refine wpAnyH_take (i := 5) (oi := { dst := some 19, op := Op.load 3 (Operand.tmp 18), type := 3, pos := "plain.go:53", after := #[{ on := 4, ground := Ground.data }, { on := 10, ground := Ground.gcOnly Departure.lateStores }], guard := none }) (v := ?_) rfl (by kernel_rfl) (by kernel_rfl) (by kernel_rfl) (fun _ _ _ h => h) (Or.inl ⟨by rfl, ?hy⟩) hHeld ?_
  case hy => (intro w hSw; (try dsimp only at hSw); obtain ⟨_, _, _, _, _⟩ := hSw; go_simp; all_goals (with_reducible rfl))
  try simp only [Act.put, List.setIfInBounds_toArray, List.set_cons_zero, List.set_cons_succ]
  refine wpAnyH_take (i := 6) (oi := { dst := some 20, op := Op.fieldAddr 93 (Operand.tmp 1) 3, type := 0, pos := "plain.go:53", after := #[{ on := 11, ground := Ground.gcOnly Departure.lateStores }], guard := none }) (v := ?_) rfl (by kernel_rfl) (by kernel_rfl) (by kernel_rfl) (fun _ _ _ h => h) (Or.inl ⟨by rfl, ?hy⟩) hHeld ?_
  case hy => (intro w hSw; (try dsimp only at hSw); obtain ⟨_, _, _, _, _⟩ := hSw; go_simp; all_goals (with_reducible rfl))
  try simp only [Act.put, List.setIfInBounds_toArray, List.set_cons_zero, List.set_cons_succ]
  refine wpAnyH_take (i := 7) (oi := { dst := some 21, op := Op.load 3 (Operand.tmp 20), type := 3, pos := "plain.go:53", after := #[{ on := 6, ground := Ground.data }, { on := 11, ground := Ground.gcOnly Departure.lateStores }], guard := none }) (v := ?_) rfl (by kernel_rfl) (by kernel_rfl) (by kernel_rfl) (fun _ _ _ h => h) (Or.inl ⟨by rfl, ?hy⟩) hHeld ?_
  case hy => (intro w hSw; (try dsimp only at hSw); obtain ⟨_, _, _, _, _⟩ := hSw; go_simp; all_goals (with_reducible rfl))
  try simp only [Act.put, List.setIfInBounds_toArray, List.set_cons_zero, List.set_cons_succ]
  refine wpAnyH_ready (rs := [8]) (by kernel_rfl) (by simp) ?_
  refine AllReadyH.cons (o := { dst := some 3, op := Op.alloc 23, type := 0, pos := "plain.go:53", after := #[], guard := none }) rfl (fun K hK => ?_) AllReadyH.nil
  go_simp
  refine hK.out _ _ (HKP.out _ ((bel_drewN (Below.refl w1.heap.size w1) 1).alloc (by simp) _)) (fun hHeld => ?_)
  clear hK K
  try simp only [Act.put, List.setIfInBounds_toArray, List.set_cons_zero, List.set_cons_succ]
  refine wpAnyH_ready (rs := [9]) (by kernel_rfl) (by simp) ?_
  refine AllReadyH.cons (o := { dst := none, op := Op.store 23 (Operand.tmp 3) (Operand.tmp 15), type := 0, pos := "plain.go:53", after := #[{ on := 8, ground := Ground.data }, { on := 1, ground := Ground.data }, { on := 0, ground := Ground.phase }, { on := 1, ground := Ground.phase }, { on := 2, ground := Ground.textOnly Departure.lateStores }, { on := 3, ground := Ground.textOnly Departure.lateStores }, { on := 4, ground := Ground.textOnly Departure.lateStores }, { on := 5, ground := Ground.textOnly Departure.lateStores }, { on := 6, ground := Ground.textOnly Departure.lateStores }, { on := 7, ground := Ground.textOnly Departure.lateStores }, { on := 8, ground := Ground.phase }], guard := none }) rfl (fun K hK => ?_) AllReadyH.nil
  refine step_store_row rfl 23 (.tmp 3) (.tmp 15) rfl w1.heap.size (u8s (List.replicate 32 0)).toArray OB 23 rfl rfl (heap_new _ _) HIFS.out HIZ.out HONE.out ?_
  intro w3 hw3 hk3
  have HOB := hid (show OwnD w3 w1.heap.size obj from by rw [HOBE.out] at hw3; exact hw3)
  have HB3 := hid (((bel_drewN (Below.refl w1.heap.size w1) 1).alloc (by simp) (.cells (u8s (List.replicate 32 0)).toArray 23)).trans (hk3.below (by simp) (Nat.le_refl _)))
  clear hw3 hk3
  refine hK.out _ _ (HKP.out _ HB3.out) (fun hHeld => ?_)
  clear hK K
  try simp only [Act.put]
  refine wpAnyH_take (i := 10) (oi := { dst := some 4, op := Op.assign (Operand.tmp 17), type := 27, pos := "plain.go:53", after := #[{ on := 3, ground := Ground.data }, { on := 9, ground := Ground.chain }, { on := 0, ground := Ground.phase }, { on := 1, ground := Ground.phase }, { on := 2, ground := Ground.phase }, { on := 3, ground := Ground.phase }, { on := 4, ground := Ground.textOnly Departure.lateStores }, { on := 5, ground := Ground.textOnly Departure.lateStores }, { on := 6, ground := Ground.textOnly Departure.lateStores }, { on := 7, ground := Ground.textOnly Departure.lateStores }, { on := 8, ground := Ground.phase }, { on := 9, ground := Ground.phase }], guard := none }) (v := ?_) rfl (by kernel_rfl) (by kernel_rfl) (by kernel_rfl) (fun _ _ _ h => h) (Or.inl ⟨by rfl, ?hy⟩) hHeld ?_
  case hy => (intro w hSw; (try dsimp only at hSw); obtain ⟨_, _, _, _, _⟩ := hSw; go_simp; all_goals (with_reducible rfl))
  try simp only [Act.put, List.setIfInBounds_toArray, List.set_cons_zero, List.set_cons_succ]
  refine wpAnyH_take (i := 11) (oi := { dst := some 5, op := Op.assign (Operand.tmp 19), type := 3, pos := "plain.go:53", after := #[{ on := 5, ground := Ground.data }, { on := 10, ground := Ground.chain }, { on := 0, ground := Ground.phase }, { on := 1, ground := Ground.phase }, { on := 2, ground := Ground.phase }, { on := 3, ground := Ground.phase }, { on := 4, ground := Ground.phase }, { on := 5, ground := Ground.phase }, { on := 6, ground := Ground.textOnly Departure.lateStores }, { on := 7, ground := Ground.textOnly Departure.lateStores }, { on := 8, ground := Ground.phase }, { on := 9, ground := Ground.phase }, { on := 10, ground := Ground.phase }], guard := none }) (v := ?_) rfl (by kernel_rfl) (by kernel_rfl) (by kernel_rfl) (fun _ _ _ h => h) (Or.inl ⟨by rfl, ?hy⟩) hHeld ?_
  case hy => (intro w hSw; (try dsimp only at hSw); obtain ⟨_, _, _, _, _⟩ := hSw; go_simp; all_goals (with_reducible rfl))
  try simp only [Act.put, List.setIfInBounds_toArray, List.set_cons_zero, List.set_cons_succ]
  refine wpAnyH_take (i := 12) (oi := { dst := some 6, op := Op.assign (Operand.tmp 21), type := 3, pos := "plain.go:53", after := #[{ on := 7, ground := Ground.data }, { on := 11, ground := Ground.chain }, { on := 0, ground := Ground.phase }, { on := 1, ground := Ground.phase }, { on := 2, ground := Ground.phase }, { on := 3, ground := Ground.phase }, { on := 4, ground := Ground.phase }, { on := 5, ground := Ground.phase }, { on := 6, ground := Ground.phase }, { on := 7, ground := Ground.phase }, { on := 8, ground := Ground.phase }, { on := 9, ground := Ground.phase }, { on := 10, ground := Ground.phase }, { on := 11, ground := Ground.phase }], guard := none }) (v := ?_) rfl (by kernel_rfl) (by kernel_rfl) (by kernel_rfl) (fun _ _ _ h => h) (Or.inl ⟨by rfl, ?hy⟩) hHeld ?_
  case hy => (intro w hSw; (try dsimp only at hSw); obtain ⟨_, _, _, _, _⟩ := hSw; go_simp; all_goals (with_reducible rfl))
  try simp only [Act.put, List.setIfInBounds_toArray, List.set_cons_zero, List.set_cons_succ]
  refine wpAnyH_done (by kernel_rfl) ?_ _
  have HV3 := hid (HV1.out.below HB3.out)
  have HBW := hid (HB1.out.trans (HB3.out.mono HB1.out.size))
  have HA3 := hid (show In w3 a0 n0 c0 l0 from ⟨HA.out.1.belowP HB3.out, HA.out.2⟩)
  have hob : w1.heap.size < w3.heap.size := lt_of_heap HOB.out
  obtain ⟨ob, hobe⟩ : ∃ y, y = w1.heap.size := ⟨_, rfl⟩
  rw [← hobe] at HOB hob ⊢
  clear hobe HKP HRX HIFS HIZ HONE HV1 HB1 HB3 HA
  have HEND := hid (fun (wx : World) (h : Below w3.heap.size w3 wx) => (HKN.out wx (HV3.out.below h)).mono fun e w' (q : e = .returned (.bool true) ∧ Below wx.heap.size wx w') => (⟨q.1, HBW.out.trans ((h.trans (q.2.mono h.size)).mono HBW.out.size)⟩ : e = .returned (.bool true) ∧ Below w.heap.size w w'))
  rcases Nat.lt_or_ge 16 n0 with hs0 | hs0
  · have hs0' : (16 : Int) < (n0 : Int) := by omega
    go_wp2_with fail
    refine (HEND.out _ (Below.refl _ _)).mono ?_
    rintro e w4 ⟨rfl, hb4⟩
    go_wp2_with fail
    go_ret
    exact ⟨rfl, hb4⟩
  have hs0' : ¬ (16 : Int) < (n0 : Int) := by omega
  by_cases hN0 : N < 0
  · go_wp2_with fail
    refine (HEND.out _ (Below.refl _ _)).mono ?_
    rintro e w4 ⟨rfl, hb4⟩
    go_wp2_with fail
    go_ret
    exact ⟨rfl, hb4⟩
  by_cases hN16 : 16 < N
  · go_wp2_with fail
    refine (HEND.out _ (Below.refl _ _)).mono ?_
    rintro e w4 ⟨rfl, hb4⟩
    go_wp2_with fail
    go_ret
    exact ⟨rfl, hb4⟩
  go_wp2_with fail
  go_loopw [7, 8] (fun av iv wx => ∃ k : Nat, k ≤ n0 ∧ iv = .int .i64 k ∧ Hid (wx.ownsRow w3.heap.size 3 1 av (lessL (l0.take k) G).length (i64z (lessL (l0.take k) G))) ∧ Hid (Below w3.heap.size w3 wx)) (fun _ iv _ => n0 - (intOf iv).toNat)
  case atStart => exact ⟨0, by omega, rfl, hid (ownsZ_new (heap_new _ _)), hid ((Below.refl _ _).alloc (Nat.le_refl _) _)⟩
  case round =>
    obtain ⟨k, hk, rfl, HOW, HBR⟩ := hrel
    have hn0 := HA3.out.1.lenP
    have HN0 := hid hn0
    clear hn0
    by_cases hk16 : k < n0
    · as_aux_lemma =>
      have hk16' : (k : Int) < (n0 : Int) := by omega
      have HWX := hid ((HA3.out.1.wf) (l0.getD k 0) (by rw [List.getD_eq_getElem?_getD, List.getElem?_eq_getElem (by rw [← HN0.out]; exact hk16)]; exact List.getElem_mem _))
      have HST := hid (less_succ l0 G k (by rw [← HN0.out]; exact hk16))
      have hml := Nat.le_trans (less_sub (l0.take k) G).2 (List.length_take_le k l0)
      obtain ⟨gb, go, rfl, cx⟩ := (HA3.out.1.belowP HBR.out).atP k hk16
      generalize l0.getD k 0 = x at *
      by_cases hx : x = G
      · have e1 : (x != G) = false := by simp [hx]
        have E1 := hid (show lessL (l0.take (k + 1)) G = lessL (l0.take k) G from by rw [HST.out, if_pos hx])
        clear hx HST
        go_wp2_with fail
        exact ⟨⟨k + 1, by omega, by go_num, by rw [E1.out]; exact HOW, HBR⟩, by simp [intOf]; omega⟩
      · have e1 : (x != G) = true := by simp [hx]
        have E1 := hid (show lessL (l0.take (k + 1)) G = lessL (l0.take k) G ++ [x] from by rw [HST.out, if_neg hx])
        have HWF := hid (show ∀ n ∈ [x], (Lit.int .i64 n).wf = true from fun n hn => by
          simp only [List.mem_cons, List.not_mem_nil, or_false] at hn
          subst hn
          exact HWX.out)
        clear hx HST
        go_wp2_with (
          (have h0 := HWF.out)
          (refine wpList_appendZ (by rfl) (.tmp 47) (.tmp 52) (by rfl) w3.heap.size _ (lessL (l0.take k) G).length (lessL (l0.take k) G) (by rfl) (owns_belowP HOW.out ((Below.refl _ _).alloc (Nat.le_refl _) _)) (by omega) (some ⟨_, 0, none⟩) 1 1 [x] (by rfl) (is_i64 _ [x] h0) (by intro h; cases h) (by omega) (by omega) (by simp; have := HBR.out.size; omega) ?_)
          (intro v6 w6 hown6 hb6)
          (have HOW6 := hid hown6)
          (have HB6 := hid ((HBR.out.alloc HBR.out.size (.cells #[.int .i64 x] 3)).trans hb6))
          (clear hown6 hb6))
        exact ⟨⟨k + 1, by omega, by go_num, by rw [E1.out]; simpa using HOW6, HB6⟩, by simp [intOf]; omega⟩
    · obtain rfl : k = n0 := by omega
      obtain ⟨wo, rfl⟩ : ∃ y, y = wr := ⟨wr, rfl⟩
      have hlk : l0.take k = l0 := by rw [HN0.out]; exact List.take_length
      rw [hlk] at HOW
      clear hlk
      have hsub := less_sub l0 G
      obtain ⟨sa, sc, rfl, -, hsc, hisS, hnS, hblS⟩ := is_of_ownsZ HOW.out (fun n hn => HA3.out.1.wf n (hsub.1 n hn))
      have HIS := hid hisS
      have HNS := hid hnS
      have HBS := hid hblS
      have hm1 : (lessL l0 G).length ≤ 16 := Nat.le_trans hsub.2 (by rw [← HN0.out]; omega)
      have hN0' : 0 ≤ N := by omega
      have HWFS := hid (show ∀ n ∈ lessL l0 G ++ l0, (Lit.int .i64 n).wf = true from fun n hn => (List.mem_append.1 hn).elim (fun h => HA3.out.1.wf n (hsub.1 n h)) (fun h => HA3.out.1.wf n h))
      have HBACK := hid (rkd_back obj l0 G)
      have HC1 := hid (fun (x : Nat) (hx : x ∈ chosenL obj l0 N) (hg : (x : Int) ≠ G) => stays obj l0 G N hN0' x hx hg)
      have HC2 := hid (fun (x : Nat) (hx : x ∈ chosenL obj (lessL l0 G) N) => of_less obj l0 G N x hx)
      have HC3 := hid (news_one obj l0 G N hN0')
      have HVR := hid (HV3.out.below HBR.out)
      have HRL := hid (rkd_lt obj (setL l0))
      have HRL2 := hid (rkd_lt obj (setL (lessL l0 G)))
      have HML := hid (chN_le N (rkd obj (setL l0)).length)
      have HML2 := hid (chN_le N (rkd obj (setL (lessL l0 G))).length)
      have HLR := hid (show (rkd obj (setL l0)).length ≤ 16 ∧ (rkd obj (setL (lessL l0 G))).length ≤ 16 from ⟨by rw [rkd_length]; exact memb_le _ _, by rw [rkd_length]; exact memb_le _ _⟩)
      have HIN := hid (fun (wx : World) (h : Below wo.heap.size wo wx) => ints_any a0 k c0 l0 wx ((HA3.out.1.belowP HBR.out).belowP h) HA3.out.2.2 HA3.out.2.1 (by omega))
      have HIN2 := hid (fun (wx : World) (h : Below wo.heap.size wo wx) => ints_any sa (lessL l0 G).length sc (lessL l0 G) wx (HIS.out.belowP h) HNS.out hsc (by omega))
      have HCH := hid (fun (wx : World) (h : Below wo.heap.size wo wx) (ia : Option Addr) (ic : Nat) (hi : Is wx (.slice ia k ic) l0) => Chosen_any obj HO.out HLT.out ia k ic l0 N wx (HVR.out.below h) hi (by omega))
      have HCH2 := hid (fun (wx : World) (h : Below wo.heap.size wo wx) (ia : Option Addr) (ic : Nat) (hi : Is wx (.slice ia (lessL l0 G).length ic) (lessL l0 G)) => Chosen_any obj HO.out HLT.out ia (lessL l0 G).length ic (lessL l0 G) N wx (HVR.out.below h) hi (by omega))
      have HCH3 := hid (fun (wx : World) (h : Below w3.heap.size w3 wx) (ia : Option Addr) (ic : Nat) (hi : Is wx (.slice ia ((lessL l0 G).length + k) ic) (lessL l0 G ++ l0)) => Chosen_any obj HO.out HLT.out ia ((lessL l0 G).length + k) ic (lessL l0 G ++ l0) N wx (HV3.out.below h) hi (by omega))
      rw [HBACK.out] at HCH3
      rw [← HOBE.out] at HCH HCH2 HCH3
      have HE1 := hid (show chosenL obj l0 N = (rkd obj (setL l0)).take (chN N (rkd obj (setL l0)).length) from rfl)
      have HE2 := hid (show chosenL obj (lessL l0 G) N = (rkd obj (setL (lessL l0 G))).take (chN N (rkd obj (setL (lessL l0 G))).length) from rfl)
      generalize chosenL obj l0 N = BL at *
      generalize chosenL obj (lessL l0 G) N = AL at *
      generalize rkd obj (setL l0) = RL at *
      generalize rkd obj (setL (lessL l0 G)) = RL2 at *
      generalize chN N RL.length = m at *
      generalize chN N RL2.length = m2 at *
      generalize hLS : lessL l0 G = LS at *
      have HOBR := hid (show OwnD wo ob obj from (HBR.out.block ob hob).trans HOB.out)
      have HLD := hid (show ∀ wx, Below w3.heap.size w3 wx → (loadVar 23 ⟨ob, 0, none⟩).run Tryz.prog wx = .ok (.agg OB) wx from fun wx h => by
        rw [HOBE.out]
        exact load_dig HO.out ((h.block _ hob).trans HOB.out))
      have HKP2 := hid (show ∀ wx, Below wo.heap.size wo wx → Below wo.heap.size wo wx ∧ (loadVar 23 ⟨ob, 0, none⟩).run Tryz.prog wx = .ok (.agg OB) wx from fun wx h => ⟨h, HLD.out wx (HBR.out.trans (h.mono HBR.out.size))⟩)
      have hlo := HBR.out.size
      clear hisS hnS hblS hsub HBACK hLS
      go_upto_region 10 with fail
      refine wp_region_held_drew (S := (fun wx => Below wo.heap.size wo wx ∧ (loadVar 23 ⟨ob, 0, none⟩).run Tryz.prog wx = .ok (.agg OB) wx)) (by kernel_rfl) (HKP2.out _ (bel_drewN (Below.refl _ _) 1)) (fun hHeld => ?_)
      refine wpAnyH_take (i := 0) (oi := { dst := some 54, op := Op.load 23 (Operand.tmp 3), type := 23, pos := "plain.go:63", after := #[], guard := none }) (v := .agg OB) rfl (by kernel_rfl) (by kernel_rfl) (by kernel_rfl) (fun _ _ _ h => h) (Or.inl ⟨by rfl, ?hy⟩) hHeld ?_
      case hy => (intro w hSw; exact run_load_opP hSw.2)
      try simp only [Act.put, List.setIfInBounds_toArray, List.set_cons_zero, List.set_cons_succ]
      refine wpAnyH_take (i := 1) (oi := { dst := some 55, op := Op.move (Operand.tmp 4), type := 27, pos := "plain.go:63", after := #[], guard := none }) (v := ?_) rfl (by kernel_rfl) (by kernel_rfl) (by kernel_rfl) (fun _ _ _ h => h) (Or.inl ⟨by rfl, ?hy⟩) hHeld ?_
      case hy => (intro w hSw; (try dsimp only at hSw); obtain ⟨_, _⟩ := hSw; go_simp; all_goals (with_reducible rfl))
      try simp only [Act.put, List.setIfInBounds_toArray, List.set_cons_zero, List.set_cons_succ]
      refine wpAnyH_take (i := 3) (oi := { dst := some 57, op := Op.move (Operand.tmp 5), type := 3, pos := "plain.go:63", after := #[], guard := none }) (v := ?_) rfl (by kernel_rfl) (by kernel_rfl) (by kernel_rfl) (fun _ _ _ h => h) (Or.inl ⟨by rfl, ?hy⟩) hHeld ?_
      case hy => (intro w hSw; (try dsimp only at hSw); obtain ⟨_, _⟩ := hSw; go_simp; all_goals (with_reducible rfl))
      try simp only [Act.put, List.setIfInBounds_toArray, List.set_cons_zero, List.set_cons_succ]
      refine wpAnyH_take (i := 5) (oi := { dst := some 59, op := Op.load 23 (Operand.tmp 3), type := 23, pos := "plain.go:63", after := #[], guard := none }) (v := .agg OB) rfl (by kernel_rfl) (by kernel_rfl) (by kernel_rfl) (fun _ _ _ h => h) (Or.inl ⟨by rfl, ?hy⟩) hHeld ?_
      case hy => (intro w hSw; exact run_load_opP hSw.2)
      try simp only [Act.put, List.setIfInBounds_toArray, List.set_cons_zero, List.set_cons_succ]
      refine wpAnyH_take (i := 6) (oi := { dst := some 60, op := Op.move (Operand.tmp 7), type := 27, pos := "plain.go:63", after := #[], guard := none }) (v := ?_) rfl (by kernel_rfl) (by kernel_rfl) (by kernel_rfl) (fun _ _ _ h => h) (Or.inl ⟨by rfl, ?hy⟩) hHeld ?_
      case hy => (intro w hSw; (try dsimp only at hSw); obtain ⟨_, _⟩ := hSw; go_simp; all_goals (with_reducible rfl))
      try simp only [Act.put, List.setIfInBounds_toArray, List.set_cons_zero, List.set_cons_succ]
      refine wpAnyH_take (i := 8) (oi := { dst := some 62, op := Op.move (Operand.tmp 5), type := 3, pos := "plain.go:63", after := #[], guard := none }) (v := ?_) rfl (by kernel_rfl) (by kernel_rfl) (by kernel_rfl) (fun _ _ _ h => h) (Or.inl ⟨by rfl, ?hy⟩) hHeld ?_
      case hy => (intro w hSw; (try dsimp only at hSw); obtain ⟨_, _⟩ := hSw; go_simp; all_goals (with_reducible rfl))
      try simp only [Act.put, List.setIfInBounds_toArray, List.set_cons_zero, List.set_cons_succ]
      refine wpAnyH_ready (rs := [2]) (by kernel_rfl) (by simp) ?_
      refine AllReadyH.cons (o := { dst := some 56, op := Op.call { callee := Callee.value (Operand.func 23), args := #[Operand.tmp 55], argTypes := #[27] }, type := 27, pos := "plain.go:63", after := #[{ on := 1, ground := Ground.data }], guard := none }) rfl (fun K hK => ?_) AllReadyH.nil
      go_simp
      refine (HIN.out _ hHeld.1).mono ?_
      rintro e w5 ⟨ia5, ic5, rfl, hi5, hc5, hn5, hl5, hb5⟩
      have G5 := hHeld.1.trans (hb5.mono hHeld.1.size)
      have HI5 := hid hi5
      clear hi5 hc5 hn5 hl5 hb5
      clear hHeld
      go_wp2_with fail
      refine hK.out _ _ (HKP2.out _ G5) (fun hHeld => ?_)
      clear hK K
      try simp only [Act.put, List.setIfInBounds_toArray, List.set_cons_zero, List.set_cons_succ]
      refine wpAnyH_ready (rs := [4]) (by kernel_rfl) (by simp) ?_
      refine AllReadyH.cons (o := { dst := some 58, op := Op.call { callee := Callee.value (Operand.func 24), args := #[Operand.tmp 54, Operand.tmp 56, Operand.tmp 57], argTypes := #[23, 27, 3] }, type := 27, pos := "plain.go:63", after := #[{ on := 0, ground := Ground.data }, { on := 2, ground := Ground.data }, { on := 3, ground := Ground.data }, { on := 2, ground := Ground.chain }], guard := none }) rfl (fun K hK => ?_) AllReadyH.nil
      go_simp
      refine (HCH.out _ G5 ia5 ic5 HI5.out).mono ?_
      rintro e w6 ⟨pb, rfl, hoi, hlo6, hb6⟩
      have G6 := G5.trans (hb6.mono G5.size)
      have HOI := hid hoi
      have HLO := hid (show wo.heap.size ≤ pb from Nat.le_trans G5.size hlo6)
      clear hoi hlo6 hb6
      clear hHeld
      go_wp2_with fail
      refine hK.out _ _ (HKP2.out _ G6) (fun hHeld => ?_)
      clear hK K
      try simp only [Act.put, List.setIfInBounds_toArray, List.set_cons_zero, List.set_cons_succ]
      refine wpAnyH_ready (rs := [7]) (by kernel_rfl) (by simp) ?_
      refine AllReadyH.cons (o := { dst := some 61, op := Op.call { callee := Callee.value (Operand.func 23), args := #[Operand.tmp 60], argTypes := #[27] }, type := 27, pos := "plain.go:63", after := #[{ on := 6, ground := Ground.data }, { on := 4, ground := Ground.chain }], guard := none }) rfl (fun K hK => ?_) AllReadyH.nil
      go_simp
      refine (HIN2.out _ G6).mono ?_
      rintro e w7 ⟨ia7, ic7, rfl, hi7, hc7, hn7, hl7, hb7⟩
      have G7 := G6.trans (hb7.mono G6.size)
      have HI7 := hid hi7
      have HOI7 := hid (HOI.out.below hb7)
      clear hi7 hc7 hn7 hl7 hb7
      clear hHeld
      go_wp2_with fail
      refine hK.out _ _ (HKP2.out _ G7) (fun hHeld => ?_)
      clear hK K
      try simp only [Act.put, List.setIfInBounds_toArray, List.set_cons_zero, List.set_cons_succ]
      refine wpAnyH_ready (rs := [9]) (by kernel_rfl) (by simp) ?_
      refine AllReadyH.cons (o := { dst := some 63, op := Op.call { callee := Callee.value (Operand.func 24), args := #[Operand.tmp 59, Operand.tmp 61, Operand.tmp 62], argTypes := #[23, 27, 3] }, type := 27, pos := "plain.go:63", after := #[{ on := 5, ground := Ground.data }, { on := 7, ground := Ground.data }, { on := 8, ground := Ground.data }, { on := 7, ground := Ground.chain }], guard := none }) rfl (fun K hK => ?_) AllReadyH.nil
      go_simp
      refine (HCH2.out _ G7 ia7 ic7 HI7.out).mono ?_
      rintro e w8 ⟨pb2, rfl, hoi, hlo8, hb8⟩
      have G8 := G7.trans (hb8.mono G7.size)
      have HOI8 := hid (HOI7.out.below hb8)
      have HOJ := hid hoi
      clear hoi hlo8 hb8
      clear hHeld
      go_wp2_with fail
      refine hK.out _ _ (HKP2.out _ G8) (fun hHeld => ?_)
      clear hK K
      try simp only [Act.put, List.setIfInBounds_toArray, List.set_cons_zero, List.set_cons_succ]
      refine wpAnyH_take (i := 10) (oi := { dst := some 9, op := Op.assign (Operand.tmp 58), type := 27, pos := "plain.go:63", after := #[{ on := 4, ground := Ground.data }, { on := 9, ground := Ground.chain }, { on := 0, ground := Ground.phase }, { on := 1, ground := Ground.phase }, { on := 2, ground := Ground.phase }, { on := 3, ground := Ground.phase }, { on := 4, ground := Ground.phase }, { on := 5, ground := Ground.textOnly Departure.lateStores }, { on := 6, ground := Ground.textOnly Departure.lateStores }, { on := 7, ground := Ground.textOnly Departure.lateStoresUnsure }, { on := 8, ground := Ground.textOnly Departure.lateStores }, { on := 9, ground := Ground.textOnly Departure.lateStoresUnsure }], guard := none }) (v := ?_) rfl (by kernel_rfl) (by kernel_rfl) (by kernel_rfl) (fun _ _ _ h => h) (Or.inl ⟨by rfl, ?hy⟩) hHeld ?_
      case hy => (intro w hSw; (try dsimp only at hSw); obtain ⟨_, _⟩ := hSw; go_simp; all_goals (with_reducible rfl))
      try simp only [Act.put, List.setIfInBounds_toArray, List.set_cons_zero, List.set_cons_succ]
      refine wpAnyH_take (i := 11) (oi := { dst := some 10, op := Op.assign (Operand.tmp 63), type := 27, pos := "plain.go:63", after := #[{ on := 9, ground := Ground.data }, { on := 10, ground := Ground.chain }, { on := 0, ground := Ground.phase }, { on := 1, ground := Ground.phase }, { on := 2, ground := Ground.phase }, { on := 3, ground := Ground.phase }, { on := 4, ground := Ground.phase }, { on := 5, ground := Ground.phase }, { on := 6, ground := Ground.phase }, { on := 7, ground := Ground.phase }, { on := 8, ground := Ground.phase }, { on := 9, ground := Ground.phase }, { on := 10, ground := Ground.phase }], guard := none }) (v := ?_) rfl (by kernel_rfl) (by kernel_rfl) (by kernel_rfl) (fun _ _ _ h => h) (Or.inl ⟨by rfl, ?hy⟩) hHeld ?_
      case hy => (intro w hSw; (try dsimp only at hSw); obtain ⟨_, _⟩ := hSw; go_simp; all_goals (with_reducible rfl))
      try simp only [Act.put, List.setIfInBounds_toArray, List.set_cons_zero, List.set_cons_succ]
      refine wpAnyH_done (by kernel_rfl) ?_ _
      have HBW8 := hid (HBR.out.trans (G8.mono HBR.out.size))
      have HG8 := hid G8
      have HCI := hid (show Is w8 (.slice (some ⟨pb, 0, none⟩) m RL.length) (BL.map Int.ofNat) from by rw [HE1.out]; exact is_of_own HOI8.out m RL.length HML.out HRL.out)
      have HCJ := hid (show Is w8 (.slice (some ⟨pb2, 0, none⟩) m2 RL2.length) (AL.map Int.ofNat) from by rw [HE2.out]; exact is_of_own HOJ.out m2 RL2.length HML2.out HRL2.out)
      have hm16 : m ≤ 16 := Nat.le_trans HML.out HLR.out.1
      have hm216 : m2 ≤ 16 := Nat.le_trans HML2.out HLR.out.2
      have HLB := hid (show m = BL.length from by have h := HCI.out.lenP; simpa using h)
      have HLA := hid (show m2 = AL.length from by have h := HCJ.out.lenP; simpa using h)
      have HHA := hid (fun (x : Int) (wx : World) (h : Below w8.heap.size w8 wx) => Has_any (some ⟨pb2, 0, none⟩) m2 RL2.length (AL.map Int.ofNat) x wx (HCJ.out.belowP h) (by omega))
      have HHB := hid (fun (x : Int) (wx : World) (h : Below w8.heap.size w8 wx) => Has_any (some ⟨pb, 0, none⟩) m RL.length (BL.map Int.ofNat) x wx (HCI.out.belowP h) (by omega))
      have HHL := hid (fun (x : Int) (wx : World) (h : Below w8.heap.size w8 wx) => Has_any a0 k c0 l0 x wx ((HA3.out.1.belowP HBW8.out).belowP (h.mono (by exact Nat.le_refl _))) (by omega))
      clear G8 G7 G6 G5 HI5 HI7 HOI HOI7 hHeld HCH HCH2 HIN HIN2 HKP2
      go_wp2_with fail
      go_loopw [12] (fun iv wx => ∃ q : Nat, q ≤ m ∧ iv = .int .i64 q ∧ Hid (Below w8.heap.size w8 wx)) (fun iv _ => m - (intOf iv).toNat)
      case atStart => exact ⟨0, by omega, rfl, hid (Below.refl _ _)⟩
      case round =>
        obtain ⟨q, hq, rfl, HB9⟩ := hrel
        by_cases hqm : q < m
        · as_aux_lemma =>
          have hqm' : (q : Int) < (m : Int) := by omega
          obtain ⟨x, hxm, hxe⟩ := getD_ofNat BL q (by rw [← HLB.out]; exact hqm)
          obtain ⟨gb, go, hga, cx⟩ := (HCI.out.belowP HB9.out).atP q hqm
          cases hga
          rw [Nat.zero_add, hxe] at cx
          have HST := hid (HC1.out x hxm)
          have HHX := hid (HHA.out (x : Int) wr HB9.out)
          clear hxe hxm HHA HHB HHL HC1 HC2
          by_cases hx : (x : Int) = G
          · have e1 : ((x : Int) != G) = false := by simp [hx]
            clear hx HHX
            go_wp2_with fail
            exact ⟨⟨q + 1, by omega, by go_num, HB9⟩, by simp [intOf]; omega⟩
          · have e1 : ((x : Int) != G) = true := by simp [hx]
            rw [HST.out hx] at HHX
            clear hx
            go_wp2_with fail
            refine HHX.out.mono ?_
            rintro e w9 ⟨rfl, rfl⟩
            go_wp2_with fail
            exact ⟨⟨q + 1, by omega, by go_num, HB9⟩, by simp [intOf]; omega⟩
        · obtain rfl : q = m := by omega
          have hqq : ¬ (q : Int) < (q : Int) := by omega
          obtain ⟨w9, rfl⟩ : ∃ y, y = wr := ⟨wr, rfl⟩
          go_wp2_with fail
          go_loopw [11, 13] (fun nv iv wx => ∃ p : Nat, p ≤ m2 ∧ iv = .int .i64 p ∧ nv = .int .i64 ((newsOf BL (AL.take p) : Nat) : Int) ∧ Hid (Below w8.heap.size w8 wx)) (fun _ iv _ => m2 - (intOf iv).toNat)
          case atStart => exact ⟨0, by omega, rfl, rfl, HB9⟩
          case round =>
            obtain ⟨p, hp, rfl, rfl, HB10⟩ := hrel
            have hle := Nat.le_trans (newsOf_le BL (AL.take p)) (List.length_take_le p AL)
            by_cases hpm : p < m2
            · as_aux_lemma =>
              have hpm' : (p : Int) < (m2 : Int) := by omega
              obtain ⟨x, hxm, hxe⟩ := getD_ofNat AL p (by rw [← HLA.out]; exact hpm)
              obtain ⟨gb, go, hga, cx⟩ := (HCJ.out.belowP HB10.out).atP p hpm
              cases hga
              have HST := hid (news_succ BL AL p (by rw [← HLA.out]; exact hpm))
              rw [hxe] at HST
              rw [Nat.zero_add, hxe] at cx
              have h2 := HC2.out x hxm
              have HHX := hid (HHB.out (x : Int) wr HB10.out)
              have HHY := hid (HHL.out (x : Int) wr HB10.out)
              rw [h2.1] at HHY
              have e1 : ((x : Int) == G) = false := by simp [h2.2]
              clear hxe hxm HHA HHB HHL HC1 HC2 h2
              generalize newsOf BL (AL.take p) = u at *
              generalize (BL.map Int.ofNat).contains (x : Int) = K at *
              go_wp2_with fail
              refine HHY.out.mono ?_
              rintro e w11 ⟨rfl, rfl⟩
              clear HHY
              go_wp2_with fail
              refine HHX.out.mono ?_
              rintro e w12 ⟨rfl, rfl⟩
              cases K with
              | true =>
                have E1 := hid (show newsOf BL (AL.take (p + 1)) = u from by rw [HST.out]; rfl)
                go_wp2_with fail
                exact ⟨⟨p + 1, by omega, by go_num, by rw [E1.out], HB10⟩, by simp [intOf]; omega⟩
              | false =>
                have E1 := hid (show newsOf BL (AL.take (p + 1)) = u + 1 from by rw [HST.out]; rfl)
                go_wp2_with fail
                exact ⟨⟨p + 1, by omega, by go_num, by rw [E1.out]; go_num, HB10⟩, by simp [intOf]; omega⟩
            · obtain rfl : p = m2 := by omega
              have hpp : ¬ (p : Int) < (p : Int) := by omega
              have htk : AL.take p = AL := by rw [HLA.out]; exact List.take_length
              rw [htk]
              clear htk
              have HC3' := HC3.out
              have HHG := hid (HHB.out G wr HB10.out)
              generalize newsOf BL AL = u at *
              clear HHA HHB HHL HC1 HC2 hle
              generalize (BL.map Int.ofNat).contains G = K at *
              go_upto_region 24 with fail
              go_cut [126] (fun v wx => v = .bool false ∧ Hid (Below w8.heap.size w8 wx))
              case first =>
                rcases HC3' with rfl | ⟨rfl, rfl⟩
                · go_wp2_with fail
                  go_meet
                  exact ⟨rfl, HB10⟩
                · go_wp2_with fail
                  refine HHG.out.mono ?_
                  rintro e w11 ⟨rfl, rfl⟩
                  go_wp2_with fail
                  go_meet
                  exact ⟨rfl, HB10⟩
              case rest =>
                obtain ⟨rfl, HB11⟩ := hcut
                have HBC := hid (HBW8.out.trans (HB11.out.mono HBW8.out.size))
                have HOWC := hid (owns_belowP HOW.out (bel_drewN (HG8.out.trans (HB11.out.mono HG8.out.size)) 1))
                have HAC := hid (HA3.out.1.belowP (bel_drewN HBC.out 1))
                have HKP3 := hid (show ∀ wx, Below w3.heap.size w3 wx → Below w3.heap.size w3 wx ∧ (loadVar 23 ⟨ob, 0, none⟩).run Tryz.prog wx = .ok (.agg OB) wx from fun wx h => ⟨h, HLD.out wx h⟩)
                have hsz := HBC.out.size
                clear HHG HB10 HB9 HOW
                go_upto_region 26 with fail
                refine wp_region_held_drew (S := (fun wx => Below w3.heap.size w3 wx ∧ (loadVar 23 ⟨ob, 0, none⟩).run Tryz.prog wx = .ok (.agg OB) wx)) (by kernel_rfl) (HKP3.out _ (bel_drewN HBC.out 1)) (fun hHeld => ?_)
                refine wpAnyH_take (i := 0) (oi := { dst := some 127, op := Op.load 23 (Operand.tmp 3), type := 23, pos := "plain.go:81", after := #[], guard := none }) (v := .agg OB) rfl (by kernel_rfl) (by kernel_rfl) (by kernel_rfl) (fun _ _ _ h => h) (Or.inl ⟨by rfl, ?hy⟩) hHeld ?_
                case hy => (intro w hSw; exact run_load_opP hSw.2)
                try simp only [Act.put, List.setIfInBounds_toArray, List.set_cons_zero, List.set_cons_succ]
                refine wpAnyH_take (i := 1) (oi := { dst := some 128, op := Op.move (Operand.tmp 7), type := 27, pos := "plain.go:81", after := #[], guard := none }) (v := ?_) rfl (by kernel_rfl) (by kernel_rfl) (by kernel_rfl) (fun _ _ _ h => h) (Or.inl ⟨by rfl, ?hy⟩) hHeld ?_
                case hy => (intro w hSw; (try dsimp only at hSw); obtain ⟨_, _⟩ := hSw; go_simp; all_goals (with_reducible rfl))
                try simp only [Act.put, List.setIfInBounds_toArray, List.set_cons_zero, List.set_cons_succ]
                refine wpAnyH_take (i := 2) (oi := { dst := some 129, op := Op.move (Operand.tmp 4), type := 27, pos := "plain.go:81", after := #[], guard := none }) (v := ?_) rfl (by kernel_rfl) (by kernel_rfl) (by kernel_rfl) (fun _ _ _ h => h) (Or.inl ⟨by rfl, ?hy⟩) hHeld ?_
                case hy => (intro w hSw; (try dsimp only at hSw); obtain ⟨_, _⟩ := hSw; go_simp; all_goals (with_reducible rfl))
                try simp only [Act.put, List.setIfInBounds_toArray, List.set_cons_zero, List.set_cons_succ]
                refine wpAnyH_take (i := 4) (oi := { dst := some 131, op := Op.move (Operand.tmp 5), type := 3, pos := "plain.go:81", after := #[], guard := none }) (v := ?_) rfl (by kernel_rfl) (by kernel_rfl) (by kernel_rfl) (fun _ _ _ h => h) (Or.inl ⟨by rfl, ?hy⟩) hHeld ?_
                case hy => (intro w hSw; (try dsimp only at hSw); obtain ⟨_, _⟩ := hSw; go_simp; all_goals (with_reducible rfl))
                try simp only [Act.put, List.setIfInBounds_toArray, List.set_cons_zero, List.set_cons_succ]
                refine wpAnyH_take (i := 6) (oi := { dst := some 133, op := Op.move (Operand.tmp 9), type := 27, pos := "plain.go:81", after := #[], guard := none }) (v := ?_) rfl (by kernel_rfl) (by kernel_rfl) (by kernel_rfl) (fun _ _ _ h => h) (Or.inl ⟨by rfl, ?hy⟩) hHeld ?_
                case hy => (intro w hSw; (try dsimp only at hSw); obtain ⟨_, _⟩ := hSw; go_simp; all_goals (with_reducible rfl))
                try simp only [Act.put, List.setIfInBounds_toArray, List.set_cons_zero, List.set_cons_succ]
                refine wpAnyH_ready (rs := [3]) (by kernel_rfl) (by simp) ?_
                refine AllReadyH.cons (o := { dst := some 130, op := Op.call { callee := Callee.builtin Builtin.append, args := #[Operand.tmp 128, Operand.tmp 129], argTypes := #[27, 27] }, type := 27, pos := "plain.go:81", after := #[{ on := 1, ground := Ground.data }, { on := 2, ground := Ground.data }], guard := none }) rfl (fun K hK => ?_) AllReadyH.nil
                refine step_appendG rfl (.tmp 128) (.tmp 129) rfl w3.heap.size (.slice sa LS.length sc) LS.length LS rfl HOWC.out (by omega) a0 k c0 l0 rfl HAC.out HA3.out.2.2 HA3.out.2.1 (by omega) hsz ?_
                intro v10 w10 hown10 hg10
                obtain ⟨a10, c10, rfl, -, hc10, his10, hn10, hbl10⟩ := is_of_ownsZ hown10 HWFS.out
                have G10 : Below w3.heap.size w3 w10 := (bel_drewN HBC.out 1).grown hg10 hsz (owns_blockZ HOWC.out)
                have HC10 := hid ((HCI.out.belowP (bel_drewN HB11.out 1)).grown hg10 (fun ad h => by cases h; exact own_ne HBS.out HLO.out))
                have HI10 := hid his10
                clear hown10 hg10 hc10 his10 hn10 hbl10
                refine hK.out _ _ (HKP3.out _ G10) (fun hHeld => ?_)
                clear hK K
                try simp only [Act.put, List.setIfInBounds_toArray, List.set_cons_zero, List.set_cons_succ]
                refine wpAnyH_ready (rs := [5]) (by kernel_rfl) (by simp) ?_
                refine AllReadyH.cons (o := { dst := some 132, op := Op.call { callee := Callee.value (Operand.func 24), args := #[Operand.tmp 127, Operand.tmp 130, Operand.tmp 131], argTypes := #[23, 27, 3] }, type := 27, pos := "plain.go:81", after := #[{ on := 0, ground := Ground.data }, { on := 3, ground := Ground.data }, { on := 4, ground := Ground.data }, { on := 3, ground := Ground.chain }], guard := none }) rfl (fun K hK => ?_) AllReadyH.nil
                go_simp
                refine (HCH3.out _ G10 a10 c10 HI10.out).mono ?_
                rintro e w11 ⟨pb3, rfl, hoi, hlo11, hb11⟩
                have G11 := G10.trans (hb11.mono G10.size)
                have HSM := hid (same_any (some ⟨pb3, 0, none⟩) q RL.length (BL.map Int.ofNat) (some ⟨pb, 0, none⟩) q RL.length (BL.map Int.ofNat) w11 (by rw [HE1.out]; exact is_of_own hoi q RL.length HML.out HRL.out) (HC10.out.belowP hb11) (by omega) (by omega))
                rw [show decide (BL.map Int.ofNat = BL.map Int.ofNat) = true from decide_eq_true rfl] at HSM
                clear hoi hlo11 hb11
                clear hHeld
                go_wp2_with fail
                refine hK.out _ _ (HKP3.out _ G11) (fun hHeld => ?_)
                clear hK K
                try simp only [Act.put, List.setIfInBounds_toArray, List.set_cons_zero, List.set_cons_succ]
                refine wpAnyH_ready (rs := [7]) (by kernel_rfl) (by simp) ?_
                refine AllReadyH.cons (o := { dst := some 134, op := Op.call { callee := Callee.value (Operand.func 19), args := #[Operand.tmp 132, Operand.tmp 133], argTypes := #[27, 27] }, type := 4, pos := "plain.go:81", after := #[{ on := 5, ground := Ground.data }, { on := 6, ground := Ground.data }, { on := 5, ground := Ground.chain }], guard := none }) rfl (fun K hK => ?_) AllReadyH.nil
                go_simp
                refine HSM.out.mono ?_
                rintro e w12 ⟨rfl, hb12⟩
                have G12 := G11.trans (hb12.mono G11.size)
                clear hb12
                clear hHeld
                go_wp2_with fail
                refine hK.out _ _ (HKP3.out _ G12) (fun hHeld => ?_)
                clear hK K
                try simp only [Act.put, List.setIfInBounds_toArray, List.set_cons_zero, List.set_cons_succ]
                refine wpAnyH_take (i := 8) (oi := { dst := some 135, op := Op.move (Operand.tmp 134), type := 4, pos := "plain.go:81", after := #[{ on := 7, ground := Ground.data }, { on := 7, ground := Ground.chain }], guard := none }) (v := ?_) rfl (by kernel_rfl) (by kernel_rfl) (by kernel_rfl) (fun _ _ _ h => h) (Or.inl ⟨by rfl, ?hy⟩) hHeld ?_
                case hy => (intro w hSw; (try dsimp only at hSw); obtain ⟨_, _⟩ := hSw; go_simp; all_goals (with_reducible rfl))
                try simp only [Act.put, List.setIfInBounds_toArray, List.set_cons_zero, List.set_cons_succ]
                refine wpAnyH_ready (rs := [9]) (by kernel_rfl) (by simp) ?_
                refine AllReadyH.cons (o := { dst := some 136, op := Op.call { callee := Callee.value (Operand.func 22), args := #[], argTypes := #[] }, type := 4, pos := "plain.go:81", after := #[{ on := 8, ground := Ground.chain }, { on := 8, ground := Ground.guard }], guard := some (8, true) }) rfl (fun K hK => ?_) AllReadyH.nil
                go_simp
                refine (HKN.out w12 (HV3.out.below G12)).mono ?_
                rintro e w13 ⟨rfl, hb13⟩
                have G13 := G12.trans (hb13.mono G12.size)
                clear hb13
                clear hHeld
                go_wp2_with fail
                refine hK.out _ _ (HKP3.out _ G13) (fun hHeld => ?_)
                clear hK K
                try simp only [Act.put, List.setIfInBounds_toArray, List.set_cons_zero, List.set_cons_succ]
                refine wpAnyH_take (i := 10) (oi := { dst := some 137, op := Op.pick (Operand.tmp 135) (Operand.tmp 136) (Operand.const (Value.bool false)), type := 4, pos := "plain.go:81", after := #[{ on := 8, ground := Ground.data }, { on := 9, ground := Ground.data }], guard := none }) (v := ?_) rfl (by kernel_rfl) (by kernel_rfl) (by kernel_rfl) (fun _ _ _ h => h) (Or.inl ⟨by rfl, ?hy⟩) hHeld ?_
                case hy => (intro w hSw; (try dsimp only at hSw); obtain ⟨_, _⟩ := hSw; go_simp; all_goals (with_reducible rfl))
                try simp only [Act.put, List.setIfInBounds_toArray, List.set_cons_zero, List.set_cons_succ]
                refine wpAnyH_take (i := 11) (oi := { dst := some 2, op := Op.assign (Operand.tmp 137), type := 4, pos := "plain.go:81", after := #[{ on := 10, ground := Ground.data }, { on := 9, ground := Ground.chain }, { on := 0, ground := Ground.phase }, { on := 1, ground := Ground.phase }, { on := 2, ground := Ground.phase }, { on := 3, ground := Ground.phase }, { on := 4, ground := Ground.phase }, { on := 5, ground := Ground.phase }, { on := 6, ground := Ground.phase }, { on := 7, ground := Ground.phase }, { on := 8, ground := Ground.phase }, { on := 9, ground := Ground.phase }, { on := 10, ground := Ground.phase }], guard := none }) (v := ?_) rfl (by kernel_rfl) (by kernel_rfl) (by kernel_rfl) (fun _ _ _ h => h) (Or.inl ⟨by rfl, ?hy⟩) hHeld ?_
                case hy => (intro w hSw; (try dsimp only at hSw); obtain ⟨_, _⟩ := hSw; go_simp; all_goals (with_reducible rfl))
                try simp only [Act.put, List.setIfInBounds_toArray, List.set_cons_zero, List.set_cons_succ]
                refine wpAnyH_done (by kernel_rfl) ?_ _
                go_wp2_with fail
                go_ret
                exact ⟨rfl, HBW.out.trans (G13.mono HBW.out.size)⟩
end Go.Proofs.YtjgiiciniplbnaaGreatDoor

namespace Go.Proofs.YtjgiiciniplbnaaGreatDoor.placeMinimal
open Go.ChangeShapes Go.WideShapes Go.ChangeAt Go.RowKit Go.WideMaps Go.WideElems
open Go.ChangeMaps (open_string shut_string)
set_option linter.unusedVariables false

set_option maxRecDepth 100000 in
theorem lifted (os : Os) (started : os.Started) (H : Type) (enc : TypeId × Value → H) :
    ReturnsInHanded {} Tryz.checked os 9 .any (fun w args => (Rows.placeMinimalSpec.pre enc Tryz.prog Tryz.f9 [] false w args ∧ laidMetH Tryz.prog laidA w) ∧ sizedMet enc Tryz.prog Tryz.f9 (OpenSpec.ofChange Rows.placeMinimalSpec) false w args)
      (Rows.placeMinimalSpec.post enc Tryz.prog Tryz.f9 false true false false) := by
  refine returnsInHanded_of_change_and (C := Tryz.checked) (X := fun w _ => laidMetH Tryz.prog laidA w) (fun _ _ _ hh h => h.of_heap hh) ownD started (by kernel_rfl) Tryz.func9
    (ChangeSpec.witness_shaped (enc := enc) (C := Tryz.checked) (os := os) (X := fun w _ => laidMetH Tryz.prog laidA w) false (World.doorLaid Tryz.prog 24 os) #[.agg (u8s (List.replicate 32 0) ++ ([.slice none 0 0, .int .i64 0, .int .i64 0] : List Value)).toArray] 8 rfl (World.shaped_of_RefB (by kernel_rfl) (by kernel_rfl)) (by kernel_rfl) (by kernel_rfl) (by kernel_rfl) (door_metA os _)) ?_
  intro W base args ds gs before hval0 hW _ _ hL _
  have hval : ∀ (j : Nat) t v, Tryz.f9.params[j]? = some t → args[j]? = some v → Value.okWide Tryz.prog W .any base t v := hval0
  have hW' := hW
  obtain ⟨p, q, hA0, hV, rfl, hfz, hnd⟩ := hW
  have hA : DataW.TrodAll enc Tryz.prog W 0 (fun _ => true) true Tryz.f9.params.toList args.toList ds p := hA0
  rw [Tryz.params9] at hA hval
  obtain ⟨v0, vs0, d0, ds0, p0, q0, hargs, rfl, rfl, h0, r0⟩ := trodAll_cons hA
  obtain ⟨rfl, rfl, rfl⟩ := trodAll_nil r0
  obtain rfl : args = #[v0] := by cases args; simp_all
  obtain ⟨rfl, rfl⟩ := trodVars_none hV
  have k0 := h0
  have lt0 : ∀ x ∈ p0, x.block < W.heap.size := by obtain ⟨m, hm⟩ := k0; exact DataW.trod_lt m _ _ _ hm
  obtain ⟨od0, a00, n00, c00, l00, x01, x02, rfl, ho0, hl0, w00, w01, w02⟩ := open_live (hval 0 93 v0 rfl rfl) h0
  clear hA0 hval0
  refine (minimal_walk W (vars_of_laid hL) od0 a00 n00 c00 l00 x01 x02 ho0 hl0 w00 w01 w02).mono fun e W' ⟨he, bel⟩ => ?_
  subst he
  exact ⟨_, rfl, _, _, _, [], _, [], hW', trodAll_mk1 (shut_bool Tryz.underlying4 _), (trodAll_cons_mk (Below.trod Facts.laidOut (by kernel_rfl) (of_decide_eq_true (by kernel_rfl)) k0 bel lt0) trodAll_mk0), rfl, bel.frame _, fun h => by cases h⟩

set_option maxHeartbeats 4000000 in
set_option maxRecDepth 1000000 in
theorem closed : joinedFacts Tryz.pinned.checked.prog 9 Tryz.f9 Rows.placeMinimalSpec Rows.placeMinimalRow = true := by
  unfold joinedFacts
  refine (Facts.and2 (Facts.and2 (Facts.and2 (Facts.and2 (Facts.and2 (Facts.and2 (Facts.and2 (Facts.and2 (Facts.and2 (Facts.and2 (Facts.and2 (Facts.and2 (Facts.and2 (Facts.and2 (Facts.and2 (Facts.and2 (Facts.and2 (Facts.and2 (Facts.and2 (Facts.and2 (Facts.and2 (Facts.and2 (Facts.and2 (Facts.and2 (Facts.and2 (Facts.and2 (Facts.and2 (Facts.and2 (Facts.and2 (Facts.and2 (Facts.and2 ?_ Facts.laidOut) Facts.mapsR) ?_) ?_) ?_) Facts.stops) ?_) Facts.knobs) ?_) ?_) ?_) ?_) ?_) ?_) ?_) ?_) ?_) ?_) ?_) ?_) ?_) Facts.keys) ?_) Facts.heard) Facts.enter) ?_) ?_) ?_) ?_) ?_) ?_)
  all_goals (as_aux_lemma => kernel_rfl)

theorem over : Rows.placeMinimalRow.holds Tryz.pinned (OpenSpec.ofChange Rows.placeMinimalSpec) :=
  OpenClaim.holds_of_wide 9 Tryz.f9 rfl rfl rfl rfl rfl rfl rfl ⟨rfl, rfl, rfl, rfl, rfl⟩ rfl rfl rfl rfl rfl (by as_aux_lemma => kernel_rfl) Tryz.func9 closed
    (of_decide_eq_true (by as_aux_lemma => kernel_rfl)) (by unfold Func.isWrapper; first | (rw [if_pos (by decide +kernel)]; kernel_rfl) | (rw [if_neg (by decide +kernel)]; exact ⟨rfl, rfl⟩))
    (fun os started H enc _ => lifted os started H enc)
end Go.Proofs.YtjgiiciniplbnaaGreatDoor.placeMinimal
namespace Go.Proofs.YtjgiiciniplbnaaGreatDoor
open Go
set_option maxHeartbeats 4000000 in
set_option maxRecDepth 1000000 in
theorem placeMinimal_holds : Rows.PlaceMinimalCardSaid :=
  Claim7.holds_tied_plain_at .later [] [.data, .data] true (true, "4a085e94ccebdf24e9b63843c722f4a968f2e6f610b760c9b6f284c344973c54") false
    placeMinimal.over (fun _ h => by cases h) (by as_aux_lemma => kernel_rfl) (fun _ h => by cases h) placeMinimal_row_tie rfl ⟨rfl, rfl⟩ (by as_aux_lemma => kernel_rfl) rfl
    (fun f fn hf hfn => by
      obtain rfl : f = 9 := Option.some.inj ((show Tryz.prog.funcNamed "stolon/stolonlaw07.PlaceMinimal" = some 9 by as_aux_lemma => kernel_rfl).symm.trans hf) |>.symm
      obtain rfl : fn = Tryz.f9 := (Option.some.inj (Tryz.func9.symm.trans hfn)).symm
      exact ⟨by as_aux_lemma => kernel_rfl, fun j t ht => by
        rw [Tryz.params9] at ht
        rcases j with _ | j
        · obtain rfl : t = 93 := by simpa using ht.symm
          exact (show Tryz.prog.wantsStandIn 93 = false by as_aux_lemma => kernel_rfl)
        · simp at ht⟩)
    (by as_aux_lemma => kernel_rfl)
#print axioms placeMinimal_holds
end Go.Proofs.YtjgiiciniplbnaaGreatDoor
