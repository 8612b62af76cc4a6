/-
  DigestMemory: for every input the call returns true, and each argument reads behind it as before; the listed variables hold what the program's text lays (tied). No other condition.
-/
import Derived.Test.YtahnihihfheegaaDoorBb18
import Derived.Test.YtahnihihfheegaaDoorBb6
import Derived.Test.YtahnihihfheegaaDoorCards
import Derived.Test.YtahnihihfheegaaDoorTie
import Derived.ShutString
import Derived.ChangeOld
import Derived.Below
namespace Go.Proofs.YtahnihihfheegaaDoor
open Go Go.RowKit
set_option linter.unusedVariables false
set_option linter.unusedSimpArgs false

set_option maxRecDepth 100000 in
set_option maxHeartbeats 40000000 in
theorem memory_inD (W : World) (V : Vars W shaRound shaStart) (K N T I : Int) (da : Option Addr) (dl dc : Nat) (ld : List Nat) (mk mn mt ms : Int) (mo : List Nat) (ma : Option Addr) (mm mc : Nat) (pa : Option Addr) (pl pc : Nat) (ia : Option Addr) (il ic : Nat)
    (hd : Bs W (.slice da dl dc) ld) (hdc : dl ≤ dc) (hdn : da = none → dc = 0) :
    Calls Tryd.prog 7 #[.agg (cc K N T I (.slice da dl dc) mk mn mt ms mo (.slice ma mm mc) (.slice pa pl pc) (.slice ia il ic)).toArray] W fun e w' => e = .returned (.bool true) ∧ Below W.heap.size W w' := by
  have HK := hid (fun (wx : World) (b : Below W.heap.size W wx) => known_dg wx (V.below b))
  have hlow : 3 ≤ W.heap.size := V.lt
  have HV := hid V
  obtain ⟨w1, hw1⟩ : ∃ y, y = W.alloc (.cells (cc K N T I (.slice da dl dc) mk mn mt ms mo (.slice ma mm mc) (.slice pa pl pc) (.slice ia il ic)).toArray 31) := ⟨_, rfl⟩
  have HB1 := hid (show Below W.heap.size W w1 from by rw [hw1]; exact (Below.refl _ _).alloc (Nat.le_refl _) _)
  have hC : CaseAt w1 W.heap.size K N T I (.slice da dl dc) mk mn mt ms mo (.slice ma mm mc) (.slice pa pl pc) (.slice ia il ic) := by rw [hw1]; exact heap_new _ _
  have HC := hid hC
  have HDD := hid hd
  have HDN := hid hdn
  have HDL := hid (show ∀ y ∈ ld, y < 256 from by obtain ⟨_, _, _, h, _⟩ := hd; exact h)
  obtain ⟨CL, hCL⟩ : ∃ CL, CL = cc K N T I (.slice da dl dc) mk mn mt ms mo (.slice ma mm mc) (.slice pa pl pc) (.slice ia il ic) := ⟨_, rfl⟩
  rw [← hCL] at hw1 ⊢
  clear hd hdn hC hCL V
  go_enter Tryd.func7, Tryd.ntmps7
  go_upto_region 1 with fail
  change Code.wp _ _ _ _ (W.alloc (.cells CL.toArray 31))
  rw [← hw1]
  clear hw1
  go_cut [48] (fun v wx => ∃ wy, wy = wx ∧ wy = w1 ∧ ∃ r, v = .bool r ∧ (r = false → 1 ≤ K ∧ K ≤ N ∧ N ≤ T ∧ T ≤ 20 ∧ dl ≤ 2000))
  case first =>
    obtain ⟨e0, e1, e2, -, e4⟩ := HC.out.c
    by_cases c1 : K < 1
    · go_wp2_with fail
      go_meet
      exact ⟨_, rfl, rfl, true, rfl, fun h => by cases h⟩
    · by_cases c2 : N < K
      · go_wp2_with fail
        go_meet
        exact ⟨_, rfl, rfl, true, rfl, fun h => by cases h⟩
      · by_cases c3 : T < N
        · go_wp2_with fail
          go_meet
          exact ⟨_, rfl, rfl, true, rfl, fun h => by cases h⟩
        · by_cases c4 : 20 < T
          · go_wp2_with fail
            go_meet
            exact ⟨_, rfl, rfl, true, rfl, fun h => by cases h⟩
          · by_cases c5 : 2000 < dl
            · have c5' : (2000 : Int) < (dl : Int) := by omega
              go_wp2_with fail
              go_meet
              exact ⟨_, rfl, rfl, true, rfl, fun h => by cases h⟩
            · have c5' : ¬ (2000 : Int) < (dl : Int) := by omega
              go_wp2_with fail
              go_meet
              exact ⟨_, rfl, rfl, false, rfl, fun _ => by omega⟩
  case rest =>
  obtain ⟨w2, hw2, hw21, r, rfl, hrr⟩ := hcut
  subst hw2
  subst hw21
  cases r with
  | true =>
    clear hrr
    go_wp2_with fail
    refine (HK.out _ HB1.out).mono ?_
    rintro e w3 ⟨rfl, hb3⟩
    have HB3 := hid (HB1.out.trans (hb3.mono HB1.out.size))
    go_wp2
    go_ret
    exact ⟨rfl, HB3.out⟩
  | false =>
    have hok0 := hrr rfl
    clear hrr
    obtain ⟨k, rfl⟩ : ∃ q : Nat, K = (q : Int) := ⟨K.toNat, by omega⟩
    obtain ⟨n, rfl⟩ : ∃ q : Nat, N = (q : Int) := ⟨N.toNat, by omega⟩
    obtain ⟨t, rfl⟩ : ∃ q : Nat, T = (q : Int) := ⟨T.toNat, by omega⟩
    have hok : 1 ≤ k ∧ k ≤ n ∧ n ≤ t ∧ t ≤ 255 ∧ dl ≤ 8192 := by omega
    have ht20 : t ≤ 20 := by omega
    have hdl : dl ≤ 2000 := by omega
    have ht1 : 1 ≤ t := by omega
    clear hok0
    have hl2 := lt_of_heap HC.out
    go_wp2_with fail
    refine (newField_any _).mono ?_
    rintro e w3 ⟨rfl, hF, hb3⟩
    obtain ⟨fb, hfb0⟩ : ∃ y, y = w2.heap.size := ⟨_, rfl⟩
    rw [← hfb0] at hF
    have hWfb : W.heap.size ≤ fb := by omega
    have hWfb1 : W.heap.size < fb := by omega
    have hfbw3 : fb < w3.heap.size := lt_of_heap hF
    have HFw3 := hid (show Fld w3 fb from .inl hF)
    have HBw3 := hid (HB1.out.trans (hb3.mono HB1.out.size))
    have HCw3 := hid (show CaseAt w3 W.heap.size k n t I (.slice da dl dc) mk mn mt ms mo (.slice ma mm mc) (.slice pa pl pc) (.slice ia il ic) from (hb3.block _ hl2).trans HC.out)
    have hlw3 := lt_of_heap HCw3.out
    rw [← hfb0]
    clear hfb0 hF hb3 hl2
    have HKP := hid (show ∀ wx : World, Kept fb w3 wx → wx.cell? ⟨W.heap.size, 0, none⟩ = some (.int .i64 (k : Int)) ∧ wx.cell? ⟨W.heap.size, 1, none⟩ = some (.int .i64 (n : Int)) ∧ wx.cell? ⟨W.heap.size, 2, none⟩ = some (.int .i64 (t : Int)) ∧ wx.cell? ⟨W.heap.size, 4, none⟩ = some (.slice da dl dc) from fun wx b => by
      have h : CaseAt wx W.heap.size k n t I (.slice da dl dc) mk mn mt ms mo (.slice ma mm mc) (.slice pa pl pc) (.slice ia il ic) := (b.block _ hlw3 (by omega)).trans HCw3.out
      obtain ⟨f0, f1, f2, -, f4⟩ := h.c
      exact ⟨f0, f1, f2, f4⟩)
    have HD := hid (HDD.out.below HBw3.out)
    have hfb : fb < w3.heap.size := hfbw3
    have HMM := hid (fun (wx : World) (b : Below w3.heap.size w3 wx) a' c' (hd : Bs wx (.slice a' dl c') ld) (hc : dl ≤ c') (ho : Off fb (.slice a' dl c')) => make_post fb k n t dl c' a' ld wx (fld_belowA HFw3.out b) ((HV.out.below HBw3.out).below b) hd ho hc hok.1 hok.2.1 hok.2.2.1 hok.2.2.2.1 hok.2.2.2.2 (Nat.le_trans hlow hWfb))
    go_upto_region 4 with fail
    go_cut [4, 5, 6] (fun mv pv ev wx => ∃ wy, wy = wx ∧ ∃ mb M pw ew, mv = .pointer (some ⟨mb, 0, none⟩) ∧ pv = pw ∧ ev = ew ∧ Hid (MdX fb (MkPost fb k n t dl ld) mb M pw ew w3 wy))
    case first =>
      refine wp_region_held_drew (S := (fun wx => wx.cell? ⟨W.heap.size, 0, none⟩ = some (.int .i64 (k : Int)) ∧ wx.cell? ⟨W.heap.size, 1, none⟩ = some (.int .i64 (n : Int)) ∧ wx.cell? ⟨W.heap.size, 2, none⟩ = some (.int .i64 (t : Int)) ∧ wx.cell? ⟨W.heap.size, 4, none⟩ = some (.slice da dl dc))) (by kernel_rfl) (HKP.out _ (Kept.of_below (bel_drewN (Below.refl _ _) 1))) (fun hHeld => ?_)
      refine wpAnyH_take (i := 0) (oi := { dst := some 52, op := Op.move (Operand.tmp 3), type := 38, pos := "manifest.go:191", after := #[], guard := none }) (v := ?_) rfl (by kernel_rfl) (by kernel_rfl) (by kernel_rfl) (fun _ _ _ h => h) (Or.inl ⟨by rfl, ?hy⟩) hHeld ?_
      case hy => (intro w hSw; (try dsimp only at hSw); obtain ⟨_, _, _, _⟩ := hSw; go_simp; all_goals (with_reducible rfl))
      try simp only [Act.put, List.setIfInBounds_toArray, List.set_cons_zero, List.set_cons_succ]
      refine wpAnyH_take (i := 1) (oi := { dst := some 53, op := Op.fieldAddr 31 (Operand.tmp 1) 0, type := 0, pos := "manifest.go:191", after := #[], guard := none }) (v := ?_) rfl (by kernel_rfl) (by kernel_rfl) (by kernel_rfl) (fun _ _ _ h => h) (Or.inl ⟨by rfl, ?hy⟩) hHeld ?_
      case hy => (intro w hSw; (try dsimp only at hSw); obtain ⟨_, _, _, _⟩ := hSw; go_simp; all_goals (with_reducible rfl))
      try simp only [Act.put, List.setIfInBounds_toArray, List.set_cons_zero, List.set_cons_succ]
      refine wpAnyH_take (i := 2) (oi := { dst := some 54, op := Op.load 3 (Operand.tmp 53), type := 3, pos := "manifest.go:191", after := #[{ on := 1, ground := Ground.data }], guard := none }) (v := ?_) rfl (by kernel_rfl) (by kernel_rfl) (by kernel_rfl) (fun _ _ _ h => h) (Or.inl ⟨by rfl, ?hy⟩) hHeld ?_
      case hy => (intro w hSw; (try dsimp only at hSw); obtain ⟨_, _, _, _⟩ := hSw; go_simp; all_goals (with_reducible rfl))
      try simp only [Act.put, List.setIfInBounds_toArray, List.set_cons_zero, List.set_cons_succ]
      refine wpAnyH_take (i := 3) (oi := { dst := some 55, op := Op.fieldAddr 31 (Operand.tmp 1) 1, type := 0, pos := "manifest.go:191", after := #[], guard := none }) (v := ?_) rfl (by kernel_rfl) (by kernel_rfl) (by kernel_rfl) (fun _ _ _ h => h) (Or.inl ⟨by rfl, ?hy⟩) hHeld ?_
      case hy => (intro w hSw; (try dsimp only at hSw); obtain ⟨_, _, _, _⟩ := hSw; go_simp; all_goals (with_reducible rfl))
      try simp only [Act.put, List.setIfInBounds_toArray, List.set_cons_zero, List.set_cons_succ]
      refine wpAnyH_take (i := 4) (oi := { dst := some 56, op := Op.load 3 (Operand.tmp 55), type := 3, pos := "manifest.go:191", after := #[{ on := 3, ground := Ground.data }], guard := none }) (v := ?_) rfl (by kernel_rfl) (by kernel_rfl) (by kernel_rfl) (fun _ _ _ h => h) (Or.inl ⟨by rfl, ?hy⟩) hHeld ?_
      case hy => (intro w hSw; (try dsimp only at hSw); obtain ⟨_, _, _, _⟩ := hSw; go_simp; all_goals (with_reducible rfl))
      try simp only [Act.put, List.setIfInBounds_toArray, List.set_cons_zero, List.set_cons_succ]
      refine wpAnyH_take (i := 5) (oi := { dst := some 57, op := Op.fieldAddr 31 (Operand.tmp 1) 2, type := 0, pos := "manifest.go:191", after := #[], guard := none }) (v := ?_) rfl (by kernel_rfl) (by kernel_rfl) (by kernel_rfl) (fun _ _ _ h => h) (Or.inl ⟨by rfl, ?hy⟩) hHeld ?_
      case hy => (intro w hSw; (try dsimp only at hSw); obtain ⟨_, _, _, _⟩ := hSw; go_simp; all_goals (with_reducible rfl))
      try simp only [Act.put, List.setIfInBounds_toArray, List.set_cons_zero, List.set_cons_succ]
      refine wpAnyH_take (i := 6) (oi := { dst := some 58, op := Op.load 3 (Operand.tmp 57), type := 3, pos := "manifest.go:191", after := #[{ on := 5, ground := Ground.data }], guard := none }) (v := ?_) rfl (by kernel_rfl) (by kernel_rfl) (by kernel_rfl) (fun _ _ _ h => h) (Or.inl ⟨by rfl, ?hy⟩) hHeld ?_
      case hy => (intro w hSw; (try dsimp only at hSw); obtain ⟨_, _, _, _⟩ := hSw; go_simp; all_goals (with_reducible rfl))
      try simp only [Act.put, List.setIfInBounds_toArray, List.set_cons_zero, List.set_cons_succ]
      refine wpAnyH_take (i := 8) (oi := { dst := some 60, op := Op.fieldAddr 31 (Operand.tmp 1) 4, type := 0, pos := "manifest.go:191", after := #[], guard := none }) (v := ?_) rfl (by kernel_rfl) (by kernel_rfl) (by kernel_rfl) (fun _ _ _ h => h) (Or.inl ⟨by rfl, ?hy⟩) hHeld ?_
      case hy => (intro w hSw; (try dsimp only at hSw); obtain ⟨_, _, _, _⟩ := hSw; go_simp; all_goals (with_reducible rfl))
      try simp only [Act.put, List.setIfInBounds_toArray, List.set_cons_zero, List.set_cons_succ]
      refine wpAnyH_take (i := 9) (oi := { dst := some 61, op := Op.load 22 (Operand.tmp 60), type := 22, pos := "manifest.go:191", after := #[{ on := 8, ground := Ground.data }], guard := none }) (v := ?_) rfl (by kernel_rfl) (by kernel_rfl) (by kernel_rfl) (fun _ _ _ h => h) (Or.inl ⟨by rfl, ?hy⟩) hHeld ?_
      case hy => (intro w hSw; (try dsimp only at hSw); obtain ⟨_, _, _, _⟩ := hSw; go_simp; all_goals (with_reducible rfl))
      try simp only [Act.put, List.setIfInBounds_toArray, List.set_cons_zero, List.set_cons_succ]
      refine wpAnyH_ready (rs := [7, 16]) (by kernel_rfl) (by simp) ?_
      refine AllReadyH.cons (o := { dst := some 59, op := Op.buildSlice 22 0 #[], type := 22, pos := "manifest.go:191", after := #[], guard := none }) rfl (fun K hK => ?_) ?_
      · skip
        refine step_build0 rfl rfl ?_
        intro g1 wm1 hge1 hE1 hb1 gl1
        have HB1 : Below w3.heap.size w3 wm1 := ((bel_drewN (Below.refl w3.heap.size w3) 1)).trans (hb1.mono ((bel_drewN (Below.refl w3.heap.size w3) 1)).size)
        have glo1 : w3.heap.size ≤ g1 := by rw [hge1]; exact ((bel_drewN (Below.refl w3.heap.size w3) 1)).size
        clear hge1
        refine hK.out _ _ (HKP.out _ (Kept.of_below HB1)) (fun hHeld => ?_)
        clear hK K
        have ZHB1 := hid HB1
        have ZhE1 := hid hE1
        try clear HB1 hE1
        try simp only [Act.put, List.setIfInBounds_toArray, List.set_cons_zero, List.set_cons_succ]
        refine wpAnyH_ready (rs := [10, 16]) (by kernel_rfl) (by simp) ?_
        refine AllReadyH.cons (o := { dst := some 62, op := Op.call { callee := Callee.builtin Builtin.append, args := #[Operand.tmp 59, Operand.tmp 61], argTypes := #[22, 22] }, type := 22, pos := "manifest.go:191", after := #[{ on := 7, ground := Ground.data }, { on := 9, ground := Ground.data }], guard := none }) rfl (fun K hK => ?_) ?_
        · skip
          refine step_own_bytes rfl (.tmp 59) (.tmp 61) rfl w3.heap.size g1 rfl (own_emptyM ZhE1.out glo1) da dl dc ld rfl (HD.out.below (ZHB1.out)) HDN.out (by omega) (ZHB1.out).size ?_
          intro v2 wm2 hdA2 hgA2
          have nil2 := hdA2
          obtain ⟨av2, cv2, ev2, -, hcv2, hbv2, hlow2⟩ := bs_of_owns hdA2 HDL.out
          subst ev2
          have HB2 : Below w3.heap.size w3 wm2 := (ZHB1.out).grown hgA2 (ZHB1.out).size (fun q hq => by have := glo1; simp at hq; omega)
          refine hK.out _ _ (HKP.out _ (Kept.of_below HB2)) (fun hHeld => ?_)
          clear hK K
          have ZHB2 := hid HB2
          have Zhbv2 := hid hbv2
          have Zhcv2 := hid hcv2
          have Zhlow2 := hid hlow2
          have ZhdA2 := hid hdA2
          try clear HB2 hbv2 hcv2 hlow2 hdA2
          try simp only [Act.put, List.setIfInBounds_toArray, List.set_cons_zero, List.set_cons_succ]
          refine wpAnyH_ready (rs := [11, 16]) (by kernel_rfl) (by simp) ?_
          refine AllReadyH.cons (o := { dst := some 63, op := Op.call { callee := Callee.value (Operand.func 20), args := #[Operand.tmp 52, Operand.tmp 54, Operand.tmp 56, Operand.tmp 58, Operand.tmp 62], argTypes := #[38, 3, 3, 3, 22] }, type := 50, pos := "manifest.go:191", after := #[{ on := 0, ground := Ground.data }, { on := 2, ground := Ground.data }, { on := 4, ground := Ground.data }, { on := 6, ground := Ground.data }, { on := 10, ground := Ground.data }, { on := 10, ground := Ground.chain }], guard := none }) rfl (fun K hK => ?_) ?_
          · skip
            go_simp
            refine (HMM.out wm2 (ZHB2.out) av2 cv2 (Zhbv2.out) Zhcv2.out (off_lowM (fun ad h => (Zhlow2.out ad h).1) hfb)).mono ?_
            rintro e wm3 ⟨M3, pv3, ev3, rfl, hP3, hk3, hI3, hZ3, hO3⟩
            have hKK3 : Kept fb w3 wm3 := (Kept.of_below (ZHB2.out)).trans hk3
            clear hHeld
            go_wp2_with fail
            refine hK.out _ _ (HKP.out _ hKK3) (fun hHeld => ?_)
            clear hK K
            have ZhKK3 := hid hKK3
            have ZhP3 := hid hP3
            have Zhk3 := hid hk3
            have ZhI3 := hid hI3
            have ZhZ3 := hid hZ3
            have ZhO3 := hid hO3
            try clear hKK3 hP3 hk3 hI3 hZ3 hO3
            try simp only [Act.put, List.setIfInBounds_toArray, List.set_cons_zero, List.set_cons_succ]
            refine wpAnyH_take (i := 12) (oi := { dst := some 51, op := Op.move (Operand.tmp 63), type := 50, pos := "manifest.go:191", after := #[{ on := 11, ground := Ground.data }], guard := none }) (v := ?_) rfl (by kernel_rfl) (by kernel_rfl) (by kernel_rfl) (fun _ _ _ h => h) (Or.inl ⟨by rfl, ?hy⟩) hHeld ?_
            case hy => (intro w hSw; (try dsimp only at hSw); obtain ⟨_, _, _, _⟩ := hSw; go_simp; all_goals (with_reducible rfl))
            try simp only [Act.put, List.setIfInBounds_toArray, List.set_cons_zero, List.set_cons_succ]
            refine wpAnyH_take (i := 13) (oi := { dst := some 64, op := Op.extract (Operand.tmp 51) 0, type := 27, pos := "manifest.go:191", after := #[{ on := 12, ground := Ground.data }], guard := none }) (v := ?_) rfl (by kernel_rfl) (by kernel_rfl) (by kernel_rfl) (fun _ _ _ h => h) (Or.inl ⟨by rfl, ?hy⟩) hHeld ?_
            case hy => (intro w hSw; (try dsimp only at hSw); obtain ⟨_, _, _, _⟩ := hSw; go_simp; all_goals (with_reducible rfl))
            try simp only [Act.put, List.setIfInBounds_toArray, List.set_cons_zero, List.set_cons_succ]
            refine wpAnyH_take (i := 14) (oi := { dst := some 65, op := Op.extract (Operand.tmp 51) 1, type := 28, pos := "manifest.go:191", after := #[{ on := 12, ground := Ground.data }, { on := 17, ground := Ground.gcOnly Departure.lateStores }], guard := none }) (v := ?_) rfl (by kernel_rfl) (by kernel_rfl) (by kernel_rfl) (fun _ _ _ h => h) (Or.inl ⟨by rfl, ?hy⟩) hHeld ?_
            case hy => (intro w hSw; (try dsimp only at hSw); obtain ⟨_, _, _, _⟩ := hSw; go_simp; all_goals (with_reducible rfl))
            try simp only [Act.put, List.setIfInBounds_toArray, List.set_cons_zero, List.set_cons_succ]
            refine wpAnyH_take (i := 15) (oi := { dst := some 66, op := Op.extract (Operand.tmp 51) 2, type := 35, pos := "manifest.go:191", after := #[{ on := 12, ground := Ground.data }, { on := 18, ground := Ground.gcOnly Departure.lateStores }], guard := none }) (v := ?_) rfl (by kernel_rfl) (by kernel_rfl) (by kernel_rfl) (fun _ _ _ h => h) (Or.inl ⟨by rfl, ?hy⟩) hHeld ?_
            case hy => (intro w hSw; (try dsimp only at hSw); obtain ⟨_, _, _, _⟩ := hSw; go_simp; all_goals (with_reducible rfl))
            try simp only [Act.put, List.setIfInBounds_toArray, List.set_cons_zero, List.set_cons_succ]
            refine wpAnyH_ready (rs := [16]) (by kernel_rfl) (by simp) ?_
            refine AllReadyH.cons (o := { dst := some 4, op := Op.alloc 27, type := 0, pos := "manifest.go:191", after := #[], guard := none }) rfl (fun K hK => ?_) AllReadyH.nil
            refine step_mkm rfl rfl ?_
            intro mb4 wm4 hmb4 hM4 hb4 ml4
            have hKK4 : Kept fb w3 wm4 := (ZhKK3.out).trans (Kept.of_below hb4)
            have mlo4 : w3.heap.size ≤ mb4 := by rw [hmb4]; exact (ZhKK3.out).size
            have Zhmb4 := hid hmb4
            clear hmb4
            refine hK.out _ _ (HKP.out _ hKK4) (fun hHeld => ?_)
            clear hK K
            have ZhM4 := hid hM4
            have ZhKK4 := hid hKK4
            try clear hM4 hKK4
            try simp only [Act.put, List.setIfInBounds_toArray, List.set_cons_zero, List.set_cons_succ]
            refine wpAnyH_ready (rs := [17]) (by kernel_rfl) (by simp) ?_
            refine AllReadyH.cons (o := { dst := none, op := Op.store 27 (Operand.tmp 4) (Operand.tmp 64), type := 0, pos := "manifest.go:191", after := #[{ on := 16, ground := Ground.data }, { on := 13, ground := Ground.data }, { on := 11, ground := Ground.chain }, { on := 0, ground := Ground.phase }, { on := 1, ground := Ground.phase }, { on := 2, ground := Ground.phase }, { on := 3, ground := Ground.phase }, { on := 4, ground := Ground.phase }, { on := 5, ground := Ground.phase }, { on := 6, ground := Ground.phase }, { on := 7, ground := Ground.phase }, { on := 8, ground := Ground.phase }, { on := 9, ground := Ground.phase }, { on := 10, ground := Ground.phase }, { on := 11, ground := Ground.phase }, { on := 12, ground := Ground.phase }, { on := 13, ground := Ground.phase }, { on := 14, ground := Ground.textOnly Departure.lateStores }, { on := 15, ground := Ground.textOnly Departure.lateStores }, { on := 16, ground := Ground.phase }], guard := none }) rfl (fun K hK => ?_) AllReadyH.nil
            refine step_store_row rfl 27 (.tmp 4) (.tmp 64) rfl mb4 mz M3 27 rfl rfl ZhM4.out ZhI3.out ZhZ3.out ZhO3.out ?_
            intro wz5 hz5 hkz5
            refine hK.out _ _ (HKP.out _ ((ZhKK4.out).fresh hkz5 mlo4)) (fun hHeld => ?_)
            clear hK K
            try simp only [Act.put, List.setIfInBounds_toArray, List.set_cons_zero, List.set_cons_succ]
            have LV := hid (mdx_late (fb := fb) (Post := (MkPost fb k n t dl ld)) (ZHB2.out) ZhP3.out Zhk3.out Zhmb4.out hb4 ml4 hz5 hkz5)
            refine wpAnyH_take (i := 18) (oi := { dst := some 5, op := Op.assign (Operand.tmp 65), type := 28, pos := "manifest.go:191", after := #[{ on := 14, ground := Ground.data }, { on := 17, ground := Ground.chain }, { on := 0, ground := Ground.phase }, { on := 1, ground := Ground.phase }, { on := 2, ground := Ground.phase }, { on := 3, ground := Ground.phase }, { on := 4, ground := Ground.phase }, { on := 5, ground := Ground.phase }, { on := 6, ground := Ground.phase }, { on := 7, ground := Ground.phase }, { on := 8, ground := Ground.phase }, { on := 9, ground := Ground.phase }, { on := 10, ground := Ground.phase }, { on := 11, ground := Ground.phase }, { on := 12, ground := Ground.phase }, { on := 13, ground := Ground.phase }, { on := 14, ground := Ground.phase }, { on := 15, ground := Ground.textOnly Departure.lateStores }, { on := 16, ground := Ground.phase }, { on := 17, ground := Ground.phase }], guard := none }) (v := ?_) rfl (by kernel_rfl) (by kernel_rfl) (by kernel_rfl) (fun _ _ _ h => h) (Or.inl ⟨by rfl, ?hy⟩) hHeld ?_
            case hy => (intro w hSw; (try dsimp only at hSw); obtain ⟨_, _, _, _⟩ := hSw; go_simp; all_goals (with_reducible rfl))
            try simp only [Act.put, List.setIfInBounds_toArray, List.set_cons_zero, List.set_cons_succ]
            refine wpAnyH_take (i := 19) (oi := { dst := some 6, op := Op.assign (Operand.tmp 66), type := 35, pos := "manifest.go:191", after := #[{ on := 15, ground := Ground.data }, { on := 18, ground := Ground.chain }, { on := 0, ground := Ground.phase }, { on := 1, ground := Ground.phase }, { on := 2, ground := Ground.phase }, { on := 3, ground := Ground.phase }, { on := 4, ground := Ground.phase }, { on := 5, ground := Ground.phase }, { on := 6, ground := Ground.phase }, { on := 7, ground := Ground.phase }, { on := 8, ground := Ground.phase }, { on := 9, ground := Ground.phase }, { on := 10, ground := Ground.phase }, { on := 11, ground := Ground.phase }, { on := 12, ground := Ground.phase }, { on := 13, ground := Ground.phase }, { on := 14, ground := Ground.phase }, { on := 15, ground := Ground.phase }, { on := 16, ground := Ground.phase }, { on := 17, ground := Ground.phase }, { on := 18, ground := Ground.phase }], guard := none }) (v := ?_) rfl (by kernel_rfl) (by kernel_rfl) (by kernel_rfl) (fun _ _ _ h => h) (Or.inl ⟨by rfl, ?hy⟩) hHeld ?_
            case hy => (intro w hSw; (try dsimp only at hSw); obtain ⟨_, _, _, _⟩ := hSw; go_simp; all_goals (with_reducible rfl))
            try simp only [Act.put, List.setIfInBounds_toArray, List.set_cons_zero, List.set_cons_succ]
            refine wpAnyH_done (by kernel_rfl) ?_ _
            go_wp2_with fail
            go_meet
            exact ⟨_, rfl, _, _, _, _, rfl, rfl, rfl, LV⟩
          refine AllReadyH.cons (o := { dst := some 4, op := Op.alloc 27, type := 0, pos := "manifest.go:191", after := #[], guard := none }) rfl (fun K hK => ?_) AllReadyH.nil
          refine step_mkm rfl rfl ?_
          intro mb6 wm6 hmb6 hM6 hb6 ml6
          have HB6 : Below w3.heap.size w3 wm6 := (ZHB2.out).trans (hb6.mono (ZHB2.out).size)
          have mlo6 : w3.heap.size ≤ mb6 := by rw [hmb6]; exact (ZHB2.out).size
          have hbv6 := (Zhbv2.out).below hb6
          have hown6 := owns_belowX ZhdA2.out hb6
          clear hmb6
          refine hK.out _ _ (HKP.out _ (Kept.of_below HB6)) (fun hHeld => ?_)
          clear hK K
          have ZHB6 := hid HB6
          have ZhM6 := hid hM6
          have Zhbv6 := hid hbv6
          have Zhown6 := hid hown6
          try clear HB6 hM6 hbv6 hown6
          try simp only [Act.put, List.setIfInBounds_toArray, List.set_cons_zero, List.set_cons_succ]
          refine wpAnyH_ready (rs := [11]) (by kernel_rfl) (by simp) ?_
          refine AllReadyH.cons (o := { dst := some 63, op := Op.call { callee := Callee.value (Operand.func 20), args := #[Operand.tmp 52, Operand.tmp 54, Operand.tmp 56, Operand.tmp 58, Operand.tmp 62], argTypes := #[38, 3, 3, 3, 22] }, type := 50, pos := "manifest.go:191", after := #[{ on := 0, ground := Ground.data }, { on := 2, ground := Ground.data }, { on := 4, ground := Ground.data }, { on := 6, ground := Ground.data }, { on := 10, ground := Ground.data }, { on := 10, ground := Ground.chain }], guard := none }) rfl (fun K hK => ?_) AllReadyH.nil
          go_simp
          refine (HMM.out wm6 (ZHB6.out) av2 cv2 (Zhbv6.out) Zhcv2.out (off_lowM (fun ad h => (Zhlow2.out ad h).1) hfb)).mono ?_
          rintro e wm7 ⟨M7, pv7, ev7, rfl, hP7, hk7, hI7, hZ7, hO7⟩
          have hKK7 : Kept fb w3 wm7 := (Kept.of_below (ZHB6.out)).trans hk7
          have hM7 := (hk7.block _ ml6 (by have := mlo6; omega)).trans ZhM6.out
          clear hHeld
          go_wp2_with fail
          refine hK.out _ _ (HKP.out _ hKK7) (fun hHeld => ?_)
          clear hK K
          have ZhM7 := hid hM7
          have ZhKK7 := hid hKK7
          have ZhP7 := hid hP7
          have Zhk7 := hid hk7
          have ZhI7 := hid hI7
          have ZhZ7 := hid hZ7
          have ZhO7 := hid hO7
          try clear hM7 hKK7 hP7 hk7 hI7 hZ7 hO7
          try simp only [Act.put, List.setIfInBounds_toArray, List.set_cons_zero, List.set_cons_succ]
          refine wpAnyH_take (i := 12) (oi := { dst := some 51, op := Op.move (Operand.tmp 63), type := 50, pos := "manifest.go:191", after := #[{ on := 11, ground := Ground.data }], guard := none }) (v := ?_) rfl (by kernel_rfl) (by kernel_rfl) (by kernel_rfl) (fun _ _ _ h => h) (Or.inl ⟨by rfl, ?hy⟩) hHeld ?_
          case hy => (intro w hSw; (try dsimp only at hSw); obtain ⟨_, _, _, _⟩ := hSw; go_simp; all_goals (with_reducible rfl))
          try simp only [Act.put, List.setIfInBounds_toArray, List.set_cons_zero, List.set_cons_succ]
          refine wpAnyH_take (i := 13) (oi := { dst := some 64, op := Op.extract (Operand.tmp 51) 0, type := 27, pos := "manifest.go:191", after := #[{ on := 12, ground := Ground.data }], guard := none }) (v := ?_) rfl (by kernel_rfl) (by kernel_rfl) (by kernel_rfl) (fun _ _ _ h => h) (Or.inl ⟨by rfl, ?hy⟩) hHeld ?_
          case hy => (intro w hSw; (try dsimp only at hSw); obtain ⟨_, _, _, _⟩ := hSw; go_simp; all_goals (with_reducible rfl))
          try simp only [Act.put, List.setIfInBounds_toArray, List.set_cons_zero, List.set_cons_succ]
          refine wpAnyH_take (i := 14) (oi := { dst := some 65, op := Op.extract (Operand.tmp 51) 1, type := 28, pos := "manifest.go:191", after := #[{ on := 12, ground := Ground.data }, { on := 17, ground := Ground.gcOnly Departure.lateStores }], guard := none }) (v := ?_) rfl (by kernel_rfl) (by kernel_rfl) (by kernel_rfl) (fun _ _ _ h => h) (Or.inl ⟨by rfl, ?hy⟩) hHeld ?_
          case hy => (intro w hSw; (try dsimp only at hSw); obtain ⟨_, _, _, _⟩ := hSw; go_simp; all_goals (with_reducible rfl))
          try simp only [Act.put, List.setIfInBounds_toArray, List.set_cons_zero, List.set_cons_succ]
          refine wpAnyH_take (i := 15) (oi := { dst := some 66, op := Op.extract (Operand.tmp 51) 2, type := 35, pos := "manifest.go:191", after := #[{ on := 12, ground := Ground.data }, { on := 18, ground := Ground.gcOnly Departure.lateStores }], guard := none }) (v := ?_) rfl (by kernel_rfl) (by kernel_rfl) (by kernel_rfl) (fun _ _ _ h => h) (Or.inl ⟨by rfl, ?hy⟩) hHeld ?_
          case hy => (intro w hSw; (try dsimp only at hSw); obtain ⟨_, _, _, _⟩ := hSw; go_simp; all_goals (with_reducible rfl))
          try simp only [Act.put, List.setIfInBounds_toArray, List.set_cons_zero, List.set_cons_succ]
          refine wpAnyH_ready (rs := [17]) (by kernel_rfl) (by simp) ?_
          refine AllReadyH.cons (o := { dst := none, op := Op.store 27 (Operand.tmp 4) (Operand.tmp 64), type := 0, pos := "manifest.go:191", after := #[{ on := 16, ground := Ground.data }, { on := 13, ground := Ground.data }, { on := 11, ground := Ground.chain }, { on := 0, ground := Ground.phase }, { on := 1, ground := Ground.phase }, { on := 2, ground := Ground.phase }, { on := 3, ground := Ground.phase }, { on := 4, ground := Ground.phase }, { on := 5, ground := Ground.phase }, { on := 6, ground := Ground.phase }, { on := 7, ground := Ground.phase }, { on := 8, ground := Ground.phase }, { on := 9, ground := Ground.phase }, { on := 10, ground := Ground.phase }, { on := 11, ground := Ground.phase }, { on := 12, ground := Ground.phase }, { on := 13, ground := Ground.phase }, { on := 14, ground := Ground.textOnly Departure.lateStores }, { on := 15, ground := Ground.textOnly Departure.lateStores }, { on := 16, ground := Ground.phase }], guard := none }) rfl (fun K hK => ?_) AllReadyH.nil
          refine step_store_row rfl 27 (.tmp 4) (.tmp 64) rfl mb6 mz M7 27 rfl rfl ZhM7.out ZhI7.out ZhZ7.out ZhO7.out ?_
          intro wz8 hz8 hkz8
          refine hK.out _ _ (HKP.out _ ((ZhKK7.out).fresh hkz8 mlo6)) (fun hHeld => ?_)
          clear hK K
          try simp only [Act.put, List.setIfInBounds_toArray, List.set_cons_zero, List.set_cons_succ]
          have LV := hid (mdx_early (fb := fb) (Post := (MkPost fb k n t dl ld)) (ZHB6.out) ZhP7.out Zhk7.out mlo6 ml6 hz8 hkz8)
          refine wpAnyH_take (i := 18) (oi := { dst := some 5, op := Op.assign (Operand.tmp 65), type := 28, pos := "manifest.go:191", after := #[{ on := 14, ground := Ground.data }, { on := 17, ground := Ground.chain }, { on := 0, ground := Ground.phase }, { on := 1, ground := Ground.phase }, { on := 2, ground := Ground.phase }, { on := 3, ground := Ground.phase }, { on := 4, ground := Ground.phase }, { on := 5, ground := Ground.phase }, { on := 6, ground := Ground.phase }, { on := 7, ground := Ground.phase }, { on := 8, ground := Ground.phase }, { on := 9, ground := Ground.phase }, { on := 10, ground := Ground.phase }, { on := 11, ground := Ground.phase }, { on := 12, ground := Ground.phase }, { on := 13, ground := Ground.phase }, { on := 14, ground := Ground.phase }, { on := 15, ground := Ground.textOnly Departure.lateStores }, { on := 16, ground := Ground.phase }, { on := 17, ground := Ground.phase }], guard := none }) (v := ?_) rfl (by kernel_rfl) (by kernel_rfl) (by kernel_rfl) (fun _ _ _ h => h) (Or.inl ⟨by rfl, ?hy⟩) hHeld ?_
          case hy => (intro w hSw; (try dsimp only at hSw); obtain ⟨_, _, _, _⟩ := hSw; go_simp; all_goals (with_reducible rfl))
          try simp only [Act.put, List.setIfInBounds_toArray, List.set_cons_zero, List.set_cons_succ]
          refine wpAnyH_take (i := 19) (oi := { dst := some 6, op := Op.assign (Operand.tmp 66), type := 35, pos := "manifest.go:191", after := #[{ on := 15, ground := Ground.data }, { on := 18, ground := Ground.chain }, { on := 0, ground := Ground.phase }, { on := 1, ground := Ground.phase }, { on := 2, ground := Ground.phase }, { on := 3, ground := Ground.phase }, { on := 4, ground := Ground.phase }, { on := 5, ground := Ground.phase }, { on := 6, ground := Ground.phase }, { on := 7, ground := Ground.phase }, { on := 8, ground := Ground.phase }, { on := 9, ground := Ground.phase }, { on := 10, ground := Ground.phase }, { on := 11, ground := Ground.phase }, { on := 12, ground := Ground.phase }, { on := 13, ground := Ground.phase }, { on := 14, ground := Ground.phase }, { on := 15, ground := Ground.phase }, { on := 16, ground := Ground.phase }, { on := 17, ground := Ground.phase }, { on := 18, ground := Ground.phase }], guard := none }) (v := ?_) rfl (by kernel_rfl) (by kernel_rfl) (by kernel_rfl) (fun _ _ _ h => h) (Or.inl ⟨by rfl, ?hy⟩) hHeld ?_
          case hy => (intro w hSw; (try dsimp only at hSw); obtain ⟨_, _, _, _⟩ := hSw; go_simp; all_goals (with_reducible rfl))
          try simp only [Act.put, List.setIfInBounds_toArray, List.set_cons_zero, List.set_cons_succ]
          refine wpAnyH_done (by kernel_rfl) ?_ _
          go_wp2_with fail
          go_meet
          exact ⟨_, rfl, _, _, _, _, rfl, rfl, rfl, LV⟩
        refine AllReadyH.cons (o := { dst := some 4, op := Op.alloc 27, type := 0, pos := "manifest.go:191", after := #[], guard := none }) rfl (fun K hK => ?_) AllReadyH.nil
        refine step_mkm rfl rfl ?_
        intro mb9 wm9 hmb9 hM9 hb9 ml9
        have HB9 : Below w3.heap.size w3 wm9 := (ZHB1.out).trans (hb9.mono (ZHB1.out).size)
        have mlo9 : w3.heap.size ≤ mb9 := by rw [hmb9]; exact (ZHB1.out).size
        have nmg9 : mb9 ≠ g1 := by have := gl1; omega
        have hE9 := (hb9.block _ gl1).trans ZhE1.out
        have gl9 := Nat.lt_of_lt_of_le gl1 hb9.size
        clear hmb9
        refine hK.out _ _ (HKP.out _ (Kept.of_below HB9)) (fun hHeld => ?_)
        clear hK K
        have ZHB9 := hid HB9
        have ZhE9 := hid hE9
        have ZhM9 := hid hM9
        try clear HB9 hE9 hM9
        try simp only [Act.put, List.setIfInBounds_toArray, List.set_cons_zero, List.set_cons_succ]
        refine wpAnyH_ready (rs := [10]) (by kernel_rfl) (by simp) ?_
        refine AllReadyH.cons (o := { dst := some 62, op := Op.call { callee := Callee.builtin Builtin.append, args := #[Operand.tmp 59, Operand.tmp 61], argTypes := #[22, 22] }, type := 22, pos := "manifest.go:191", after := #[{ on := 7, ground := Ground.data }, { on := 9, ground := Ground.data }], guard := none }) rfl (fun K hK => ?_) AllReadyH.nil
        refine step_own_bytes rfl (.tmp 59) (.tmp 61) rfl w3.heap.size g1 rfl (own_emptyM ZhE9.out glo1) da dl dc ld rfl (HD.out.below (ZHB9.out)) HDN.out (by omega) (ZHB9.out).size ?_
        intro v10 wm10 hdA10 hgA10
        have nil10 := hdA10
        obtain ⟨av10, cv10, ev10, -, hcv10, hbv10, hlow10⟩ := bs_of_owns hdA10 HDL.out
        subst ev10
        have HB10 : Below w3.heap.size w3 wm10 := (ZHB9.out).grown hgA10 (ZHB9.out).size (fun q hq => by have := glo1; simp at hq; omega)
        have hM10 := (hgA10.block _ ml9 (by simp; exact nmg9)).trans ZhM9.out
        have ml10 := Nat.lt_of_lt_of_le ml9 hgA10.size
        refine hK.out _ _ (HKP.out _ (Kept.of_below HB10)) (fun hHeld => ?_)
        clear hK K
        have ZHB10 := hid HB10
        have ZhM10 := hid hM10
        have Zhbv10 := hid hbv10
        have Zhcv10 := hid hcv10
        have Zhlow10 := hid hlow10
        have ZhdA10 := hid hdA10
        try clear HB10 hM10 hbv10 hcv10 hlow10 hdA10
        try simp only [Act.put, List.setIfInBounds_toArray, List.set_cons_zero, List.set_cons_succ]
        refine wpAnyH_ready (rs := [11]) (by kernel_rfl) (by simp) ?_
        refine AllReadyH.cons (o := { dst := some 63, op := Op.call { callee := Callee.value (Operand.func 20), args := #[Operand.tmp 52, Operand.tmp 54, Operand.tmp 56, Operand.tmp 58, Operand.tmp 62], argTypes := #[38, 3, 3, 3, 22] }, type := 50, pos := "manifest.go:191", after := #[{ on := 0, ground := Ground.data }, { on := 2, ground := Ground.data }, { on := 4, ground := Ground.data }, { on := 6, ground := Ground.data }, { on := 10, ground := Ground.data }, { on := 10, ground := Ground.chain }], guard := none }) rfl (fun K hK => ?_) AllReadyH.nil
        go_simp
        refine (HMM.out wm10 (ZHB10.out) av10 cv10 (Zhbv10.out) Zhcv10.out (off_lowM (fun ad h => (Zhlow10.out ad h).1) hfb)).mono ?_
        rintro e wm11 ⟨M11, pv11, ev11, rfl, hP11, hk11, hI11, hZ11, hO11⟩
        have hKK11 : Kept fb w3 wm11 := (Kept.of_below (ZHB10.out)).trans hk11
        have hM11 := (hk11.block _ ml10 (by have := mlo9; omega)).trans ZhM10.out
        clear hHeld
        go_wp2_with fail
        refine hK.out _ _ (HKP.out _ hKK11) (fun hHeld => ?_)
        clear hK K
        have ZhM11 := hid hM11
        have ZhKK11 := hid hKK11
        have ZhP11 := hid hP11
        have Zhk11 := hid hk11
        have ZhI11 := hid hI11
        have ZhZ11 := hid hZ11
        have ZhO11 := hid hO11
        try clear hM11 hKK11 hP11 hk11 hI11 hZ11 hO11
        try simp only [Act.put, List.setIfInBounds_toArray, List.set_cons_zero, List.set_cons_succ]
        refine wpAnyH_take (i := 12) (oi := { dst := some 51, op := Op.move (Operand.tmp 63), type := 50, pos := "manifest.go:191", after := #[{ on := 11, ground := Ground.data }], guard := none }) (v := ?_) rfl (by kernel_rfl) (by kernel_rfl) (by kernel_rfl) (fun _ _ _ h => h) (Or.inl ⟨by rfl, ?hy⟩) hHeld ?_
        case hy => (intro w hSw; (try dsimp only at hSw); obtain ⟨_, _, _, _⟩ := hSw; go_simp; all_goals (with_reducible rfl))
        try simp only [Act.put, List.setIfInBounds_toArray, List.set_cons_zero, List.set_cons_succ]
        refine wpAnyH_take (i := 13) (oi := { dst := some 64, op := Op.extract (Operand.tmp 51) 0, type := 27, pos := "manifest.go:191", after := #[{ on := 12, ground := Ground.data }], guard := none }) (v := ?_) rfl (by kernel_rfl) (by kernel_rfl) (by kernel_rfl) (fun _ _ _ h => h) (Or.inl ⟨by rfl, ?hy⟩) hHeld ?_
        case hy => (intro w hSw; (try dsimp only at hSw); obtain ⟨_, _, _, _⟩ := hSw; go_simp; all_goals (with_reducible rfl))
        try simp only [Act.put, List.setIfInBounds_toArray, List.set_cons_zero, List.set_cons_succ]
        refine wpAnyH_take (i := 14) (oi := { dst := some 65, op := Op.extract (Operand.tmp 51) 1, type := 28, pos := "manifest.go:191", after := #[{ on := 12, ground := Ground.data }, { on := 17, ground := Ground.gcOnly Departure.lateStores }], guard := none }) (v := ?_) rfl (by kernel_rfl) (by kernel_rfl) (by kernel_rfl) (fun _ _ _ h => h) (Or.inl ⟨by rfl, ?hy⟩) hHeld ?_
        case hy => (intro w hSw; (try dsimp only at hSw); obtain ⟨_, _, _, _⟩ := hSw; go_simp; all_goals (with_reducible rfl))
        try simp only [Act.put, List.setIfInBounds_toArray, List.set_cons_zero, List.set_cons_succ]
        refine wpAnyH_take (i := 15) (oi := { dst := some 66, op := Op.extract (Operand.tmp 51) 2, type := 35, pos := "manifest.go:191", after := #[{ on := 12, ground := Ground.data }, { on := 18, ground := Ground.gcOnly Departure.lateStores }], guard := none }) (v := ?_) rfl (by kernel_rfl) (by kernel_rfl) (by kernel_rfl) (fun _ _ _ h => h) (Or.inl ⟨by rfl, ?hy⟩) hHeld ?_
        case hy => (intro w hSw; (try dsimp only at hSw); obtain ⟨_, _, _, _⟩ := hSw; go_simp; all_goals (with_reducible rfl))
        try simp only [Act.put, List.setIfInBounds_toArray, List.set_cons_zero, List.set_cons_succ]
        refine wpAnyH_ready (rs := [17]) (by kernel_rfl) (by simp) ?_
        refine AllReadyH.cons (o := { dst := none, op := Op.store 27 (Operand.tmp 4) (Operand.tmp 64), type := 0, pos := "manifest.go:191", after := #[{ on := 16, ground := Ground.data }, { on := 13, ground := Ground.data }, { on := 11, ground := Ground.chain }, { on := 0, ground := Ground.phase }, { on := 1, ground := Ground.phase }, { on := 2, ground := Ground.phase }, { on := 3, ground := Ground.phase }, { on := 4, ground := Ground.phase }, { on := 5, ground := Ground.phase }, { on := 6, ground := Ground.phase }, { on := 7, ground := Ground.phase }, { on := 8, ground := Ground.phase }, { on := 9, ground := Ground.phase }, { on := 10, ground := Ground.phase }, { on := 11, ground := Ground.phase }, { on := 12, ground := Ground.phase }, { on := 13, ground := Ground.phase }, { on := 14, ground := Ground.textOnly Departure.lateStores }, { on := 15, ground := Ground.textOnly Departure.lateStores }, { on := 16, ground := Ground.phase }], guard := none }) rfl (fun K hK => ?_) AllReadyH.nil
        refine step_store_row rfl 27 (.tmp 4) (.tmp 64) rfl mb9 mz M11 27 rfl rfl ZhM11.out ZhI11.out ZhZ11.out ZhO11.out ?_
        intro wz12 hz12 hkz12
        refine hK.out _ _ (HKP.out _ ((ZhKK11.out).fresh hkz12 mlo9)) (fun hHeld => ?_)
        clear hK K
        try simp only [Act.put, List.setIfInBounds_toArray, List.set_cons_zero, List.set_cons_succ]
        have LV := hid (mdx_early (fb := fb) (Post := (MkPost fb k n t dl ld)) (ZHB10.out) ZhP11.out Zhk11.out mlo9 ml10 hz12 hkz12)
        refine wpAnyH_take (i := 18) (oi := { dst := some 5, op := Op.assign (Operand.tmp 65), type := 28, pos := "manifest.go:191", after := #[{ on := 14, ground := Ground.data }, { on := 17, ground := Ground.chain }, { on := 0, ground := Ground.phase }, { on := 1, ground := Ground.phase }, { on := 2, ground := Ground.phase }, { on := 3, ground := Ground.phase }, { on := 4, ground := Ground.phase }, { on := 5, ground := Ground.phase }, { on := 6, ground := Ground.phase }, { on := 7, ground := Ground.phase }, { on := 8, ground := Ground.phase }, { on := 9, ground := Ground.phase }, { on := 10, ground := Ground.phase }, { on := 11, ground := Ground.phase }, { on := 12, ground := Ground.phase }, { on := 13, ground := Ground.phase }, { on := 14, ground := Ground.phase }, { on := 15, ground := Ground.textOnly Departure.lateStores }, { on := 16, ground := Ground.phase }, { on := 17, ground := Ground.phase }], guard := none }) (v := ?_) rfl (by kernel_rfl) (by kernel_rfl) (by kernel_rfl) (fun _ _ _ h => h) (Or.inl ⟨by rfl, ?hy⟩) hHeld ?_
        case hy => (intro w hSw; (try dsimp only at hSw); obtain ⟨_, _, _, _⟩ := hSw; go_simp; all_goals (with_reducible rfl))
        try simp only [Act.put, List.setIfInBounds_toArray, List.set_cons_zero, List.set_cons_succ]
        refine wpAnyH_take (i := 19) (oi := { dst := some 6, op := Op.assign (Operand.tmp 66), type := 35, pos := "manifest.go:191", after := #[{ on := 15, ground := Ground.data }, { on := 18, ground := Ground.chain }, { on := 0, ground := Ground.phase }, { on := 1, ground := Ground.phase }, { on := 2, ground := Ground.phase }, { on := 3, ground := Ground.phase }, { on := 4, ground := Ground.phase }, { on := 5, ground := Ground.phase }, { on := 6, ground := Ground.phase }, { on := 7, ground := Ground.phase }, { on := 8, ground := Ground.phase }, { on := 9, ground := Ground.phase }, { on := 10, ground := Ground.phase }, { on := 11, ground := Ground.phase }, { on := 12, ground := Ground.phase }, { on := 13, ground := Ground.phase }, { on := 14, ground := Ground.phase }, { on := 15, ground := Ground.phase }, { on := 16, ground := Ground.phase }, { on := 17, ground := Ground.phase }, { on := 18, ground := Ground.phase }], guard := none }) (v := ?_) rfl (by kernel_rfl) (by kernel_rfl) (by kernel_rfl) (fun _ _ _ h => h) (Or.inl ⟨by rfl, ?hy⟩) hHeld ?_
        case hy => (intro w hSw; (try dsimp only at hSw); obtain ⟨_, _, _, _⟩ := hSw; go_simp; all_goals (with_reducible rfl))
        try simp only [Act.put, List.setIfInBounds_toArray, List.set_cons_zero, List.set_cons_succ]
        refine wpAnyH_done (by kernel_rfl) ?_ _
        go_wp2_with fail
        go_meet
        exact ⟨_, rfl, _, _, _, _, rfl, rfl, rfl, LV⟩
      refine AllReadyH.cons (o := { dst := some 4, op := Op.alloc 27, type := 0, pos := "manifest.go:191", after := #[], guard := none }) rfl (fun K hK => ?_) AllReadyH.nil
      refine step_mkm rfl rfl ?_
      intro mb13 wm13 hmb13 hM13 hb13 ml13
      have HB13 : Below w3.heap.size w3 wm13 := ((bel_drewN (Below.refl w3.heap.size w3) 1)).trans (hb13.mono ((bel_drewN (Below.refl w3.heap.size w3) 1)).size)
      have mlo13 : w3.heap.size ≤ mb13 := by rw [hmb13]; exact ((bel_drewN (Below.refl w3.heap.size w3) 1)).size
      clear hmb13
      refine hK.out _ _ (HKP.out _ (Kept.of_below HB13)) (fun hHeld => ?_)
      clear hK K
      have ZHB13 := hid HB13
      have ZhM13 := hid hM13
      try clear HB13 hM13
      try simp only [Act.put, List.setIfInBounds_toArray, List.set_cons_zero, List.set_cons_succ]
      refine wpAnyH_ready (rs := [7]) (by kernel_rfl) (by simp) ?_
      refine AllReadyH.cons (o := { dst := some 59, op := Op.buildSlice 22 0 #[], type := 22, pos := "manifest.go:191", after := #[], guard := none }) rfl (fun K hK => ?_) AllReadyH.nil
      refine step_build0 rfl rfl ?_
      intro g14 wm14 hge14 hE14 hb14 gl14
      have HB14 : Below w3.heap.size w3 wm14 := (ZHB13.out).trans (hb14.mono (ZHB13.out).size)
      have nmg14 : mb13 ≠ g14 := by have := ml13; omega
      have hM14 := (hb14.block _ ml13).trans ZhM13.out
      have ml14 := Nat.lt_of_lt_of_le ml13 hb14.size
      have glo14 : w3.heap.size ≤ g14 := by rw [hge14]; exact (ZHB13.out).size
      clear hge14
      refine hK.out _ _ (HKP.out _ (Kept.of_below HB14)) (fun hHeld => ?_)
      clear hK K
      have ZHB14 := hid HB14
      have ZhE14 := hid hE14
      have ZhM14 := hid hM14
      try clear HB14 hE14 hM14
      try simp only [Act.put, List.setIfInBounds_toArray, List.set_cons_zero, List.set_cons_succ]
      refine wpAnyH_ready (rs := [10]) (by kernel_rfl) (by simp) ?_
      refine AllReadyH.cons (o := { dst := some 62, op := Op.call { callee := Callee.builtin Builtin.append, args := #[Operand.tmp 59, Operand.tmp 61], argTypes := #[22, 22] }, type := 22, pos := "manifest.go:191", after := #[{ on := 7, ground := Ground.data }, { on := 9, ground := Ground.data }], guard := none }) rfl (fun K hK => ?_) AllReadyH.nil
      refine step_own_bytes rfl (.tmp 59) (.tmp 61) rfl w3.heap.size g14 rfl (own_emptyM ZhE14.out glo14) da dl dc ld rfl (HD.out.below (ZHB14.out)) HDN.out (by omega) (ZHB14.out).size ?_
      intro v15 wm15 hdA15 hgA15
      have nil15 := hdA15
      obtain ⟨av15, cv15, ev15, -, hcv15, hbv15, hlow15⟩ := bs_of_owns hdA15 HDL.out
      subst ev15
      have HB15 : Below w3.heap.size w3 wm15 := (ZHB14.out).grown hgA15 (ZHB14.out).size (fun q hq => by have := glo14; simp at hq; omega)
      have hM15 := (hgA15.block _ ml14 (by simp; exact nmg14)).trans ZhM14.out
      have ml15 := Nat.lt_of_lt_of_le ml14 hgA15.size
      refine hK.out _ _ (HKP.out _ (Kept.of_below HB15)) (fun hHeld => ?_)
      clear hK K
      have ZHB15 := hid HB15
      have ZhM15 := hid hM15
      have Zhbv15 := hid hbv15
      have Zhcv15 := hid hcv15
      have Zhlow15 := hid hlow15
      have ZhdA15 := hid hdA15
      try clear HB15 hM15 hbv15 hcv15 hlow15 hdA15
      try simp only [Act.put, List.setIfInBounds_toArray, List.set_cons_zero, List.set_cons_succ]
      refine wpAnyH_ready (rs := [11]) (by kernel_rfl) (by simp) ?_
      refine AllReadyH.cons (o := { dst := some 63, op := Op.call { callee := Callee.value (Operand.func 20), args := #[Operand.tmp 52, Operand.tmp 54, Operand.tmp 56, Operand.tmp 58, Operand.tmp 62], argTypes := #[38, 3, 3, 3, 22] }, type := 50, pos := "manifest.go:191", after := #[{ on := 0, ground := Ground.data }, { on := 2, ground := Ground.data }, { on := 4, ground := Ground.data }, { on := 6, ground := Ground.data }, { on := 10, ground := Ground.data }, { on := 10, ground := Ground.chain }], guard := none }) rfl (fun K hK => ?_) AllReadyH.nil
      go_simp
      refine (HMM.out wm15 (ZHB15.out) av15 cv15 (Zhbv15.out) Zhcv15.out (off_lowM (fun ad h => (Zhlow15.out ad h).1) hfb)).mono ?_
      rintro e wm16 ⟨M16, pv16, ev16, rfl, hP16, hk16, hI16, hZ16, hO16⟩
      have hKK16 : Kept fb w3 wm16 := (Kept.of_below (ZHB15.out)).trans hk16
      have hM16 := (hk16.block _ ml15 (by have := mlo13; omega)).trans ZhM15.out
      clear hHeld
      go_wp2_with fail
      refine hK.out _ _ (HKP.out _ hKK16) (fun hHeld => ?_)
      clear hK K
      have ZhM16 := hid hM16
      have ZhKK16 := hid hKK16
      have ZhP16 := hid hP16
      have Zhk16 := hid hk16
      have ZhI16 := hid hI16
      have ZhZ16 := hid hZ16
      have ZhO16 := hid hO16
      try clear hM16 hKK16 hP16 hk16 hI16 hZ16 hO16
      try simp only [Act.put, List.setIfInBounds_toArray, List.set_cons_zero, List.set_cons_succ]
      refine wpAnyH_take (i := 12) (oi := { dst := some 51, op := Op.move (Operand.tmp 63), type := 50, pos := "manifest.go:191", after := #[{ on := 11, ground := Ground.data }], guard := none }) (v := ?_) rfl (by kernel_rfl) (by kernel_rfl) (by kernel_rfl) (fun _ _ _ h => h) (Or.inl ⟨by rfl, ?hy⟩) hHeld ?_
      case hy => (intro w hSw; (try dsimp only at hSw); obtain ⟨_, _, _, _⟩ := hSw; go_simp; all_goals (with_reducible rfl))
      try simp only [Act.put, List.setIfInBounds_toArray, List.set_cons_zero, List.set_cons_succ]
      refine wpAnyH_take (i := 13) (oi := { dst := some 64, op := Op.extract (Operand.tmp 51) 0, type := 27, pos := "manifest.go:191", after := #[{ on := 12, ground := Ground.data }], guard := none }) (v := ?_) rfl (by kernel_rfl) (by kernel_rfl) (by kernel_rfl) (fun _ _ _ h => h) (Or.inl ⟨by rfl, ?hy⟩) hHeld ?_
      case hy => (intro w hSw; (try dsimp only at hSw); obtain ⟨_, _, _, _⟩ := hSw; go_simp; all_goals (with_reducible rfl))
      try simp only [Act.put, List.setIfInBounds_toArray, List.set_cons_zero, List.set_cons_succ]
      refine wpAnyH_take (i := 14) (oi := { dst := some 65, op := Op.extract (Operand.tmp 51) 1, type := 28, pos := "manifest.go:191", after := #[{ on := 12, ground := Ground.data }, { on := 17, ground := Ground.gcOnly Departure.lateStores }], guard := none }) (v := ?_) rfl (by kernel_rfl) (by kernel_rfl) (by kernel_rfl) (fun _ _ _ h => h) (Or.inl ⟨by rfl, ?hy⟩) hHeld ?_
      case hy => (intro w hSw; (try dsimp only at hSw); obtain ⟨_, _, _, _⟩ := hSw; go_simp; all_goals (with_reducible rfl))
      try simp only [Act.put, List.setIfInBounds_toArray, List.set_cons_zero, List.set_cons_succ]
      refine wpAnyH_take (i := 15) (oi := { dst := some 66, op := Op.extract (Operand.tmp 51) 2, type := 35, pos := "manifest.go:191", after := #[{ on := 12, ground := Ground.data }, { on := 18, ground := Ground.gcOnly Departure.lateStores }], guard := none }) (v := ?_) rfl (by kernel_rfl) (by kernel_rfl) (by kernel_rfl) (fun _ _ _ h => h) (Or.inl ⟨by rfl, ?hy⟩) hHeld ?_
      case hy => (intro w hSw; (try dsimp only at hSw); obtain ⟨_, _, _, _⟩ := hSw; go_simp; all_goals (with_reducible rfl))
      try simp only [Act.put, List.setIfInBounds_toArray, List.set_cons_zero, List.set_cons_succ]
      refine wpAnyH_ready (rs := [17]) (by kernel_rfl) (by simp) ?_
      refine AllReadyH.cons (o := { dst := none, op := Op.store 27 (Operand.tmp 4) (Operand.tmp 64), type := 0, pos := "manifest.go:191", after := #[{ on := 16, ground := Ground.data }, { on := 13, ground := Ground.data }, { on := 11, ground := Ground.chain }, { on := 0, ground := Ground.phase }, { on := 1, ground := Ground.phase }, { on := 2, ground := Ground.phase }, { on := 3, ground := Ground.phase }, { on := 4, ground := Ground.phase }, { on := 5, ground := Ground.phase }, { on := 6, ground := Ground.phase }, { on := 7, ground := Ground.phase }, { on := 8, ground := Ground.phase }, { on := 9, ground := Ground.phase }, { on := 10, ground := Ground.phase }, { on := 11, ground := Ground.phase }, { on := 12, ground := Ground.phase }, { on := 13, ground := Ground.phase }, { on := 14, ground := Ground.textOnly Departure.lateStores }, { on := 15, ground := Ground.textOnly Departure.lateStores }, { on := 16, ground := Ground.phase }], guard := none }) rfl (fun K hK => ?_) AllReadyH.nil
      refine step_store_row rfl 27 (.tmp 4) (.tmp 64) rfl mb13 mz M16 27 rfl rfl ZhM16.out ZhI16.out ZhZ16.out ZhO16.out ?_
      intro wz17 hz17 hkz17
      refine hK.out _ _ (HKP.out _ ((ZhKK16.out).fresh hkz17 mlo13)) (fun hHeld => ?_)
      clear hK K
      try simp only [Act.put, List.setIfInBounds_toArray, List.set_cons_zero, List.set_cons_succ]
      have LV := hid (mdx_early (fb := fb) (Post := (MkPost fb k n t dl ld)) (ZHB15.out) ZhP16.out Zhk16.out mlo13 ml15 hz17 hkz17)
      refine wpAnyH_take (i := 18) (oi := { dst := some 5, op := Op.assign (Operand.tmp 65), type := 28, pos := "manifest.go:191", after := #[{ on := 14, ground := Ground.data }, { on := 17, ground := Ground.chain }, { on := 0, ground := Ground.phase }, { on := 1, ground := Ground.phase }, { on := 2, ground := Ground.phase }, { on := 3, ground := Ground.phase }, { on := 4, ground := Ground.phase }, { on := 5, ground := Ground.phase }, { on := 6, ground := Ground.phase }, { on := 7, ground := Ground.phase }, { on := 8, ground := Ground.phase }, { on := 9, ground := Ground.phase }, { on := 10, ground := Ground.phase }, { on := 11, ground := Ground.phase }, { on := 12, ground := Ground.phase }, { on := 13, ground := Ground.phase }, { on := 14, ground := Ground.phase }, { on := 15, ground := Ground.textOnly Departure.lateStores }, { on := 16, ground := Ground.phase }, { on := 17, ground := Ground.phase }], guard := none }) (v := ?_) rfl (by kernel_rfl) (by kernel_rfl) (by kernel_rfl) (fun _ _ _ h => h) (Or.inl ⟨by rfl, ?hy⟩) hHeld ?_
      case hy => (intro w hSw; (try dsimp only at hSw); obtain ⟨_, _, _, _⟩ := hSw; go_simp; all_goals (with_reducible rfl))
      try simp only [Act.put, List.setIfInBounds_toArray, List.set_cons_zero, List.set_cons_succ]
      refine wpAnyH_take (i := 19) (oi := { dst := some 6, op := Op.assign (Operand.tmp 66), type := 35, pos := "manifest.go:191", after := #[{ on := 15, ground := Ground.data }, { on := 18, ground := Ground.chain }, { on := 0, ground := Ground.phase }, { on := 1, ground := Ground.phase }, { on := 2, ground := Ground.phase }, { on := 3, ground := Ground.phase }, { on := 4, ground := Ground.phase }, { on := 5, ground := Ground.phase }, { on := 6, ground := Ground.phase }, { on := 7, ground := Ground.phase }, { on := 8, ground := Ground.phase }, { on := 9, ground := Ground.phase }, { on := 10, ground := Ground.phase }, { on := 11, ground := Ground.phase }, { on := 12, ground := Ground.phase }, { on := 13, ground := Ground.phase }, { on := 14, ground := Ground.phase }, { on := 15, ground := Ground.phase }, { on := 16, ground := Ground.phase }, { on := 17, ground := Ground.phase }, { on := 18, ground := Ground.phase }], guard := none }) (v := ?_) rfl (by kernel_rfl) (by kernel_rfl) (by kernel_rfl) (fun _ _ _ h => h) (Or.inl ⟨by rfl, ?hy⟩) hHeld ?_
      case hy => (intro w hSw; (try dsimp only at hSw); obtain ⟨_, _, _, _⟩ := hSw; go_simp; all_goals (with_reducible rfl))
      try simp only [Act.put, List.setIfInBounds_toArray, List.set_cons_zero, List.set_cons_succ]
      refine wpAnyH_done (by kernel_rfl) ?_ _
      go_wp2_with fail
      go_meet
      exact ⟨_, rfl, _, _, _, _, rfl, rfl, rfl, LV⟩
    case rest =>
    obtain ⟨w4, hw4, mb1, M1, pv1, ev1, rfl, rfl, rfl, HX1⟩ := hcut
    subst hw4
    as_aux_lemma =>
    obtain ⟨g1, gd1, bf1, rfl, rfl, R1⟩ := HX1.out.good hfb
    have HR1 := hid R1
    have HBw4 := hid (HBw3.out.trans (R1.kept.below HBw3.out.size hWfb))
    have HCw4 := hid (show CaseAt w4 W.heap.size k n t I (.slice da dl dc) mk mn mt ms mo (.slice ma mm mc) (.slice pa pl pc) (.slice ia il ic) from (R1.kept.block _ hlw3 (by omega)).trans HCw3.out)
    have hlw4 := lt_of_heap HCw4.out
    have hfbw4 : fb < w4.heap.size := Nat.lt_of_lt_of_le hfb R1.kept.size
    have HFw4 := hid (show Fld w4 fb from .inr R1.built)
    clear R1 HX1 HKP HD HMM
    have HKP := hid (show ∀ wx : World, Kept fb w4 wx → wx.cell? ⟨W.heap.size, 0, none⟩ = some (.int .i64 (k : Int)) ∧ wx.cell? ⟨W.heap.size, 1, none⟩ = some (.int .i64 (n : Int)) ∧ wx.cell? ⟨W.heap.size, 2, none⟩ = some (.int .i64 (t : Int)) ∧ wx.cell? ⟨W.heap.size, 4, none⟩ = some (.slice da dl dc) from fun wx b => by
      have h : CaseAt wx W.heap.size k n t I (.slice da dl dc) mk mn mt ms mo (.slice ma mm mc) (.slice pa pl pc) (.slice ia il ic) := (b.block _ hlw4 (by omega)).trans HCw4.out
      obtain ⟨f0, f1, f2, -, f4⟩ := h.c
      exact ⟨f0, f1, f2, f4⟩)
    have HD := hid (HDD.out.below HBw4.out)
    have hfb : fb < w4.heap.size := hfbw4
    have HMM := hid (fun (wx : World) (b : Below w4.heap.size w4 wx) a' c' (hd : Bs wx (.slice a' dl c') ld) (hc : dl ≤ c') (ho : Off fb (.slice a' dl c')) => make_post fb k n t dl c' a' ld wx (fld_belowA HFw4.out b) ((HV.out.below HBw4.out).below b) hd ho hc hok.1 hok.2.1 hok.2.2.1 hok.2.2.2.1 hok.2.2.2.2 (Nat.le_trans hlow hWfb))
    go_upto_region 5 with fail
    go_cut [7, 8, 9] (fun mv pv ev wx => ∃ wy, wy = wx ∧ ∃ mb M pw ew, mv = .pointer (some ⟨mb, 0, none⟩) ∧ pv = pw ∧ ev = ew ∧ Hid (MdX fb (MkPost fb k n t dl ld) mb M pw ew w4 wy))
    case first =>
      refine wp_region_held_drew (S := (fun wx => wx.cell? ⟨W.heap.size, 0, none⟩ = some (.int .i64 (k : Int)) ∧ wx.cell? ⟨W.heap.size, 1, none⟩ = some (.int .i64 (n : Int)) ∧ wx.cell? ⟨W.heap.size, 2, none⟩ = some (.int .i64 (t : Int)) ∧ wx.cell? ⟨W.heap.size, 4, none⟩ = some (.slice da dl dc))) (by kernel_rfl) (HKP.out _ (Kept.of_below (bel_drewN (Below.refl _ _) 1))) (fun hHeld => ?_)
      refine wpAnyH_take (i := 0) (oi := { dst := some 68, op := Op.move (Operand.tmp 3), type := 38, pos := "manifest.go:192", after := #[], guard := none }) (v := ?_) rfl (by kernel_rfl) (by kernel_rfl) (by kernel_rfl) (fun _ _ _ h => h) (Or.inl ⟨by rfl, ?hy⟩) hHeld ?_
      case hy => (intro w hSw; (try dsimp only at hSw); obtain ⟨_, _, _, _⟩ := hSw; go_simp; all_goals (with_reducible rfl))
      try simp only [Act.put, List.setIfInBounds_toArray, List.set_cons_zero, List.set_cons_succ]
      refine wpAnyH_take (i := 1) (oi := { dst := some 69, op := Op.fieldAddr 31 (Operand.tmp 1) 0, type := 0, pos := "manifest.go:192", after := #[], guard := none }) (v := ?_) rfl (by kernel_rfl) (by kernel_rfl) (by kernel_rfl) (fun _ _ _ h => h) (Or.inl ⟨by rfl, ?hy⟩) hHeld ?_
      case hy => (intro w hSw; (try dsimp only at hSw); obtain ⟨_, _, _, _⟩ := hSw; go_simp; all_goals (with_reducible rfl))
      try simp only [Act.put, List.setIfInBounds_toArray, List.set_cons_zero, List.set_cons_succ]
      refine wpAnyH_take (i := 2) (oi := { dst := some 70, op := Op.load 3 (Operand.tmp 69), type := 3, pos := "manifest.go:192", after := #[{ on := 1, ground := Ground.data }], guard := none }) (v := ?_) rfl (by kernel_rfl) (by kernel_rfl) (by kernel_rfl) (fun _ _ _ h => h) (Or.inl ⟨by rfl, ?hy⟩) hHeld ?_
      case hy => (intro w hSw; (try dsimp only at hSw); obtain ⟨_, _, _, _⟩ := hSw; go_simp; all_goals (with_reducible rfl))
      try simp only [Act.put, List.setIfInBounds_toArray, List.set_cons_zero, List.set_cons_succ]
      refine wpAnyH_take (i := 3) (oi := { dst := some 71, op := Op.fieldAddr 31 (Operand.tmp 1) 1, type := 0, pos := "manifest.go:192", after := #[], guard := none }) (v := ?_) rfl (by kernel_rfl) (by kernel_rfl) (by kernel_rfl) (fun _ _ _ h => h) (Or.inl ⟨by rfl, ?hy⟩) hHeld ?_
      case hy => (intro w hSw; (try dsimp only at hSw); obtain ⟨_, _, _, _⟩ := hSw; go_simp; all_goals (with_reducible rfl))
      try simp only [Act.put, List.setIfInBounds_toArray, List.set_cons_zero, List.set_cons_succ]
      refine wpAnyH_take (i := 4) (oi := { dst := some 72, op := Op.load 3 (Operand.tmp 71), type := 3, pos := "manifest.go:192", after := #[{ on := 3, ground := Ground.data }], guard := none }) (v := ?_) rfl (by kernel_rfl) (by kernel_rfl) (by kernel_rfl) (fun _ _ _ h => h) (Or.inl ⟨by rfl, ?hy⟩) hHeld ?_
      case hy => (intro w hSw; (try dsimp only at hSw); obtain ⟨_, _, _, _⟩ := hSw; go_simp; all_goals (with_reducible rfl))
      try simp only [Act.put, List.setIfInBounds_toArray, List.set_cons_zero, List.set_cons_succ]
      refine wpAnyH_take (i := 5) (oi := { dst := some 73, op := Op.fieldAddr 31 (Operand.tmp 1) 2, type := 0, pos := "manifest.go:192", after := #[], guard := none }) (v := ?_) rfl (by kernel_rfl) (by kernel_rfl) (by kernel_rfl) (fun _ _ _ h => h) (Or.inl ⟨by rfl, ?hy⟩) hHeld ?_
      case hy => (intro w hSw; (try dsimp only at hSw); obtain ⟨_, _, _, _⟩ := hSw; go_simp; all_goals (with_reducible rfl))
      try simp only [Act.put, List.setIfInBounds_toArray, List.set_cons_zero, List.set_cons_succ]
      refine wpAnyH_take (i := 6) (oi := { dst := some 74, op := Op.load 3 (Operand.tmp 73), type := 3, pos := "manifest.go:192", after := #[{ on := 5, ground := Ground.data }], guard := none }) (v := ?_) rfl (by kernel_rfl) (by kernel_rfl) (by kernel_rfl) (fun _ _ _ h => h) (Or.inl ⟨by rfl, ?hy⟩) hHeld ?_
      case hy => (intro w hSw; (try dsimp only at hSw); obtain ⟨_, _, _, _⟩ := hSw; go_simp; all_goals (with_reducible rfl))
      try simp only [Act.put, List.setIfInBounds_toArray, List.set_cons_zero, List.set_cons_succ]
      refine wpAnyH_take (i := 8) (oi := { dst := some 76, op := Op.fieldAddr 31 (Operand.tmp 1) 4, type := 0, pos := "manifest.go:192", after := #[], guard := none }) (v := ?_) rfl (by kernel_rfl) (by kernel_rfl) (by kernel_rfl) (fun _ _ _ h => h) (Or.inl ⟨by rfl, ?hy⟩) hHeld ?_
      case hy => (intro w hSw; (try dsimp only at hSw); obtain ⟨_, _, _, _⟩ := hSw; go_simp; all_goals (with_reducible rfl))
      try simp only [Act.put, List.setIfInBounds_toArray, List.set_cons_zero, List.set_cons_succ]
      refine wpAnyH_take (i := 9) (oi := { dst := some 77, op := Op.load 22 (Operand.tmp 76), type := 22, pos := "manifest.go:192", after := #[{ on := 8, ground := Ground.data }], guard := none }) (v := ?_) rfl (by kernel_rfl) (by kernel_rfl) (by kernel_rfl) (fun _ _ _ h => h) (Or.inl ⟨by rfl, ?hy⟩) hHeld ?_
      case hy => (intro w hSw; (try dsimp only at hSw); obtain ⟨_, _, _, _⟩ := hSw; go_simp; all_goals (with_reducible rfl))
      try simp only [Act.put, List.setIfInBounds_toArray, List.set_cons_zero, List.set_cons_succ]
      refine wpAnyH_ready (rs := [7, 16]) (by kernel_rfl) (by simp) ?_
      refine AllReadyH.cons (o := { dst := some 75, op := Op.buildSlice 22 0 #[], type := 22, pos := "manifest.go:192", after := #[], guard := none }) rfl (fun K hK => ?_) ?_
      · skip
        refine step_build0 rfl rfl ?_
        intro g1 wm1 hge1 hE1 hb1 gl1
        have HB1 : Below w4.heap.size w4 wm1 := ((bel_drewN (Below.refl w4.heap.size w4) 1)).trans (hb1.mono ((bel_drewN (Below.refl w4.heap.size w4) 1)).size)
        have glo1 : w4.heap.size ≤ g1 := by rw [hge1]; exact ((bel_drewN (Below.refl w4.heap.size w4) 1)).size
        clear hge1
        refine hK.out _ _ (HKP.out _ (Kept.of_below HB1)) (fun hHeld => ?_)
        clear hK K
        have ZHB1 := hid HB1
        have ZhE1 := hid hE1
        try clear HB1 hE1
        try simp only [Act.put, List.setIfInBounds_toArray, List.set_cons_zero, List.set_cons_succ]
        refine wpAnyH_ready (rs := [10, 16]) (by kernel_rfl) (by simp) ?_
        refine AllReadyH.cons (o := { dst := some 78, op := Op.call { callee := Callee.builtin Builtin.append, args := #[Operand.tmp 75, Operand.tmp 77], argTypes := #[22, 22] }, type := 22, pos := "manifest.go:192", after := #[{ on := 7, ground := Ground.data }, { on := 9, ground := Ground.data }], guard := none }) rfl (fun K hK => ?_) ?_
        · skip
          refine step_own_bytes rfl (.tmp 75) (.tmp 77) rfl w4.heap.size g1 rfl (own_emptyM ZhE1.out glo1) da dl dc ld rfl (HD.out.below (ZHB1.out)) HDN.out (by omega) (ZHB1.out).size ?_
          intro v2 wm2 hdA2 hgA2
          have nil2 := hdA2
          obtain ⟨av2, cv2, ev2, -, hcv2, hbv2, hlow2⟩ := bs_of_owns hdA2 HDL.out
          subst ev2
          have HB2 : Below w4.heap.size w4 wm2 := (ZHB1.out).grown hgA2 (ZHB1.out).size (fun q hq => by have := glo1; simp at hq; omega)
          refine hK.out _ _ (HKP.out _ (Kept.of_below HB2)) (fun hHeld => ?_)
          clear hK K
          have ZHB2 := hid HB2
          have Zhbv2 := hid hbv2
          have Zhcv2 := hid hcv2
          have Zhlow2 := hid hlow2
          have ZhdA2 := hid hdA2
          try clear HB2 hbv2 hcv2 hlow2 hdA2
          try simp only [Act.put, List.setIfInBounds_toArray, List.set_cons_zero, List.set_cons_succ]
          refine wpAnyH_ready (rs := [11, 16]) (by kernel_rfl) (by simp) ?_
          refine AllReadyH.cons (o := { dst := some 79, op := Op.call { callee := Callee.value (Operand.func 20), args := #[Operand.tmp 68, Operand.tmp 70, Operand.tmp 72, Operand.tmp 74, Operand.tmp 78], argTypes := #[38, 3, 3, 3, 22] }, type := 50, pos := "manifest.go:192", after := #[{ on := 0, ground := Ground.data }, { on := 2, ground := Ground.data }, { on := 4, ground := Ground.data }, { on := 6, ground := Ground.data }, { on := 10, ground := Ground.data }, { on := 10, ground := Ground.chain }], guard := none }) rfl (fun K hK => ?_) ?_
          · skip
            go_simp
            refine (HMM.out wm2 (ZHB2.out) av2 cv2 (Zhbv2.out) Zhcv2.out (off_lowM (fun ad h => (Zhlow2.out ad h).1) hfb)).mono ?_
            rintro e wm3 ⟨M3, pv3, ev3, rfl, hP3, hk3, hI3, hZ3, hO3⟩
            have hKK3 : Kept fb w4 wm3 := (Kept.of_below (ZHB2.out)).trans hk3
            clear hHeld
            go_wp2_with fail
            refine hK.out _ _ (HKP.out _ hKK3) (fun hHeld => ?_)
            clear hK K
            have ZhKK3 := hid hKK3
            have ZhP3 := hid hP3
            have Zhk3 := hid hk3
            have ZhI3 := hid hI3
            have ZhZ3 := hid hZ3
            have ZhO3 := hid hO3
            try clear hKK3 hP3 hk3 hI3 hZ3 hO3
            try simp only [Act.put, List.setIfInBounds_toArray, List.set_cons_zero, List.set_cons_succ]
            refine wpAnyH_take (i := 12) (oi := { dst := some 67, op := Op.move (Operand.tmp 79), type := 50, pos := "manifest.go:192", after := #[{ on := 11, ground := Ground.data }], guard := none }) (v := ?_) rfl (by kernel_rfl) (by kernel_rfl) (by kernel_rfl) (fun _ _ _ h => h) (Or.inl ⟨by rfl, ?hy⟩) hHeld ?_
            case hy => (intro w hSw; (try dsimp only at hSw); obtain ⟨_, _, _, _⟩ := hSw; go_simp; all_goals (with_reducible rfl))
            try simp only [Act.put, List.setIfInBounds_toArray, List.set_cons_zero, List.set_cons_succ]
            refine wpAnyH_take (i := 13) (oi := { dst := some 80, op := Op.extract (Operand.tmp 67) 0, type := 27, pos := "manifest.go:192", after := #[{ on := 12, ground := Ground.data }], guard := none }) (v := ?_) rfl (by kernel_rfl) (by kernel_rfl) (by kernel_rfl) (fun _ _ _ h => h) (Or.inl ⟨by rfl, ?hy⟩) hHeld ?_
            case hy => (intro w hSw; (try dsimp only at hSw); obtain ⟨_, _, _, _⟩ := hSw; go_simp; all_goals (with_reducible rfl))
            try simp only [Act.put, List.setIfInBounds_toArray, List.set_cons_zero, List.set_cons_succ]
            refine wpAnyH_take (i := 14) (oi := { dst := some 81, op := Op.extract (Operand.tmp 67) 1, type := 28, pos := "manifest.go:192", after := #[{ on := 12, ground := Ground.data }, { on := 17, ground := Ground.gcOnly Departure.lateStores }], guard := none }) (v := ?_) rfl (by kernel_rfl) (by kernel_rfl) (by kernel_rfl) (fun _ _ _ h => h) (Or.inl ⟨by rfl, ?hy⟩) hHeld ?_
            case hy => (intro w hSw; (try dsimp only at hSw); obtain ⟨_, _, _, _⟩ := hSw; go_simp; all_goals (with_reducible rfl))
            try simp only [Act.put, List.setIfInBounds_toArray, List.set_cons_zero, List.set_cons_succ]
            refine wpAnyH_take (i := 15) (oi := { dst := some 82, op := Op.extract (Operand.tmp 67) 2, type := 35, pos := "manifest.go:192", after := #[{ on := 12, ground := Ground.data }, { on := 18, ground := Ground.gcOnly Departure.lateStores }], guard := none }) (v := ?_) rfl (by kernel_rfl) (by kernel_rfl) (by kernel_rfl) (fun _ _ _ h => h) (Or.inl ⟨by rfl, ?hy⟩) hHeld ?_
            case hy => (intro w hSw; (try dsimp only at hSw); obtain ⟨_, _, _, _⟩ := hSw; go_simp; all_goals (with_reducible rfl))
            try simp only [Act.put, List.setIfInBounds_toArray, List.set_cons_zero, List.set_cons_succ]
            refine wpAnyH_ready (rs := [16]) (by kernel_rfl) (by simp) ?_
            refine AllReadyH.cons (o := { dst := some 7, op := Op.alloc 27, type := 0, pos := "manifest.go:192", after := #[], guard := none }) rfl (fun K hK => ?_) AllReadyH.nil
            refine step_mkm rfl rfl ?_
            intro mb4 wm4 hmb4 hM4 hb4 ml4
            have hKK4 : Kept fb w4 wm4 := (ZhKK3.out).trans (Kept.of_below hb4)
            have mlo4 : w4.heap.size ≤ mb4 := by rw [hmb4]; exact (ZhKK3.out).size
            have Zhmb4 := hid hmb4
            clear hmb4
            refine hK.out _ _ (HKP.out _ hKK4) (fun hHeld => ?_)
            clear hK K
            have ZhM4 := hid hM4
            have ZhKK4 := hid hKK4
            try clear hM4 hKK4
            try simp only [Act.put, List.setIfInBounds_toArray, List.set_cons_zero, List.set_cons_succ]
            refine wpAnyH_ready (rs := [17]) (by kernel_rfl) (by simp) ?_
            refine AllReadyH.cons (o := { dst := none, op := Op.store 27 (Operand.tmp 7) (Operand.tmp 80), type := 0, pos := "manifest.go:192", after := #[{ on := 16, ground := Ground.data }, { on := 13, ground := Ground.data }, { on := 11, ground := Ground.chain }, { on := 0, ground := Ground.phase }, { on := 1, ground := Ground.phase }, { on := 2, ground := Ground.phase }, { on := 3, ground := Ground.phase }, { on := 4, ground := Ground.phase }, { on := 5, ground := Ground.phase }, { on := 6, ground := Ground.phase }, { on := 7, ground := Ground.phase }, { on := 8, ground := Ground.phase }, { on := 9, ground := Ground.phase }, { on := 10, ground := Ground.phase }, { on := 11, ground := Ground.phase }, { on := 12, ground := Ground.phase }, { on := 13, ground := Ground.phase }, { on := 14, ground := Ground.textOnly Departure.lateStores }, { on := 15, ground := Ground.textOnly Departure.lateStores }, { on := 16, ground := Ground.phase }], guard := none }) rfl (fun K hK => ?_) AllReadyH.nil
            refine step_store_row rfl 27 (.tmp 7) (.tmp 80) rfl mb4 mz M3 27 rfl rfl ZhM4.out ZhI3.out ZhZ3.out ZhO3.out ?_
            intro wz5 hz5 hkz5
            refine hK.out _ _ (HKP.out _ ((ZhKK4.out).fresh hkz5 mlo4)) (fun hHeld => ?_)
            clear hK K
            try simp only [Act.put, List.setIfInBounds_toArray, List.set_cons_zero, List.set_cons_succ]
            have LV := hid (mdx_late (fb := fb) (Post := (MkPost fb k n t dl ld)) (ZHB2.out) ZhP3.out Zhk3.out Zhmb4.out hb4 ml4 hz5 hkz5)
            refine wpAnyH_take (i := 18) (oi := { dst := some 8, op := Op.assign (Operand.tmp 81), type := 28, pos := "manifest.go:192", after := #[{ on := 14, ground := Ground.data }, { on := 17, ground := Ground.chain }, { on := 0, ground := Ground.phase }, { on := 1, ground := Ground.phase }, { on := 2, ground := Ground.phase }, { on := 3, ground := Ground.phase }, { on := 4, ground := Ground.phase }, { on := 5, ground := Ground.phase }, { on := 6, ground := Ground.phase }, { on := 7, ground := Ground.phase }, { on := 8, ground := Ground.phase }, { on := 9, ground := Ground.phase }, { on := 10, ground := Ground.phase }, { on := 11, ground := Ground.phase }, { on := 12, ground := Ground.phase }, { on := 13, ground := Ground.phase }, { on := 14, ground := Ground.phase }, { on := 15, ground := Ground.textOnly Departure.lateStores }, { on := 16, ground := Ground.phase }, { on := 17, ground := Ground.phase }], guard := none }) (v := ?_) rfl (by kernel_rfl) (by kernel_rfl) (by kernel_rfl) (fun _ _ _ h => h) (Or.inl ⟨by rfl, ?hy⟩) hHeld ?_
            case hy => (intro w hSw; (try dsimp only at hSw); obtain ⟨_, _, _, _⟩ := hSw; go_simp; all_goals (with_reducible rfl))
            try simp only [Act.put, List.setIfInBounds_toArray, List.set_cons_zero, List.set_cons_succ]
            refine wpAnyH_take (i := 19) (oi := { dst := some 9, op := Op.assign (Operand.tmp 82), type := 35, pos := "manifest.go:192", after := #[{ on := 15, ground := Ground.data }, { on := 18, ground := Ground.chain }, { on := 0, ground := Ground.phase }, { on := 1, ground := Ground.phase }, { on := 2, ground := Ground.phase }, { on := 3, ground := Ground.phase }, { on := 4, ground := Ground.phase }, { on := 5, ground := Ground.phase }, { on := 6, ground := Ground.phase }, { on := 7, ground := Ground.phase }, { on := 8, ground := Ground.phase }, { on := 9, ground := Ground.phase }, { on := 10, ground := Ground.phase }, { on := 11, ground := Ground.phase }, { on := 12, ground := Ground.phase }, { on := 13, ground := Ground.phase }, { on := 14, ground := Ground.phase }, { on := 15, ground := Ground.phase }, { on := 16, ground := Ground.phase }, { on := 17, ground := Ground.phase }, { on := 18, ground := Ground.phase }], guard := none }) (v := ?_) rfl (by kernel_rfl) (by kernel_rfl) (by kernel_rfl) (fun _ _ _ h => h) (Or.inl ⟨by rfl, ?hy⟩) hHeld ?_
            case hy => (intro w hSw; (try dsimp only at hSw); obtain ⟨_, _, _, _⟩ := hSw; go_simp; all_goals (with_reducible rfl))
            try simp only [Act.put, List.setIfInBounds_toArray, List.set_cons_zero, List.set_cons_succ]
            refine wpAnyH_done (by kernel_rfl) ?_ _
            go_wp2_with fail
            go_meet
            exact ⟨_, rfl, _, _, _, _, rfl, rfl, rfl, LV⟩
          refine AllReadyH.cons (o := { dst := some 7, op := Op.alloc 27, type := 0, pos := "manifest.go:192", after := #[], guard := none }) rfl (fun K hK => ?_) AllReadyH.nil
          refine step_mkm rfl rfl ?_
          intro mb6 wm6 hmb6 hM6 hb6 ml6
          have HB6 : Below w4.heap.size w4 wm6 := (ZHB2.out).trans (hb6.mono (ZHB2.out).size)
          have mlo6 : w4.heap.size ≤ mb6 := by rw [hmb6]; exact (ZHB2.out).size
          have hbv6 := (Zhbv2.out).below hb6
          have hown6 := owns_belowX ZhdA2.out hb6
          clear hmb6
          refine hK.out _ _ (HKP.out _ (Kept.of_below HB6)) (fun hHeld => ?_)
          clear hK K
          have ZHB6 := hid HB6
          have ZhM6 := hid hM6
          have Zhbv6 := hid hbv6
          have Zhown6 := hid hown6
          try clear HB6 hM6 hbv6 hown6
          try simp only [Act.put, List.setIfInBounds_toArray, List.set_cons_zero, List.set_cons_succ]
          refine wpAnyH_ready (rs := [11]) (by kernel_rfl) (by simp) ?_
          refine AllReadyH.cons (o := { dst := some 79, op := Op.call { callee := Callee.value (Operand.func 20), args := #[Operand.tmp 68, Operand.tmp 70, Operand.tmp 72, Operand.tmp 74, Operand.tmp 78], argTypes := #[38, 3, 3, 3, 22] }, type := 50, pos := "manifest.go:192", after := #[{ on := 0, ground := Ground.data }, { on := 2, ground := Ground.data }, { on := 4, ground := Ground.data }, { on := 6, ground := Ground.data }, { on := 10, ground := Ground.data }, { on := 10, ground := Ground.chain }], guard := none }) rfl (fun K hK => ?_) AllReadyH.nil
          go_simp
          refine (HMM.out wm6 (ZHB6.out) av2 cv2 (Zhbv6.out) Zhcv2.out (off_lowM (fun ad h => (Zhlow2.out ad h).1) hfb)).mono ?_
          rintro e wm7 ⟨M7, pv7, ev7, rfl, hP7, hk7, hI7, hZ7, hO7⟩
          have hKK7 : Kept fb w4 wm7 := (Kept.of_below (ZHB6.out)).trans hk7
          have hM7 := (hk7.block _ ml6 (by have := mlo6; omega)).trans ZhM6.out
          clear hHeld
          go_wp2_with fail
          refine hK.out _ _ (HKP.out _ hKK7) (fun hHeld => ?_)
          clear hK K
          have ZhM7 := hid hM7
          have ZhKK7 := hid hKK7
          have ZhP7 := hid hP7
          have Zhk7 := hid hk7
          have ZhI7 := hid hI7
          have ZhZ7 := hid hZ7
          have ZhO7 := hid hO7
          try clear hM7 hKK7 hP7 hk7 hI7 hZ7 hO7
          try simp only [Act.put, List.setIfInBounds_toArray, List.set_cons_zero, List.set_cons_succ]
          refine wpAnyH_take (i := 12) (oi := { dst := some 67, op := Op.move (Operand.tmp 79), type := 50, pos := "manifest.go:192", after := #[{ on := 11, ground := Ground.data }], guard := none }) (v := ?_) rfl (by kernel_rfl) (by kernel_rfl) (by kernel_rfl) (fun _ _ _ h => h) (Or.inl ⟨by rfl, ?hy⟩) hHeld ?_
          case hy => (intro w hSw; (try dsimp only at hSw); obtain ⟨_, _, _, _⟩ := hSw; go_simp; all_goals (with_reducible rfl))
          try simp only [Act.put, List.setIfInBounds_toArray, List.set_cons_zero, List.set_cons_succ]
          refine wpAnyH_take (i := 13) (oi := { dst := some 80, op := Op.extract (Operand.tmp 67) 0, type := 27, pos := "manifest.go:192", after := #[{ on := 12, ground := Ground.data }], guard := none }) (v := ?_) rfl (by kernel_rfl) (by kernel_rfl) (by kernel_rfl) (fun _ _ _ h => h) (Or.inl ⟨by rfl, ?hy⟩) hHeld ?_
          case hy => (intro w hSw; (try dsimp only at hSw); obtain ⟨_, _, _, _⟩ := hSw; go_simp; all_goals (with_reducible rfl))
          try simp only [Act.put, List.setIfInBounds_toArray, List.set_cons_zero, List.set_cons_succ]
          refine wpAnyH_take (i := 14) (oi := { dst := some 81, op := Op.extract (Operand.tmp 67) 1, type := 28, pos := "manifest.go:192", after := #[{ on := 12, ground := Ground.data }, { on := 17, ground := Ground.gcOnly Departure.lateStores }], guard := none }) (v := ?_) rfl (by kernel_rfl) (by kernel_rfl) (by kernel_rfl) (fun _ _ _ h => h) (Or.inl ⟨by rfl, ?hy⟩) hHeld ?_
          case hy => (intro w hSw; (try dsimp only at hSw); obtain ⟨_, _, _, _⟩ := hSw; go_simp; all_goals (with_reducible rfl))
          try simp only [Act.put, List.setIfInBounds_toArray, List.set_cons_zero, List.set_cons_succ]
          refine wpAnyH_take (i := 15) (oi := { dst := some 82, op := Op.extract (Operand.tmp 67) 2, type := 35, pos := "manifest.go:192", after := #[{ on := 12, ground := Ground.data }, { on := 18, ground := Ground.gcOnly Departure.lateStores }], guard := none }) (v := ?_) rfl (by kernel_rfl) (by kernel_rfl) (by kernel_rfl) (fun _ _ _ h => h) (Or.inl ⟨by rfl, ?hy⟩) hHeld ?_
          case hy => (intro w hSw; (try dsimp only at hSw); obtain ⟨_, _, _, _⟩ := hSw; go_simp; all_goals (with_reducible rfl))
          try simp only [Act.put, List.setIfInBounds_toArray, List.set_cons_zero, List.set_cons_succ]
          refine wpAnyH_ready (rs := [17]) (by kernel_rfl) (by simp) ?_
          refine AllReadyH.cons (o := { dst := none, op := Op.store 27 (Operand.tmp 7) (Operand.tmp 80), type := 0, pos := "manifest.go:192", after := #[{ on := 16, ground := Ground.data }, { on := 13, ground := Ground.data }, { on := 11, ground := Ground.chain }, { on := 0, ground := Ground.phase }, { on := 1, ground := Ground.phase }, { on := 2, ground := Ground.phase }, { on := 3, ground := Ground.phase }, { on := 4, ground := Ground.phase }, { on := 5, ground := Ground.phase }, { on := 6, ground := Ground.phase }, { on := 7, ground := Ground.phase }, { on := 8, ground := Ground.phase }, { on := 9, ground := Ground.phase }, { on := 10, ground := Ground.phase }, { on := 11, ground := Ground.phase }, { on := 12, ground := Ground.phase }, { on := 13, ground := Ground.phase }, { on := 14, ground := Ground.textOnly Departure.lateStores }, { on := 15, ground := Ground.textOnly Departure.lateStores }, { on := 16, ground := Ground.phase }], guard := none }) rfl (fun K hK => ?_) AllReadyH.nil
          refine step_store_row rfl 27 (.tmp 7) (.tmp 80) rfl mb6 mz M7 27 rfl rfl ZhM7.out ZhI7.out ZhZ7.out ZhO7.out ?_
          intro wz8 hz8 hkz8
          refine hK.out _ _ (HKP.out _ ((ZhKK7.out).fresh hkz8 mlo6)) (fun hHeld => ?_)
          clear hK K
          try simp only [Act.put, List.setIfInBounds_toArray, List.set_cons_zero, List.set_cons_succ]
          have LV := hid (mdx_early (fb := fb) (Post := (MkPost fb k n t dl ld)) (ZHB6.out) ZhP7.out Zhk7.out mlo6 ml6 hz8 hkz8)
          refine wpAnyH_take (i := 18) (oi := { dst := some 8, op := Op.assign (Operand.tmp 81), type := 28, pos := "manifest.go:192", after := #[{ on := 14, ground := Ground.data }, { on := 17, ground := Ground.chain }, { on := 0, ground := Ground.phase }, { on := 1, ground := Ground.phase }, { on := 2, ground := Ground.phase }, { on := 3, ground := Ground.phase }, { on := 4, ground := Ground.phase }, { on := 5, ground := Ground.phase }, { on := 6, ground := Ground.phase }, { on := 7, ground := Ground.phase }, { on := 8, ground := Ground.phase }, { on := 9, ground := Ground.phase }, { on := 10, ground := Ground.phase }, { on := 11, ground := Ground.phase }, { on := 12, ground := Ground.phase }, { on := 13, ground := Ground.phase }, { on := 14, ground := Ground.phase }, { on := 15, ground := Ground.textOnly Departure.lateStores }, { on := 16, ground := Ground.phase }, { on := 17, ground := Ground.phase }], guard := none }) (v := ?_) rfl (by kernel_rfl) (by kernel_rfl) (by kernel_rfl) (fun _ _ _ h => h) (Or.inl ⟨by rfl, ?hy⟩) hHeld ?_
          case hy => (intro w hSw; (try dsimp only at hSw); obtain ⟨_, _, _, _⟩ := hSw; go_simp; all_goals (with_reducible rfl))
          try simp only [Act.put, List.setIfInBounds_toArray, List.set_cons_zero, List.set_cons_succ]
          refine wpAnyH_take (i := 19) (oi := { dst := some 9, op := Op.assign (Operand.tmp 82), type := 35, pos := "manifest.go:192", after := #[{ on := 15, ground := Ground.data }, { on := 18, ground := Ground.chain }, { on := 0, ground := Ground.phase }, { on := 1, ground := Ground.phase }, { on := 2, ground := Ground.phase }, { on := 3, ground := Ground.phase }, { on := 4, ground := Ground.phase }, { on := 5, ground := Ground.phase }, { on := 6, ground := Ground.phase }, { on := 7, ground := Ground.phase }, { on := 8, ground := Ground.phase }, { on := 9, ground := Ground.phase }, { on := 10, ground := Ground.phase }, { on := 11, ground := Ground.phase }, { on := 12, ground := Ground.phase }, { on := 13, ground := Ground.phase }, { on := 14, ground := Ground.phase }, { on := 15, ground := Ground.phase }, { on := 16, ground := Ground.phase }, { on := 17, ground := Ground.phase }, { on := 18, ground := Ground.phase }], guard := none }) (v := ?_) rfl (by kernel_rfl) (by kernel_rfl) (by kernel_rfl) (fun _ _ _ h => h) (Or.inl ⟨by rfl, ?hy⟩) hHeld ?_
          case hy => (intro w hSw; (try dsimp only at hSw); obtain ⟨_, _, _, _⟩ := hSw; go_simp; all_goals (with_reducible rfl))
          try simp only [Act.put, List.setIfInBounds_toArray, List.set_cons_zero, List.set_cons_succ]
          refine wpAnyH_done (by kernel_rfl) ?_ _
          go_wp2_with fail
          go_meet
          exact ⟨_, rfl, _, _, _, _, rfl, rfl, rfl, LV⟩
        refine AllReadyH.cons (o := { dst := some 7, op := Op.alloc 27, type := 0, pos := "manifest.go:192", after := #[], guard := none }) rfl (fun K hK => ?_) AllReadyH.nil
        refine step_mkm rfl rfl ?_
        intro mb9 wm9 hmb9 hM9 hb9 ml9
        have HB9 : Below w4.heap.size w4 wm9 := (ZHB1.out).trans (hb9.mono (ZHB1.out).size)
        have mlo9 : w4.heap.size ≤ mb9 := by rw [hmb9]; exact (ZHB1.out).size
        have nmg9 : mb9 ≠ g1 := by have := gl1; omega
        have hE9 := (hb9.block _ gl1).trans ZhE1.out
        have gl9 := Nat.lt_of_lt_of_le gl1 hb9.size
        clear hmb9
        refine hK.out _ _ (HKP.out _ (Kept.of_below HB9)) (fun hHeld => ?_)
        clear hK K
        have ZHB9 := hid HB9
        have ZhE9 := hid hE9
        have ZhM9 := hid hM9
        try clear HB9 hE9 hM9
        try simp only [Act.put, List.setIfInBounds_toArray, List.set_cons_zero, List.set_cons_succ]
        refine wpAnyH_ready (rs := [10]) (by kernel_rfl) (by simp) ?_
        refine AllReadyH.cons (o := { dst := some 78, op := Op.call { callee := Callee.builtin Builtin.append, args := #[Operand.tmp 75, Operand.tmp 77], argTypes := #[22, 22] }, type := 22, pos := "manifest.go:192", after := #[{ on := 7, ground := Ground.data }, { on := 9, ground := Ground.data }], guard := none }) rfl (fun K hK => ?_) AllReadyH.nil
        refine step_own_bytes rfl (.tmp 75) (.tmp 77) rfl w4.heap.size g1 rfl (own_emptyM ZhE9.out glo1) da dl dc ld rfl (HD.out.below (ZHB9.out)) HDN.out (by omega) (ZHB9.out).size ?_
        intro v10 wm10 hdA10 hgA10
        have nil10 := hdA10
        obtain ⟨av10, cv10, ev10, -, hcv10, hbv10, hlow10⟩ := bs_of_owns hdA10 HDL.out
        subst ev10
        have HB10 : Below w4.heap.size w4 wm10 := (ZHB9.out).grown hgA10 (ZHB9.out).size (fun q hq => by have := glo1; simp at hq; omega)
        have hM10 := (hgA10.block _ ml9 (by simp; exact nmg9)).trans ZhM9.out
        have ml10 := Nat.lt_of_lt_of_le ml9 hgA10.size
        refine hK.out _ _ (HKP.out _ (Kept.of_below HB10)) (fun hHeld => ?_)
        clear hK K
        have ZHB10 := hid HB10
        have ZhM10 := hid hM10
        have Zhbv10 := hid hbv10
        have Zhcv10 := hid hcv10
        have Zhlow10 := hid hlow10
        have ZhdA10 := hid hdA10
        try clear HB10 hM10 hbv10 hcv10 hlow10 hdA10
        try simp only [Act.put, List.setIfInBounds_toArray, List.set_cons_zero, List.set_cons_succ]
        refine wpAnyH_ready (rs := [11]) (by kernel_rfl) (by simp) ?_
        refine AllReadyH.cons (o := { dst := some 79, op := Op.call { callee := Callee.value (Operand.func 20), args := #[Operand.tmp 68, Operand.tmp 70, Operand.tmp 72, Operand.tmp 74, Operand.tmp 78], argTypes := #[38, 3, 3, 3, 22] }, type := 50, pos := "manifest.go:192", after := #[{ on := 0, ground := Ground.data }, { on := 2, ground := Ground.data }, { on := 4, ground := Ground.data }, { on := 6, ground := Ground.data }, { on := 10, ground := Ground.data }, { on := 10, ground := Ground.chain }], guard := none }) rfl (fun K hK => ?_) AllReadyH.nil
        go_simp
        refine (HMM.out wm10 (ZHB10.out) av10 cv10 (Zhbv10.out) Zhcv10.out (off_lowM (fun ad h => (Zhlow10.out ad h).1) hfb)).mono ?_
        rintro e wm11 ⟨M11, pv11, ev11, rfl, hP11, hk11, hI11, hZ11, hO11⟩
        have hKK11 : Kept fb w4 wm11 := (Kept.of_below (ZHB10.out)).trans hk11
        have hM11 := (hk11.block _ ml10 (by have := mlo9; omega)).trans ZhM10.out
        clear hHeld
        go_wp2_with fail
        refine hK.out _ _ (HKP.out _ hKK11) (fun hHeld => ?_)
        clear hK K
        have ZhM11 := hid hM11
        have ZhKK11 := hid hKK11
        have ZhP11 := hid hP11
        have Zhk11 := hid hk11
        have ZhI11 := hid hI11
        have ZhZ11 := hid hZ11
        have ZhO11 := hid hO11
        try clear hM11 hKK11 hP11 hk11 hI11 hZ11 hO11
        try simp only [Act.put, List.setIfInBounds_toArray, List.set_cons_zero, List.set_cons_succ]
        refine wpAnyH_take (i := 12) (oi := { dst := some 67, op := Op.move (Operand.tmp 79), type := 50, pos := "manifest.go:192", after := #[{ on := 11, ground := Ground.data }], guard := none }) (v := ?_) rfl (by kernel_rfl) (by kernel_rfl) (by kernel_rfl) (fun _ _ _ h => h) (Or.inl ⟨by rfl, ?hy⟩) hHeld ?_
        case hy => (intro w hSw; (try dsimp only at hSw); obtain ⟨_, _, _, _⟩ := hSw; go_simp; all_goals (with_reducible rfl))
        try simp only [Act.put, List.setIfInBounds_toArray, List.set_cons_zero, List.set_cons_succ]
        refine wpAnyH_take (i := 13) (oi := { dst := some 80, op := Op.extract (Operand.tmp 67) 0, type := 27, pos := "manifest.go:192", after := #[{ on := 12, ground := Ground.data }], guard := none }) (v := ?_) rfl (by kernel_rfl) (by kernel_rfl) (by kernel_rfl) (fun _ _ _ h => h) (Or.inl ⟨by rfl, ?hy⟩) hHeld ?_
        case hy => (intro w hSw; (try dsimp only at hSw); obtain ⟨_, _, _, _⟩ := hSw; go_simp; all_goals (with_reducible rfl))
        try simp only [Act.put, List.setIfInBounds_toArray, List.set_cons_zero, List.set_cons_succ]
        refine wpAnyH_take (i := 14) (oi := { dst := some 81, op := Op.extract (Operand.tmp 67) 1, type := 28, pos := "manifest.go:192", after := #[{ on := 12, ground := Ground.data }, { on := 17, ground := Ground.gcOnly Departure.lateStores }], guard := none }) (v := ?_) rfl (by kernel_rfl) (by kernel_rfl) (by kernel_rfl) (fun _ _ _ h => h) (Or.inl ⟨by rfl, ?hy⟩) hHeld ?_
        case hy => (intro w hSw; (try dsimp only at hSw); obtain ⟨_, _, _, _⟩ := hSw; go_simp; all_goals (with_reducible rfl))
        try simp only [Act.put, List.setIfInBounds_toArray, List.set_cons_zero, List.set_cons_succ]
        refine wpAnyH_take (i := 15) (oi := { dst := some 82, op := Op.extract (Operand.tmp 67) 2, type := 35, pos := "manifest.go:192", after := #[{ on := 12, ground := Ground.data }, { on := 18, ground := Ground.gcOnly Departure.lateStores }], guard := none }) (v := ?_) rfl (by kernel_rfl) (by kernel_rfl) (by kernel_rfl) (fun _ _ _ h => h) (Or.inl ⟨by rfl, ?hy⟩) hHeld ?_
        case hy => (intro w hSw; (try dsimp only at hSw); obtain ⟨_, _, _, _⟩ := hSw; go_simp; all_goals (with_reducible rfl))
        try simp only [Act.put, List.setIfInBounds_toArray, List.set_cons_zero, List.set_cons_succ]
        refine wpAnyH_ready (rs := [17]) (by kernel_rfl) (by simp) ?_
        refine AllReadyH.cons (o := { dst := none, op := Op.store 27 (Operand.tmp 7) (Operand.tmp 80), type := 0, pos := "manifest.go:192", after := #[{ on := 16, ground := Ground.data }, { on := 13, ground := Ground.data }, { on := 11, ground := Ground.chain }, { on := 0, ground := Ground.phase }, { on := 1, ground := Ground.phase }, { on := 2, ground := Ground.phase }, { on := 3, ground := Ground.phase }, { on := 4, ground := Ground.phase }, { on := 5, ground := Ground.phase }, { on := 6, ground := Ground.phase }, { on := 7, ground := Ground.phase }, { on := 8, ground := Ground.phase }, { on := 9, ground := Ground.phase }, { on := 10, ground := Ground.phase }, { on := 11, ground := Ground.phase }, { on := 12, ground := Ground.phase }, { on := 13, ground := Ground.phase }, { on := 14, ground := Ground.textOnly Departure.lateStores }, { on := 15, ground := Ground.textOnly Departure.lateStores }, { on := 16, ground := Ground.phase }], guard := none }) rfl (fun K hK => ?_) AllReadyH.nil
        refine step_store_row rfl 27 (.tmp 7) (.tmp 80) rfl mb9 mz M11 27 rfl rfl ZhM11.out ZhI11.out ZhZ11.out ZhO11.out ?_
        intro wz12 hz12 hkz12
        refine hK.out _ _ (HKP.out _ ((ZhKK11.out).fresh hkz12 mlo9)) (fun hHeld => ?_)
        clear hK K
        try simp only [Act.put, List.setIfInBounds_toArray, List.set_cons_zero, List.set_cons_succ]
        have LV := hid (mdx_early (fb := fb) (Post := (MkPost fb k n t dl ld)) (ZHB10.out) ZhP11.out Zhk11.out mlo9 ml10 hz12 hkz12)
        refine wpAnyH_take (i := 18) (oi := { dst := some 8, op := Op.assign (Operand.tmp 81), type := 28, pos := "manifest.go:192", after := #[{ on := 14, ground := Ground.data }, { on := 17, ground := Ground.chain }, { on := 0, ground := Ground.phase }, { on := 1, ground := Ground.phase }, { on := 2, ground := Ground.phase }, { on := 3, ground := Ground.phase }, { on := 4, ground := Ground.phase }, { on := 5, ground := Ground.phase }, { on := 6, ground := Ground.phase }, { on := 7, ground := Ground.phase }, { on := 8, ground := Ground.phase }, { on := 9, ground := Ground.phase }, { on := 10, ground := Ground.phase }, { on := 11, ground := Ground.phase }, { on := 12, ground := Ground.phase }, { on := 13, ground := Ground.phase }, { on := 14, ground := Ground.phase }, { on := 15, ground := Ground.textOnly Departure.lateStores }, { on := 16, ground := Ground.phase }, { on := 17, ground := Ground.phase }], guard := none }) (v := ?_) rfl (by kernel_rfl) (by kernel_rfl) (by kernel_rfl) (fun _ _ _ h => h) (Or.inl ⟨by rfl, ?hy⟩) hHeld ?_
        case hy => (intro w hSw; (try dsimp only at hSw); obtain ⟨_, _, _, _⟩ := hSw; go_simp; all_goals (with_reducible rfl))
        try simp only [Act.put, List.setIfInBounds_toArray, List.set_cons_zero, List.set_cons_succ]
        refine wpAnyH_take (i := 19) (oi := { dst := some 9, op := Op.assign (Operand.tmp 82), type := 35, pos := "manifest.go:192", after := #[{ on := 15, ground := Ground.data }, { on := 18, ground := Ground.chain }, { on := 0, ground := Ground.phase }, { on := 1, ground := Ground.phase }, { on := 2, ground := Ground.phase }, { on := 3, ground := Ground.phase }, { on := 4, ground := Ground.phase }, { on := 5, ground := Ground.phase }, { on := 6, ground := Ground.phase }, { on := 7, ground := Ground.phase }, { on := 8, ground := Ground.phase }, { on := 9, ground := Ground.phase }, { on := 10, ground := Ground.phase }, { on := 11, ground := Ground.phase }, { on := 12, ground := Ground.phase }, { on := 13, ground := Ground.phase }, { on := 14, ground := Ground.phase }, { on := 15, ground := Ground.phase }, { on := 16, ground := Ground.phase }, { on := 17, ground := Ground.phase }, { on := 18, ground := Ground.phase }], guard := none }) (v := ?_) rfl (by kernel_rfl) (by kernel_rfl) (by kernel_rfl) (fun _ _ _ h => h) (Or.inl ⟨by rfl, ?hy⟩) hHeld ?_
        case hy => (intro w hSw; (try dsimp only at hSw); obtain ⟨_, _, _, _⟩ := hSw; go_simp; all_goals (with_reducible rfl))
        try simp only [Act.put, List.setIfInBounds_toArray, List.set_cons_zero, List.set_cons_succ]
        refine wpAnyH_done (by kernel_rfl) ?_ _
        go_wp2_with fail
        go_meet
        exact ⟨_, rfl, _, _, _, _, rfl, rfl, rfl, LV⟩
      refine AllReadyH.cons (o := { dst := some 7, op := Op.alloc 27, type := 0, pos := "manifest.go:192", after := #[], guard := none }) rfl (fun K hK => ?_) AllReadyH.nil
      refine step_mkm rfl rfl ?_
      intro mb13 wm13 hmb13 hM13 hb13 ml13
      have HB13 : Below w4.heap.size w4 wm13 := ((bel_drewN (Below.refl w4.heap.size w4) 1)).trans (hb13.mono ((bel_drewN (Below.refl w4.heap.size w4) 1)).size)
      have mlo13 : w4.heap.size ≤ mb13 := by rw [hmb13]; exact ((bel_drewN (Below.refl w4.heap.size w4) 1)).size
      clear hmb13
      refine hK.out _ _ (HKP.out _ (Kept.of_below HB13)) (fun hHeld => ?_)
      clear hK K
      have ZHB13 := hid HB13
      have ZhM13 := hid hM13
      try clear HB13 hM13
      try simp only [Act.put, List.setIfInBounds_toArray, List.set_cons_zero, List.set_cons_succ]
      refine wpAnyH_ready (rs := [7]) (by kernel_rfl) (by simp) ?_
      refine AllReadyH.cons (o := { dst := some 75, op := Op.buildSlice 22 0 #[], type := 22, pos := "manifest.go:192", after := #[], guard := none }) rfl (fun K hK => ?_) AllReadyH.nil
      refine step_build0 rfl rfl ?_
      intro g14 wm14 hge14 hE14 hb14 gl14
      have HB14 : Below w4.heap.size w4 wm14 := (ZHB13.out).trans (hb14.mono (ZHB13.out).size)
      have nmg14 : mb13 ≠ g14 := by have := ml13; omega
      have hM14 := (hb14.block _ ml13).trans ZhM13.out
      have ml14 := Nat.lt_of_lt_of_le ml13 hb14.size
      have glo14 : w4.heap.size ≤ g14 := by rw [hge14]; exact (ZHB13.out).size
      clear hge14
      refine hK.out _ _ (HKP.out _ (Kept.of_below HB14)) (fun hHeld => ?_)
      clear hK K
      have ZHB14 := hid HB14
      have ZhE14 := hid hE14
      have ZhM14 := hid hM14
      try clear HB14 hE14 hM14
      try simp only [Act.put, List.setIfInBounds_toArray, List.set_cons_zero, List.set_cons_succ]
      refine wpAnyH_ready (rs := [10]) (by kernel_rfl) (by simp) ?_
      refine AllReadyH.cons (o := { dst := some 78, op := Op.call { callee := Callee.builtin Builtin.append, args := #[Operand.tmp 75, Operand.tmp 77], argTypes := #[22, 22] }, type := 22, pos := "manifest.go:192", after := #[{ on := 7, ground := Ground.data }, { on := 9, ground := Ground.data }], guard := none }) rfl (fun K hK => ?_) AllReadyH.nil
      refine step_own_bytes rfl (.tmp 75) (.tmp 77) rfl w4.heap.size g14 rfl (own_emptyM ZhE14.out glo14) da dl dc ld rfl (HD.out.below (ZHB14.out)) HDN.out (by omega) (ZHB14.out).size ?_
      intro v15 wm15 hdA15 hgA15
      have nil15 := hdA15
      obtain ⟨av15, cv15, ev15, -, hcv15, hbv15, hlow15⟩ := bs_of_owns hdA15 HDL.out
      subst ev15
      have HB15 : Below w4.heap.size w4 wm15 := (ZHB14.out).grown hgA15 (ZHB14.out).size (fun q hq => by have := glo14; simp at hq; omega)
      have hM15 := (hgA15.block _ ml14 (by simp; exact nmg14)).trans ZhM14.out
      have ml15 := Nat.lt_of_lt_of_le ml14 hgA15.size
      refine hK.out _ _ (HKP.out _ (Kept.of_below HB15)) (fun hHeld => ?_)
      clear hK K
      have ZHB15 := hid HB15
      have ZhM15 := hid hM15
      have Zhbv15 := hid hbv15
      have Zhcv15 := hid hcv15
      have Zhlow15 := hid hlow15
      have ZhdA15 := hid hdA15
      try clear HB15 hM15 hbv15 hcv15 hlow15 hdA15
      try simp only [Act.put, List.setIfInBounds_toArray, List.set_cons_zero, List.set_cons_succ]
      refine wpAnyH_ready (rs := [11]) (by kernel_rfl) (by simp) ?_
      refine AllReadyH.cons (o := { dst := some 79, op := Op.call { callee := Callee.value (Operand.func 20), args := #[Operand.tmp 68, Operand.tmp 70, Operand.tmp 72, Operand.tmp 74, Operand.tmp 78], argTypes := #[38, 3, 3, 3, 22] }, type := 50, pos := "manifest.go:192", after := #[{ on := 0, ground := Ground.data }, { on := 2, ground := Ground.data }, { on := 4, ground := Ground.data }, { on := 6, ground := Ground.data }, { on := 10, ground := Ground.data }, { on := 10, ground := Ground.chain }], guard := none }) rfl (fun K hK => ?_) AllReadyH.nil
      go_simp
      refine (HMM.out wm15 (ZHB15.out) av15 cv15 (Zhbv15.out) Zhcv15.out (off_lowM (fun ad h => (Zhlow15.out ad h).1) hfb)).mono ?_
      rintro e wm16 ⟨M16, pv16, ev16, rfl, hP16, hk16, hI16, hZ16, hO16⟩
      have hKK16 : Kept fb w4 wm16 := (Kept.of_below (ZHB15.out)).trans hk16
      have hM16 := (hk16.block _ ml15 (by have := mlo13; omega)).trans ZhM15.out
      clear hHeld
      go_wp2_with fail
      refine hK.out _ _ (HKP.out _ hKK16) (fun hHeld => ?_)
      clear hK K
      have ZhM16 := hid hM16
      have ZhKK16 := hid hKK16
      have ZhP16 := hid hP16
      have Zhk16 := hid hk16
      have ZhI16 := hid hI16
      have ZhZ16 := hid hZ16
      have ZhO16 := hid hO16
      try clear hM16 hKK16 hP16 hk16 hI16 hZ16 hO16
      try simp only [Act.put, List.setIfInBounds_toArray, List.set_cons_zero, List.set_cons_succ]
      refine wpAnyH_take (i := 12) (oi := { dst := some 67, op := Op.move (Operand.tmp 79), type := 50, pos := "manifest.go:192", after := #[{ on := 11, ground := Ground.data }], guard := none }) (v := ?_) rfl (by kernel_rfl) (by kernel_rfl) (by kernel_rfl) (fun _ _ _ h => h) (Or.inl ⟨by rfl, ?hy⟩) hHeld ?_
      case hy => (intro w hSw; (try dsimp only at hSw); obtain ⟨_, _, _, _⟩ := hSw; go_simp; all_goals (with_reducible rfl))
      try simp only [Act.put, List.setIfInBounds_toArray, List.set_cons_zero, List.set_cons_succ]
      refine wpAnyH_take (i := 13) (oi := { dst := some 80, op := Op.extract (Operand.tmp 67) 0, type := 27, pos := "manifest.go:192", after := #[{ on := 12, ground := Ground.data }], guard := none }) (v := ?_) rfl (by kernel_rfl) (by kernel_rfl) (by kernel_rfl) (fun _ _ _ h => h) (Or.inl ⟨by rfl, ?hy⟩) hHeld ?_
      case hy => (intro w hSw; (try dsimp only at hSw); obtain ⟨_, _, _, _⟩ := hSw; go_simp; all_goals (with_reducible rfl))
      try simp only [Act.put, List.setIfInBounds_toArray, List.set_cons_zero, List.set_cons_succ]
      refine wpAnyH_take (i := 14) (oi := { dst := some 81, op := Op.extract (Operand.tmp 67) 1, type := 28, pos := "manifest.go:192", after := #[{ on := 12, ground := Ground.data }, { on := 17, ground := Ground.gcOnly Departure.lateStores }], guard := none }) (v := ?_) rfl (by kernel_rfl) (by kernel_rfl) (by kernel_rfl) (fun _ _ _ h => h) (Or.inl ⟨by rfl, ?hy⟩) hHeld ?_
      case hy => (intro w hSw; (try dsimp only at hSw); obtain ⟨_, _, _, _⟩ := hSw; go_simp; all_goals (with_reducible rfl))
      try simp only [Act.put, List.setIfInBounds_toArray, List.set_cons_zero, List.set_cons_succ]
      refine wpAnyH_take (i := 15) (oi := { dst := some 82, op := Op.extract (Operand.tmp 67) 2, type := 35, pos := "manifest.go:192", after := #[{ on := 12, ground := Ground.data }, { on := 18, ground := Ground.gcOnly Departure.lateStores }], guard := none }) (v := ?_) rfl (by kernel_rfl) (by kernel_rfl) (by kernel_rfl) (fun _ _ _ h => h) (Or.inl ⟨by rfl, ?hy⟩) hHeld ?_
      case hy => (intro w hSw; (try dsimp only at hSw); obtain ⟨_, _, _, _⟩ := hSw; go_simp; all_goals (with_reducible rfl))
      try simp only [Act.put, List.setIfInBounds_toArray, List.set_cons_zero, List.set_cons_succ]
      refine wpAnyH_ready (rs := [17]) (by kernel_rfl) (by simp) ?_
      refine AllReadyH.cons (o := { dst := none, op := Op.store 27 (Operand.tmp 7) (Operand.tmp 80), type := 0, pos := "manifest.go:192", after := #[{ on := 16, ground := Ground.data }, { on := 13, ground := Ground.data }, { on := 11, ground := Ground.chain }, { on := 0, ground := Ground.phase }, { on := 1, ground := Ground.phase }, { on := 2, ground := Ground.phase }, { on := 3, ground := Ground.phase }, { on := 4, ground := Ground.phase }, { on := 5, ground := Ground.phase }, { on := 6, ground := Ground.phase }, { on := 7, ground := Ground.phase }, { on := 8, ground := Ground.phase }, { on := 9, ground := Ground.phase }, { on := 10, ground := Ground.phase }, { on := 11, ground := Ground.phase }, { on := 12, ground := Ground.phase }, { on := 13, ground := Ground.phase }, { on := 14, ground := Ground.textOnly Departure.lateStores }, { on := 15, ground := Ground.textOnly Departure.lateStores }, { on := 16, ground := Ground.phase }], guard := none }) rfl (fun K hK => ?_) AllReadyH.nil
      refine step_store_row rfl 27 (.tmp 7) (.tmp 80) rfl mb13 mz M16 27 rfl rfl ZhM16.out ZhI16.out ZhZ16.out ZhO16.out ?_
      intro wz17 hz17 hkz17
      refine hK.out _ _ (HKP.out _ ((ZhKK16.out).fresh hkz17 mlo13)) (fun hHeld => ?_)
      clear hK K
      try simp only [Act.put, List.setIfInBounds_toArray, List.set_cons_zero, List.set_cons_succ]
      have LV := hid (mdx_early (fb := fb) (Post := (MkPost fb k n t dl ld)) (ZHB15.out) ZhP16.out Zhk16.out mlo13 ml15 hz17 hkz17)
      refine wpAnyH_take (i := 18) (oi := { dst := some 8, op := Op.assign (Operand.tmp 81), type := 28, pos := "manifest.go:192", after := #[{ on := 14, ground := Ground.data }, { on := 17, ground := Ground.chain }, { on := 0, ground := Ground.phase }, { on := 1, ground := Ground.phase }, { on := 2, ground := Ground.phase }, { on := 3, ground := Ground.phase }, { on := 4, ground := Ground.phase }, { on := 5, ground := Ground.phase }, { on := 6, ground := Ground.phase }, { on := 7, ground := Ground.phase }, { on := 8, ground := Ground.phase }, { on := 9, ground := Ground.phase }, { on := 10, ground := Ground.phase }, { on := 11, ground := Ground.phase }, { on := 12, ground := Ground.phase }, { on := 13, ground := Ground.phase }, { on := 14, ground := Ground.phase }, { on := 15, ground := Ground.textOnly Departure.lateStores }, { on := 16, ground := Ground.phase }, { on := 17, ground := Ground.phase }], guard := none }) (v := ?_) rfl (by kernel_rfl) (by kernel_rfl) (by kernel_rfl) (fun _ _ _ h => h) (Or.inl ⟨by rfl, ?hy⟩) hHeld ?_
      case hy => (intro w hSw; (try dsimp only at hSw); obtain ⟨_, _, _, _⟩ := hSw; go_simp; all_goals (with_reducible rfl))
      try simp only [Act.put, List.setIfInBounds_toArray, List.set_cons_zero, List.set_cons_succ]
      refine wpAnyH_take (i := 19) (oi := { dst := some 9, op := Op.assign (Operand.tmp 82), type := 35, pos := "manifest.go:192", after := #[{ on := 15, ground := Ground.data }, { on := 18, ground := Ground.chain }, { on := 0, ground := Ground.phase }, { on := 1, ground := Ground.phase }, { on := 2, ground := Ground.phase }, { on := 3, ground := Ground.phase }, { on := 4, ground := Ground.phase }, { on := 5, ground := Ground.phase }, { on := 6, ground := Ground.phase }, { on := 7, ground := Ground.phase }, { on := 8, ground := Ground.phase }, { on := 9, ground := Ground.phase }, { on := 10, ground := Ground.phase }, { on := 11, ground := Ground.phase }, { on := 12, ground := Ground.phase }, { on := 13, ground := Ground.phase }, { on := 14, ground := Ground.phase }, { on := 15, ground := Ground.phase }, { on := 16, ground := Ground.phase }, { on := 17, ground := Ground.phase }, { on := 18, ground := Ground.phase }], guard := none }) (v := ?_) rfl (by kernel_rfl) (by kernel_rfl) (by kernel_rfl) (fun _ _ _ h => h) (Or.inl ⟨by rfl, ?hy⟩) hHeld ?_
      case hy => (intro w hSw; (try dsimp only at hSw); obtain ⟨_, _, _, _⟩ := hSw; go_simp; all_goals (with_reducible rfl))
      try simp only [Act.put, List.setIfInBounds_toArray, List.set_cons_zero, List.set_cons_succ]
      refine wpAnyH_done (by kernel_rfl) ?_ _
      go_wp2_with fail
      go_meet
      exact ⟨_, rfl, _, _, _, _, rfl, rfl, rfl, LV⟩
    case rest =>
    obtain ⟨w5, hw5, mb2, M2, pv2, ev2, rfl, rfl, rfl, HX2⟩ := hcut
    subst hw5
    as_aux_lemma =>
    obtain ⟨g2, gd2, bf2, rfl, rfl, R2⟩ := HX2.out.good hfb
    have HR2 := hid R2
    have HR15 := hid (HR1.out.step R2.kept hfbw3 R2.built)
    have HBw5 := hid (HBw4.out.trans (R2.kept.below HBw4.out.size hWfb))
    have HCw5 := hid (show CaseAt w5 W.heap.size k n t I (.slice da dl dc) mk mn mt ms mo (.slice ma mm mc) (.slice pa pl pc) (.slice ia il ic) from (R2.kept.block _ hlw4 (by omega)).trans HCw4.out)
    have hlw5 := lt_of_heap HCw5.out
    have hfbw5 : fb < w5.heap.size := Nat.lt_of_lt_of_le hfb R2.kept.size
    have HFw5 := hid (show Fld w5 fb from .inr R2.built)
    have hd32 := dig_length shaRound shaStart ld
    have HD32 := hid hd32
    clear R2 HX2 HKP HD HMM hd32
    obtain ⟨DG, hDG⟩ : ∃ DG, DG = (List.range t).map fun j => pdg shaRound shaStart ld k (plen k dl) j := ⟨_, rfl⟩
    have HDG := hid hDG
    have hDGl : DG.length = t := by rw [hDG]; simp
    obtain ⟨OD, hOD⟩ : ∃ OD, OD = dig shaRound shaStart ld := ⟨_, rfl⟩
    have HOD := hid hOD
    have hol : ∀ x ∈ OD, x < 256 := by rw [hOD]; exact digL_lt ()
    have hmok : manB k n t dl DG.length = true := by
      unfold manB vnB vcB
      simp only [Bool.and_eq_true, decide_eq_true_eq]
      omega
    have HEN := hid (fun (wx : World) (v : Value) (h : DgAt wx v DG) => EncodeM2_any k n t dl OD DG v (by rw [hOD]; exact dig_length _ _ _) hol wx h hmok)
    obtain ⟨NB, hNB⟩ : ∃ NB, NB = 7 + 32 * (1 + t) := ⟨_, rfl⟩
    obtain ⟨EL, hEL⟩ : ∃ EL, EL = encTo k n t dl OD DG t := ⟨_, rfl⟩
    rw [← hNB, ← hEL] at HEN
    have HNB := hid hNB
    have HDGL := hid hDGl
    have hNB9 : NB ≤ 10000 := by omega
    have hNB0 : 0 < NB := by omega
    have HML := hid (show ∀ v, (mcells k n t dl OD v).length = 37 from fun v => mcells_length k n t dl OD v (by rw [hOD]; exact dig_length _ _ _))
    have HIM := hid (show ∀ v, (Tryd.prog.info? 27).map (·.size) = some (mcells k n t dl OD v).length from fun v => by rw [HML.out]; kernel_rfl)
    have HM1 := hid (show ManAt w5 mb1 k n t dl OD (.slice (some ⟨gd1, 0, none⟩) t t) from by rw [hOD]; exact HR15.out.man)
    have HM2 := hid (show ManAt w5 mb2 k n t dl OD (.slice (some ⟨gd2, 0, none⟩) t t) from by rw [hOD]; exact HR2.out.man)
    have HODL := hid (show OD.length = 32 from by rw [hOD]; exact dig_length _ _ _)
    have HDA1 := hid (show DgAt w5 (.slice (some ⟨gd1, 0, none⟩) t t) DG from by rw [hDG]; exact dgAt_range HR15.out.rng)
    have HDA2 := hid (show DgAt w5 (.slice (some ⟨gd2, 0, none⟩) t t) DG from by rw [hDG]; exact dgAt_range HR2.out.rng)
    obtain ⟨q1, q2, q3⟩ := HR15.out.low
    obtain ⟨p1, p2, p3, p4⟩ := HR1.out.up
    obtain ⟨r1, r2, r3⟩ := HR2.out.low
    obtain ⟨s1, s2, s3, s4⟩ := HR2.out.up
    have m36 := (HM1.out.c HODL.out).2.2.2.2
    have e2 := HCw5.out.c.2.2.1
    clear hNB hEL hDG hOD hol hmok hDGl
    have HRA1 := hid (range_of_heapI HM1.out)
    go_wp2_with (refine wpList_load_mid (by rfl) 27 (.tmp 4) (by rfl) mb1 0 (by rfl) (mcells k n t dl OD (.slice (some ⟨gd1, 0, none⟩) t t)) _ HRA1.out Tryd.underlying27 rfl (HIM.out _) ?_)
    refine (HEN.out w5 _ HDA1.out).mono ?_
    rintro e w6 ⟨u6, rfl, wx6, ⟨ab, cb, rfl, hcb, hbsb, hnb, hlob, hbb, hownb⟩, hbx⟩
    have HB56 := hid (hbx.trans (hbb.mono hbx.size))
    obtain ⟨gb, hgb1, hgb2, hcpb⟩ := cpB_of hownb (Nat.lt_of_lt_of_le (Nat.lt_of_le_of_lt (Nat.le_refl _) (cp_size hownb hNB0)) (Nat.le_refl _)) (bs_getD hbsb)
    have hgb5 : w5.heap.size ≤ gb := Nat.le_trans hbx.size hgb1
    have HCPB := hid hcpb
    have HM26 := hid ((HB56.out.block _ (lt_of_heap HM2.out)).trans HM2.out)
    have HDA26 := hid (dgat_same HDA2.out (HB56.out.block gd2 s2))
    have HRA2 := hid (range_of_heapI HM26.out)
    clear hbx hbb hownb hcpb hgb1 hbsb hnb hlob
    go_wp2_with (refine wpList_load_mid (by rfl) 27 (.tmp 7) (by rfl) mb2 0 (by rfl) (mcells k n t dl OD (.slice (some ⟨gd2, 0, none⟩) t t)) _ HRA2.out Tryd.underlying27 rfl (HIM.out _) ?_)
    refine (HEN.out w6 _ HDA26.out).mono ?_
    rintro e w7 ⟨u7, rfl, wx7, ⟨aa, ca, rfl, hca, hbsa, hna, hloa, hba, -⟩, hax⟩
    have HB67 := hid (hax.trans (hba.mono hax.size))
    have HBSA := hid hbsa
    have haa6 : ∀ ad, aa = some ad → w6.heap.size ≤ ad.block := fun ad h => Nat.le_trans hax.size (hloa ad h).1
    have HAA := hid haa6
    have HB57 := hid (HB56.out.trans (HB67.out.mono HB56.out.size))
    have HCPB7 := hid (HCPB.out.same (HB67.out.block gb hgb2))
    have hz7 := HB57.out.size
    have hfb6 : fb < w6.heap.size := Nat.lt_of_lt_of_le hfbw5 HB56.out.size
    have hfb7 : fb < w7.heap.size := Nat.lt_of_lt_of_le hfbw5 hz7
    have hgb7 : gb < w7.heap.size := Nat.lt_of_lt_of_le hgb2 HB67.out.size
    have hne1 := HR15.out.ne
    have hth7 : w7.there gd1 0 (t * 32) := there_same HR15.out.th (HB57.out.block gd1 (by omega))
    have HTH7 := hid hth7
    have HM17 := hid ((HB57.out.block mb1 (by omega)).trans HM1.out)
    clear hax hba hbsa hna hloa haa6 hth7 m36 e2
    go_wp2
    go_loopw [14] (fun iv wr => ∃ i : Nat, i ≤ t ∧ iv = .int .i64 i ∧ Hid (Kept gd1 w7 wr) ∧ Hid (wr.there gd1 0 (t * 32))) (fun iv _ => t - (intOf iv).toNat)
    case atStart => exact ⟨0, by omega, rfl, hid (Kept.refl _ _), HTH7⟩
    case round =>
      obtain ⟨i, hi, rfl, HKL, HTL⟩ := hrel
      have hm1 : ManAt wr mb1 k n t dl OD (.slice (some ⟨gd1, 0, none⟩) t t) := (HKL.out.block mb1 (lt_of_heap HM17.out) (by omega)).trans HM17.out
      have m36 := (hm1.c HODL.out).2.2.2.2
      clear hm1
      by_cases hit : i < t
      · as_aux_lemma =>
        have hI : (i : Int) < (t : Int) := by omega
        have hi0 : (0 : Int) ≤ (i : Int) := by omega
        have hthr := there_sub HTL.out (i * 32) 32 (by omega)
        have HTR := hid hthr
        have HKN := hid (fun cs => HKL.out.trans (setCells_kept gd1 cs (i * 32) wr))
        have HTN := hid (fun cs => World.there_setCells HTL.out gd1 (i * 32) cs)
        clear hthr
        go_wp2_with (first
          | (refine wpList_zeroM rfl rfl ?_
             intro Z hZ1 hZ2
             have HZ1 := hid hZ1
             have HZ2 := hid hZ2
             clear hZ1 hZ2)
          | (refine wpList_store_mid rfl 24 (.tmp 118) (.tmp 117) rfl gd1 (i * 32) Z.toArray rfl rfl (by rw [List.size_toArray, HZ1.out]; exact HTR.out) (by rw [List.size_toArray, HZ1.out]; kernel_rfl) (all_oneCell_toArray HZ2.out) ?_))
        exact ⟨⟨i + 1, by omega, by go_num, hid (HKN.out _), hid (HTN.out _)⟩, by simp [intOf]; omega⟩
      obtain rfl : i = t := by omega
      have hI : ¬ ((i : Int) < (i : Int)) := by omega
      obtain ⟨w8, rfl⟩ : ∃ y : World, y = wr := ⟨_, rfl⟩
      have hpk : ∀ q, q < i → bf1 q ≠ gd1 ∧ bf1 q ≠ g1 ∧ bf1 q < w5.heap.size := fun q hq => ⟨(hne1.2.2.2 q hq).1, HR15.out.pcs.notb q hq, by have := p4 q hq; have := HR2.out.kept.size; omega⟩
      have HPK := hid hpk
      have HK78 := hid (show KeptX (Grb bf1 i gd1 gb) w7 w8 from KeptX.of_kept HKL.out (.inl rfl))
      have HRW := hid (show Rows8 w8 bf1 i (plen k dl) from fun q hq => ⟨_, encM_length _ _ _ _, fun c => getD_lt (encM_ltI HDL.out k (plen k dl) q) c, ((HKL.out.block (bf1 q) (by have := HPK.out q hq; omega) (HPK.out q hq).1).trans (HB57.out.block (bf1 q) (HPK.out q hq).2.2)).trans (HR15.out.pcs.row q hq)⟩)
      have HCP := hid (HCPB7.out.same (HKL.out.block gb hgb7 (by omega)))
      have HG1 := hid (show ¬ Grb bf1 i gd1 gb g1 from grb_no (fun e => hne1.1 e.symm) (fun q hq e => (HPK.out q hq).2.1 e.symm) (by omega))
      have HPO := hid (show POwn w7 g1 (mkps bf1 (plen k dl) i i) from (HB57.out.block g1 (by omega)).trans HR15.out.pcs.own)
      have HINJ := hid HR15.out.pcs.inj
      have hL16 := plen_le k dl hok.1
      have HGBN := hid (show ∀ q, q < i → bf1 q ≠ gb from fun q hq => by have := HPK.out q hq; omega)
      obtain ⟨LP, hLP⟩ : ∃ LP, LP = plen k dl := ⟨_, rfl⟩
      have HLP := hid hLP
      rw [← hLP] at HRW HPO hL16
      clear hpk HKL HTL hLP
      as_aux_lemma =>
      go_wp2
      go_loopw [15] (fun iv wr => ∃ q : Nat, q ≤ i ∧ iv = .int .i64 q ∧ Hid (KeptX (Grb bf1 i gd1 gb) w7 wr) ∧ Hid (Rows8 wr bf1 i LP) ∧ Hid (CpB wr gb cb NB ab)) (fun iv _ => i - (intOf iv).toNat)
      case atStart => exact ⟨0, by omega, rfl, HK78, HRW, HCP⟩
      case round =>
        clear HK78 HRW HCP
        obtain ⟨q, hq, rfl, HKX, HRW, HCP⟩ := hrel
        by_cases hqt : q < i
        · as_aux_lemma =>
          go_wp2
          go_loopw [16] (fun jv wx => ∃ j : Nat, j ≤ LP ∧ jv = .int .i64 j ∧ Hid (KeptX (Grb bf1 i gd1 gb) w7 wx) ∧ Hid (Rows8 wx bf1 i LP) ∧ Hid (CpB wx gb cb NB ab)) (fun jv _ => LP - (intOf jv).toNat)
          case atStart => exact ⟨0, by omega, rfl, HKX, HRW, HCP⟩
          case round =>
            clear HKX HRW HCP
            obtain ⟨j, hj, rfl, HKX, HRW, HCP⟩ := hrel
            have hpo : POwn wr g1 (mkps bf1 LP i i) := HKX.out.heap HPO.out HG1.out
            have e1 := hpo.cell1 q (by rw [mkps_length]; exact hqt)
            rw [mkps_get _ _ _ _ _ _ hqt] at e1
            clear hpo
            have hq0 : (0 : Int) ≤ (q : Int) := by omega
            have hqI : (q : Int) < (i : Int) := by omega
            by_cases hjl : j < LP
            · obtain ⟨l, hl1, hl2, hown⟩ := HRW.out q hqt
              have co := hown.cell j (by rw [hl1]; exact hjl)
              have fo := hown.free j
              have hx := hl2 j
              have HL1 := hid hl1
              have HL2 := hid hl2
              have HOWN := hid hown
              clear hl1 hl2 hown
              have hjI : (j : Int) < (LP : Int) := by omega
              have hj0 : (0 : Int) ≤ (j : Int) := by omega
              have HST := hid (fun y => HOWN.out.set j y)
              generalize l.getD j 0 = x at *
              have j3 : bits .xor .u8 (x : Int) 255 = ((x ^^^ 255 : Nat) : Int) := u8_xor_nat x 255 hx (by decide)
              have hy : x ^^^ 255 < 256 := Nat.xor_lt_two_pow (n := 8) hx (by decide)
              have HNX := hid (show Rows8 (wr.setCell ⟨bf1 q, j, none⟩ (.int .u8 ((x ^^^ 255 : Nat) : Int))) bf1 i LP from rows8_set HRW.out HINJ.out hqt (by rw [List.length_set]; exact HL1.out) (set_ltB l HL2.out j _ hy) (HST.out _))
              have HKN := hid (HKX.out.setCell (p := ⟨bf1 q, j, none⟩) (.inr (.inl ⟨q, hqt, rfl⟩)) (.int .u8 ((x ^^^ 255 : Nat) : Int)))
              have HCN := hid (show CpB (wr.setCell ⟨bf1 q, j, none⟩ (.int .u8 ((x ^^^ 255 : Nat) : Int))) gb cb NB ab from cpb_off HCP.out (fun e => HGBN.out q hqt e.symm))
              generalize x ^^^ 255 = y at *
              clear HKX HRW HCP
              go_wp2
              exact ⟨⟨j + 1, by omega, by go_num, HKN, HNX, HCN⟩, by simp [intOf]; omega⟩
            · obtain rfl : j = LP := by omega
              have hjI : ¬ ((j : Int) < (j : Int)) := by omega
              go_wp2
              exact ⟨⟨q + 1, by omega, by go_num, HKX, HRW, HCP⟩, by simp [intOf]; omega⟩
        obtain rfl : q = i := by omega
        have hqI : ¬ ((q : Int) < (q : Int)) := by omega
        obtain ⟨w9, rfl⟩ : ∃ y : World, y = wr := ⟨_, rfl⟩
        obtain ⟨rfl, -⟩ := HCP.out hNB0
        as_aux_lemma =>
        go_wp2
        go_loopw [17] (fun jv wx => ∃ j : Nat, j ≤ NB ∧ jv = .int .i64 j ∧ Hid (KeptX (Grb bf1 q gd1 gb) w7 wx) ∧ Hid (CpB wx gb cb NB (some ⟨gb, 0, none⟩))) (fun jv _ => NB - (intOf jv).toNat)
        case atStart => exact ⟨0, by omega, rfl, HKX, HCP⟩
        case round =>
          clear HKX HCP HRW
          obtain ⟨j, hj, rfl, HKX, HCP⟩ := hrel
          by_cases hjn : j < NB
          · have hJ : (j : Int) < (NB : Int) := by omega
            have hJ0 : (0 : Int) ≤ (j : Int) := by omega
            obtain ⟨-, l, hl1, hl2, hbuf⟩ := HCP.out (by omega)
            have k1 := hbuf.cell j (by omega)
            have f1 := hbuf.free j
            have HST := hid (hbuf.set j 0 (by omega))
            have HNX := hid (show CpB (wr.setCell ⟨gb, j, none⟩ (.int .u8 ((0 : Nat) : Int))) gb cb NB (some ⟨gb, 0, none⟩) from fun _ => ⟨rfl, _, by rw [List.length_set]; exact hl1, set_ltB l hl2 j _ (by omega), HST.out⟩)
            have HKN := hid (HKX.out.setCell (p := ⟨gb, j, none⟩) (.inr (.inr rfl)) (.int .u8 ((0 : Nat) : Int)))
            have HNX := hid (show CpB (wr.setCell ⟨gb, j, none⟩ (.int .u8 0)) gb cb NB (some ⟨gb, 0, none⟩) from HNX.out)
            have HKN := hid (show KeptX (Grb bf1 q gd1 gb) w7 (wr.setCell ⟨gb, j, none⟩ (.int .u8 0)) from HKN.out)
            clear hl1 hl2 hbuf HST HKX HCP
            go_wp2
            exact ⟨⟨j + 1, by omega, by go_num, HKN, HNX⟩, by simp [intOf]; omega⟩
          obtain rfl : j = NB := by omega
          have hJ : ¬ ((j : Int) < (j : Int)) := by omega
          obtain ⟨w10, rfl⟩ : ∃ y : World, y = wr := ⟨_, rfl⟩
          clear HCP
          have HGN := hid (show ∀ b, (b < w3.heap.size ∨ w4.heap.size ≤ b ∧ b < w5.heap.size ∨ w6.heap.size ≤ b) → ¬ Grb bf1 q gd1 gb b from fun b hb => grb_out q2 p2 (fun z hz => ⟨HR15.out.pcs.low z hz, p4 z hz⟩) hgb5 hgb2 HR2.out.kept.size HR1.out.kept.size hb)
          obtain ⟨t1, t2, t3, t4, t5, t6, t7⟩ := mem_after (cs := (cc k n q I (.slice da dl dc) mk mn mt ms mo (.slice ma mm mc) (.slice pa pl pc) (.slice ia il ic)).toArray) HKX.out HGN.out HB57.out HBw5.out HBw3.out.size HCw5.out hlw3 HFw5.out hfbw3 HM2.out r1 s1 HDA2.out r2 s2 HBSA.out HAA.out HR2.out.pcs r3
          have HBw10 := hid t1
          have HCw10 := hid (show CaseAt w10 W.heap.size k n q I (.slice da dl dc) mk mn mt ms mo (.slice ma mm mc) (.slice pa pl pc) (.slice ia il ic) from t2)
          have HFw10 := hid t3
          have HM210 := hid t4
          have HDA210 := hid t5
          have HBSA10 := hid t6
          have HQ10 := hid t7
          clear t1 t2 t3 t4 t5 t6 t7
          have hlw10 := lt_of_heap HCw10.out
          have hz10 := HKX.out.size
          have HRA10 := hid (range_of_heapI HM210.out)
          as_aux_lemma =>
          go_wp2_with (refine wpList_load_mid (by rfl) 27 (.tmp 7) (by rfl) mb2 0 (by rfl) (mcells k n q dl OD (.slice (some ⟨gd2, 0, none⟩) q q)) _ HRA10.out Tryd.underlying27 rfl (HIM.out _) ?_)
          refine (HEN.out w10 _ HDA210.out).mono ?_
          rintro e w11 ⟨u11, rfl, wx11, ⟨ax, cx, rfl, hcx, hbsx, hnx, hlox, hbx, -⟩, hxx⟩
          have hb1011 := hxx.trans (hbx.mono hxx.size)
          have HBSX := hid hbsx
          have HAX := hid (show ∀ ad, ax = some ad → w10.heap.size ≤ ad.block from fun ad h => Nat.le_trans hxx.size (hlox ad h).1)
          have HBSA11 := hid (HBSA10.out.below hb1011)
          have HQ11 := hid (pcs_belowM HQ10.out hb1011)
          have HBw11 := hid (HBw10.out.trans (hb1011.mono HBw10.out.size))
          have HCw11 := hid (show CaseAt w11 W.heap.size k n q I (.slice da dl dc) mk mn mt ms mo (.slice ma mm mc) (.slice pa pl pc) (.slice ia il ic) from (hb1011.block _ hlw10).trans HCw10.out)
          have HFw11 := hid (fld_belowA HFw10.out hb1011)
          have hlw11 := lt_of_heap HCw11.out
          have hfbw11 := HFw11.out.lt
          clear hxx hbx hbsx hnx hlox hb1011
          have HKP := hid (show ∀ wx : World, Kept fb w11 wx → wx.cell? ⟨W.heap.size, 0, none⟩ = some (.int .i64 (k : Int)) ∧ wx.cell? ⟨W.heap.size, 1, none⟩ = some (.int .i64 (n : Int)) ∧ wx.cell? ⟨W.heap.size, 2, none⟩ = some (.int .i64 (q : Int)) ∧ wx.cell? ⟨W.heap.size, 4, none⟩ = some (.slice da dl dc) from fun wx b => by
            have h : CaseAt wx W.heap.size k n q I (.slice da dl dc) mk mn mt ms mo (.slice ma mm mc) (.slice pa pl pc) (.slice ia il ic) := (b.block _ hlw11 (by omega)).trans HCw11.out
            obtain ⟨f0, f1, f2, -, f4⟩ := h.c
            exact ⟨f0, f1, f2, f4⟩)
          have HD := hid (HDD.out.below HBw11.out)
          have hfb : fb < w11.heap.size := hfbw11
          have HMM := hid (fun (wx : World) (b : Below w11.heap.size w11 wx) a' c' (hd : Bs wx (.slice a' dl c') ld) (hc : dl ≤ c') (ho : Off fb (.slice a' dl c')) => make_post fb k n q dl c' a' ld wx (fld_belowA HFw11.out b) ((HV.out.below HBw11.out).below b) hd ho hc hok.1 hok.2.1 hok.2.2.1 hok.2.2.2.1 hok.2.2.2.2 (Nat.le_trans hlow hWfb))
          go_upto_region 26 with fail
          go_cut [19, 20, 9] (fun mv pv ev wx => ∃ wy, wy = wx ∧ ∃ mb M pw ew, mv = .pointer (some ⟨mb, 0, none⟩) ∧ pv = pw ∧ ev = ew ∧ Hid (MdX fb (MkPost fb k n q dl ld) mb M pw ew w11 wy))
          case first =>
            refine wp_region_held_drew (S := (fun wx => wx.cell? ⟨W.heap.size, 0, none⟩ = some (.int .i64 (k : Int)) ∧ wx.cell? ⟨W.heap.size, 1, none⟩ = some (.int .i64 (n : Int)) ∧ wx.cell? ⟨W.heap.size, 2, none⟩ = some (.int .i64 (q : Int)) ∧ wx.cell? ⟨W.heap.size, 4, none⟩ = some (.slice da dl dc))) (by kernel_rfl) (HKP.out _ (Kept.of_below (bel_drewN (Below.refl _ _) 1))) (fun hHeld => ?_)
            refine wpAnyH_take (i := 0) (oi := { dst := some 160, op := Op.move (Operand.tmp 3), type := 38, pos := "manifest.go:210", after := #[], guard := none }) (v := ?_) rfl (by kernel_rfl) (by kernel_rfl) (by kernel_rfl) (fun _ _ _ h => h) (Or.inl ⟨by rfl, ?hy⟩) hHeld ?_
            case hy => (intro w hSw; (try dsimp only at hSw); obtain ⟨_, _, _, _⟩ := hSw; go_simp; all_goals (with_reducible rfl))
            try simp only [Act.put, List.setIfInBounds_toArray, List.set_cons_zero, List.set_cons_succ]
            refine wpAnyH_take (i := 1) (oi := { dst := some 161, op := Op.fieldAddr 31 (Operand.tmp 1) 0, type := 0, pos := "manifest.go:210", after := #[], guard := none }) (v := ?_) rfl (by kernel_rfl) (by kernel_rfl) (by kernel_rfl) (fun _ _ _ h => h) (Or.inl ⟨by rfl, ?hy⟩) hHeld ?_
            case hy => (intro w hSw; (try dsimp only at hSw); obtain ⟨_, _, _, _⟩ := hSw; go_simp; all_goals (with_reducible rfl))
            try simp only [Act.put, List.setIfInBounds_toArray, List.set_cons_zero, List.set_cons_succ]
            refine wpAnyH_take (i := 2) (oi := { dst := some 162, op := Op.load 3 (Operand.tmp 161), type := 3, pos := "manifest.go:210", after := #[{ on := 1, ground := Ground.data }], guard := none }) (v := ?_) rfl (by kernel_rfl) (by kernel_rfl) (by kernel_rfl) (fun _ _ _ h => h) (Or.inl ⟨by rfl, ?hy⟩) hHeld ?_
            case hy => (intro w hSw; (try dsimp only at hSw); obtain ⟨_, _, _, _⟩ := hSw; go_simp; all_goals (with_reducible rfl))
            try simp only [Act.put, List.setIfInBounds_toArray, List.set_cons_zero, List.set_cons_succ]
            refine wpAnyH_take (i := 3) (oi := { dst := some 163, op := Op.fieldAddr 31 (Operand.tmp 1) 1, type := 0, pos := "manifest.go:210", after := #[], guard := none }) (v := ?_) rfl (by kernel_rfl) (by kernel_rfl) (by kernel_rfl) (fun _ _ _ h => h) (Or.inl ⟨by rfl, ?hy⟩) hHeld ?_
            case hy => (intro w hSw; (try dsimp only at hSw); obtain ⟨_, _, _, _⟩ := hSw; go_simp; all_goals (with_reducible rfl))
            try simp only [Act.put, List.setIfInBounds_toArray, List.set_cons_zero, List.set_cons_succ]
            refine wpAnyH_take (i := 4) (oi := { dst := some 164, op := Op.load 3 (Operand.tmp 163), type := 3, pos := "manifest.go:210", after := #[{ on := 3, ground := Ground.data }], guard := none }) (v := ?_) rfl (by kernel_rfl) (by kernel_rfl) (by kernel_rfl) (fun _ _ _ h => h) (Or.inl ⟨by rfl, ?hy⟩) hHeld ?_
            case hy => (intro w hSw; (try dsimp only at hSw); obtain ⟨_, _, _, _⟩ := hSw; go_simp; all_goals (with_reducible rfl))
            try simp only [Act.put, List.setIfInBounds_toArray, List.set_cons_zero, List.set_cons_succ]
            refine wpAnyH_take (i := 5) (oi := { dst := some 165, op := Op.fieldAddr 31 (Operand.tmp 1) 2, type := 0, pos := "manifest.go:210", after := #[], guard := none }) (v := ?_) rfl (by kernel_rfl) (by kernel_rfl) (by kernel_rfl) (fun _ _ _ h => h) (Or.inl ⟨by rfl, ?hy⟩) hHeld ?_
            case hy => (intro w hSw; (try dsimp only at hSw); obtain ⟨_, _, _, _⟩ := hSw; go_simp; all_goals (with_reducible rfl))
            try simp only [Act.put, List.setIfInBounds_toArray, List.set_cons_zero, List.set_cons_succ]
            refine wpAnyH_take (i := 6) (oi := { dst := some 166, op := Op.load 3 (Operand.tmp 165), type := 3, pos := "manifest.go:210", after := #[{ on := 5, ground := Ground.data }], guard := none }) (v := ?_) rfl (by kernel_rfl) (by kernel_rfl) (by kernel_rfl) (fun _ _ _ h => h) (Or.inl ⟨by rfl, ?hy⟩) hHeld ?_
            case hy => (intro w hSw; (try dsimp only at hSw); obtain ⟨_, _, _, _⟩ := hSw; go_simp; all_goals (with_reducible rfl))
            try simp only [Act.put, List.setIfInBounds_toArray, List.set_cons_zero, List.set_cons_succ]
            refine wpAnyH_take (i := 8) (oi := { dst := some 168, op := Op.fieldAddr 31 (Operand.tmp 1) 4, type := 0, pos := "manifest.go:210", after := #[], guard := none }) (v := ?_) rfl (by kernel_rfl) (by kernel_rfl) (by kernel_rfl) (fun _ _ _ h => h) (Or.inl ⟨by rfl, ?hy⟩) hHeld ?_
            case hy => (intro w hSw; (try dsimp only at hSw); obtain ⟨_, _, _, _⟩ := hSw; go_simp; all_goals (with_reducible rfl))
            try simp only [Act.put, List.setIfInBounds_toArray, List.set_cons_zero, List.set_cons_succ]
            refine wpAnyH_take (i := 9) (oi := { dst := some 169, op := Op.load 22 (Operand.tmp 168), type := 22, pos := "manifest.go:210", after := #[{ on := 8, ground := Ground.data }], guard := none }) (v := ?_) rfl (by kernel_rfl) (by kernel_rfl) (by kernel_rfl) (fun _ _ _ h => h) (Or.inl ⟨by rfl, ?hy⟩) hHeld ?_
            case hy => (intro w hSw; (try dsimp only at hSw); obtain ⟨_, _, _, _⟩ := hSw; go_simp; all_goals (with_reducible rfl))
            try simp only [Act.put, List.setIfInBounds_toArray, List.set_cons_zero, List.set_cons_succ]
            refine wpAnyH_ready (rs := [7, 16]) (by kernel_rfl) (by simp) ?_
            refine AllReadyH.cons (o := { dst := some 167, op := Op.buildSlice 22 0 #[], type := 22, pos := "manifest.go:210", after := #[], guard := none }) rfl (fun K hK => ?_) ?_
            · skip
              refine step_build0 rfl rfl ?_
              intro g1 wm1 hge1 hE1 hb1 gl1
              have HB1 : Below w11.heap.size w11 wm1 := ((bel_drewN (Below.refl w11.heap.size w11) 1)).trans (hb1.mono ((bel_drewN (Below.refl w11.heap.size w11) 1)).size)
              have glo1 : w11.heap.size ≤ g1 := by rw [hge1]; exact ((bel_drewN (Below.refl w11.heap.size w11) 1)).size
              clear hge1
              refine hK.out _ _ (HKP.out _ (Kept.of_below HB1)) (fun hHeld => ?_)
              clear hK K
              have ZHB1 := hid HB1
              have ZhE1 := hid hE1
              try clear HB1 hE1
              try simp only [Act.put, List.setIfInBounds_toArray, List.set_cons_zero, List.set_cons_succ]
              refine wpAnyH_ready (rs := [10, 16]) (by kernel_rfl) (by simp) ?_
              refine AllReadyH.cons (o := { dst := some 170, op := Op.call { callee := Callee.builtin Builtin.append, args := #[Operand.tmp 167, Operand.tmp 169], argTypes := #[22, 22] }, type := 22, pos := "manifest.go:210", after := #[{ on := 7, ground := Ground.data }, { on := 9, ground := Ground.data }], guard := none }) rfl (fun K hK => ?_) ?_
              · skip
                refine step_own_bytes rfl (.tmp 167) (.tmp 169) rfl w11.heap.size g1 rfl (own_emptyM ZhE1.out glo1) da dl dc ld rfl (HD.out.below (ZHB1.out)) HDN.out (by omega) (ZHB1.out).size ?_
                intro v2 wm2 hdA2 hgA2
                have nil2 := hdA2
                obtain ⟨av2, cv2, ev2, -, hcv2, hbv2, hlow2⟩ := bs_of_owns hdA2 HDL.out
                subst ev2
                have HB2 : Below w11.heap.size w11 wm2 := (ZHB1.out).grown hgA2 (ZHB1.out).size (fun q hq => by have := glo1; simp at hq; omega)
                refine hK.out _ _ (HKP.out _ (Kept.of_below HB2)) (fun hHeld => ?_)
                clear hK K
                have ZHB2 := hid HB2
                have Zhbv2 := hid hbv2
                have Zhcv2 := hid hcv2
                have Zhlow2 := hid hlow2
                have ZhdA2 := hid hdA2
                try clear HB2 hbv2 hcv2 hlow2 hdA2
                try simp only [Act.put, List.setIfInBounds_toArray, List.set_cons_zero, List.set_cons_succ]
                refine wpAnyH_ready (rs := [11, 16]) (by kernel_rfl) (by simp) ?_
                refine AllReadyH.cons (o := { dst := some 171, op := Op.call { callee := Callee.value (Operand.func 20), args := #[Operand.tmp 160, Operand.tmp 162, Operand.tmp 164, Operand.tmp 166, Operand.tmp 170], argTypes := #[38, 3, 3, 3, 22] }, type := 50, pos := "manifest.go:210", after := #[{ on := 0, ground := Ground.data }, { on := 2, ground := Ground.data }, { on := 4, ground := Ground.data }, { on := 6, ground := Ground.data }, { on := 10, ground := Ground.data }, { on := 10, ground := Ground.chain }], guard := none }) rfl (fun K hK => ?_) ?_
                · skip
                  go_simp
                  refine (HMM.out wm2 (ZHB2.out) av2 cv2 (Zhbv2.out) Zhcv2.out (off_lowM (fun ad h => (Zhlow2.out ad h).1) hfb)).mono ?_
                  rintro e wm3 ⟨M3, pv3, ev3, rfl, hP3, hk3, hI3, hZ3, hO3⟩
                  have hKK3 : Kept fb w11 wm3 := (Kept.of_below (ZHB2.out)).trans hk3
                  clear hHeld
                  go_wp2_with fail
                  refine hK.out _ _ (HKP.out _ hKK3) (fun hHeld => ?_)
                  clear hK K
                  have ZhKK3 := hid hKK3
                  have ZhP3 := hid hP3
                  have Zhk3 := hid hk3
                  have ZhI3 := hid hI3
                  have ZhZ3 := hid hZ3
                  have ZhO3 := hid hO3
                  try clear hKK3 hP3 hk3 hI3 hZ3 hO3
                  try simp only [Act.put, List.setIfInBounds_toArray, List.set_cons_zero, List.set_cons_succ]
                  refine wpAnyH_take (i := 12) (oi := { dst := some 159, op := Op.move (Operand.tmp 171), type := 50, pos := "manifest.go:210", after := #[{ on := 11, ground := Ground.data }], guard := none }) (v := ?_) rfl (by kernel_rfl) (by kernel_rfl) (by kernel_rfl) (fun _ _ _ h => h) (Or.inl ⟨by rfl, ?hy⟩) hHeld ?_
                  case hy => (intro w hSw; (try dsimp only at hSw); obtain ⟨_, _, _, _⟩ := hSw; go_simp; all_goals (with_reducible rfl))
                  try simp only [Act.put, List.setIfInBounds_toArray, List.set_cons_zero, List.set_cons_succ]
                  refine wpAnyH_take (i := 13) (oi := { dst := some 172, op := Op.extract (Operand.tmp 159) 0, type := 27, pos := "manifest.go:210", after := #[{ on := 12, ground := Ground.data }], guard := none }) (v := ?_) rfl (by kernel_rfl) (by kernel_rfl) (by kernel_rfl) (fun _ _ _ h => h) (Or.inl ⟨by rfl, ?hy⟩) hHeld ?_
                  case hy => (intro w hSw; (try dsimp only at hSw); obtain ⟨_, _, _, _⟩ := hSw; go_simp; all_goals (with_reducible rfl))
                  try simp only [Act.put, List.setIfInBounds_toArray, List.set_cons_zero, List.set_cons_succ]
                  refine wpAnyH_take (i := 14) (oi := { dst := some 173, op := Op.extract (Operand.tmp 159) 1, type := 28, pos := "manifest.go:210", after := #[{ on := 12, ground := Ground.data }, { on := 17, ground := Ground.gcOnly Departure.lateStores }], guard := none }) (v := ?_) rfl (by kernel_rfl) (by kernel_rfl) (by kernel_rfl) (fun _ _ _ h => h) (Or.inl ⟨by rfl, ?hy⟩) hHeld ?_
                  case hy => (intro w hSw; (try dsimp only at hSw); obtain ⟨_, _, _, _⟩ := hSw; go_simp; all_goals (with_reducible rfl))
                  try simp only [Act.put, List.setIfInBounds_toArray, List.set_cons_zero, List.set_cons_succ]
                  refine wpAnyH_take (i := 15) (oi := { dst := some 174, op := Op.extract (Operand.tmp 159) 2, type := 35, pos := "manifest.go:210", after := #[{ on := 12, ground := Ground.data }, { on := 18, ground := Ground.gcOnly Departure.lateStores }], guard := none }) (v := ?_) rfl (by kernel_rfl) (by kernel_rfl) (by kernel_rfl) (fun _ _ _ h => h) (Or.inl ⟨by rfl, ?hy⟩) hHeld ?_
                  case hy => (intro w hSw; (try dsimp only at hSw); obtain ⟨_, _, _, _⟩ := hSw; go_simp; all_goals (with_reducible rfl))
                  try simp only [Act.put, List.setIfInBounds_toArray, List.set_cons_zero, List.set_cons_succ]
                  refine wpAnyH_ready (rs := [16]) (by kernel_rfl) (by simp) ?_
                  refine AllReadyH.cons (o := { dst := some 19, op := Op.alloc 27, type := 0, pos := "manifest.go:210", after := #[], guard := none }) rfl (fun K hK => ?_) AllReadyH.nil
                  refine step_mkm rfl rfl ?_
                  intro mb4 wm4 hmb4 hM4 hb4 ml4
                  have hKK4 : Kept fb w11 wm4 := (ZhKK3.out).trans (Kept.of_below hb4)
                  have mlo4 : w11.heap.size ≤ mb4 := by rw [hmb4]; exact (ZhKK3.out).size
                  have Zhmb4 := hid hmb4
                  clear hmb4
                  refine hK.out _ _ (HKP.out _ hKK4) (fun hHeld => ?_)
                  clear hK K
                  have ZhM4 := hid hM4
                  have ZhKK4 := hid hKK4
                  try clear hM4 hKK4
                  try simp only [Act.put, List.setIfInBounds_toArray, List.set_cons_zero, List.set_cons_succ]
                  refine wpAnyH_ready (rs := [17]) (by kernel_rfl) (by simp) ?_
                  refine AllReadyH.cons (o := { dst := none, op := Op.store 27 (Operand.tmp 19) (Operand.tmp 172), type := 0, pos := "manifest.go:210", after := #[{ on := 16, ground := Ground.data }, { on := 13, ground := Ground.data }, { on := 11, ground := Ground.chain }, { on := 0, ground := Ground.phase }, { on := 1, ground := Ground.phase }, { on := 2, ground := Ground.phase }, { on := 3, ground := Ground.phase }, { on := 4, ground := Ground.phase }, { on := 5, ground := Ground.phase }, { on := 6, ground := Ground.phase }, { on := 7, ground := Ground.phase }, { on := 8, ground := Ground.phase }, { on := 9, ground := Ground.phase }, { on := 10, ground := Ground.phase }, { on := 11, ground := Ground.phase }, { on := 12, ground := Ground.phase }, { on := 13, ground := Ground.phase }, { on := 14, ground := Ground.textOnly Departure.lateStores }, { on := 15, ground := Ground.textOnly Departure.lateStores }, { on := 16, ground := Ground.phase }], guard := none }) rfl (fun K hK => ?_) AllReadyH.nil
                  refine step_store_row rfl 27 (.tmp 19) (.tmp 172) rfl mb4 mz M3 27 rfl rfl ZhM4.out ZhI3.out ZhZ3.out ZhO3.out ?_
                  intro wz5 hz5 hkz5
                  refine hK.out _ _ (HKP.out _ ((ZhKK4.out).fresh hkz5 mlo4)) (fun hHeld => ?_)
                  clear hK K
                  try simp only [Act.put, List.setIfInBounds_toArray, List.set_cons_zero, List.set_cons_succ]
                  have LV := hid (mdx_late (fb := fb) (Post := (MkPost fb k n q dl ld)) (ZHB2.out) ZhP3.out Zhk3.out Zhmb4.out hb4 ml4 hz5 hkz5)
                  refine wpAnyH_take (i := 18) (oi := { dst := some 20, op := Op.assign (Operand.tmp 173), type := 28, pos := "manifest.go:210", after := #[{ on := 14, ground := Ground.data }, { on := 17, ground := Ground.chain }, { on := 0, ground := Ground.phase }, { on := 1, ground := Ground.phase }, { on := 2, ground := Ground.phase }, { on := 3, ground := Ground.phase }, { on := 4, ground := Ground.phase }, { on := 5, ground := Ground.phase }, { on := 6, ground := Ground.phase }, { on := 7, ground := Ground.phase }, { on := 8, ground := Ground.phase }, { on := 9, ground := Ground.phase }, { on := 10, ground := Ground.phase }, { on := 11, ground := Ground.phase }, { on := 12, ground := Ground.phase }, { on := 13, ground := Ground.phase }, { on := 14, ground := Ground.phase }, { on := 15, ground := Ground.textOnly Departure.lateStores }, { on := 16, ground := Ground.phase }, { on := 17, ground := Ground.phase }], guard := none }) (v := ?_) rfl (by kernel_rfl) (by kernel_rfl) (by kernel_rfl) (fun _ _ _ h => h) (Or.inl ⟨by rfl, ?hy⟩) hHeld ?_
                  case hy => (intro w hSw; (try dsimp only at hSw); obtain ⟨_, _, _, _⟩ := hSw; go_simp; all_goals (with_reducible rfl))
                  try simp only [Act.put, List.setIfInBounds_toArray, List.set_cons_zero, List.set_cons_succ]
                  refine wpAnyH_take (i := 19) (oi := { dst := some 9, op := Op.assign (Operand.tmp 174), type := 35, pos := "manifest.go:210", after := #[{ on := 15, ground := Ground.data }, { on := 18, ground := Ground.chain }, { on := 0, ground := Ground.phase }, { on := 1, ground := Ground.phase }, { on := 2, ground := Ground.phase }, { on := 3, ground := Ground.phase }, { on := 4, ground := Ground.phase }, { on := 5, ground := Ground.phase }, { on := 6, ground := Ground.phase }, { on := 7, ground := Ground.phase }, { on := 8, ground := Ground.phase }, { on := 9, ground := Ground.phase }, { on := 10, ground := Ground.phase }, { on := 11, ground := Ground.phase }, { on := 12, ground := Ground.phase }, { on := 13, ground := Ground.phase }, { on := 14, ground := Ground.phase }, { on := 15, ground := Ground.phase }, { on := 16, ground := Ground.phase }, { on := 17, ground := Ground.phase }, { on := 18, ground := Ground.phase }], guard := none }) (v := ?_) rfl (by kernel_rfl) (by kernel_rfl) (by kernel_rfl) (fun _ _ _ h => h) (Or.inl ⟨by rfl, ?hy⟩) hHeld ?_
                  case hy => (intro w hSw; (try dsimp only at hSw); obtain ⟨_, _, _, _⟩ := hSw; go_simp; all_goals (with_reducible rfl))
                  try simp only [Act.put, List.setIfInBounds_toArray, List.set_cons_zero, List.set_cons_succ]
                  refine wpAnyH_done (by kernel_rfl) ?_ _
                  go_wp2_with fail
                  go_meet
                  exact ⟨_, rfl, _, _, _, _, rfl, rfl, rfl, LV⟩
                refine AllReadyH.cons (o := { dst := some 19, op := Op.alloc 27, type := 0, pos := "manifest.go:210", after := #[], guard := none }) rfl (fun K hK => ?_) AllReadyH.nil
                refine step_mkm rfl rfl ?_
                intro mb6 wm6 hmb6 hM6 hb6 ml6
                have HB6 : Below w11.heap.size w11 wm6 := (ZHB2.out).trans (hb6.mono (ZHB2.out).size)
                have mlo6 : w11.heap.size ≤ mb6 := by rw [hmb6]; exact (ZHB2.out).size
                have hbv6 := (Zhbv2.out).below hb6
                have hown6 := owns_belowX ZhdA2.out hb6
                clear hmb6
                refine hK.out _ _ (HKP.out _ (Kept.of_below HB6)) (fun hHeld => ?_)
                clear hK K
                have ZHB6 := hid HB6
                have ZhM6 := hid hM6
                have Zhbv6 := hid hbv6
                have Zhown6 := hid hown6
                try clear HB6 hM6 hbv6 hown6
                try simp only [Act.put, List.setIfInBounds_toArray, List.set_cons_zero, List.set_cons_succ]
                refine wpAnyH_ready (rs := [11]) (by kernel_rfl) (by simp) ?_
                refine AllReadyH.cons (o := { dst := some 171, op := Op.call { callee := Callee.value (Operand.func 20), args := #[Operand.tmp 160, Operand.tmp 162, Operand.tmp 164, Operand.tmp 166, Operand.tmp 170], argTypes := #[38, 3, 3, 3, 22] }, type := 50, pos := "manifest.go:210", after := #[{ on := 0, ground := Ground.data }, { on := 2, ground := Ground.data }, { on := 4, ground := Ground.data }, { on := 6, ground := Ground.data }, { on := 10, ground := Ground.data }, { on := 10, ground := Ground.chain }], guard := none }) rfl (fun K hK => ?_) AllReadyH.nil
                go_simp
                refine (HMM.out wm6 (ZHB6.out) av2 cv2 (Zhbv6.out) Zhcv2.out (off_lowM (fun ad h => (Zhlow2.out ad h).1) hfb)).mono ?_
                rintro e wm7 ⟨M7, pv7, ev7, rfl, hP7, hk7, hI7, hZ7, hO7⟩
                have hKK7 : Kept fb w11 wm7 := (Kept.of_below (ZHB6.out)).trans hk7
                have hM7 := (hk7.block _ ml6 (by have := mlo6; omega)).trans ZhM6.out
                clear hHeld
                go_wp2_with fail
                refine hK.out _ _ (HKP.out _ hKK7) (fun hHeld => ?_)
                clear hK K
                have ZhM7 := hid hM7
                have ZhKK7 := hid hKK7
                have ZhP7 := hid hP7
                have Zhk7 := hid hk7
                have ZhI7 := hid hI7
                have ZhZ7 := hid hZ7
                have ZhO7 := hid hO7
                try clear hM7 hKK7 hP7 hk7 hI7 hZ7 hO7
                try simp only [Act.put, List.setIfInBounds_toArray, List.set_cons_zero, List.set_cons_succ]
                refine wpAnyH_take (i := 12) (oi := { dst := some 159, op := Op.move (Operand.tmp 171), type := 50, pos := "manifest.go:210", after := #[{ on := 11, ground := Ground.data }], guard := none }) (v := ?_) rfl (by kernel_rfl) (by kernel_rfl) (by kernel_rfl) (fun _ _ _ h => h) (Or.inl ⟨by rfl, ?hy⟩) hHeld ?_
                case hy => (intro w hSw; (try dsimp only at hSw); obtain ⟨_, _, _, _⟩ := hSw; go_simp; all_goals (with_reducible rfl))
                try simp only [Act.put, List.setIfInBounds_toArray, List.set_cons_zero, List.set_cons_succ]
                refine wpAnyH_take (i := 13) (oi := { dst := some 172, op := Op.extract (Operand.tmp 159) 0, type := 27, pos := "manifest.go:210", after := #[{ on := 12, ground := Ground.data }], guard := none }) (v := ?_) rfl (by kernel_rfl) (by kernel_rfl) (by kernel_rfl) (fun _ _ _ h => h) (Or.inl ⟨by rfl, ?hy⟩) hHeld ?_
                case hy => (intro w hSw; (try dsimp only at hSw); obtain ⟨_, _, _, _⟩ := hSw; go_simp; all_goals (with_reducible rfl))
                try simp only [Act.put, List.setIfInBounds_toArray, List.set_cons_zero, List.set_cons_succ]
                refine wpAnyH_take (i := 14) (oi := { dst := some 173, op := Op.extract (Operand.tmp 159) 1, type := 28, pos := "manifest.go:210", after := #[{ on := 12, ground := Ground.data }, { on := 17, ground := Ground.gcOnly Departure.lateStores }], guard := none }) (v := ?_) rfl (by kernel_rfl) (by kernel_rfl) (by kernel_rfl) (fun _ _ _ h => h) (Or.inl ⟨by rfl, ?hy⟩) hHeld ?_
                case hy => (intro w hSw; (try dsimp only at hSw); obtain ⟨_, _, _, _⟩ := hSw; go_simp; all_goals (with_reducible rfl))
                try simp only [Act.put, List.setIfInBounds_toArray, List.set_cons_zero, List.set_cons_succ]
                refine wpAnyH_take (i := 15) (oi := { dst := some 174, op := Op.extract (Operand.tmp 159) 2, type := 35, pos := "manifest.go:210", after := #[{ on := 12, ground := Ground.data }, { on := 18, ground := Ground.gcOnly Departure.lateStores }], guard := none }) (v := ?_) rfl (by kernel_rfl) (by kernel_rfl) (by kernel_rfl) (fun _ _ _ h => h) (Or.inl ⟨by rfl, ?hy⟩) hHeld ?_
                case hy => (intro w hSw; (try dsimp only at hSw); obtain ⟨_, _, _, _⟩ := hSw; go_simp; all_goals (with_reducible rfl))
                try simp only [Act.put, List.setIfInBounds_toArray, List.set_cons_zero, List.set_cons_succ]
                refine wpAnyH_ready (rs := [17]) (by kernel_rfl) (by simp) ?_
                refine AllReadyH.cons (o := { dst := none, op := Op.store 27 (Operand.tmp 19) (Operand.tmp 172), type := 0, pos := "manifest.go:210", after := #[{ on := 16, ground := Ground.data }, { on := 13, ground := Ground.data }, { on := 11, ground := Ground.chain }, { on := 0, ground := Ground.phase }, { on := 1, ground := Ground.phase }, { on := 2, ground := Ground.phase }, { on := 3, ground := Ground.phase }, { on := 4, ground := Ground.phase }, { on := 5, ground := Ground.phase }, { on := 6, ground := Ground.phase }, { on := 7, ground := Ground.phase }, { on := 8, ground := Ground.phase }, { on := 9, ground := Ground.phase }, { on := 10, ground := Ground.phase }, { on := 11, ground := Ground.phase }, { on := 12, ground := Ground.phase }, { on := 13, ground := Ground.phase }, { on := 14, ground := Ground.textOnly Departure.lateStores }, { on := 15, ground := Ground.textOnly Departure.lateStores }, { on := 16, ground := Ground.phase }], guard := none }) rfl (fun K hK => ?_) AllReadyH.nil
                refine step_store_row rfl 27 (.tmp 19) (.tmp 172) rfl mb6 mz M7 27 rfl rfl ZhM7.out ZhI7.out ZhZ7.out ZhO7.out ?_
                intro wz8 hz8 hkz8
                refine hK.out _ _ (HKP.out _ ((ZhKK7.out).fresh hkz8 mlo6)) (fun hHeld => ?_)
                clear hK K
                try simp only [Act.put, List.setIfInBounds_toArray, List.set_cons_zero, List.set_cons_succ]
                have LV := hid (mdx_early (fb := fb) (Post := (MkPost fb k n q dl ld)) (ZHB6.out) ZhP7.out Zhk7.out mlo6 ml6 hz8 hkz8)
                refine wpAnyH_take (i := 18) (oi := { dst := some 20, op := Op.assign (Operand.tmp 173), type := 28, pos := "manifest.go:210", after := #[{ on := 14, ground := Ground.data }, { on := 17, ground := Ground.chain }, { on := 0, ground := Ground.phase }, { on := 1, ground := Ground.phase }, { on := 2, ground := Ground.phase }, { on := 3, ground := Ground.phase }, { on := 4, ground := Ground.phase }, { on := 5, ground := Ground.phase }, { on := 6, ground := Ground.phase }, { on := 7, ground := Ground.phase }, { on := 8, ground := Ground.phase }, { on := 9, ground := Ground.phase }, { on := 10, ground := Ground.phase }, { on := 11, ground := Ground.phase }, { on := 12, ground := Ground.phase }, { on := 13, ground := Ground.phase }, { on := 14, ground := Ground.phase }, { on := 15, ground := Ground.textOnly Departure.lateStores }, { on := 16, ground := Ground.phase }, { on := 17, ground := Ground.phase }], guard := none }) (v := ?_) rfl (by kernel_rfl) (by kernel_rfl) (by kernel_rfl) (fun _ _ _ h => h) (Or.inl ⟨by rfl, ?hy⟩) hHeld ?_
                case hy => (intro w hSw; (try dsimp only at hSw); obtain ⟨_, _, _, _⟩ := hSw; go_simp; all_goals (with_reducible rfl))
                try simp only [Act.put, List.setIfInBounds_toArray, List.set_cons_zero, List.set_cons_succ]
                refine wpAnyH_take (i := 19) (oi := { dst := some 9, op := Op.assign (Operand.tmp 174), type := 35, pos := "manifest.go:210", after := #[{ on := 15, ground := Ground.data }, { on := 18, ground := Ground.chain }, { on := 0, ground := Ground.phase }, { on := 1, ground := Ground.phase }, { on := 2, ground := Ground.phase }, { on := 3, ground := Ground.phase }, { on := 4, ground := Ground.phase }, { on := 5, ground := Ground.phase }, { on := 6, ground := Ground.phase }, { on := 7, ground := Ground.phase }, { on := 8, ground := Ground.phase }, { on := 9, ground := Ground.phase }, { on := 10, ground := Ground.phase }, { on := 11, ground := Ground.phase }, { on := 12, ground := Ground.phase }, { on := 13, ground := Ground.phase }, { on := 14, ground := Ground.phase }, { on := 15, ground := Ground.phase }, { on := 16, ground := Ground.phase }, { on := 17, ground := Ground.phase }, { on := 18, ground := Ground.phase }], guard := none }) (v := ?_) rfl (by kernel_rfl) (by kernel_rfl) (by kernel_rfl) (fun _ _ _ h => h) (Or.inl ⟨by rfl, ?hy⟩) hHeld ?_
                case hy => (intro w hSw; (try dsimp only at hSw); obtain ⟨_, _, _, _⟩ := hSw; go_simp; all_goals (with_reducible rfl))
                try simp only [Act.put, List.setIfInBounds_toArray, List.set_cons_zero, List.set_cons_succ]
                refine wpAnyH_done (by kernel_rfl) ?_ _
                go_wp2_with fail
                go_meet
                exact ⟨_, rfl, _, _, _, _, rfl, rfl, rfl, LV⟩
              refine AllReadyH.cons (o := { dst := some 19, op := Op.alloc 27, type := 0, pos := "manifest.go:210", after := #[], guard := none }) rfl (fun K hK => ?_) AllReadyH.nil
              refine step_mkm rfl rfl ?_
              intro mb9 wm9 hmb9 hM9 hb9 ml9
              have HB9 : Below w11.heap.size w11 wm9 := (ZHB1.out).trans (hb9.mono (ZHB1.out).size)
              have mlo9 : w11.heap.size ≤ mb9 := by rw [hmb9]; exact (ZHB1.out).size
              have nmg9 : mb9 ≠ g1 := by have := gl1; omega
              have hE9 := (hb9.block _ gl1).trans ZhE1.out
              have gl9 := Nat.lt_of_lt_of_le gl1 hb9.size
              clear hmb9
              refine hK.out _ _ (HKP.out _ (Kept.of_below HB9)) (fun hHeld => ?_)
              clear hK K
              have ZHB9 := hid HB9
              have ZhE9 := hid hE9
              have ZhM9 := hid hM9
              try clear HB9 hE9 hM9
              try simp only [Act.put, List.setIfInBounds_toArray, List.set_cons_zero, List.set_cons_succ]
              refine wpAnyH_ready (rs := [10]) (by kernel_rfl) (by simp) ?_
              refine AllReadyH.cons (o := { dst := some 170, op := Op.call { callee := Callee.builtin Builtin.append, args := #[Operand.tmp 167, Operand.tmp 169], argTypes := #[22, 22] }, type := 22, pos := "manifest.go:210", after := #[{ on := 7, ground := Ground.data }, { on := 9, ground := Ground.data }], guard := none }) rfl (fun K hK => ?_) AllReadyH.nil
              refine step_own_bytes rfl (.tmp 167) (.tmp 169) rfl w11.heap.size g1 rfl (own_emptyM ZhE9.out glo1) da dl dc ld rfl (HD.out.below (ZHB9.out)) HDN.out (by omega) (ZHB9.out).size ?_
              intro v10 wm10 hdA10 hgA10
              have nil10 := hdA10
              obtain ⟨av10, cv10, ev10, -, hcv10, hbv10, hlow10⟩ := bs_of_owns hdA10 HDL.out
              subst ev10
              have HB10 : Below w11.heap.size w11 wm10 := (ZHB9.out).grown hgA10 (ZHB9.out).size (fun q hq => by have := glo1; simp at hq; omega)
              have hM10 := (hgA10.block _ ml9 (by simp; exact nmg9)).trans ZhM9.out
              have ml10 := Nat.lt_of_lt_of_le ml9 hgA10.size
              refine hK.out _ _ (HKP.out _ (Kept.of_below HB10)) (fun hHeld => ?_)
              clear hK K
              have ZHB10 := hid HB10
              have ZhM10 := hid hM10
              have Zhbv10 := hid hbv10
              have Zhcv10 := hid hcv10
              have Zhlow10 := hid hlow10
              have ZhdA10 := hid hdA10
              try clear HB10 hM10 hbv10 hcv10 hlow10 hdA10
              try simp only [Act.put, List.setIfInBounds_toArray, List.set_cons_zero, List.set_cons_succ]
              refine wpAnyH_ready (rs := [11]) (by kernel_rfl) (by simp) ?_
              refine AllReadyH.cons (o := { dst := some 171, op := Op.call { callee := Callee.value (Operand.func 20), args := #[Operand.tmp 160, Operand.tmp 162, Operand.tmp 164, Operand.tmp 166, Operand.tmp 170], argTypes := #[38, 3, 3, 3, 22] }, type := 50, pos := "manifest.go:210", after := #[{ on := 0, ground := Ground.data }, { on := 2, ground := Ground.data }, { on := 4, ground := Ground.data }, { on := 6, ground := Ground.data }, { on := 10, ground := Ground.data }, { on := 10, ground := Ground.chain }], guard := none }) rfl (fun K hK => ?_) AllReadyH.nil
              go_simp
              refine (HMM.out wm10 (ZHB10.out) av10 cv10 (Zhbv10.out) Zhcv10.out (off_lowM (fun ad h => (Zhlow10.out ad h).1) hfb)).mono ?_
              rintro e wm11 ⟨M11, pv11, ev11, rfl, hP11, hk11, hI11, hZ11, hO11⟩
              have hKK11 : Kept fb w11 wm11 := (Kept.of_below (ZHB10.out)).trans hk11
              have hM11 := (hk11.block _ ml10 (by have := mlo9; omega)).trans ZhM10.out
              clear hHeld
              go_wp2_with fail
              refine hK.out _ _ (HKP.out _ hKK11) (fun hHeld => ?_)
              clear hK K
              have ZhM11 := hid hM11
              have ZhKK11 := hid hKK11
              have ZhP11 := hid hP11
              have Zhk11 := hid hk11
              have ZhI11 := hid hI11
              have ZhZ11 := hid hZ11
              have ZhO11 := hid hO11
              try clear hM11 hKK11 hP11 hk11 hI11 hZ11 hO11
              try simp only [Act.put, List.setIfInBounds_toArray, List.set_cons_zero, List.set_cons_succ]
              refine wpAnyH_take (i := 12) (oi := { dst := some 159, op := Op.move (Operand.tmp 171), type := 50, pos := "manifest.go:210", after := #[{ on := 11, ground := Ground.data }], guard := none }) (v := ?_) rfl (by kernel_rfl) (by kernel_rfl) (by kernel_rfl) (fun _ _ _ h => h) (Or.inl ⟨by rfl, ?hy⟩) hHeld ?_
              case hy => (intro w hSw; (try dsimp only at hSw); obtain ⟨_, _, _, _⟩ := hSw; go_simp; all_goals (with_reducible rfl))
              try simp only [Act.put, List.setIfInBounds_toArray, List.set_cons_zero, List.set_cons_succ]
              refine wpAnyH_take (i := 13) (oi := { dst := some 172, op := Op.extract (Operand.tmp 159) 0, type := 27, pos := "manifest.go:210", after := #[{ on := 12, ground := Ground.data }], guard := none }) (v := ?_) rfl (by kernel_rfl) (by kernel_rfl) (by kernel_rfl) (fun _ _ _ h => h) (Or.inl ⟨by rfl, ?hy⟩) hHeld ?_
              case hy => (intro w hSw; (try dsimp only at hSw); obtain ⟨_, _, _, _⟩ := hSw; go_simp; all_goals (with_reducible rfl))
              try simp only [Act.put, List.setIfInBounds_toArray, List.set_cons_zero, List.set_cons_succ]
              refine wpAnyH_take (i := 14) (oi := { dst := some 173, op := Op.extract (Operand.tmp 159) 1, type := 28, pos := "manifest.go:210", after := #[{ on := 12, ground := Ground.data }, { on := 17, ground := Ground.gcOnly Departure.lateStores }], guard := none }) (v := ?_) rfl (by kernel_rfl) (by kernel_rfl) (by kernel_rfl) (fun _ _ _ h => h) (Or.inl ⟨by rfl, ?hy⟩) hHeld ?_
              case hy => (intro w hSw; (try dsimp only at hSw); obtain ⟨_, _, _, _⟩ := hSw; go_simp; all_goals (with_reducible rfl))
              try simp only [Act.put, List.setIfInBounds_toArray, List.set_cons_zero, List.set_cons_succ]
              refine wpAnyH_take (i := 15) (oi := { dst := some 174, op := Op.extract (Operand.tmp 159) 2, type := 35, pos := "manifest.go:210", after := #[{ on := 12, ground := Ground.data }, { on := 18, ground := Ground.gcOnly Departure.lateStores }], guard := none }) (v := ?_) rfl (by kernel_rfl) (by kernel_rfl) (by kernel_rfl) (fun _ _ _ h => h) (Or.inl ⟨by rfl, ?hy⟩) hHeld ?_
              case hy => (intro w hSw; (try dsimp only at hSw); obtain ⟨_, _, _, _⟩ := hSw; go_simp; all_goals (with_reducible rfl))
              try simp only [Act.put, List.setIfInBounds_toArray, List.set_cons_zero, List.set_cons_succ]
              refine wpAnyH_ready (rs := [17]) (by kernel_rfl) (by simp) ?_
              refine AllReadyH.cons (o := { dst := none, op := Op.store 27 (Operand.tmp 19) (Operand.tmp 172), type := 0, pos := "manifest.go:210", after := #[{ on := 16, ground := Ground.data }, { on := 13, ground := Ground.data }, { on := 11, ground := Ground.chain }, { on := 0, ground := Ground.phase }, { on := 1, ground := Ground.phase }, { on := 2, ground := Ground.phase }, { on := 3, ground := Ground.phase }, { on := 4, ground := Ground.phase }, { on := 5, ground := Ground.phase }, { on := 6, ground := Ground.phase }, { on := 7, ground := Ground.phase }, { on := 8, ground := Ground.phase }, { on := 9, ground := Ground.phase }, { on := 10, ground := Ground.phase }, { on := 11, ground := Ground.phase }, { on := 12, ground := Ground.phase }, { on := 13, ground := Ground.phase }, { on := 14, ground := Ground.textOnly Departure.lateStores }, { on := 15, ground := Ground.textOnly Departure.lateStores }, { on := 16, ground := Ground.phase }], guard := none }) rfl (fun K hK => ?_) AllReadyH.nil
              refine step_store_row rfl 27 (.tmp 19) (.tmp 172) rfl mb9 mz M11 27 rfl rfl ZhM11.out ZhI11.out ZhZ11.out ZhO11.out ?_
              intro wz12 hz12 hkz12
              refine hK.out _ _ (HKP.out _ ((ZhKK11.out).fresh hkz12 mlo9)) (fun hHeld => ?_)
              clear hK K
              try simp only [Act.put, List.setIfInBounds_toArray, List.set_cons_zero, List.set_cons_succ]
              have LV := hid (mdx_early (fb := fb) (Post := (MkPost fb k n q dl ld)) (ZHB10.out) ZhP11.out Zhk11.out mlo9 ml10 hz12 hkz12)
              refine wpAnyH_take (i := 18) (oi := { dst := some 20, op := Op.assign (Operand.tmp 173), type := 28, pos := "manifest.go:210", after := #[{ on := 14, ground := Ground.data }, { on := 17, ground := Ground.chain }, { on := 0, ground := Ground.phase }, { on := 1, ground := Ground.phase }, { on := 2, ground := Ground.phase }, { on := 3, ground := Ground.phase }, { on := 4, ground := Ground.phase }, { on := 5, ground := Ground.phase }, { on := 6, ground := Ground.phase }, { on := 7, ground := Ground.phase }, { on := 8, ground := Ground.phase }, { on := 9, ground := Ground.phase }, { on := 10, ground := Ground.phase }, { on := 11, ground := Ground.phase }, { on := 12, ground := Ground.phase }, { on := 13, ground := Ground.phase }, { on := 14, ground := Ground.phase }, { on := 15, ground := Ground.textOnly Departure.lateStores }, { on := 16, ground := Ground.phase }, { on := 17, ground := Ground.phase }], guard := none }) (v := ?_) rfl (by kernel_rfl) (by kernel_rfl) (by kernel_rfl) (fun _ _ _ h => h) (Or.inl ⟨by rfl, ?hy⟩) hHeld ?_
              case hy => (intro w hSw; (try dsimp only at hSw); obtain ⟨_, _, _, _⟩ := hSw; go_simp; all_goals (with_reducible rfl))
              try simp only [Act.put, List.setIfInBounds_toArray, List.set_cons_zero, List.set_cons_succ]
              refine wpAnyH_take (i := 19) (oi := { dst := some 9, op := Op.assign (Operand.tmp 174), type := 35, pos := "manifest.go:210", after := #[{ on := 15, ground := Ground.data }, { on := 18, ground := Ground.chain }, { on := 0, ground := Ground.phase }, { on := 1, ground := Ground.phase }, { on := 2, ground := Ground.phase }, { on := 3, ground := Ground.phase }, { on := 4, ground := Ground.phase }, { on := 5, ground := Ground.phase }, { on := 6, ground := Ground.phase }, { on := 7, ground := Ground.phase }, { on := 8, ground := Ground.phase }, { on := 9, ground := Ground.phase }, { on := 10, ground := Ground.phase }, { on := 11, ground := Ground.phase }, { on := 12, ground := Ground.phase }, { on := 13, ground := Ground.phase }, { on := 14, ground := Ground.phase }, { on := 15, ground := Ground.phase }, { on := 16, ground := Ground.phase }, { on := 17, ground := Ground.phase }, { on := 18, ground := Ground.phase }], guard := none }) (v := ?_) rfl (by kernel_rfl) (by kernel_rfl) (by kernel_rfl) (fun _ _ _ h => h) (Or.inl ⟨by rfl, ?hy⟩) hHeld ?_
              case hy => (intro w hSw; (try dsimp only at hSw); obtain ⟨_, _, _, _⟩ := hSw; go_simp; all_goals (with_reducible rfl))
              try simp only [Act.put, List.setIfInBounds_toArray, List.set_cons_zero, List.set_cons_succ]
              refine wpAnyH_done (by kernel_rfl) ?_ _
              go_wp2_with fail
              go_meet
              exact ⟨_, rfl, _, _, _, _, rfl, rfl, rfl, LV⟩
            refine AllReadyH.cons (o := { dst := some 19, op := Op.alloc 27, type := 0, pos := "manifest.go:210", after := #[], guard := none }) rfl (fun K hK => ?_) AllReadyH.nil
            refine step_mkm rfl rfl ?_
            intro mb13 wm13 hmb13 hM13 hb13 ml13
            have HB13 : Below w11.heap.size w11 wm13 := ((bel_drewN (Below.refl w11.heap.size w11) 1)).trans (hb13.mono ((bel_drewN (Below.refl w11.heap.size w11) 1)).size)
            have mlo13 : w11.heap.size ≤ mb13 := by rw [hmb13]; exact ((bel_drewN (Below.refl w11.heap.size w11) 1)).size
            clear hmb13
            refine hK.out _ _ (HKP.out _ (Kept.of_below HB13)) (fun hHeld => ?_)
            clear hK K
            have ZHB13 := hid HB13
            have ZhM13 := hid hM13
            try clear HB13 hM13
            try simp only [Act.put, List.setIfInBounds_toArray, List.set_cons_zero, List.set_cons_succ]
            refine wpAnyH_ready (rs := [7]) (by kernel_rfl) (by simp) ?_
            refine AllReadyH.cons (o := { dst := some 167, op := Op.buildSlice 22 0 #[], type := 22, pos := "manifest.go:210", after := #[], guard := none }) rfl (fun K hK => ?_) AllReadyH.nil
            refine step_build0 rfl rfl ?_
            intro g14 wm14 hge14 hE14 hb14 gl14
            have HB14 : Below w11.heap.size w11 wm14 := (ZHB13.out).trans (hb14.mono (ZHB13.out).size)
            have nmg14 : mb13 ≠ g14 := by have := ml13; omega
            have hM14 := (hb14.block _ ml13).trans ZhM13.out
            have ml14 := Nat.lt_of_lt_of_le ml13 hb14.size
            have glo14 : w11.heap.size ≤ g14 := by rw [hge14]; exact (ZHB13.out).size
            clear hge14
            refine hK.out _ _ (HKP.out _ (Kept.of_below HB14)) (fun hHeld => ?_)
            clear hK K
            have ZHB14 := hid HB14
            have ZhE14 := hid hE14
            have ZhM14 := hid hM14
            try clear HB14 hE14 hM14
            try simp only [Act.put, List.setIfInBounds_toArray, List.set_cons_zero, List.set_cons_succ]
            refine wpAnyH_ready (rs := [10]) (by kernel_rfl) (by simp) ?_
            refine AllReadyH.cons (o := { dst := some 170, op := Op.call { callee := Callee.builtin Builtin.append, args := #[Operand.tmp 167, Operand.tmp 169], argTypes := #[22, 22] }, type := 22, pos := "manifest.go:210", after := #[{ on := 7, ground := Ground.data }, { on := 9, ground := Ground.data }], guard := none }) rfl (fun K hK => ?_) AllReadyH.nil
            refine step_own_bytes rfl (.tmp 167) (.tmp 169) rfl w11.heap.size g14 rfl (own_emptyM ZhE14.out glo14) da dl dc ld rfl (HD.out.below (ZHB14.out)) HDN.out (by omega) (ZHB14.out).size ?_
            intro v15 wm15 hdA15 hgA15
            have nil15 := hdA15
            obtain ⟨av15, cv15, ev15, -, hcv15, hbv15, hlow15⟩ := bs_of_owns hdA15 HDL.out
            subst ev15
            have HB15 : Below w11.heap.size w11 wm15 := (ZHB14.out).grown hgA15 (ZHB14.out).size (fun q hq => by have := glo14; simp at hq; omega)
            have hM15 := (hgA15.block _ ml14 (by simp; exact nmg14)).trans ZhM14.out
            have ml15 := Nat.lt_of_lt_of_le ml14 hgA15.size
            refine hK.out _ _ (HKP.out _ (Kept.of_below HB15)) (fun hHeld => ?_)
            clear hK K
            have ZHB15 := hid HB15
            have ZhM15 := hid hM15
            have Zhbv15 := hid hbv15
            have Zhcv15 := hid hcv15
            have Zhlow15 := hid hlow15
            have ZhdA15 := hid hdA15
            try clear HB15 hM15 hbv15 hcv15 hlow15 hdA15
            try simp only [Act.put, List.setIfInBounds_toArray, List.set_cons_zero, List.set_cons_succ]
            refine wpAnyH_ready (rs := [11]) (by kernel_rfl) (by simp) ?_
            refine AllReadyH.cons (o := { dst := some 171, op := Op.call { callee := Callee.value (Operand.func 20), args := #[Operand.tmp 160, Operand.tmp 162, Operand.tmp 164, Operand.tmp 166, Operand.tmp 170], argTypes := #[38, 3, 3, 3, 22] }, type := 50, pos := "manifest.go:210", after := #[{ on := 0, ground := Ground.data }, { on := 2, ground := Ground.data }, { on := 4, ground := Ground.data }, { on := 6, ground := Ground.data }, { on := 10, ground := Ground.data }, { on := 10, ground := Ground.chain }], guard := none }) rfl (fun K hK => ?_) AllReadyH.nil
            go_simp
            refine (HMM.out wm15 (ZHB15.out) av15 cv15 (Zhbv15.out) Zhcv15.out (off_lowM (fun ad h => (Zhlow15.out ad h).1) hfb)).mono ?_
            rintro e wm16 ⟨M16, pv16, ev16, rfl, hP16, hk16, hI16, hZ16, hO16⟩
            have hKK16 : Kept fb w11 wm16 := (Kept.of_below (ZHB15.out)).trans hk16
            have hM16 := (hk16.block _ ml15 (by have := mlo13; omega)).trans ZhM15.out
            clear hHeld
            go_wp2_with fail
            refine hK.out _ _ (HKP.out _ hKK16) (fun hHeld => ?_)
            clear hK K
            have ZhM16 := hid hM16
            have ZhKK16 := hid hKK16
            have ZhP16 := hid hP16
            have Zhk16 := hid hk16
            have ZhI16 := hid hI16
            have ZhZ16 := hid hZ16
            have ZhO16 := hid hO16
            try clear hM16 hKK16 hP16 hk16 hI16 hZ16 hO16
            try simp only [Act.put, List.setIfInBounds_toArray, List.set_cons_zero, List.set_cons_succ]
            refine wpAnyH_take (i := 12) (oi := { dst := some 159, op := Op.move (Operand.tmp 171), type := 50, pos := "manifest.go:210", after := #[{ on := 11, ground := Ground.data }], guard := none }) (v := ?_) rfl (by kernel_rfl) (by kernel_rfl) (by kernel_rfl) (fun _ _ _ h => h) (Or.inl ⟨by rfl, ?hy⟩) hHeld ?_
            case hy => (intro w hSw; (try dsimp only at hSw); obtain ⟨_, _, _, _⟩ := hSw; go_simp; all_goals (with_reducible rfl))
            try simp only [Act.put, List.setIfInBounds_toArray, List.set_cons_zero, List.set_cons_succ]
            refine wpAnyH_take (i := 13) (oi := { dst := some 172, op := Op.extract (Operand.tmp 159) 0, type := 27, pos := "manifest.go:210", after := #[{ on := 12, ground := Ground.data }], guard := none }) (v := ?_) rfl (by kernel_rfl) (by kernel_rfl) (by kernel_rfl) (fun _ _ _ h => h) (Or.inl ⟨by rfl, ?hy⟩) hHeld ?_
            case hy => (intro w hSw; (try dsimp only at hSw); obtain ⟨_, _, _, _⟩ := hSw; go_simp; all_goals (with_reducible rfl))
            try simp only [Act.put, List.setIfInBounds_toArray, List.set_cons_zero, List.set_cons_succ]
            refine wpAnyH_take (i := 14) (oi := { dst := some 173, op := Op.extract (Operand.tmp 159) 1, type := 28, pos := "manifest.go:210", after := #[{ on := 12, ground := Ground.data }, { on := 17, ground := Ground.gcOnly Departure.lateStores }], guard := none }) (v := ?_) rfl (by kernel_rfl) (by kernel_rfl) (by kernel_rfl) (fun _ _ _ h => h) (Or.inl ⟨by rfl, ?hy⟩) hHeld ?_
            case hy => (intro w hSw; (try dsimp only at hSw); obtain ⟨_, _, _, _⟩ := hSw; go_simp; all_goals (with_reducible rfl))
            try simp only [Act.put, List.setIfInBounds_toArray, List.set_cons_zero, List.set_cons_succ]
            refine wpAnyH_take (i := 15) (oi := { dst := some 174, op := Op.extract (Operand.tmp 159) 2, type := 35, pos := "manifest.go:210", after := #[{ on := 12, ground := Ground.data }, { on := 18, ground := Ground.gcOnly Departure.lateStores }], guard := none }) (v := ?_) rfl (by kernel_rfl) (by kernel_rfl) (by kernel_rfl) (fun _ _ _ h => h) (Or.inl ⟨by rfl, ?hy⟩) hHeld ?_
            case hy => (intro w hSw; (try dsimp only at hSw); obtain ⟨_, _, _, _⟩ := hSw; go_simp; all_goals (with_reducible rfl))
            try simp only [Act.put, List.setIfInBounds_toArray, List.set_cons_zero, List.set_cons_succ]
            refine wpAnyH_ready (rs := [17]) (by kernel_rfl) (by simp) ?_
            refine AllReadyH.cons (o := { dst := none, op := Op.store 27 (Operand.tmp 19) (Operand.tmp 172), type := 0, pos := "manifest.go:210", after := #[{ on := 16, ground := Ground.data }, { on := 13, ground := Ground.data }, { on := 11, ground := Ground.chain }, { on := 0, ground := Ground.phase }, { on := 1, ground := Ground.phase }, { on := 2, ground := Ground.phase }, { on := 3, ground := Ground.phase }, { on := 4, ground := Ground.phase }, { on := 5, ground := Ground.phase }, { on := 6, ground := Ground.phase }, { on := 7, ground := Ground.phase }, { on := 8, ground := Ground.phase }, { on := 9, ground := Ground.phase }, { on := 10, ground := Ground.phase }, { on := 11, ground := Ground.phase }, { on := 12, ground := Ground.phase }, { on := 13, ground := Ground.phase }, { on := 14, ground := Ground.textOnly Departure.lateStores }, { on := 15, ground := Ground.textOnly Departure.lateStores }, { on := 16, ground := Ground.phase }], guard := none }) rfl (fun K hK => ?_) AllReadyH.nil
            refine step_store_row rfl 27 (.tmp 19) (.tmp 172) rfl mb13 mz M16 27 rfl rfl ZhM16.out ZhI16.out ZhZ16.out ZhO16.out ?_
            intro wz17 hz17 hkz17
            refine hK.out _ _ (HKP.out _ ((ZhKK16.out).fresh hkz17 mlo13)) (fun hHeld => ?_)
            clear hK K
            try simp only [Act.put, List.setIfInBounds_toArray, List.set_cons_zero, List.set_cons_succ]
            have LV := hid (mdx_early (fb := fb) (Post := (MkPost fb k n q dl ld)) (ZHB15.out) ZhP16.out Zhk16.out mlo13 ml15 hz17 hkz17)
            refine wpAnyH_take (i := 18) (oi := { dst := some 20, op := Op.assign (Operand.tmp 173), type := 28, pos := "manifest.go:210", after := #[{ on := 14, ground := Ground.data }, { on := 17, ground := Ground.chain }, { on := 0, ground := Ground.phase }, { on := 1, ground := Ground.phase }, { on := 2, ground := Ground.phase }, { on := 3, ground := Ground.phase }, { on := 4, ground := Ground.phase }, { on := 5, ground := Ground.phase }, { on := 6, ground := Ground.phase }, { on := 7, ground := Ground.phase }, { on := 8, ground := Ground.phase }, { on := 9, ground := Ground.phase }, { on := 10, ground := Ground.phase }, { on := 11, ground := Ground.phase }, { on := 12, ground := Ground.phase }, { on := 13, ground := Ground.phase }, { on := 14, ground := Ground.phase }, { on := 15, ground := Ground.textOnly Departure.lateStores }, { on := 16, ground := Ground.phase }, { on := 17, ground := Ground.phase }], guard := none }) (v := ?_) rfl (by kernel_rfl) (by kernel_rfl) (by kernel_rfl) (fun _ _ _ h => h) (Or.inl ⟨by rfl, ?hy⟩) hHeld ?_
            case hy => (intro w hSw; (try dsimp only at hSw); obtain ⟨_, _, _, _⟩ := hSw; go_simp; all_goals (with_reducible rfl))
            try simp only [Act.put, List.setIfInBounds_toArray, List.set_cons_zero, List.set_cons_succ]
            refine wpAnyH_take (i := 19) (oi := { dst := some 9, op := Op.assign (Operand.tmp 174), type := 35, pos := "manifest.go:210", after := #[{ on := 15, ground := Ground.data }, { on := 18, ground := Ground.chain }, { on := 0, ground := Ground.phase }, { on := 1, ground := Ground.phase }, { on := 2, ground := Ground.phase }, { on := 3, ground := Ground.phase }, { on := 4, ground := Ground.phase }, { on := 5, ground := Ground.phase }, { on := 6, ground := Ground.phase }, { on := 7, ground := Ground.phase }, { on := 8, ground := Ground.phase }, { on := 9, ground := Ground.phase }, { on := 10, ground := Ground.phase }, { on := 11, ground := Ground.phase }, { on := 12, ground := Ground.phase }, { on := 13, ground := Ground.phase }, { on := 14, ground := Ground.phase }, { on := 15, ground := Ground.phase }, { on := 16, ground := Ground.phase }, { on := 17, ground := Ground.phase }, { on := 18, ground := Ground.phase }], guard := none }) (v := ?_) rfl (by kernel_rfl) (by kernel_rfl) (by kernel_rfl) (fun _ _ _ h => h) (Or.inl ⟨by rfl, ?hy⟩) hHeld ?_
            case hy => (intro w hSw; (try dsimp only at hSw); obtain ⟨_, _, _, _⟩ := hSw; go_simp; all_goals (with_reducible rfl))
            try simp only [Act.put, List.setIfInBounds_toArray, List.set_cons_zero, List.set_cons_succ]
            refine wpAnyH_done (by kernel_rfl) ?_ _
            go_wp2_with fail
            go_meet
            exact ⟨_, rfl, _, _, _, _, rfl, rfl, rfl, LV⟩
          case rest =>
          obtain ⟨w12, hw12, mb3, M3, pv3, ev3, rfl, rfl, rfl, HX3⟩ := hcut
          subst hw12
          as_aux_lemma =>
          obtain ⟨g3, gd3, bf3, rfl, rfl, R3⟩ := HX3.out.good hfb
          have HR3 := hid R3
          have HBw12 := hid (HBw11.out.trans (R3.kept.below HBw11.out.size hWfb))
          have e2 := (show CaseAt w12 W.heap.size k n q I (.slice da dl dc) mk mn mt ms mo (.slice ma mm mc) (.slice pa pl pc) (.slice ia il ic) from (R3.kept.block _ hlw11 (by omega)).trans HCw11.out).c.2.2.1
          have HBSX12 := hid (HBSX.out.kept R3.kept (off_lowM HAX.out (Nat.lt_of_lt_of_le hfb7 hz10)))
          have HBSA12 := hid (HBSA11.out.kept R3.kept (off_lowM HAA.out hfb6))
          have HQ12 := hid (pcs_keptF HQ11.out R3.kept HFw11.out)
          have HQ3 := hid R3.pcs
          have HDLT := hid (show ∀ i, ld.getD i 0 < 256 from fun i => HDD.out.lt i)
          have cv1 := conv_bs HBSX12.out
          have cv2 := conv_bs HBSA12.out
          have hnb : ((j : Nat) : Int) = 39 + 32 * (q : Int) := by have := HNB.out; omega
          have b5 : (((j : Nat) : Int) == 39 + 32 * (q : Int)) = true := by simpa using hnb
          have b6 : IntKind.i64.wrap (32 * (q : Int)) = 32 * (q : Int) := IntWalk.i64_in _ (by omega)
          have b7 : IntKind.i64.wrap (39 + 32 * (q : Int)) = 39 + 32 * (q : Int) := IntWalk.i64_in _ (by omega)
          have HB5 := hid b5
          clear hnb R3 HX3 HKP HD HMM
          go_wp2_with fail
          refine (pcs_same HQ12.out HQ3.out HDLT.out (Nat.le_trans ht20 (by decide))).mono ?_
          rintro e w13 ⟨rfl, hb13⟩
          have HB13 := hid (HBw12.out.trans (hb13.mono HBw12.out.size))
          clear hb13 cv1 cv2 b5 b6 b7 e2
          go_wp2_with fail
          refine (HK.out w13 HB13.out).mono ?_
          rintro e w14 ⟨rfl, hb14⟩
          have HB14 := hid (HB13.out.trans (hb14.mono HB13.out.size))
          go_wp2
          go_ret
          exact ⟨rfl, HB14.out⟩
theorem memoryD_walk (W : World) (V : Vars W shaRound shaStart) (v0 : Value) (hv0 : CaseWD W v0) :
    Calls Tryd.prog 7 #[v0] W fun e w' => e = .returned (.bool true) ∧ Below W.heap.size W w' := by
  obtain ⟨K, N, T, I, da, dl, dc, ld, mk, mn, mt, ms, mo, ma, mm, mc, mD, pa, pl, pc, ps, D, ia, il, ic, li, C⟩ := hv0
  obtain rfl := C.eq
  exact memory_inD W V K N T I da dl dc ld mk mn mt ms mo ma mm mc pa pl pc ia il ic C.data.1 C.data.2.1 C.data.2.2
end Go.Proofs.YtahnihihfheegaaDoor

namespace Go.Proofs.YtahnihihfheegaaDoor.digestMemory
open Go.ChangeShapes Go.WideShapes Go.ChangeAt Go.RowKit Go.WideMaps Go.WideElems
open Go.ChangeMaps (open_string shut_string)
set_option linter.unusedVariables false

set_option maxRecDepth 100000 in
theorem lifted (os : Os) (started : os.Started) (H : Type) (enc : TypeId × Value → H) :
    ReturnsInHanded {} Tryd.checked os 7 .any (fun w args => (Rows.digestMemorySpec.pre enc Tryd.prog Tryd.f7 [] false w args ∧ laidMetH Tryd.prog laidA w) ∧ sizedMet enc Tryd.prog Tryd.f7 (OpenSpec.ofChange Rows.digestMemorySpec) false w args)
      (Rows.digestMemorySpec.post enc Tryd.prog Tryd.f7 false true false false) := by
  refine returnsInHanded_of_change_and (C := Tryd.checked) (X := fun w _ => laidMetH Tryd.prog laidA w) (fun _ _ _ hh h => h.of_heap hh) ownD started (by kernel_rfl) Tryd.func7
    (ChangeSpec.witness_shaped (enc := enc) (C := Tryd.checked) (os := os) (X := fun w _ => laidMetH Tryd.prog laidA w) false (World.doorLaid Tryd.prog 24 os) #[.agg cz] 8 rfl (World.shaped_of_RefB (by kernel_rfl) (by kernel_rfl)) (by kernel_rfl) (by kernel_rfl) (by kernel_rfl) (door_metA os _)) ?_
  intro W base args ds gs before hval0 hW _ _ hL _
  have hval : ∀ (j : Nat) t v, Tryd.f7.params[j]? = some t → args[j]? = some v → Value.okWide Tryd.prog W .any base t v := hval0
  have hW' := hW
  obtain ⟨p, q, hA0, hV, rfl, hfz, hnd⟩ := hW
  have hA : DataW.TrodAll enc Tryd.prog W 0 (fun _ => true) true Tryd.f7.params.toList args.toList ds p := hA0
  rw [Tryd.params7] at hA hval
  obtain ⟨v0, vs0, d0, ds0, p0, q0, hargs, rfl, rfl, h0, r0⟩ := trodAll_cons hA
  obtain ⟨rfl, rfl, rfl⟩ := trodAll_nil r0
  obtain rfl : args = #[v0] := by cases args; simp_all
  obtain ⟨rfl, rfl⟩ := trodVars_none hV
  have k0 := h0
  have lt0 : ∀ x ∈ p0, x.block < W.heap.size := by obtain ⟨m, hm⟩ := k0; exact DataW.trod_lt m _ _ _ hm
  have C0 := open_caseD (hval 0 31 v0 rfl rfl) h0
  clear hA0 hval0
  refine (memoryD_walk W (vars_of_laid hL) v0 C0).mono fun e W' ⟨he, bel⟩ => ?_
  subst he
  exact ⟨_, rfl, _, _, _, [], _, [], hW', trodAll_mk1 (shut_bool Tryd.underlying4 _), (trodAll_cons_mk (Below.trod Facts.laidOut (by kernel_rfl) (of_decide_eq_true (by kernel_rfl)) k0 bel lt0) trodAll_mk0), rfl, bel.frame _, fun h => by cases h⟩

set_option maxHeartbeats 4000000 in
set_option maxRecDepth 1000000 in
theorem closed : joinedFacts Tryd.pinned.checked.prog 7 Tryd.f7 Rows.digestMemorySpec Rows.digestMemoryRow = true := by
  unfold joinedFacts
  refine (Facts.and2 (Facts.and2 (Facts.and2 (Facts.and2 (Facts.and2 (Facts.and2 (Facts.and2 (Facts.and2 (Facts.and2 (Facts.and2 (Facts.and2 (Facts.and2 (Facts.and2 (Facts.and2 (Facts.and2 (Facts.and2 (Facts.and2 (Facts.and2 (Facts.and2 (Facts.and2 (Facts.and2 (Facts.and2 (Facts.and2 (Facts.and2 (Facts.and2 (Facts.and2 (Facts.and2 (Facts.and2 (Facts.and2 (Facts.and2 (Facts.and2 ?_ Facts.laidOut) Facts.mapsR) ?_) ?_) ?_) Facts.stops) ?_) Facts.knobs) ?_) ?_) ?_) ?_) ?_) ?_) ?_) ?_) ?_) ?_) ?_) ?_) ?_) Facts.keys) ?_) Facts.heard) Facts.enter) ?_) ?_) ?_) ?_) ?_) ?_)
  all_goals (as_aux_lemma => kernel_rfl)

theorem over : Rows.digestMemoryRow.holds Tryd.pinned (OpenSpec.ofChange Rows.digestMemorySpec) :=
  OpenClaim.holds_of_wide 7 Tryd.f7 rfl rfl rfl rfl rfl rfl rfl ⟨rfl, rfl, rfl, rfl, rfl⟩ rfl rfl rfl rfl rfl (by as_aux_lemma => kernel_rfl) Tryd.func7 closed
    (of_decide_eq_true (by as_aux_lemma => kernel_rfl)) (by unfold Func.isWrapper; first | (rw [if_pos (by decide +kernel)]; kernel_rfl) | (rw [if_neg (by decide +kernel)]; exact ⟨rfl, rfl⟩))
    (fun os started H enc _ => lifted os started H enc)
end Go.Proofs.YtahnihihfheegaaDoor.digestMemory
namespace Go.Proofs.YtahnihihfheegaaDoor
open Go
set_option maxHeartbeats 4000000 in
set_option maxRecDepth 1000000 in
theorem digestMemory_holds : Rows.DigestMemoryCardSaid :=
  Claim7.holds_tied_plain_at .later [] [.data, .data] true (true, "48bf63a4ac8f49fd2bf19fc74a41542f9b69bd07c9d5103313011b9f93b68b52") false
    digestMemory.over (fun _ h => by cases h) (by as_aux_lemma => kernel_rfl) (fun _ h => by cases h) digestMemory_row_tie rfl ⟨rfl, rfl⟩ (by as_aux_lemma => kernel_rfl) rfl
    (fun f fn hf hfn => by
      obtain rfl : f = 7 := Option.some.inj ((show Tryd.prog.funcNamed "stolon/stolonlaw02.DigestMemory" = some 7 by as_aux_lemma => kernel_rfl).symm.trans hf) |>.symm
      obtain rfl : fn = Tryd.f7 := (Option.some.inj (Tryd.func7.symm.trans hfn)).symm
      exact ⟨by as_aux_lemma => kernel_rfl, fun j t ht => by
        rw [Tryd.params7] at ht
        rcases j with _ | j
        · obtain rfl : t = 31 := by simpa using ht.symm
          exact (show Tryd.prog.wantsStandIn 31 = false by as_aux_lemma => kernel_rfl)
        · simp at ht⟩)
    (by as_aux_lemma => kernel_rfl)
#print axioms digestMemory_holds
end Go.Proofs.YtahnihihfheegaaDoor
