/-
  DigestRestores: for every input the call returns true, and each argument reads behind it as before; the listed variables hold what the program's text lays (tied). No other condition.
-/
import Derived.Test.YtehjikogdaclgaaDoorBb16
import Derived.Test.YtehjikogdaclgaaDoorBb17
import Derived.Test.YtehjikogdaclgaaDoorBb18
import Derived.Test.YtehjikogdaclgaaDoorBb6
import Derived.Test.YtehjikogdaclgaaDoorCards
import Derived.Test.YtehjikogdaclgaaDoorTie
import Derived.ShutString
import Derived.ChangeOld
import Derived.Below
namespace Go.Proofs.YtehjikogdaclgaaDoor
open Go Go.RowKit
set_option linter.unusedVariables false
set_option linter.unusedSimpArgs false

set_option maxRecDepth 100000 in
set_option maxHeartbeats 40000000 in
theorem restores_inD (W : World) (V : Vars W shaRound shaStart) (K N T I : Int) (da : Option Addr) (dl dc : Nat) (ld : List Nat) (mk mn mt ms : Int) (mo : List Nat) (ma : Option Addr) (mm mc : Nat) (pa : Option Addr) (pl pc : Nat) (ia : Option Addr) (il ic : Nat)
    (li : List Int) (ho : mo.length = 32) (hd : Bs W (.slice da dl dc) ld) (hdc : dl ≤ dc) (hdn : da = none → dc = 0) (hi : Is W (.slice ia il ic) li) :
    Calls Tryd.prog 6 #[.agg (cc K N T I (.slice da dl dc) mk mn mt ms mo (.slice ma mm mc) (.slice pa pl pc) (.slice ia il ic)).toArray] W fun e w' => e = .returned (.bool true) ∧ Below W.heap.size W w' := by
  have HK := hid (fun (wx : World) (b : Below W.heap.size W wx) => known_dg wx (V.below b))
  have hlow : 3 ≤ W.heap.size := V.lt
  have HV := hid V
  obtain ⟨w1, hw1⟩ : ∃ y, y = W.alloc (.cells (cc K N T I (.slice da dl dc) mk mn mt ms mo (.slice ma mm mc) (.slice pa pl pc) (.slice ia il ic)).toArray 31) := ⟨_, rfl⟩
  have HB1 := hid (show Below W.heap.size W w1 from by rw [hw1]; exact (Below.refl _ _).alloc (Nat.le_refl _) _)
  have hC : CaseAt w1 W.heap.size K N T I (.slice da dl dc) mk mn mt ms mo (.slice ma mm mc) (.slice pa pl pc) (.slice ia il ic) := by rw [hw1]; exact heap_new _ _
  have HC := hid hC
  have HDD := hid hd
  have HO := hid ho
  have HI := hid hi
  have hdl0 : dl = ld.length := hd.len
  have hil0 : il = li.length := by obtain ⟨_, _, h, _⟩ := hi; simp only [Value.slice.injEq] at h; exact h.2.1
  have HDE := hid hdl0
  have HIE := hid hil0
  have HDN := hid hdn
  have HDL := hid (show ∀ y ∈ ld, y < 256 from by obtain ⟨_, _, _, h, _⟩ := hd; exact h)
  obtain ⟨CL, hCL⟩ : ∃ CL, CL = cc K N T I (.slice da dl dc) mk mn mt ms mo (.slice ma mm mc) (.slice pa pl pc) (.slice ia il ic) := ⟨_, rfl⟩
  rw [← hCL] at hw1 ⊢
  clear hd hdn hC hCL V hi hdl0 hil0 ho
  go_enter Tryd.func6, Tryd.ntmps6
  go_upto_region 1 with fail
  change Code.wp _ _ _ _ (W.alloc (.cells CL.toArray 31))
  rw [← hw1]
  clear hw1
  go_cut [48] (fun v wx => ∃ wy, wy = wx ∧ wy = w1 ∧ ∃ r, v = .bool r ∧ (r = false → 1 ≤ K ∧ K ≤ N ∧ N ≤ T ∧ T ≤ 20 ∧ dl ≤ 2000 ∧ il ≤ 60))
  case first =>
    obtain ⟨e0, e1, e2, -, e4⟩ := HC.out.c
    have e43 := (HC.out.hi HO.out).2.2
    by_cases c1 : K < 1
    · go_wp2_with fail
      go_meet
      exact ⟨_, rfl, rfl, true, rfl, fun h => by cases h⟩
    · by_cases c2 : N < K
      · go_wp2_with fail
        go_meet
        exact ⟨_, rfl, rfl, true, rfl, fun h => by cases h⟩
      · by_cases c3 : T < N
        · go_wp2_with fail
          go_meet
          exact ⟨_, rfl, rfl, true, rfl, fun h => by cases h⟩
        · by_cases c4 : 20 < T
          · go_wp2_with fail
            go_meet
            exact ⟨_, rfl, rfl, true, rfl, fun h => by cases h⟩
          · by_cases c5 : 2000 < dl
            · have c5' : (2000 : Int) < (dl : Int) := by omega
              go_wp2_with fail
              go_meet
              exact ⟨_, rfl, rfl, true, rfl, fun h => by cases h⟩
            · have c5' : ¬ (2000 : Int) < (dl : Int) := by omega
              by_cases c6 : 60 < il
              · have c6' : (60 : Int) < (il : Int) := by omega
                go_wp2_with fail
                go_meet
                exact ⟨_, rfl, rfl, true, rfl, fun h => by cases h⟩
              · have c6' : ¬ (60 : Int) < (il : Int) := by omega
                go_wp2_with fail
                go_meet
                exact ⟨_, rfl, rfl, false, rfl, fun _ => by omega⟩
  case rest =>
  obtain ⟨w2, hw2, hw21, r, rfl, hrr⟩ := hcut
  subst hw2
  subst hw21
  cases r with
  | true =>
    clear hrr
    go_wp2_with fail
    refine (HK.out _ HB1.out).mono ?_
    rintro e w3 ⟨rfl, hb3⟩
    have HB3 := hid (HB1.out.trans (hb3.mono HB1.out.size))
    go_wp2
    go_ret
    exact ⟨rfl, HB3.out⟩
  | false =>
    have hok0 := hrr rfl
    clear hrr
    obtain ⟨k, rfl⟩ : ∃ q : Nat, K = (q : Int) := ⟨K.toNat, by omega⟩
    obtain ⟨n, rfl⟩ : ∃ q : Nat, N = (q : Int) := ⟨N.toNat, by omega⟩
    obtain ⟨t, rfl⟩ : ∃ q : Nat, T = (q : Int) := ⟨T.toNat, by omega⟩
    have hok : 1 ≤ k ∧ k ≤ n ∧ n ≤ t ∧ t ≤ 255 ∧ dl ≤ 8192 := by omega
    have ht20 : t ≤ 20 := by omega
    have hdl : dl ≤ 2000 := by omega
    have hil : il ≤ 60 := by omega
    have ht1 : 1 ≤ t := by omega
    clear hok0
    have hl2 := lt_of_heap HC.out
    go_wp2_with fail
    refine (newField_any _).mono ?_
    rintro e w3 ⟨rfl, hF, hb3⟩
    obtain ⟨fb, hfb0⟩ : ∃ y, y = w2.heap.size := ⟨_, rfl⟩
    rw [← hfb0] at hF
    have hWfb : W.heap.size ≤ fb := by omega
    have hWfb1 : W.heap.size < fb := by omega
    have hfbw3 : fb < w3.heap.size := lt_of_heap hF
    have HFw3 := hid (show Fld w3 fb from .inl hF)
    have HBw3 := hid (HB1.out.trans (hb3.mono HB1.out.size))
    have HCw3 := hid (show CaseAt w3 W.heap.size k n t I (.slice da dl dc) mk mn mt ms mo (.slice ma mm mc) (.slice pa pl pc) (.slice ia il ic) from (hb3.block _ hl2).trans HC.out)
    have hlw3 := lt_of_heap HCw3.out
    rw [← hfb0]
    clear hfb0 hF hb3 hl2
    have HKP := hid (show ∀ wx : World, Kept fb w3 wx → wx.cell? ⟨W.heap.size, 0, none⟩ = some (.int .i64 (k : Int)) ∧ wx.cell? ⟨W.heap.size, 1, none⟩ = some (.int .i64 (n : Int)) ∧ wx.cell? ⟨W.heap.size, 2, none⟩ = some (.int .i64 (t : Int)) ∧ wx.cell? ⟨W.heap.size, 4, none⟩ = some (.slice da dl dc) from fun wx b => by
      have h : CaseAt wx W.heap.size k n t I (.slice da dl dc) mk mn mt ms mo (.slice ma mm mc) (.slice pa pl pc) (.slice ia il ic) := (b.block _ hlw3 (by omega)).trans HCw3.out
      obtain ⟨f0, f1, f2, -, f4⟩ := h.c
      exact ⟨f0, f1, f2, f4⟩)
    have HD := hid (HDD.out.below HBw3.out)
    have hfb : fb < w3.heap.size := hfbw3
    have HMM := hid (fun (wx : World) (b : Below w3.heap.size w3 wx) a' c' (hd : Bs wx (.slice a' dl c') ld) (hc : dl ≤ c') (ho : Off fb (.slice a' dl c')) => make_post fb k n t dl c' a' ld wx (fld_belowA HFw3.out b) ((HV.out.below HBw3.out).below b) hd ho hc hok.1 hok.2.1 hok.2.2.1 hok.2.2.2.1 hok.2.2.2.2 (Nat.le_trans hlow hWfb))
    go_upto_region 4 with fail
    go_cut [4, 5, 6] (fun mv pv ev wx => ∃ wy, wy = wx ∧ ∃ mb M pw ew, mv = .pointer (some ⟨mb, 0, none⟩) ∧ pv = pw ∧ ev = ew ∧ Hid (MdX fb (MkPost fb k n t dl ld) mb M pw ew w3 wy))
    case first =>
      refine wp_region_held_drew (S := (fun wx => wx.cell? ⟨W.heap.size, 0, none⟩ = some (.int .i64 (k : Int)) ∧ wx.cell? ⟨W.heap.size, 1, none⟩ = some (.int .i64 (n : Int)) ∧ wx.cell? ⟨W.heap.size, 2, none⟩ = some (.int .i64 (t : Int)) ∧ wx.cell? ⟨W.heap.size, 4, none⟩ = some (.slice da dl dc))) (by kernel_rfl) (HKP.out _ (Kept.of_below (bel_drewN (Below.refl _ _) 1))) (fun hHeld => ?_)
      refine wpAnyH_take (i := 0) (oi := { dst := some 52, op := Op.move (Operand.tmp 3), type := 38, pos := "manifest.go:155", after := #[], guard := none }) (v := ?_) rfl (by kernel_rfl) (by kernel_rfl) (by kernel_rfl) (fun _ _ _ h => h) (Or.inl ⟨by rfl, ?hy⟩) hHeld ?_
      case hy => (intro w hSw; (try dsimp only at hSw); obtain ⟨_, _, _, _⟩ := hSw; go_simp; all_goals (with_reducible rfl))
      try simp only [Act.put, List.setIfInBounds_toArray, List.set_cons_zero, List.set_cons_succ]
      refine wpAnyH_take (i := 1) (oi := { dst := some 53, op := Op.fieldAddr 31 (Operand.tmp 1) 0, type := 0, pos := "manifest.go:155", after := #[], guard := none }) (v := ?_) rfl (by kernel_rfl) (by kernel_rfl) (by kernel_rfl) (fun _ _ _ h => h) (Or.inl ⟨by rfl, ?hy⟩) hHeld ?_
      case hy => (intro w hSw; (try dsimp only at hSw); obtain ⟨_, _, _, _⟩ := hSw; go_simp; all_goals (with_reducible rfl))
      try simp only [Act.put, List.setIfInBounds_toArray, List.set_cons_zero, List.set_cons_succ]
      refine wpAnyH_take (i := 2) (oi := { dst := some 54, op := Op.load 3 (Operand.tmp 53), type := 3, pos := "manifest.go:155", after := #[{ on := 1, ground := Ground.data }], guard := none }) (v := ?_) rfl (by kernel_rfl) (by kernel_rfl) (by kernel_rfl) (fun _ _ _ h => h) (Or.inl ⟨by rfl, ?hy⟩) hHeld ?_
      case hy => (intro w hSw; (try dsimp only at hSw); obtain ⟨_, _, _, _⟩ := hSw; go_simp; all_goals (with_reducible rfl))
      try simp only [Act.put, List.setIfInBounds_toArray, List.set_cons_zero, List.set_cons_succ]
      refine wpAnyH_take (i := 3) (oi := { dst := some 55, op := Op.fieldAddr 31 (Operand.tmp 1) 1, type := 0, pos := "manifest.go:155", after := #[], guard := none }) (v := ?_) rfl (by kernel_rfl) (by kernel_rfl) (by kernel_rfl) (fun _ _ _ h => h) (Or.inl ⟨by rfl, ?hy⟩) hHeld ?_
      case hy => (intro w hSw; (try dsimp only at hSw); obtain ⟨_, _, _, _⟩ := hSw; go_simp; all_goals (with_reducible rfl))
      try simp only [Act.put, List.setIfInBounds_toArray, List.set_cons_zero, List.set_cons_succ]
      refine wpAnyH_take (i := 4) (oi := { dst := some 56, op := Op.load 3 (Operand.tmp 55), type := 3, pos := "manifest.go:155", after := #[{ on := 3, ground := Ground.data }], guard := none }) (v := ?_) rfl (by kernel_rfl) (by kernel_rfl) (by kernel_rfl) (fun _ _ _ h => h) (Or.inl ⟨by rfl, ?hy⟩) hHeld ?_
      case hy => (intro w hSw; (try dsimp only at hSw); obtain ⟨_, _, _, _⟩ := hSw; go_simp; all_goals (with_reducible rfl))
      try simp only [Act.put, List.setIfInBounds_toArray, List.set_cons_zero, List.set_cons_succ]
      refine wpAnyH_take (i := 5) (oi := { dst := some 57, op := Op.fieldAddr 31 (Operand.tmp 1) 2, type := 0, pos := "manifest.go:155", after := #[], guard := none }) (v := ?_) rfl (by kernel_rfl) (by kernel_rfl) (by kernel_rfl) (fun _ _ _ h => h) (Or.inl ⟨by rfl, ?hy⟩) hHeld ?_
      case hy => (intro w hSw; (try dsimp only at hSw); obtain ⟨_, _, _, _⟩ := hSw; go_simp; all_goals (with_reducible rfl))
      try simp only [Act.put, List.setIfInBounds_toArray, List.set_cons_zero, List.set_cons_succ]
      refine wpAnyH_take (i := 6) (oi := { dst := some 58, op := Op.load 3 (Operand.tmp 57), type := 3, pos := "manifest.go:155", after := #[{ on := 5, ground := Ground.data }], guard := none }) (v := ?_) rfl (by kernel_rfl) (by kernel_rfl) (by kernel_rfl) (fun _ _ _ h => h) (Or.inl ⟨by rfl, ?hy⟩) hHeld ?_
      case hy => (intro w hSw; (try dsimp only at hSw); obtain ⟨_, _, _, _⟩ := hSw; go_simp; all_goals (with_reducible rfl))
      try simp only [Act.put, List.setIfInBounds_toArray, List.set_cons_zero, List.set_cons_succ]
      refine wpAnyH_take (i := 8) (oi := { dst := some 60, op := Op.fieldAddr 31 (Operand.tmp 1) 4, type := 0, pos := "manifest.go:155", after := #[], guard := none }) (v := ?_) rfl (by kernel_rfl) (by kernel_rfl) (by kernel_rfl) (fun _ _ _ h => h) (Or.inl ⟨by rfl, ?hy⟩) hHeld ?_
      case hy => (intro w hSw; (try dsimp only at hSw); obtain ⟨_, _, _, _⟩ := hSw; go_simp; all_goals (with_reducible rfl))
      try simp only [Act.put, List.setIfInBounds_toArray, List.set_cons_zero, List.set_cons_succ]
      refine wpAnyH_take (i := 9) (oi := { dst := some 61, op := Op.load 22 (Operand.tmp 60), type := 22, pos := "manifest.go:155", after := #[{ on := 8, ground := Ground.data }], guard := none }) (v := ?_) rfl (by kernel_rfl) (by kernel_rfl) (by kernel_rfl) (fun _ _ _ h => h) (Or.inl ⟨by rfl, ?hy⟩) hHeld ?_
      case hy => (intro w hSw; (try dsimp only at hSw); obtain ⟨_, _, _, _⟩ := hSw; go_simp; all_goals (with_reducible rfl))
      try simp only [Act.put, List.setIfInBounds_toArray, List.set_cons_zero, List.set_cons_succ]
      refine wpAnyH_ready (rs := [7, 16]) (by kernel_rfl) (by simp) ?_
      refine AllReadyH.cons (o := { dst := some 59, op := Op.buildSlice 22 0 #[], type := 22, pos := "manifest.go:155", after := #[], guard := none }) rfl (fun K hK => ?_) ?_
      · skip
        refine step_build0 rfl rfl ?_
        intro g1 wm1 hge1 hE1 hb1 gl1
        have HB1 : Below w3.heap.size w3 wm1 := ((bel_drewN (Below.refl w3.heap.size w3) 1)).trans (hb1.mono ((bel_drewN (Below.refl w3.heap.size w3) 1)).size)
        have glo1 : w3.heap.size ≤ g1 := by rw [hge1]; exact ((bel_drewN (Below.refl w3.heap.size w3) 1)).size
        clear hge1
        refine hK.out _ _ (HKP.out _ (Kept.of_below HB1)) (fun hHeld => ?_)
        clear hK K
        have ZHB1 := hid HB1
        have ZhE1 := hid hE1
        try clear HB1 hE1
        try simp only [Act.put, List.setIfInBounds_toArray, List.set_cons_zero, List.set_cons_succ]
        refine wpAnyH_ready (rs := [10, 16]) (by kernel_rfl) (by simp) ?_
        refine AllReadyH.cons (o := { dst := some 62, op := Op.call { callee := Callee.builtin Builtin.append, args := #[Operand.tmp 59, Operand.tmp 61], argTypes := #[22, 22] }, type := 22, pos := "manifest.go:155", after := #[{ on := 7, ground := Ground.data }, { on := 9, ground := Ground.data }], guard := none }) rfl (fun K hK => ?_) ?_
        · skip
          refine step_own_bytes rfl (.tmp 59) (.tmp 61) rfl w3.heap.size g1 rfl (own_emptyM ZhE1.out glo1) da dl dc ld rfl (HD.out.below (ZHB1.out)) HDN.out (by omega) (ZHB1.out).size ?_
          intro v2 wm2 hdA2 hgA2
          have nil2 := hdA2
          obtain ⟨av2, cv2, ev2, -, hcv2, hbv2, hlow2⟩ := bs_of_owns hdA2 HDL.out
          subst ev2
          have HB2 : Below w3.heap.size w3 wm2 := (ZHB1.out).grown hgA2 (ZHB1.out).size (fun q hq => by have := glo1; simp at hq; omega)
          refine hK.out _ _ (HKP.out _ (Kept.of_below HB2)) (fun hHeld => ?_)
          clear hK K
          have ZHB2 := hid HB2
          have Zhbv2 := hid hbv2
          have Zhcv2 := hid hcv2
          have Zhlow2 := hid hlow2
          have ZhdA2 := hid hdA2
          try clear HB2 hbv2 hcv2 hlow2 hdA2
          try simp only [Act.put, List.setIfInBounds_toArray, List.set_cons_zero, List.set_cons_succ]
          refine wpAnyH_ready (rs := [11, 16]) (by kernel_rfl) (by simp) ?_
          refine AllReadyH.cons (o := { dst := some 63, op := Op.call { callee := Callee.value (Operand.func 20), args := #[Operand.tmp 52, Operand.tmp 54, Operand.tmp 56, Operand.tmp 58, Operand.tmp 62], argTypes := #[38, 3, 3, 3, 22] }, type := 50, pos := "manifest.go:155", after := #[{ on := 0, ground := Ground.data }, { on := 2, ground := Ground.data }, { on := 4, ground := Ground.data }, { on := 6, ground := Ground.data }, { on := 10, ground := Ground.data }, { on := 10, ground := Ground.chain }], guard := none }) rfl (fun K hK => ?_) ?_
          · skip
            go_simp
            refine (HMM.out wm2 (ZHB2.out) av2 cv2 (Zhbv2.out) Zhcv2.out (off_lowM (fun ad h => (Zhlow2.out ad h).1) hfb)).mono ?_
            rintro e wm3 ⟨M3, pv3, ev3, rfl, hP3, hk3, hI3, hZ3, hO3⟩
            have hKK3 : Kept fb w3 wm3 := (Kept.of_below (ZHB2.out)).trans hk3
            clear hHeld
            go_wp2_with fail
            refine hK.out _ _ (HKP.out _ hKK3) (fun hHeld => ?_)
            clear hK K
            have ZhKK3 := hid hKK3
            have ZhP3 := hid hP3
            have Zhk3 := hid hk3
            have ZhI3 := hid hI3
            have ZhZ3 := hid hZ3
            have ZhO3 := hid hO3
            try clear hKK3 hP3 hk3 hI3 hZ3 hO3
            try simp only [Act.put, List.setIfInBounds_toArray, List.set_cons_zero, List.set_cons_succ]
            refine wpAnyH_take (i := 12) (oi := { dst := some 51, op := Op.move (Operand.tmp 63), type := 50, pos := "manifest.go:155", after := #[{ on := 11, ground := Ground.data }], guard := none }) (v := ?_) rfl (by kernel_rfl) (by kernel_rfl) (by kernel_rfl) (fun _ _ _ h => h) (Or.inl ⟨by rfl, ?hy⟩) hHeld ?_
            case hy => (intro w hSw; (try dsimp only at hSw); obtain ⟨_, _, _, _⟩ := hSw; go_simp; all_goals (with_reducible rfl))
            try simp only [Act.put, List.setIfInBounds_toArray, List.set_cons_zero, List.set_cons_succ]
            refine wpAnyH_take (i := 13) (oi := { dst := some 64, op := Op.extract (Operand.tmp 51) 0, type := 27, pos := "manifest.go:155", after := #[{ on := 12, ground := Ground.data }], guard := none }) (v := ?_) rfl (by kernel_rfl) (by kernel_rfl) (by kernel_rfl) (fun _ _ _ h => h) (Or.inl ⟨by rfl, ?hy⟩) hHeld ?_
            case hy => (intro w hSw; (try dsimp only at hSw); obtain ⟨_, _, _, _⟩ := hSw; go_simp; all_goals (with_reducible rfl))
            try simp only [Act.put, List.setIfInBounds_toArray, List.set_cons_zero, List.set_cons_succ]
            refine wpAnyH_take (i := 14) (oi := { dst := some 65, op := Op.extract (Operand.tmp 51) 1, type := 28, pos := "manifest.go:155", after := #[{ on := 12, ground := Ground.data }, { on := 17, ground := Ground.gcOnly Departure.lateStores }], guard := none }) (v := ?_) rfl (by kernel_rfl) (by kernel_rfl) (by kernel_rfl) (fun _ _ _ h => h) (Or.inl ⟨by rfl, ?hy⟩) hHeld ?_
            case hy => (intro w hSw; (try dsimp only at hSw); obtain ⟨_, _, _, _⟩ := hSw; go_simp; all_goals (with_reducible rfl))
            try simp only [Act.put, List.setIfInBounds_toArray, List.set_cons_zero, List.set_cons_succ]
            refine wpAnyH_take (i := 15) (oi := { dst := some 66, op := Op.extract (Operand.tmp 51) 2, type := 35, pos := "manifest.go:155", after := #[{ on := 12, ground := Ground.data }, { on := 18, ground := Ground.gcOnly Departure.lateStores }], guard := none }) (v := ?_) rfl (by kernel_rfl) (by kernel_rfl) (by kernel_rfl) (fun _ _ _ h => h) (Or.inl ⟨by rfl, ?hy⟩) hHeld ?_
            case hy => (intro w hSw; (try dsimp only at hSw); obtain ⟨_, _, _, _⟩ := hSw; go_simp; all_goals (with_reducible rfl))
            try simp only [Act.put, List.setIfInBounds_toArray, List.set_cons_zero, List.set_cons_succ]
            refine wpAnyH_ready (rs := [16]) (by kernel_rfl) (by simp) ?_
            refine AllReadyH.cons (o := { dst := some 4, op := Op.alloc 27, type := 0, pos := "manifest.go:155", after := #[], guard := none }) rfl (fun K hK => ?_) AllReadyH.nil
            refine step_mkm rfl rfl ?_
            intro mb4 wm4 hmb4 hM4 hb4 ml4
            have hKK4 : Kept fb w3 wm4 := (ZhKK3.out).trans (Kept.of_below hb4)
            have mlo4 : w3.heap.size ≤ mb4 := by rw [hmb4]; exact (ZhKK3.out).size
            have Zhmb4 := hid hmb4
            clear hmb4
            refine hK.out _ _ (HKP.out _ hKK4) (fun hHeld => ?_)
            clear hK K
            have ZhM4 := hid hM4
            have ZhKK4 := hid hKK4
            try clear hM4 hKK4
            try simp only [Act.put, List.setIfInBounds_toArray, List.set_cons_zero, List.set_cons_succ]
            refine wpAnyH_ready (rs := [17]) (by kernel_rfl) (by simp) ?_
            refine AllReadyH.cons (o := { dst := none, op := Op.store 27 (Operand.tmp 4) (Operand.tmp 64), type := 0, pos := "manifest.go:155", after := #[{ on := 16, ground := Ground.data }, { on := 13, ground := Ground.data }, { on := 11, ground := Ground.chain }, { on := 0, ground := Ground.phase }, { on := 1, ground := Ground.phase }, { on := 2, ground := Ground.phase }, { on := 3, ground := Ground.phase }, { on := 4, ground := Ground.phase }, { on := 5, ground := Ground.phase }, { on := 6, ground := Ground.phase }, { on := 7, ground := Ground.phase }, { on := 8, ground := Ground.phase }, { on := 9, ground := Ground.phase }, { on := 10, ground := Ground.phase }, { on := 11, ground := Ground.phase }, { on := 12, ground := Ground.phase }, { on := 13, ground := Ground.phase }, { on := 14, ground := Ground.textOnly Departure.lateStores }, { on := 15, ground := Ground.textOnly Departure.lateStores }, { on := 16, ground := Ground.phase }], guard := none }) rfl (fun K hK => ?_) AllReadyH.nil
            refine step_store_row rfl 27 (.tmp 4) (.tmp 64) rfl mb4 mz M3 27 rfl rfl ZhM4.out ZhI3.out ZhZ3.out ZhO3.out ?_
            intro wz5 hz5 hkz5
            refine hK.out _ _ (HKP.out _ ((ZhKK4.out).fresh hkz5 mlo4)) (fun hHeld => ?_)
            clear hK K
            try simp only [Act.put, List.setIfInBounds_toArray, List.set_cons_zero, List.set_cons_succ]
            have LV := hid (mdx_late (fb := fb) (Post := (MkPost fb k n t dl ld)) (ZHB2.out) ZhP3.out Zhk3.out Zhmb4.out hb4 ml4 hz5 hkz5)
            refine wpAnyH_take (i := 18) (oi := { dst := some 5, op := Op.assign (Operand.tmp 65), type := 28, pos := "manifest.go:155", after := #[{ on := 14, ground := Ground.data }, { on := 17, ground := Ground.chain }, { on := 0, ground := Ground.phase }, { on := 1, ground := Ground.phase }, { on := 2, ground := Ground.phase }, { on := 3, ground := Ground.phase }, { on := 4, ground := Ground.phase }, { on := 5, ground := Ground.phase }, { on := 6, ground := Ground.phase }, { on := 7, ground := Ground.phase }, { on := 8, ground := Ground.phase }, { on := 9, ground := Ground.phase }, { on := 10, ground := Ground.phase }, { on := 11, ground := Ground.phase }, { on := 12, ground := Ground.phase }, { on := 13, ground := Ground.phase }, { on := 14, ground := Ground.phase }, { on := 15, ground := Ground.textOnly Departure.lateStores }, { on := 16, ground := Ground.phase }, { on := 17, ground := Ground.phase }], guard := none }) (v := ?_) rfl (by kernel_rfl) (by kernel_rfl) (by kernel_rfl) (fun _ _ _ h => h) (Or.inl ⟨by rfl, ?hy⟩) hHeld ?_
            case hy => (intro w hSw; (try dsimp only at hSw); obtain ⟨_, _, _, _⟩ := hSw; go_simp; all_goals (with_reducible rfl))
            try simp only [Act.put, List.setIfInBounds_toArray, List.set_cons_zero, List.set_cons_succ]
            refine wpAnyH_take (i := 19) (oi := { dst := some 6, op := Op.assign (Operand.tmp 66), type := 35, pos := "manifest.go:155", after := #[{ on := 15, ground := Ground.data }, { on := 18, ground := Ground.chain }, { on := 0, ground := Ground.phase }, { on := 1, ground := Ground.phase }, { on := 2, ground := Ground.phase }, { on := 3, ground := Ground.phase }, { on := 4, ground := Ground.phase }, { on := 5, ground := Ground.phase }, { on := 6, ground := Ground.phase }, { on := 7, ground := Ground.phase }, { on := 8, ground := Ground.phase }, { on := 9, ground := Ground.phase }, { on := 10, ground := Ground.phase }, { on := 11, ground := Ground.phase }, { on := 12, ground := Ground.phase }, { on := 13, ground := Ground.phase }, { on := 14, ground := Ground.phase }, { on := 15, ground := Ground.phase }, { on := 16, ground := Ground.phase }, { on := 17, ground := Ground.phase }, { on := 18, ground := Ground.phase }], guard := none }) (v := ?_) rfl (by kernel_rfl) (by kernel_rfl) (by kernel_rfl) (fun _ _ _ h => h) (Or.inl ⟨by rfl, ?hy⟩) hHeld ?_
            case hy => (intro w hSw; (try dsimp only at hSw); obtain ⟨_, _, _, _⟩ := hSw; go_simp; all_goals (with_reducible rfl))
            try simp only [Act.put, List.setIfInBounds_toArray, List.set_cons_zero, List.set_cons_succ]
            refine wpAnyH_done (by kernel_rfl) ?_ _
            go_wp2_with fail
            go_meet
            exact ⟨_, rfl, _, _, _, _, rfl, rfl, rfl, LV⟩
          refine AllReadyH.cons (o := { dst := some 4, op := Op.alloc 27, type := 0, pos := "manifest.go:155", after := #[], guard := none }) rfl (fun K hK => ?_) AllReadyH.nil
          refine step_mkm rfl rfl ?_
          intro mb6 wm6 hmb6 hM6 hb6 ml6
          have HB6 : Below w3.heap.size w3 wm6 := (ZHB2.out).trans (hb6.mono (ZHB2.out).size)
          have mlo6 : w3.heap.size ≤ mb6 := by rw [hmb6]; exact (ZHB2.out).size
          have hbv6 := (Zhbv2.out).below hb6
          have hown6 := owns_belowX ZhdA2.out hb6
          clear hmb6
          refine hK.out _ _ (HKP.out _ (Kept.of_below HB6)) (fun hHeld => ?_)
          clear hK K
          have ZHB6 := hid HB6
          have ZhM6 := hid hM6
          have Zhbv6 := hid hbv6
          have Zhown6 := hid hown6
          try clear HB6 hM6 hbv6 hown6
          try simp only [Act.put, List.setIfInBounds_toArray, List.set_cons_zero, List.set_cons_succ]
          refine wpAnyH_ready (rs := [11]) (by kernel_rfl) (by simp) ?_
          refine AllReadyH.cons (o := { dst := some 63, op := Op.call { callee := Callee.value (Operand.func 20), args := #[Operand.tmp 52, Operand.tmp 54, Operand.tmp 56, Operand.tmp 58, Operand.tmp 62], argTypes := #[38, 3, 3, 3, 22] }, type := 50, pos := "manifest.go:155", after := #[{ on := 0, ground := Ground.data }, { on := 2, ground := Ground.data }, { on := 4, ground := Ground.data }, { on := 6, ground := Ground.data }, { on := 10, ground := Ground.data }, { on := 10, ground := Ground.chain }], guard := none }) rfl (fun K hK => ?_) AllReadyH.nil
          go_simp
          refine (HMM.out wm6 (ZHB6.out) av2 cv2 (Zhbv6.out) Zhcv2.out (off_lowM (fun ad h => (Zhlow2.out ad h).1) hfb)).mono ?_
          rintro e wm7 ⟨M7, pv7, ev7, rfl, hP7, hk7, hI7, hZ7, hO7⟩
          have hKK7 : Kept fb w3 wm7 := (Kept.of_below (ZHB6.out)).trans hk7
          have hM7 := (hk7.block _ ml6 (by have := mlo6; omega)).trans ZhM6.out
          clear hHeld
          go_wp2_with fail
          refine hK.out _ _ (HKP.out _ hKK7) (fun hHeld => ?_)
          clear hK K
          have ZhM7 := hid hM7
          have ZhKK7 := hid hKK7
          have ZhP7 := hid hP7
          have Zhk7 := hid hk7
          have ZhI7 := hid hI7
          have ZhZ7 := hid hZ7
          have ZhO7 := hid hO7
          try clear hM7 hKK7 hP7 hk7 hI7 hZ7 hO7
          try simp only [Act.put, List.setIfInBounds_toArray, List.set_cons_zero, List.set_cons_succ]
          refine wpAnyH_take (i := 12) (oi := { dst := some 51, op := Op.move (Operand.tmp 63), type := 50, pos := "manifest.go:155", after := #[{ on := 11, ground := Ground.data }], guard := none }) (v := ?_) rfl (by kernel_rfl) (by kernel_rfl) (by kernel_rfl) (fun _ _ _ h => h) (Or.inl ⟨by rfl, ?hy⟩) hHeld ?_
          case hy => (intro w hSw; (try dsimp only at hSw); obtain ⟨_, _, _, _⟩ := hSw; go_simp; all_goals (with_reducible rfl))
          try simp only [Act.put, List.setIfInBounds_toArray, List.set_cons_zero, List.set_cons_succ]
          refine wpAnyH_take (i := 13) (oi := { dst := some 64, op := Op.extract (Operand.tmp 51) 0, type := 27, pos := "manifest.go:155", after := #[{ on := 12, ground := Ground.data }], guard := none }) (v := ?_) rfl (by kernel_rfl) (by kernel_rfl) (by kernel_rfl) (fun _ _ _ h => h) (Or.inl ⟨by rfl, ?hy⟩) hHeld ?_
          case hy => (intro w hSw; (try dsimp only at hSw); obtain ⟨_, _, _, _⟩ := hSw; go_simp; all_goals (with_reducible rfl))
          try simp only [Act.put, List.setIfInBounds_toArray, List.set_cons_zero, List.set_cons_succ]
          refine wpAnyH_take (i := 14) (oi := { dst := some 65, op := Op.extract (Operand.tmp 51) 1, type := 28, pos := "manifest.go:155", after := #[{ on := 12, ground := Ground.data }, { on := 17, ground := Ground.gcOnly Departure.lateStores }], guard := none }) (v := ?_) rfl (by kernel_rfl) (by kernel_rfl) (by kernel_rfl) (fun _ _ _ h => h) (Or.inl ⟨by rfl, ?hy⟩) hHeld ?_
          case hy => (intro w hSw; (try dsimp only at hSw); obtain ⟨_, _, _, _⟩ := hSw; go_simp; all_goals (with_reducible rfl))
          try simp only [Act.put, List.setIfInBounds_toArray, List.set_cons_zero, List.set_cons_succ]
          refine wpAnyH_take (i := 15) (oi := { dst := some 66, op := Op.extract (Operand.tmp 51) 2, type := 35, pos := "manifest.go:155", after := #[{ on := 12, ground := Ground.data }, { on := 18, ground := Ground.gcOnly Departure.lateStores }], guard := none }) (v := ?_) rfl (by kernel_rfl) (by kernel_rfl) (by kernel_rfl) (fun _ _ _ h => h) (Or.inl ⟨by rfl, ?hy⟩) hHeld ?_
          case hy => (intro w hSw; (try dsimp only at hSw); obtain ⟨_, _, _, _⟩ := hSw; go_simp; all_goals (with_reducible rfl))
          try simp only [Act.put, List.setIfInBounds_toArray, List.set_cons_zero, List.set_cons_succ]
          refine wpAnyH_ready (rs := [17]) (by kernel_rfl) (by simp) ?_
          refine AllReadyH.cons (o := { dst := none, op := Op.store 27 (Operand.tmp 4) (Operand.tmp 64), type := 0, pos := "manifest.go:155", after := #[{ on := 16, ground := Ground.data }, { on := 13, ground := Ground.data }, { on := 11, ground := Ground.chain }, { on := 0, ground := Ground.phase }, { on := 1, ground := Ground.phase }, { on := 2, ground := Ground.phase }, { on := 3, ground := Ground.phase }, { on := 4, ground := Ground.phase }, { on := 5, ground := Ground.phase }, { on := 6, ground := Ground.phase }, { on := 7, ground := Ground.phase }, { on := 8, ground := Ground.phase }, { on := 9, ground := Ground.phase }, { on := 10, ground := Ground.phase }, { on := 11, ground := Ground.phase }, { on := 12, ground := Ground.phase }, { on := 13, ground := Ground.phase }, { on := 14, ground := Ground.textOnly Departure.lateStores }, { on := 15, ground := Ground.textOnly Departure.lateStores }, { on := 16, ground := Ground.phase }], guard := none }) rfl (fun K hK => ?_) AllReadyH.nil
          refine step_store_row rfl 27 (.tmp 4) (.tmp 64) rfl mb6 mz M7 27 rfl rfl ZhM7.out ZhI7.out ZhZ7.out ZhO7.out ?_
          intro wz8 hz8 hkz8
          refine hK.out _ _ (HKP.out _ ((ZhKK7.out).fresh hkz8 mlo6)) (fun hHeld => ?_)
          clear hK K
          try simp only [Act.put, List.setIfInBounds_toArray, List.set_cons_zero, List.set_cons_succ]
          have LV := hid (mdx_early (fb := fb) (Post := (MkPost fb k n t dl ld)) (ZHB6.out) ZhP7.out Zhk7.out mlo6 ml6 hz8 hkz8)
          refine wpAnyH_take (i := 18) (oi := { dst := some 5, op := Op.assign (Operand.tmp 65), type := 28, pos := "manifest.go:155", after := #[{ on := 14, ground := Ground.data }, { on := 17, ground := Ground.chain }, { on := 0, ground := Ground.phase }, { on := 1, ground := Ground.phase }, { on := 2, ground := Ground.phase }, { on := 3, ground := Ground.phase }, { on := 4, ground := Ground.phase }, { on := 5, ground := Ground.phase }, { on := 6, ground := Ground.phase }, { on := 7, ground := Ground.phase }, { on := 8, ground := Ground.phase }, { on := 9, ground := Ground.phase }, { on := 10, ground := Ground.phase }, { on := 11, ground := Ground.phase }, { on := 12, ground := Ground.phase }, { on := 13, ground := Ground.phase }, { on := 14, ground := Ground.phase }, { on := 15, ground := Ground.textOnly Departure.lateStores }, { on := 16, ground := Ground.phase }, { on := 17, ground := Ground.phase }], guard := none }) (v := ?_) rfl (by kernel_rfl) (by kernel_rfl) (by kernel_rfl) (fun _ _ _ h => h) (Or.inl ⟨by rfl, ?hy⟩) hHeld ?_
          case hy => (intro w hSw; (try dsimp only at hSw); obtain ⟨_, _, _, _⟩ := hSw; go_simp; all_goals (with_reducible rfl))
          try simp only [Act.put, List.setIfInBounds_toArray, List.set_cons_zero, List.set_cons_succ]
          refine wpAnyH_take (i := 19) (oi := { dst := some 6, op := Op.assign (Operand.tmp 66), type := 35, pos := "manifest.go:155", after := #[{ on := 15, ground := Ground.data }, { on := 18, ground := Ground.chain }, { on := 0, ground := Ground.phase }, { on := 1, ground := Ground.phase }, { on := 2, ground := Ground.phase }, { on := 3, ground := Ground.phase }, { on := 4, ground := Ground.phase }, { on := 5, ground := Ground.phase }, { on := 6, ground := Ground.phase }, { on := 7, ground := Ground.phase }, { on := 8, ground := Ground.phase }, { on := 9, ground := Ground.phase }, { on := 10, ground := Ground.phase }, { on := 11, ground := Ground.phase }, { on := 12, ground := Ground.phase }, { on := 13, ground := Ground.phase }, { on := 14, ground := Ground.phase }, { on := 15, ground := Ground.phase }, { on := 16, ground := Ground.phase }, { on := 17, ground := Ground.phase }, { on := 18, ground := Ground.phase }], guard := none }) (v := ?_) rfl (by kernel_rfl) (by kernel_rfl) (by kernel_rfl) (fun _ _ _ h => h) (Or.inl ⟨by rfl, ?hy⟩) hHeld ?_
          case hy => (intro w hSw; (try dsimp only at hSw); obtain ⟨_, _, _, _⟩ := hSw; go_simp; all_goals (with_reducible rfl))
          try simp only [Act.put, List.setIfInBounds_toArray, List.set_cons_zero, List.set_cons_succ]
          refine wpAnyH_done (by kernel_rfl) ?_ _
          go_wp2_with fail
          go_meet
          exact ⟨_, rfl, _, _, _, _, rfl, rfl, rfl, LV⟩
        refine AllReadyH.cons (o := { dst := some 4, op := Op.alloc 27, type := 0, pos := "manifest.go:155", after := #[], guard := none }) rfl (fun K hK => ?_) AllReadyH.nil
        refine step_mkm rfl rfl ?_
        intro mb9 wm9 hmb9 hM9 hb9 ml9
        have HB9 : Below w3.heap.size w3 wm9 := (ZHB1.out).trans (hb9.mono (ZHB1.out).size)
        have mlo9 : w3.heap.size ≤ mb9 := by rw [hmb9]; exact (ZHB1.out).size
        have nmg9 : mb9 ≠ g1 := by have := gl1; omega
        have hE9 := (hb9.block _ gl1).trans ZhE1.out
        have gl9 := Nat.lt_of_lt_of_le gl1 hb9.size
        clear hmb9
        refine hK.out _ _ (HKP.out _ (Kept.of_below HB9)) (fun hHeld => ?_)
        clear hK K
        have ZHB9 := hid HB9
        have ZhE9 := hid hE9
        have ZhM9 := hid hM9
        try clear HB9 hE9 hM9
        try simp only [Act.put, List.setIfInBounds_toArray, List.set_cons_zero, List.set_cons_succ]
        refine wpAnyH_ready (rs := [10]) (by kernel_rfl) (by simp) ?_
        refine AllReadyH.cons (o := { dst := some 62, op := Op.call { callee := Callee.builtin Builtin.append, args := #[Operand.tmp 59, Operand.tmp 61], argTypes := #[22, 22] }, type := 22, pos := "manifest.go:155", after := #[{ on := 7, ground := Ground.data }, { on := 9, ground := Ground.data }], guard := none }) rfl (fun K hK => ?_) AllReadyH.nil
        refine step_own_bytes rfl (.tmp 59) (.tmp 61) rfl w3.heap.size g1 rfl (own_emptyM ZhE9.out glo1) da dl dc ld rfl (HD.out.below (ZHB9.out)) HDN.out (by omega) (ZHB9.out).size ?_
        intro v10 wm10 hdA10 hgA10
        have nil10 := hdA10
        obtain ⟨av10, cv10, ev10, -, hcv10, hbv10, hlow10⟩ := bs_of_owns hdA10 HDL.out
        subst ev10
        have HB10 : Below w3.heap.size w3 wm10 := (ZHB9.out).grown hgA10 (ZHB9.out).size (fun q hq => by have := glo1; simp at hq; omega)
        have hM10 := (hgA10.block _ ml9 (by simp; exact nmg9)).trans ZhM9.out
        have ml10 := Nat.lt_of_lt_of_le ml9 hgA10.size
        refine hK.out _ _ (HKP.out _ (Kept.of_below HB10)) (fun hHeld => ?_)
        clear hK K
        have ZHB10 := hid HB10
        have ZhM10 := hid hM10
        have Zhbv10 := hid hbv10
        have Zhcv10 := hid hcv10
        have Zhlow10 := hid hlow10
        have ZhdA10 := hid hdA10
        try clear HB10 hM10 hbv10 hcv10 hlow10 hdA10
        try simp only [Act.put, List.setIfInBounds_toArray, List.set_cons_zero, List.set_cons_succ]
        refine wpAnyH_ready (rs := [11]) (by kernel_rfl) (by simp) ?_
        refine AllReadyH.cons (o := { dst := some 63, op := Op.call { callee := Callee.value (Operand.func 20), args := #[Operand.tmp 52, Operand.tmp 54, Operand.tmp 56, Operand.tmp 58, Operand.tmp 62], argTypes := #[38, 3, 3, 3, 22] }, type := 50, pos := "manifest.go:155", after := #[{ on := 0, ground := Ground.data }, { on := 2, ground := Ground.data }, { on := 4, ground := Ground.data }, { on := 6, ground := Ground.data }, { on := 10, ground := Ground.data }, { on := 10, ground := Ground.chain }], guard := none }) rfl (fun K hK => ?_) AllReadyH.nil
        go_simp
        refine (HMM.out wm10 (ZHB10.out) av10 cv10 (Zhbv10.out) Zhcv10.out (off_lowM (fun ad h => (Zhlow10.out ad h).1) hfb)).mono ?_
        rintro e wm11 ⟨M11, pv11, ev11, rfl, hP11, hk11, hI11, hZ11, hO11⟩
        have hKK11 : Kept fb w3 wm11 := (Kept.of_below (ZHB10.out)).trans hk11
        have hM11 := (hk11.block _ ml10 (by have := mlo9; omega)).trans ZhM10.out
        clear hHeld
        go_wp2_with fail
        refine hK.out _ _ (HKP.out _ hKK11) (fun hHeld => ?_)
        clear hK K
        have ZhM11 := hid hM11
        have ZhKK11 := hid hKK11
        have ZhP11 := hid hP11
        have Zhk11 := hid hk11
        have ZhI11 := hid hI11
        have ZhZ11 := hid hZ11
        have ZhO11 := hid hO11
        try clear hM11 hKK11 hP11 hk11 hI11 hZ11 hO11
        try simp only [Act.put, List.setIfInBounds_toArray, List.set_cons_zero, List.set_cons_succ]
        refine wpAnyH_take (i := 12) (oi := { dst := some 51, op := Op.move (Operand.tmp 63), type := 50, pos := "manifest.go:155", after := #[{ on := 11, ground := Ground.data }], guard := none }) (v := ?_) rfl (by kernel_rfl) (by kernel_rfl) (by kernel_rfl) (fun _ _ _ h => h) (Or.inl ⟨by rfl, ?hy⟩) hHeld ?_
        case hy => (intro w hSw; (try dsimp only at hSw); obtain ⟨_, _, _, _⟩ := hSw; go_simp; all_goals (with_reducible rfl))
        try simp only [Act.put, List.setIfInBounds_toArray, List.set_cons_zero, List.set_cons_succ]
        refine wpAnyH_take (i := 13) (oi := { dst := some 64, op := Op.extract (Operand.tmp 51) 0, type := 27, pos := "manifest.go:155", after := #[{ on := 12, ground := Ground.data }], guard := none }) (v := ?_) rfl (by kernel_rfl) (by kernel_rfl) (by kernel_rfl) (fun _ _ _ h => h) (Or.inl ⟨by rfl, ?hy⟩) hHeld ?_
        case hy => (intro w hSw; (try dsimp only at hSw); obtain ⟨_, _, _, _⟩ := hSw; go_simp; all_goals (with_reducible rfl))
        try simp only [Act.put, List.setIfInBounds_toArray, List.set_cons_zero, List.set_cons_succ]
        refine wpAnyH_take (i := 14) (oi := { dst := some 65, op := Op.extract (Operand.tmp 51) 1, type := 28, pos := "manifest.go:155", after := #[{ on := 12, ground := Ground.data }, { on := 17, ground := Ground.gcOnly Departure.lateStores }], guard := none }) (v := ?_) rfl (by kernel_rfl) (by kernel_rfl) (by kernel_rfl) (fun _ _ _ h => h) (Or.inl ⟨by rfl, ?hy⟩) hHeld ?_
        case hy => (intro w hSw; (try dsimp only at hSw); obtain ⟨_, _, _, _⟩ := hSw; go_simp; all_goals (with_reducible rfl))
        try simp only [Act.put, List.setIfInBounds_toArray, List.set_cons_zero, List.set_cons_succ]
        refine wpAnyH_take (i := 15) (oi := { dst := some 66, op := Op.extract (Operand.tmp 51) 2, type := 35, pos := "manifest.go:155", after := #[{ on := 12, ground := Ground.data }, { on := 18, ground := Ground.gcOnly Departure.lateStores }], guard := none }) (v := ?_) rfl (by kernel_rfl) (by kernel_rfl) (by kernel_rfl) (fun _ _ _ h => h) (Or.inl ⟨by rfl, ?hy⟩) hHeld ?_
        case hy => (intro w hSw; (try dsimp only at hSw); obtain ⟨_, _, _, _⟩ := hSw; go_simp; all_goals (with_reducible rfl))
        try simp only [Act.put, List.setIfInBounds_toArray, List.set_cons_zero, List.set_cons_succ]
        refine wpAnyH_ready (rs := [17]) (by kernel_rfl) (by simp) ?_
        refine AllReadyH.cons (o := { dst := none, op := Op.store 27 (Operand.tmp 4) (Operand.tmp 64), type := 0, pos := "manifest.go:155", after := #[{ on := 16, ground := Ground.data }, { on := 13, ground := Ground.data }, { on := 11, ground := Ground.chain }, { on := 0, ground := Ground.phase }, { on := 1, ground := Ground.phase }, { on := 2, ground := Ground.phase }, { on := 3, ground := Ground.phase }, { on := 4, ground := Ground.phase }, { on := 5, ground := Ground.phase }, { on := 6, ground := Ground.phase }, { on := 7, ground := Ground.phase }, { on := 8, ground := Ground.phase }, { on := 9, ground := Ground.phase }, { on := 10, ground := Ground.phase }, { on := 11, ground := Ground.phase }, { on := 12, ground := Ground.phase }, { on := 13, ground := Ground.phase }, { on := 14, ground := Ground.textOnly Departure.lateStores }, { on := 15, ground := Ground.textOnly Departure.lateStores }, { on := 16, ground := Ground.phase }], guard := none }) rfl (fun K hK => ?_) AllReadyH.nil
        refine step_store_row rfl 27 (.tmp 4) (.tmp 64) rfl mb9 mz M11 27 rfl rfl ZhM11.out ZhI11.out ZhZ11.out ZhO11.out ?_
        intro wz12 hz12 hkz12
        refine hK.out _ _ (HKP.out _ ((ZhKK11.out).fresh hkz12 mlo9)) (fun hHeld => ?_)
        clear hK K
        try simp only [Act.put, List.setIfInBounds_toArray, List.set_cons_zero, List.set_cons_succ]
        have LV := hid (mdx_early (fb := fb) (Post := (MkPost fb k n t dl ld)) (ZHB10.out) ZhP11.out Zhk11.out mlo9 ml10 hz12 hkz12)
        refine wpAnyH_take (i := 18) (oi := { dst := some 5, op := Op.assign (Operand.tmp 65), type := 28, pos := "manifest.go:155", after := #[{ on := 14, ground := Ground.data }, { on := 17, ground := Ground.chain }, { on := 0, ground := Ground.phase }, { on := 1, ground := Ground.phase }, { on := 2, ground := Ground.phase }, { on := 3, ground := Ground.phase }, { on := 4, ground := Ground.phase }, { on := 5, ground := Ground.phase }, { on := 6, ground := Ground.phase }, { on := 7, ground := Ground.phase }, { on := 8, ground := Ground.phase }, { on := 9, ground := Ground.phase }, { on := 10, ground := Ground.phase }, { on := 11, ground := Ground.phase }, { on := 12, ground := Ground.phase }, { on := 13, ground := Ground.phase }, { on := 14, ground := Ground.phase }, { on := 15, ground := Ground.textOnly Departure.lateStores }, { on := 16, ground := Ground.phase }, { on := 17, ground := Ground.phase }], guard := none }) (v := ?_) rfl (by kernel_rfl) (by kernel_rfl) (by kernel_rfl) (fun _ _ _ h => h) (Or.inl ⟨by rfl, ?hy⟩) hHeld ?_
        case hy => (intro w hSw; (try dsimp only at hSw); obtain ⟨_, _, _, _⟩ := hSw; go_simp; all_goals (with_reducible rfl))
        try simp only [Act.put, List.setIfInBounds_toArray, List.set_cons_zero, List.set_cons_succ]
        refine wpAnyH_take (i := 19) (oi := { dst := some 6, op := Op.assign (Operand.tmp 66), type := 35, pos := "manifest.go:155", after := #[{ on := 15, ground := Ground.data }, { on := 18, ground := Ground.chain }, { on := 0, ground := Ground.phase }, { on := 1, ground := Ground.phase }, { on := 2, ground := Ground.phase }, { on := 3, ground := Ground.phase }, { on := 4, ground := Ground.phase }, { on := 5, ground := Ground.phase }, { on := 6, ground := Ground.phase }, { on := 7, ground := Ground.phase }, { on := 8, ground := Ground.phase }, { on := 9, ground := Ground.phase }, { on := 10, ground := Ground.phase }, { on := 11, ground := Ground.phase }, { on := 12, ground := Ground.phase }, { on := 13, ground := Ground.phase }, { on := 14, ground := Ground.phase }, { on := 15, ground := Ground.phase }, { on := 16, ground := Ground.phase }, { on := 17, ground := Ground.phase }, { on := 18, ground := Ground.phase }], guard := none }) (v := ?_) rfl (by kernel_rfl) (by kernel_rfl) (by kernel_rfl) (fun _ _ _ h => h) (Or.inl ⟨by rfl, ?hy⟩) hHeld ?_
        case hy => (intro w hSw; (try dsimp only at hSw); obtain ⟨_, _, _, _⟩ := hSw; go_simp; all_goals (with_reducible rfl))
        try simp only [Act.put, List.setIfInBounds_toArray, List.set_cons_zero, List.set_cons_succ]
        refine wpAnyH_done (by kernel_rfl) ?_ _
        go_wp2_with fail
        go_meet
        exact ⟨_, rfl, _, _, _, _, rfl, rfl, rfl, LV⟩
      refine AllReadyH.cons (o := { dst := some 4, op := Op.alloc 27, type := 0, pos := "manifest.go:155", after := #[], guard := none }) rfl (fun K hK => ?_) AllReadyH.nil
      refine step_mkm rfl rfl ?_
      intro mb13 wm13 hmb13 hM13 hb13 ml13
      have HB13 : Below w3.heap.size w3 wm13 := ((bel_drewN (Below.refl w3.heap.size w3) 1)).trans (hb13.mono ((bel_drewN (Below.refl w3.heap.size w3) 1)).size)
      have mlo13 : w3.heap.size ≤ mb13 := by rw [hmb13]; exact ((bel_drewN (Below.refl w3.heap.size w3) 1)).size
      clear hmb13
      refine hK.out _ _ (HKP.out _ (Kept.of_below HB13)) (fun hHeld => ?_)
      clear hK K
      have ZHB13 := hid HB13
      have ZhM13 := hid hM13
      try clear HB13 hM13
      try simp only [Act.put, List.setIfInBounds_toArray, List.set_cons_zero, List.set_cons_succ]
      refine wpAnyH_ready (rs := [7]) (by kernel_rfl) (by simp) ?_
      refine AllReadyH.cons (o := { dst := some 59, op := Op.buildSlice 22 0 #[], type := 22, pos := "manifest.go:155", after := #[], guard := none }) rfl (fun K hK => ?_) AllReadyH.nil
      refine step_build0 rfl rfl ?_
      intro g14 wm14 hge14 hE14 hb14 gl14
      have HB14 : Below w3.heap.size w3 wm14 := (ZHB13.out).trans (hb14.mono (ZHB13.out).size)
      have nmg14 : mb13 ≠ g14 := by have := ml13; omega
      have hM14 := (hb14.block _ ml13).trans ZhM13.out
      have ml14 := Nat.lt_of_lt_of_le ml13 hb14.size
      have glo14 : w3.heap.size ≤ g14 := by rw [hge14]; exact (ZHB13.out).size
      clear hge14
      refine hK.out _ _ (HKP.out _ (Kept.of_below HB14)) (fun hHeld => ?_)
      clear hK K
      have ZHB14 := hid HB14
      have ZhE14 := hid hE14
      have ZhM14 := hid hM14
      try clear HB14 hE14 hM14
      try simp only [Act.put, List.setIfInBounds_toArray, List.set_cons_zero, List.set_cons_succ]
      refine wpAnyH_ready (rs := [10]) (by kernel_rfl) (by simp) ?_
      refine AllReadyH.cons (o := { dst := some 62, op := Op.call { callee := Callee.builtin Builtin.append, args := #[Operand.tmp 59, Operand.tmp 61], argTypes := #[22, 22] }, type := 22, pos := "manifest.go:155", after := #[{ on := 7, ground := Ground.data }, { on := 9, ground := Ground.data }], guard := none }) rfl (fun K hK => ?_) AllReadyH.nil
      refine step_own_bytes rfl (.tmp 59) (.tmp 61) rfl w3.heap.size g14 rfl (own_emptyM ZhE14.out glo14) da dl dc ld rfl (HD.out.below (ZHB14.out)) HDN.out (by omega) (ZHB14.out).size ?_
      intro v15 wm15 hdA15 hgA15
      have nil15 := hdA15
      obtain ⟨av15, cv15, ev15, -, hcv15, hbv15, hlow15⟩ := bs_of_owns hdA15 HDL.out
      subst ev15
      have HB15 : Below w3.heap.size w3 wm15 := (ZHB14.out).grown hgA15 (ZHB14.out).size (fun q hq => by have := glo14; simp at hq; omega)
      have hM15 := (hgA15.block _ ml14 (by simp; exact nmg14)).trans ZhM14.out
      have ml15 := Nat.lt_of_lt_of_le ml14 hgA15.size
      refine hK.out _ _ (HKP.out _ (Kept.of_below HB15)) (fun hHeld => ?_)
      clear hK K
      have ZHB15 := hid HB15
      have ZhM15 := hid hM15
      have Zhbv15 := hid hbv15
      have Zhcv15 := hid hcv15
      have Zhlow15 := hid hlow15
      have ZhdA15 := hid hdA15
      try clear HB15 hM15 hbv15 hcv15 hlow15 hdA15
      try simp only [Act.put, List.setIfInBounds_toArray, List.set_cons_zero, List.set_cons_succ]
      refine wpAnyH_ready (rs := [11]) (by kernel_rfl) (by simp) ?_
      refine AllReadyH.cons (o := { dst := some 63, op := Op.call { callee := Callee.value (Operand.func 20), args := #[Operand.tmp 52, Operand.tmp 54, Operand.tmp 56, Operand.tmp 58, Operand.tmp 62], argTypes := #[38, 3, 3, 3, 22] }, type := 50, pos := "manifest.go:155", after := #[{ on := 0, ground := Ground.data }, { on := 2, ground := Ground.data }, { on := 4, ground := Ground.data }, { on := 6, ground := Ground.data }, { on := 10, ground := Ground.data }, { on := 10, ground := Ground.chain }], guard := none }) rfl (fun K hK => ?_) AllReadyH.nil
      go_simp
      refine (HMM.out wm15 (ZHB15.out) av15 cv15 (Zhbv15.out) Zhcv15.out (off_lowM (fun ad h => (Zhlow15.out ad h).1) hfb)).mono ?_
      rintro e wm16 ⟨M16, pv16, ev16, rfl, hP16, hk16, hI16, hZ16, hO16⟩
      have hKK16 : Kept fb w3 wm16 := (Kept.of_below (ZHB15.out)).trans hk16
      have hM16 := (hk16.block _ ml15 (by have := mlo13; omega)).trans ZhM15.out
      clear hHeld
      go_wp2_with fail
      refine hK.out _ _ (HKP.out _ hKK16) (fun hHeld => ?_)
      clear hK K
      have ZhM16 := hid hM16
      have ZhKK16 := hid hKK16
      have ZhP16 := hid hP16
      have Zhk16 := hid hk16
      have ZhI16 := hid hI16
      have ZhZ16 := hid hZ16
      have ZhO16 := hid hO16
      try clear hM16 hKK16 hP16 hk16 hI16 hZ16 hO16
      try simp only [Act.put, List.setIfInBounds_toArray, List.set_cons_zero, List.set_cons_succ]
      refine wpAnyH_take (i := 12) (oi := { dst := some 51, op := Op.move (Operand.tmp 63), type := 50, pos := "manifest.go:155", after := #[{ on := 11, ground := Ground.data }], guard := none }) (v := ?_) rfl (by kernel_rfl) (by kernel_rfl) (by kernel_rfl) (fun _ _ _ h => h) (Or.inl ⟨by rfl, ?hy⟩) hHeld ?_
      case hy => (intro w hSw; (try dsimp only at hSw); obtain ⟨_, _, _, _⟩ := hSw; go_simp; all_goals (with_reducible rfl))
      try simp only [Act.put, List.setIfInBounds_toArray, List.set_cons_zero, List.set_cons_succ]
      refine wpAnyH_take (i := 13) (oi := { dst := some 64, op := Op.extract (Operand.tmp 51) 0, type := 27, pos := "manifest.go:155", after := #[{ on := 12, ground := Ground.data }], guard := none }) (v := ?_) rfl (by kernel_rfl) (by kernel_rfl) (by kernel_rfl) (fun _ _ _ h => h) (Or.inl ⟨by rfl, ?hy⟩) hHeld ?_
      case hy => (intro w hSw; (try dsimp only at hSw); obtain ⟨_, _, _, _⟩ := hSw; go_simp; all_goals (with_reducible rfl))
      try simp only [Act.put, List.setIfInBounds_toArray, List.set_cons_zero, List.set_cons_succ]
      refine wpAnyH_take (i := 14) (oi := { dst := some 65, op := Op.extract (Operand.tmp 51) 1, type := 28, pos := "manifest.go:155", after := #[{ on := 12, ground := Ground.data }, { on := 17, ground := Ground.gcOnly Departure.lateStores }], guard := none }) (v := ?_) rfl (by kernel_rfl) (by kernel_rfl) (by kernel_rfl) (fun _ _ _ h => h) (Or.inl ⟨by rfl, ?hy⟩) hHeld ?_
      case hy => (intro w hSw; (try dsimp only at hSw); obtain ⟨_, _, _, _⟩ := hSw; go_simp; all_goals (with_reducible rfl))
      try simp only [Act.put, List.setIfInBounds_toArray, List.set_cons_zero, List.set_cons_succ]
      refine wpAnyH_take (i := 15) (oi := { dst := some 66, op := Op.extract (Operand.tmp 51) 2, type := 35, pos := "manifest.go:155", after := #[{ on := 12, ground := Ground.data }, { on := 18, ground := Ground.gcOnly Departure.lateStores }], guard := none }) (v := ?_) rfl (by kernel_rfl) (by kernel_rfl) (by kernel_rfl) (fun _ _ _ h => h) (Or.inl ⟨by rfl, ?hy⟩) hHeld ?_
      case hy => (intro w hSw; (try dsimp only at hSw); obtain ⟨_, _, _, _⟩ := hSw; go_simp; all_goals (with_reducible rfl))
      try simp only [Act.put, List.setIfInBounds_toArray, List.set_cons_zero, List.set_cons_succ]
      refine wpAnyH_ready (rs := [17]) (by kernel_rfl) (by simp) ?_
      refine AllReadyH.cons (o := { dst := none, op := Op.store 27 (Operand.tmp 4) (Operand.tmp 64), type := 0, pos := "manifest.go:155", after := #[{ on := 16, ground := Ground.data }, { on := 13, ground := Ground.data }, { on := 11, ground := Ground.chain }, { on := 0, ground := Ground.phase }, { on := 1, ground := Ground.phase }, { on := 2, ground := Ground.phase }, { on := 3, ground := Ground.phase }, { on := 4, ground := Ground.phase }, { on := 5, ground := Ground.phase }, { on := 6, ground := Ground.phase }, { on := 7, ground := Ground.phase }, { on := 8, ground := Ground.phase }, { on := 9, ground := Ground.phase }, { on := 10, ground := Ground.phase }, { on := 11, ground := Ground.phase }, { on := 12, ground := Ground.phase }, { on := 13, ground := Ground.phase }, { on := 14, ground := Ground.textOnly Departure.lateStores }, { on := 15, ground := Ground.textOnly Departure.lateStores }, { on := 16, ground := Ground.phase }], guard := none }) rfl (fun K hK => ?_) AllReadyH.nil
      refine step_store_row rfl 27 (.tmp 4) (.tmp 64) rfl mb13 mz M16 27 rfl rfl ZhM16.out ZhI16.out ZhZ16.out ZhO16.out ?_
      intro wz17 hz17 hkz17
      refine hK.out _ _ (HKP.out _ ((ZhKK16.out).fresh hkz17 mlo13)) (fun hHeld => ?_)
      clear hK K
      try simp only [Act.put, List.setIfInBounds_toArray, List.set_cons_zero, List.set_cons_succ]
      have LV := hid (mdx_early (fb := fb) (Post := (MkPost fb k n t dl ld)) (ZHB15.out) ZhP16.out Zhk16.out mlo13 ml15 hz17 hkz17)
      refine wpAnyH_take (i := 18) (oi := { dst := some 5, op := Op.assign (Operand.tmp 65), type := 28, pos := "manifest.go:155", after := #[{ on := 14, ground := Ground.data }, { on := 17, ground := Ground.chain }, { on := 0, ground := Ground.phase }, { on := 1, ground := Ground.phase }, { on := 2, ground := Ground.phase }, { on := 3, ground := Ground.phase }, { on := 4, ground := Ground.phase }, { on := 5, ground := Ground.phase }, { on := 6, ground := Ground.phase }, { on := 7, ground := Ground.phase }, { on := 8, ground := Ground.phase }, { on := 9, ground := Ground.phase }, { on := 10, ground := Ground.phase }, { on := 11, ground := Ground.phase }, { on := 12, ground := Ground.phase }, { on := 13, ground := Ground.phase }, { on := 14, ground := Ground.phase }, { on := 15, ground := Ground.textOnly Departure.lateStores }, { on := 16, ground := Ground.phase }, { on := 17, ground := Ground.phase }], guard := none }) (v := ?_) rfl (by kernel_rfl) (by kernel_rfl) (by kernel_rfl) (fun _ _ _ h => h) (Or.inl ⟨by rfl, ?hy⟩) hHeld ?_
      case hy => (intro w hSw; (try dsimp only at hSw); obtain ⟨_, _, _, _⟩ := hSw; go_simp; all_goals (with_reducible rfl))
      try simp only [Act.put, List.setIfInBounds_toArray, List.set_cons_zero, List.set_cons_succ]
      refine wpAnyH_take (i := 19) (oi := { dst := some 6, op := Op.assign (Operand.tmp 66), type := 35, pos := "manifest.go:155", after := #[{ on := 15, ground := Ground.data }, { on := 18, ground := Ground.chain }, { on := 0, ground := Ground.phase }, { on := 1, ground := Ground.phase }, { on := 2, ground := Ground.phase }, { on := 3, ground := Ground.phase }, { on := 4, ground := Ground.phase }, { on := 5, ground := Ground.phase }, { on := 6, ground := Ground.phase }, { on := 7, ground := Ground.phase }, { on := 8, ground := Ground.phase }, { on := 9, ground := Ground.phase }, { on := 10, ground := Ground.phase }, { on := 11, ground := Ground.phase }, { on := 12, ground := Ground.phase }, { on := 13, ground := Ground.phase }, { on := 14, ground := Ground.phase }, { on := 15, ground := Ground.phase }, { on := 16, ground := Ground.phase }, { on := 17, ground := Ground.phase }, { on := 18, ground := Ground.phase }], guard := none }) (v := ?_) rfl (by kernel_rfl) (by kernel_rfl) (by kernel_rfl) (fun _ _ _ h => h) (Or.inl ⟨by rfl, ?hy⟩) hHeld ?_
      case hy => (intro w hSw; (try dsimp only at hSw); obtain ⟨_, _, _, _⟩ := hSw; go_simp; all_goals (with_reducible rfl))
      try simp only [Act.put, List.setIfInBounds_toArray, List.set_cons_zero, List.set_cons_succ]
      refine wpAnyH_done (by kernel_rfl) ?_ _
      go_wp2_with fail
      go_meet
      exact ⟨_, rfl, _, _, _, _, rfl, rfl, rfl, LV⟩
    case rest =>
    obtain ⟨w4, hw4, mb1, M1, pv1, ev1, rfl, rfl, rfl, HX1⟩ := hcut
    subst hw4
    as_aux_lemma =>
    obtain ⟨g1, gd1, bf1, rfl, rfl, R1⟩ := HX1.out.good hfb
    have HR1 := hid R1
    have HBw4 := hid (HBw3.out.trans (R1.kept.below HBw3.out.size hWfb))
    have HCw4 := hid (show CaseAt w4 W.heap.size k n t I (.slice da dl dc) mk mn mt ms mo (.slice ma mm mc) (.slice pa pl pc) (.slice ia il ic) from (R1.kept.block _ hlw3 (by omega)).trans HCw3.out)
    have hlw4 := lt_of_heap HCw4.out
    have hfbw4 : fb < w4.heap.size := Nat.lt_of_lt_of_le hfb R1.kept.size
    have HFw4 := hid (show Fld w4 fb from .inr R1.built)
    clear R1 HX1 HKP HD HMM
    obtain ⟨LP, hLP⟩ : ∃ LP, LP = plen k dl := ⟨_, rfl⟩
    have HLP := hid hLP
    have hLPb : LP ≤ 8192 := by have := plen_le k dl hok.1; omega
    obtain ⟨DG, hDG⟩ : ∃ DG, DG = DGm ld k t := ⟨_, rfl⟩
    have HDG := hid hDG
    obtain ⟨OD, hOD⟩ : ∃ OD, OD = dig shaRound shaStart ld := ⟨_, rfl⟩
    have HOD := hid hOD
    have HODL := hid (show OD.length = 32 from by rw [hOD]; exact dig_length _ _ _)
    have HM1 := hid (show ManAt w4 mb1 k n t dl OD (.slice (some ⟨gd1, 0, none⟩) t t) from by rw [hOD]; exact HR1.out.man)
    have HDS := hid (show Dgs w4 (some ⟨gd1, 0, none⟩) t t DG from ⟨by rw [hDG]; unfold DGm; rw [← HDE.out]; exact dgAt_range HR1.out.rng, Nat.le_refl _, fun h => by cases h⟩)
    have HML := hid (show ∀ v, (mcells k n t dl OD v).length = 37 from fun v => mcells_length k n t dl OD v HODL.out)
    have HIM := hid (show (Tryd.prog.info? 27).map (·.size) = some (mcells k n t dl OD (.slice (some ⟨gd1, 0, none⟩) t t)).length from by rw [HML.out]; kernel_rfl)
    have hmz : manE k n t dl t = 0 := by
      have h := rst_man (k := k) (n := n) (t := t) (l := ld) (by rw [← HDE.out]; exact hok)
      rw [← HDE.out] at h
      unfold manE
      rw [h]
      rfl
    have HCM := hid (fun wx => CheckManifest_any k n t dl OD (some ⟨gd1, 0, none⟩) t t HODL.out wx)
    rw [hmz] at HCM
    have HRA1 := hid (range_of_heapI HM1.out)
    have e2 := HCw4.out.c.2.2.1
    obtain ⟨q1, q2, q3⟩ := HR1.out.low
    obtain ⟨p1, p2, p3, p4⟩ := HR1.out.up
    have HP4 := hid (show Pcs w4 g1 w3.heap.size t LP bf1 (encP ld k LP) from by rw [hLP]; exact HR1.out.pcs)
    have HDL8 := hid (getD_lt8 HDL.out)
    clear hLP hDG hOD hmz
    go_upto_region 5 with fail
    go_cut [80] (fun v wx => ∃ wy, wy = wx ∧ v = .bool false ∧ Hid (Below w4.heap.size w4 wy))
    case first =>
      go_wp2_with (refine wpList_load_wantA (by rfl) 27 (.tmp 4) (by rfl) mb1 0 (by rfl) (mcells k n t dl OD (.slice (some ⟨gd1, 0, none⟩) t t)) _ HRA1.out Tryd.underlying27 rfl HIM.out ?_)
      refine (HCM.out _).mono ?_
      rintro e w5 ⟨rfl, hb5⟩
      have HB45 := hid hb5
      clear hb5
      go_wp2_with fail
      go_meet
      exact ⟨_, rfl, rfl, HB45⟩
    case rest =>
    obtain ⟨w5, hw5, rfl, HB45⟩ := hcut
    subst hw5
    clear e2 HRA1 HCM
    have HP5 := hid (HP4.out.below HB45.out)
    have HDS5 := hid (HDS.out.below HB45.out)
    have HM5 := hid ((HB45.out.block _ p1).trans HM1.out)
    have HB5 := hid (HBw4.out.trans (HB45.out.mono HBw4.out.size))
    have HC5 := hid (show CaseAt w5 W.heap.size k n t I (.slice da dl dc) mk mn mt ms mo (.slice ma mm mc) (.slice pa pl pc) (.slice ia il ic) from (HB45.out.block _ hlw4).trans HCw4.out)
    have hl5 := lt_of_heap HC5.out
    have HF5 := hid (fld_belowA HFw4.out HB45.out)
    have hz45 := HB45.out.size
    have hfb5 : fb < w5.heap.size := Nat.lt_of_lt_of_le hfbw4 hz45
    obtain ⟨hps5, hpd5⟩ := pcs_ps HP5.out HDL8.out
    have hdat5 : ∀ i, (h : i < (mkps bf1 LP t t).length) → Bs w5 (.slice (mkps bf1 LP t t)[i].2.1 (mkps bf1 LP t t)[i].2.2.1 (mkps bf1 LP t t)[i].2.2.2) (encP ld k LP i) ∧ ((mkps bf1 LP t t)[i].2.1 = none → (mkps bf1 LP t t)[i].2.2.2 = 0) ∧ (mkps bf1 LP t t)[i].2.2.1 ≤ 800000000 := fun i hi => by
      have hit : i < t := by rw [mkps_length] at hi; exact hi
      have h1 := hpd5 i hi
      rw [mkps_get _ _ _ _ _ hi hit] at h1 ⊢
      exact ⟨h1, (fun h => by cases h), by show LP ≤ 800000000; omega⟩
    have HMA := hid (mineD_any (some ⟨g1, 0, none⟩) t t (mkps bf1 LP t t) (encP ld k LP) w5 (by omega) hps5 hdat5)
    clear hps5 hpd5 hdat5
    go_wp2_with fail
    refine HMA.out.mono ?_
    rintro e w6 ⟨vl, qs, rfl, hmi⟩
    have hql := hmi.len
    have hqi : ∀ i, i < t → pidx qs i = (i : Int) ∧ plen' qs i = LP := fun i hi => by
      obtain ⟨h1, h2⟩ := hmi.same i hi
      have hm : i < (mkps bf1 LP t t).length := by rw [mkps_length]; exact hi
      rw [h1, h2, ← pidx_at _ _ hm, ← plen_at _ _ hm, mkps_get _ _ _ _ _ hm hi]
      exact ⟨rfl, rfl⟩
    have HQI := hid hqi
    have HQL := hid hql
    have hb6 := hmi.below
    have HCH0 := hid (show ChP w5.heap.size w5 (w6.alloc (.cells #[] 44)) vl (.slice (some ⟨w6.heap.size, 0, none⟩) 0 0) qs t 0 (List.range t) [] from by
      refine ⟨by rw [List.length_range, selP_all qs t hql]; exact hmi.own.alloc _, ⟨rfl, .inr ⟨w6.heap.size, 0, #[], rfl, hb6.size, heap_new _ _, Nat.le_refl _, Nat.zero_le _, rfl, rfl⟩⟩, List.Perm.refl _, rfl, hb6.alloc hb6.size _, fun g hg e => ?_⟩
      have h5 := (hmi.own.lt g e).2
      simp [Value.ownBlock] at hg
      omega)
    have HDR0 := hid (show DatR w5.heap.size (w6.alloc (.cells #[] 44)) qs (encP ld k LP) from fun j hj => (hmi.data j hj).alloc _)
    clear hqi hql hb6 hmi HMA
    go_wp2
    obtain ⟨i0, hi0, hz0, hz1, hz2⟩ := info_parts info36
    go_loopw [7, 8, 9, 10] (fun vl vo iv _ wr => ∃ (q : Nat) (L O : List Nat), q ≤ k ∧ iv = .int .i64 q ∧ Hid (ChP w5.heap.size w5 wr vl vo qs t q L O) ∧ Hid (DatR w5.heap.size wr qs (encP ld k LP))) (fun _ _ iv _ _ => k - (intOf iv).toNat)
    case atStart => exact ⟨0, _, _, by omega, rfl, HCH0, HDR0⟩
    case round =>
      clear HCH0 HDR0
      obtain ⟨q, L, O, hq, rfl, HINV, HDR⟩ := hrel
      have hCr : CaseAt wr W.heap.size k n t I (.slice da dl dc) mk mn mt ms mo (.slice ma mm mc) (.slice pa pl pc) (.slice ia il ic) := (HINV.out.below.block _ hl5).trans HC5.out
      have HCR := hid hCr
      have e0 := hCr.c.1
      have e43 := (hCr.hi HO.out).2.2
      clear hCr
      by_cases hlt2 : q < k
      · as_aux_lemma =>
        have hlt2' : (q : Int) < (k : Int) := by omega
        have hcnt := HINV.out.count
        have hL0 : 0 < L.length := by omega
        have hleft := HINV.out.left
        obtain ⟨n', hn⟩ : ∃ n', n' = L.length := ⟨_, rfl⟩
        have HN := hid hn
        rw [← hn] at hleft hcnt hL0
        obtain ⟨g, cap, rfl, hg1', hg2'⟩ := hleft.form hL0
        have hncap := owns_capS hleft
        have HLF := hid hleft
        clear hn hleft
        have e00 : ((n' : Int) == 0) = false := by simp; omega
        go_upto_if 94 with fail
        go_cut [10] (fun jv wx => ∃ j : Nat, j < n' ∧ jv = .int .i64 j ∧ Hid (wx = wr))
        case first =>
          by_cases hm : q < il
          · have hm' : (q : Int) < (il : Int) := by omega
            have hci : ∃ lb lo, ia = some ⟨lb, lo, none⟩ ∧ wr.cell? ⟨lb, lo + q, none⟩ = some (.int .i64 (li.getD q 0)) := by
              obtain ⟨a', c', h1, _, h3⟩ := HI.out
              obtain ⟨lb, lo, ha, hc⟩ := h3 (by intro e; rw [e] at HIE; have := HIE.out; simp at this; omega)
              simp only [Value.slice.injEq] at h1
              have hcq := hc q (by have := HIE.out; omega)
              have hbq := World.block_lt_of_cell? _ _ hcq
              exact ⟨lb, lo, h1.1.trans ha, ((HB5.out.trans (HINV.out.below.mono HB5.out.size)).cell (p := ⟨lb, lo + q, none⟩) hbq).trans hcq⟩
            obtain ⟨lb, lo, rfl, ci⟩ := hci
            generalize li.getD q 0 = z at *
            have ht := tmod_lo z n' hL0
            obtain ⟨t1, t2⟩ := ht
            by_cases hz : z.tmod n' < 0
            · go_wp2_with fail
              go_meet
              exact ⟨(z.tmod n' + n').toNat, by omega, by go_num, rfl⟩
            · go_wp2_with fail
              go_meet
              exact ⟨(z.tmod n').toNat, by omega, by go_num, rfl⟩
          · have hm' : ¬ (q : Int) < (il : Int) := by omega
            go_wp2_with fail
            go_meet
            exact ⟨0, hL0, rfl, rfl⟩
        case rest =>
          obtain ⟨j, hj, rfl, hw⟩ := hcut
          have e := hw.out
          subst e
          clear hw e0 e43
          have hjL : j < L.length := by rw [← HN.out]; exact hj
          obtain ⟨⟨x, ra, rn, rc⟩, hP0⟩ : ∃ p : Int × Sl, p = qs.getD (L.getD j 0) (0, none, 0, 0) := ⟨_, rfl⟩
          have hone : oneP qs (L.getD j 0) = [.int .i64 x, .slice ra rn rc] := by unfold oneP; rw [← hP0]
          have p0 : wc.cell? ⟨g, j * 2, none⟩ = some (.int .i64 x) := owns_pcell HLF.out j hjL _ 0 (by omega) (by rw [hone]; rfl)
          have p1' : wc.cell? ⟨g, j * 2 + 1, none⟩ = some (.slice ra rn rc) := owns_pcell HLF.out j hjL _ 1 (by omega) (by rw [hone]; rfl)
          have HONE := hid hone
          clear hP0 hone
          have hown1 := HINV.out.out.alloc (.cells #[.int .i64 x, .slice ra rn rc] 44)
          have HO1 := hid hown1
          have hsz := HINV.out.below.size
          have hj0 : (0 : Int) ≤ (j : Int) := by omega
          have hjn : (j : Int) < (n' : Int) := by omega
          clear hown1
          go_wp2_with (refine wpList_append_lies _ rfl (.tmp 109) (.tmp 114) _ rfl w5.heap.size 44 i0 (.agg #[.int .i64 0, .slice none 0 0]) 2 32 Tryd.underlying28 hi0 hz0 hz1 hz2 rfl (by decide) _ q (pcells (selP qs O)) rfl HO1.out ⟨wc.heap.size, 0, none⟩ 1 1 [.int .i64 x, .slice ra rn rc] rfl rfl (cells_of_new2 _ _ _ _) (two_one _ 0 _ none _ _ 0 0 _) (by omega) (by unfold maxLen; omega) (by omega) (by simp; omega) _ rfl ?_)
          intro g2 cap2 w2x hown2 hg2 hat hlt3
          have hb2 : Below w5.heap.size w5 w2x := (HINV.out.below.alloc hsz _).grown hg2 (by simp; omega) (fun g hg => (HO1.out.lt g hg).1)
          have hleft2 := (HLF.out.alloc (.cells #[.int .i64 x, .slice ra rn rc] 44)).kept hg2 (.inr fun e => HINV.out.sep g e.symm rfl)
          have HDR2 := hid (DatR.grown (HDR.out.alloc (.cells #[.int .i64 x, .slice ra rn rc] 44)) HO1.out hg2)
          rw [← HONE.out] at hown2
          have HL2 := hid hleft2
          have HO2 := hid hown2
          have HB2' := hid hb2
          clear hg2 hat hown2 hleft2 hb2 p0 p1'
          have hgl := (HL2.out.lt g rfl).2
          have hj1 : j ≤ cap := by omega
          have hj2 : j + 1 ≤ n' := by omega
          have HT := hid (show (pcells (selP qs (L.take j))).length = j * 2 from by rw [pcells_len2, selP_length, List.length_take]; omega)
          have HD2 := hid (show (pcells (selP qs (L.drop (j + 1)))).length = (n' - (j + 1)) * 2 from by rw [pcells_len2, selP_length, List.length_drop, HN.out])
          have q1' : IntKind.i64.wrap ((j : Int) + 1) = ((j + 1 : Nat) : Int) := IntWalk.i64_in _ (by omega)
          have q1w : IntKind.i64.wrap ((j + 1 : Nat) : Int) = ((j + 1 : Nat) : Int) := IntWalk.i64_in _ (by omega)
          have q1x : (j : Int) + 1 = ((j + 1 : Nat) : Int) := by omega
          obtain ⟨A8, hA8⟩ : ∃ A8 : Addr, A8 = (if cap = j + 1 then (⟨g, 0, none⟩ : Addr) else ⟨g, (j + 1) * 2, none⟩) := ⟨_, rfl⟩
          have hs3 : ∀ wx : World, (Instr.sliceAt 28 (.slice (some ⟨g, 0, none⟩) n' cap) none (some (.int .i64 (j : Int))) none).run Tryd.prog wx = .ok (.slice (some ⟨g, 0, none⟩) j cap) wx := fun wx => uptoP g n' cap j hj1 wx
          have hs8 : ∀ wx : World, (Instr.sliceAt 28 (.slice (some ⟨g, 0, none⟩) n' cap) (some (.int .i64 ((j + 1 : Nat) : Int))) none none).run Tryd.prog wx = .ok (.slice (some A8) (n' - (j + 1)) (cap - (j + 1))) wx := fun wx => by rw [hA8]; exact fromP g n' cap (j + 1) hj2 hncap wx
          have hnews8 : ∀ wx : World, wx.ownsRow w5.heap.size 44 2 (.slice (some ⟨g, 0, none⟩) n' cap) n' (pcells (selP qs L)) → ∀ i u, (pcells (selP qs (L.drop (j + 1))))[i]? = some u → wx.cell? (A8.add i) = some u := fun wx hx => by
            rw [hA8]
            by_cases hc : cap = j + 1
            · rw [if_pos hc]
              exact pno_news (by rw [← HN.out]; omega)
            · rw [if_neg hc]
              exact pdrop_news hx
          have HN8 := hid hnews8
          clear hnews8 hA8 q1x
          go_upto_region 18 with fail
          refine wp_region_held_drew (S := fun wx : World => Below w2x.heap.size w2x wx) (by kernel_rfl) (bel_drewN (Below.refl _ _) 1) (fun hHeld => ?_)
          refine wpAnyH_take (i := 1) (oi := { dst := some 117, op := Op.move (Operand.tmp 7), type := 28, pos := "manifest.go:170", after := #[], guard := none }) (v := ?_) rfl (by kernel_rfl) (by kernel_rfl) (by kernel_rfl) (fun _ _ _ h => h) (Or.inl ⟨by rfl, ?hy⟩) hHeld ?_
          case hy => (intro w hSw; (try dsimp only at hSw); go_simp; all_goals (with_reducible rfl))
          try simp only [Act.put, List.setIfInBounds_toArray, List.set_cons_zero, List.set_cons_succ]
          refine wpAnyH_take (i := 2) (oi := { dst := some 118, op := Op.move (Operand.tmp 10), type := 3, pos := "manifest.go:170", after := #[], guard := none }) (v := ?_) rfl (by kernel_rfl) (by kernel_rfl) (by kernel_rfl) (fun _ _ _ h => h) (Or.inl ⟨by rfl, ?hy⟩) hHeld ?_
          case hy => (intro w hSw; (try dsimp only at hSw); go_simp; all_goals (with_reducible rfl))
          try simp only [Act.put, List.setIfInBounds_toArray, List.set_cons_zero, List.set_cons_succ]
          refine wpAnyH_take (i := 3) (oi := { dst := some 119, op := Op.slice 28 (Operand.tmp 117) none (some (Operand.tmp 118)) none, type := 28, pos := "manifest.go:170", after := #[{ on := 1, ground := Ground.data }, { on := 2, ground := Ground.data }], guard := none }) (v := .slice (some ⟨g, 0, none⟩) j cap) rfl (by kernel_rfl) (by kernel_rfl) (by kernel_rfl) (fun _ _ _ h => h) (Or.inl ⟨by rfl, ?hy⟩) hHeld ?_
          case hy => (intro w hSw; exact run_slice_opB (hs3 w))
          try simp only [Act.put, List.setIfInBounds_toArray, List.set_cons_zero, List.set_cons_succ]
          refine wpAnyH_take (i := 5) (oi := { dst := some 121, op := Op.move (Operand.tmp 7), type := 28, pos := "manifest.go:170", after := #[], guard := none }) (v := ?_) rfl (by kernel_rfl) (by kernel_rfl) (by kernel_rfl) (fun _ _ _ h => h) (Or.inl ⟨by rfl, ?hy⟩) hHeld ?_
          case hy => (intro w hSw; (try dsimp only at hSw); go_simp; all_goals (with_reducible rfl))
          try simp only [Act.put, List.setIfInBounds_toArray, List.set_cons_zero, List.set_cons_succ]
          refine wpAnyH_take (i := 6) (oi := { dst := some 122, op := Op.move (Operand.tmp 10), type := 3, pos := "manifest.go:170", after := #[], guard := none }) (v := ?_) rfl (by kernel_rfl) (by kernel_rfl) (by kernel_rfl) (fun _ _ _ h => h) (Or.inl ⟨by rfl, ?hy⟩) hHeld ?_
          case hy => (intro w hSw; (try dsimp only at hSw); go_simp; all_goals (with_reducible rfl))
          try simp only [Act.put, List.setIfInBounds_toArray, List.set_cons_zero, List.set_cons_succ]
          refine wpAnyH_take (i := 7) (oi := { dst := some 123, op := Op.binOp BinOp.add 3 (Operand.tmp 122) (Operand.const (Value.int IntKind.i64 1)) 3, type := 3, pos := "manifest.go:170", after := #[{ on := 6, ground := Ground.data }], guard := none }) (v := ?_) rfl (by kernel_rfl) (by kernel_rfl) (by kernel_rfl) (fun _ _ _ h => h) (Or.inl ⟨by rfl, ?hy⟩) hHeld ?_
          case hy => (intro w hSw; (try dsimp only at hSw); go_simp; all_goals (with_reducible rfl))
          try simp only [Act.put, List.setIfInBounds_toArray, List.set_cons_zero, List.set_cons_succ]
          refine wpAnyH_take (i := 8) (oi := { dst := some 124, op := Op.slice 28 (Operand.tmp 121) (some (Operand.tmp 123)) none none, type := 28, pos := "manifest.go:170", after := #[{ on := 5, ground := Ground.data }, { on := 7, ground := Ground.data }], guard := none }) (v := .slice (some A8) (n' - (j + 1)) (cap - (j + 1))) rfl (by kernel_rfl) (by kernel_rfl) (by kernel_rfl) (fun _ _ _ h => h) (Or.inl ⟨by rfl, ?hy⟩) hHeld ?_
          case hy => (intro w hSw; exact run_slice_opB (hs8 w))
          try simp only [Act.put, List.setIfInBounds_toArray, List.set_cons_zero, List.set_cons_succ]
          refine wpAnyH_ready (rs := [0]) (by kernel_rfl) (by simp) ?_
          refine AllReadyH.cons (o := { dst := some 116, op := Op.buildSlice 28 0 #[], type := 28, pos := "manifest.go:170", after := #[], guard := none }) rfl (fun K hK => ?_) AllReadyH.nil
          refine step_build0P rfl rfl ?_
          intro gE wE hgE hE hbE glE
          have hBE : Below w2x.heap.size w2x wE := hHeld.trans (hbE.mono hHeld.size)
          have hlo : w2x.heap.size ≤ gE := by rw [hgE]; exact hHeld.size
          have HOWN0 := hid (show wE.ownsRow w2x.heap.size 44 2 (.slice (some ⟨gE, 0, none⟩) 0 0) 0 [] from ⟨rfl, .inr ⟨gE, 0, #[], rfl, hlo, hE, Nat.le_refl _, Nat.zero_le _, rfl, rfl⟩⟩)
          have HL3 := hid (owns_below HL2.out hBE)
          have HDR3 := hid (HDR2.out.below hBE)
          have HBE := hid hBE
          refine hK.out _ _ hBE (fun hHeld => ?_)
          clear hK K hbE hE hgE hBE
          try simp only [Act.put, List.setIfInBounds_toArray, List.set_cons_zero, List.set_cons_succ]
          refine wpAnyH_ready (rs := [4]) (by kernel_rfl) (by simp) ?_
          refine AllReadyH.cons (o := { dst := some 120, op := Op.call { callee := Callee.builtin Builtin.append, args := #[Operand.tmp 116, Operand.tmp 119], argTypes := #[28, 28] }, type := 28, pos := "manifest.go:170", after := #[{ on := 0, ground := Ground.data }, { on := 3, ground := Ground.data }], guard := none }) rfl (fun K hK => ?_) AllReadyH.nil
          refine step_append_own rfl (.tmp 116) (.tmp 119) _ rfl w2x.heap.size 44 i0 (.agg #[.int .i64 0, .slice none 0 0]) 2 32 Tryd.underlying28 hi0 hz0 hz1 hz2 rfl (by decide) (.slice (some ⟨gE, 0, none⟩) 0 0) 0 [] rfl HOWN0.out ⟨g, 0, none⟩ j cap (pcells (selP qs (L.take j))) rfl HT.out (ptake_news HL3.out) (pcells_oneC _) (by unfold maxLen; omega) (by omega) HBE.out.size ?_
          intro v3 w3x hown3 hg3
          have hB3 : Below w2x.heap.size w2x w3x := HBE.out.grown hg3 HBE.out.size (fun q hq => by simp [Value.ownBlock] at hq; omega)
          have hgl3 : g < w2x.heap.size := hgl
          have HL4 := hid (HL3.out.kept hg3 (.inr fun e => by simp [Value.ownBlock] at e; omega))
          have HDR4 := hid (DatR.grown HDR3.out HOWN0.out hg3)
          have HB3x := hid hB3
          have HOWN3 := hid hown3
          refine hK.out _ _ hB3 (fun hHeld => ?_)
          clear hK K hg3 hB3 hown3
          try simp only [Act.put, List.setIfInBounds_toArray, List.set_cons_zero, List.set_cons_succ]
          refine wpAnyH_ready (rs := [9]) (by kernel_rfl) (by simp) ?_
          refine AllReadyH.cons (o := { dst := some 125, op := Op.call { callee := Callee.builtin Builtin.append, args := #[Operand.tmp 120, Operand.tmp 124], argTypes := #[28, 28] }, type := 28, pos := "manifest.go:170", after := #[{ on := 4, ground := Ground.data }, { on := 8, ground := Ground.data }, { on := 4, ground := Ground.chain }], guard := none }) rfl (fun K hK => ?_) AllReadyH.nil
          refine step_append_own rfl (.tmp 120) (.tmp 124) _ rfl w2x.heap.size 44 i0 (.agg #[.int .i64 0, .slice none 0 0]) 2 32 Tryd.underlying28 hi0 hz0 hz1 hz2 rfl (by decide) v3 (0 + j) ([] ++ pcells (selP qs (L.take j))) rfl HOWN3.out A8 (n' - (j + 1)) (cap - (j + 1)) (pcells (selP qs (L.drop (j + 1)))) rfl HD2.out (HN8.out _ HL4.out) (pcells_oneC _) (by unfold maxLen; omega) (by omega) HB3x.out.size ?_
          intro v4 w4x hown4 hg4
          have hB4 : Below w2x.heap.size w2x w4x := HB3x.out.grown hg4 HB3x.out.size (fun q hq => (HOWN3.out.lt q hq).1)
          have HDN := hid (DatR.grown HDR4.out HOWN3.out hg4)
          rw [List.nil_append] at hown4
          have HNX := hid (HINV.out.next hjL HO2.out HB2'.out hown4 hB4 HB2'.out.size)
          refine hK.out _ _ hB4 (fun hHeld => ?_)
          clear hK K hg4 hB4 hown4
          try simp only [Act.put, List.setIfInBounds_toArray, List.set_cons_zero, List.set_cons_succ]
          refine wpAnyH_take (i := 10) (oi := { dst := some 7, op := Op.assign (Operand.tmp 125), type := 28, pos := "manifest.go:170", after := #[{ on := 9, ground := Ground.data }, { on := 9, ground := Ground.chain }, { on := 0, ground := Ground.phase }, { on := 1, ground := Ground.phase }, { on := 2, ground := Ground.phase }, { on := 3, ground := Ground.phase }, { on := 4, ground := Ground.phase }, { on := 5, ground := Ground.phase }, { on := 6, ground := Ground.phase }, { on := 7, ground := Ground.phase }, { on := 8, ground := Ground.phase }, { on := 9, ground := Ground.phase }], guard := none }) (v := ?_) rfl (by kernel_rfl) (by kernel_rfl) (by kernel_rfl) (fun _ _ _ h => h) (Or.inl ⟨by rfl, ?hy⟩) hHeld ?_
          case hy => (intro w hSw; (try dsimp only at hSw); go_simp; all_goals (with_reducible rfl))
          try simp only [Act.put, List.setIfInBounds_toArray, List.set_cons_zero, List.set_cons_succ]
          refine wpAnyH_done (by kernel_rfl) ?_ _
          go_wp2_with fail
          exact ⟨⟨q + 1, _, _, by omega, by go_num, HNX, HDN⟩, by simp [intOf]; omega⟩
      · obtain rfl : k = q := by omega
        have hlt2' : ¬ (k : Int) < (k : Int) := by omega
        obtain ⟨w7, rfl⟩ : ∃ y : World, y = wr := ⟨_, rfl⟩
        obtain ⟨sg, scap, rfl, _, _⟩ := HINV.out.out.form (by omega)
        have HCH := hid HINV.out.chosen
        have hscap := owns_capS HINV.out.out
        have HB57 := hid HINV.out.below
        have hz57 := HB57.out.size
        have hmem : ∀ m ∈ O, m < qs.length := fun m hm => by rw [HQL.out]; exact HCH.out.lt m hm
        have HH := hid (show Held fb w7 (.slice (some ⟨sg, 0, none⟩) k scap) (selP qs O) (rowsD ld k LP O) from selP_held HINV.out.out HDR.out hmem HCH.out.len hfb5 (fun i x hx => encM_ltI HDL.out k LP i x hx))
        have hql8 : ∀ i, plen' qs i ≤ 800000000 := fun i => by
          by_cases hi : i < t
          · rw [(HQI.out i hi).2]; omega
          · unfold plen'
            rw [List.getD_eq_getElem?_getD, List.getElem?_eq_none (by have := HQL.out; omega)]
            show (0 : Nat) ≤ 800000000
            omega
        have HPD := hid (show PDat w7 (selP qs O) (rowsD ld k LP O) from selP_dat (DatR.bs HDR.out (fun i x hx => encM_ltI HDL.out k LP i x hx) hql8) O hmem)
        have HN := hid (show k = (selP qs O).length from by rw [selP_length, HCH.out.len])
        have hrst : Rst k n t ld O (selP qs O) := ⟨by rw [← HDE.out]; exact hok, HDL.out, HCH.out, fun i hi => (selP_idx qs O i (by rw [HCH.out.len]; exact hi)).trans (HQI.out _ (HCH.out.getD_lt ht1 i)).1, fun i hi => (selP_len' qs O i (by rw [HCH.out.len]; exact hi)).trans ((HQI.out _ (HCH.out.getD_lt ht1 i)).2.trans (by rw [HLP.out, HDE.out]))⟩
        have HRST := hid hrst
        have hae := hrst.asmE
        have hal := hrst.asmL
        rw [← HDE.out, ← HLP.out, ← HDG.out, ← HOD.out] at hae hal
        have HE := hid hae.symm
        have HL := hid hal.symm
        have HSZ := hid (show ∀ i, i < k → plen' (selP qs O) i ≤ 800000000 from fun i hi => by rw [selP_len' qs O i (by rw [HCH.out.len]; exact hi)]; exact hql8 _)
        have HLT := hid (show ∀ i, i < k → ∀ x ∈ rowsD ld k LP O i, x < 256 from fun i _ x hx => encM_ltI HDL.out k LP _ x hx)
        have HBW7 := hid (HB5.out.trans (HB57.out.mono HB5.out.size))
        have HVK := hid (fun (wx : World) (b : Kept fb w7 wx) => HV.out.below (HBW7.out.trans (b.below HBW7.out.size hWfb)))
        have HMN := hid (fun (wx : World) (b : Kept fb w7 wx) => mineD_any (some ⟨sg, 0, none⟩) k scap (selP qs O) (rowsD ld k LP O) wx (by omega) (HH.out wx b).1 (fun i hi => ⟨(HH.out wx b).2 i hi, (HPD.out i hi).2.2.1, (HPD.out i hi).2.2.2⟩))
        obtain ⟨XM, hXM⟩ : ∃ XM, XM = (mcells k n t dl OD (.slice (some ⟨gd1, 0, none⟩) t t)).toArray := ⟨_, rfl⟩
        have HAS := hid (fun (wx : World) (b : Kept fb w7 wx) (aC : Option Addr) (cC : Nat) (qx : List (Int × Sl)) (hD : Dgs wx (some ⟨gd1, 0, none⟩) t t DG) (hP : PDat wx qx (rowsD ld k LP O)) (hc : k ≤ cC) (hF : Fld wx fb) (hH : Held fb wx (.slice aC k cC) qx (rowsD ld k LP O)) => asm_any fb wx (HVK.out wx b) k n t dl OD (some ⟨gd1, 0, none⟩) t t DG HODL.out hD aC k cC qx (rowsD ld k LP O) hP (by omega) hc hF (Nat.le_trans hlow hWfb) hH)
        rw [← hXM] at HAS
        have HXM := hid hXM
        have HM7 := hid ((HB57.out.block _ (by omega)).trans HM5.out)
        have hmb7 : mb1 < w7.heap.size := by omega
        have hmbfb : mb1 ≠ fb := by omega
        have HLM := hid (show ∀ wx : World, Kept fb w7 wx → (loadVar 27 ⟨mb1, 0, none⟩).run Tryd.prog wx = .ok (.agg XM) wx from fun wx b => by
          rw [HXM.out]
          exact run_loadVar_mid (P := Tryd.prog) wx mb1 0 27 (mcells k n t dl OD (.slice (some ⟨gd1, 0, none⟩) t t)) _ (range_of_heapI ((b.block _ hmb7 hmbfb).trans HM7.out)) Tryd.underlying27 rfl HIM.out)
        have HKP := hid (show ∀ wx : World, Kept fb w7 wx → Kept fb w7 wx ∧ (loadVar 27 ⟨mb1, 0, none⟩).run Tryd.prog wx = .ok (.agg XM) wx from fun wx b => ⟨b, HLM.out wx b⟩)
        have HDS7 := hid (HDS5.out.below HB57.out)
        have HF7 := hid (fld_belowA HF5.out HB57.out)
        have hfb7 : fb < w7.heap.size := Nat.lt_of_lt_of_le hfb5 hz57
        have HC7 := hid (show CaseAt w7 W.heap.size k n t I (.slice da dl dc) mk mn mt ms mo (.slice ma mm mc) (.slice pa pl pc) (.slice ia il ic) from (HB57.out.block _ hl5).trans HC5.out)
        have hl7 := lt_of_heap HC7.out
        have hof : ∀ ad, (some ⟨gd1, 0, none⟩ : Option Addr) = some ad → ad.block ≠ fb := fun ad h => by cases h; show gd1 ≠ fb; omega
        have hg1fb : g1 ≠ fb := by omega
        have HP7 := hid (HP5.out.below HB57.out)
        clear HINV HDR hrst hae hal hmem hql8 hXM e43
        go_upto_region 19 with fail
        go_cut [11, 6] (fun dv ev wx => ∃ wy, wy = wx ∧ ∃ ra rc, dv = .slice ra ld.length rc ∧ ev = .int .i64 0 ∧ Hid (Kept fb w7 wy) ∧ Hid (Fld wy fb) ∧ Hid (Bs wy (.slice ra ld.length rc) ld) ∧ Hid (ld.length ≤ rc ∧ (ra = none → rc = 0)))
        case first =>
          refine wp_region_held_drew (S := (fun wx => Kept fb w7 wx ∧ (loadVar 27 ⟨mb1, 0, none⟩).run Tryd.prog wx = .ok (.agg XM) wx)) (by kernel_rfl) (HKP.out _ (Kept.of_below (b := fb) (bel_drewN (Below.refl w7.heap.size w7) 1))) (fun hHeld => ?_)
          refine wpAnyH_take (i := 0) (oi := { dst := some 127, op := Op.move (Operand.tmp 3), type := 38, pos := "manifest.go:172", after := #[], guard := none }) (v := ?_) rfl (by kernel_rfl) (by kernel_rfl) (by kernel_rfl) (fun _ _ _ h => h) (Or.inl ⟨by rfl, ?hy⟩) hHeld ?_
          case hy => (intro w hSw; (try dsimp only at hSw); obtain ⟨_, _⟩ := hSw; go_simp; all_goals (with_reducible rfl))
          try simp only [Act.put, List.setIfInBounds_toArray, List.set_cons_zero, List.set_cons_succ]
          refine wpAnyH_take (i := 1) (oi := { dst := some 128, op := Op.load 27 (Operand.tmp 4), type := 27, pos := "manifest.go:172", after := #[], guard := none }) (v := .agg XM) rfl (by kernel_rfl) (by kernel_rfl) (by kernel_rfl) (fun _ _ _ h => h) (Or.inl ⟨by rfl, ?hy⟩) hHeld ?_
          case hy => (intro w hSw; exact run_load_opB hSw.2)
          try simp only [Act.put, List.setIfInBounds_toArray, List.set_cons_zero, List.set_cons_succ]
          refine wpAnyH_take (i := 2) (oi := { dst := some 129, op := Op.move (Operand.tmp 8), type := 28, pos := "manifest.go:172", after := #[], guard := none }) (v := ?_) rfl (by kernel_rfl) (by kernel_rfl) (by kernel_rfl) (fun _ _ _ h => h) (Or.inl ⟨by rfl, ?hy⟩) hHeld ?_
          case hy => (intro w hSw; (try dsimp only at hSw); obtain ⟨_, _⟩ := hSw; go_simp; all_goals (with_reducible rfl))
          try simp only [Act.put, List.setIfInBounds_toArray, List.set_cons_zero, List.set_cons_succ]
          refine wpAnyH_ready (rs := [3]) (by kernel_rfl) (by simp) ?_
          refine AllReadyH.cons (o := { dst := some 130, op := Op.call { callee := Callee.value (Operand.func 14), args := #[Operand.tmp 129], argTypes := #[28] }, type := 28, pos := "manifest.go:172", after := #[{ on := 2, ground := Ground.data }], guard := none }) rfl (fun K hK => ?_) AllReadyH.nil
          go_simp
          refine (HMN.out _ hHeld.1).mono ?_
          rintro e wx1 ⟨v, qx, rfl, hmi⟩
          have hb1 := hmi.below
          have KB1 : Kept fb w7 wx1 := ((Kept.of_below (b := fb) (bel_drewN (Below.refl w7.heap.size w7) 1))).trans (Kept.of_below hb1)
          obtain ⟨aC, cC, rfl, hcC, hhC⟩ := hmi.held (fb := fb) HLT.out (show fb < w7.drew.heap.size from hfb7)
          have HFN := hid (mine_fns hmi HN.out k n t dl t OD DG)
          have hpdC := hmi.pdat HLT.out HSZ.out
          have FF1 := hid (fld_belowA ((show Fld w7.drew fb from HF7.out)) hb1)
          have LF1 := Nat.lt_of_lt_of_le (show fb < w7.drew.heap.size from hfb7) hb1.size
          have FD1 := hid (((show Dgs w7.drew (some ⟨gd1, 0, none⟩) t t DG from HDS7.out.below (bel_drewN (Below.refl _ _) 1))).below hb1)
          have FH1 := hid hhC
          have FP1 := hid hpdC
          clear hb1 hmi hhC hpdC
          clear hHeld
          go_wp2_with fail
          refine hK.out _ _ (HKP.out _ KB1) (fun hHeld => ?_)
          clear hK K
          try simp only [Act.put, List.setIfInBounds_toArray, List.set_cons_zero, List.set_cons_succ]
          refine wpAnyH_ready (rs := [4]) (by kernel_rfl) (by simp) ?_
          refine AllReadyH.cons (o := { dst := some 131, op := Op.call { callee := Callee.value (Operand.func 11), args := #[Operand.tmp 127, Operand.tmp 128, Operand.tmp 130], argTypes := #[38, 27, 28] }, type := 36, pos := "manifest.go:172", after := #[{ on := 0, ground := Ground.data }, { on := 1, ground := Ground.data }, { on := 3, ground := Ground.data }, { on := 3, ground := Ground.chain }], guard := none }) rfl (fun K hK => ?_) AllReadyH.nil
          go_simp
          refine (HAS.out _ hHeld.1 aC cC qx (FD1.out) (FP1.out) hcC FF1.out (FH1.out)).mono ?_
          rw [HFN.out.1, HFN.out.2, ← HE.out, ← HL.out]
          rintro e wx2 ⟨⟨ra, rc, rfl, hbs, hcr, hnr⟩, hfl, hk2⟩
          have HCN := hid (show ld.length ≤ rc ∧ (ra = none → rc = 0) from ⟨hcr, hnr⟩)
          have HFL := hid hfl
          have KB2 : Kept fb w7 wx2 := (KB1).trans hk2
          have FS2 := hid hbs
          clear hk2 hbs hcr hnr hfl
          clear hHeld
          go_wp2_with fail
          refine hK.out _ _ (HKP.out _ KB2) (fun hHeld => ?_)
          clear hK K
          try simp only [Act.put, List.setIfInBounds_toArray, List.set_cons_zero, List.set_cons_succ]
          refine wpAnyH_take (i := 5) (oi := { dst := some 126, op := Op.move (Operand.tmp 131), type := 36, pos := "manifest.go:172", after := #[{ on := 4, ground := Ground.data }], guard := none }) (v := ?_) rfl (by kernel_rfl) (by kernel_rfl) (by kernel_rfl) (fun _ _ _ h => h) (Or.inl ⟨by rfl, ?hy⟩) hHeld ?_
          case hy => (intro w hSw; (try dsimp only at hSw); obtain ⟨_, _⟩ := hSw; go_simp; all_goals (with_reducible rfl))
          try simp only [Act.put, List.setIfInBounds_toArray, List.set_cons_zero, List.set_cons_succ]
          refine wpAnyH_take (i := 6) (oi := { dst := some 132, op := Op.extract (Operand.tmp 126) 0, type := 22, pos := "manifest.go:172", after := #[{ on := 5, ground := Ground.data }], guard := none }) (v := ?_) rfl (by kernel_rfl) (by kernel_rfl) (by kernel_rfl) (fun _ _ _ h => h) (Or.inl ⟨by rfl, ?hy⟩) hHeld ?_
          case hy => (intro w hSw; (try dsimp only at hSw); obtain ⟨_, _⟩ := hSw; go_simp; all_goals (with_reducible rfl))
          try simp only [Act.put, List.setIfInBounds_toArray, List.set_cons_zero, List.set_cons_succ]
          refine wpAnyH_take (i := 7) (oi := { dst := some 133, op := Op.extract (Operand.tmp 126) 1, type := 35, pos := "manifest.go:172", after := #[{ on := 5, ground := Ground.data }, { on := 8, ground := Ground.gcOnly Departure.lateStores }], guard := none }) (v := ?_) rfl (by kernel_rfl) (by kernel_rfl) (by kernel_rfl) (fun _ _ _ h => h) (Or.inl ⟨by rfl, ?hy⟩) hHeld ?_
          case hy => (intro w hSw; (try dsimp only at hSw); obtain ⟨_, _⟩ := hSw; go_simp; all_goals (with_reducible rfl))
          try simp only [Act.put, List.setIfInBounds_toArray, List.set_cons_zero, List.set_cons_succ]
          refine wpAnyH_take (i := 8) (oi := { dst := some 11, op := Op.assign (Operand.tmp 132), type := 22, pos := "manifest.go:172", after := #[{ on := 6, ground := Ground.data }, { on := 4, ground := Ground.chain }, { on := 0, ground := Ground.phase }, { on := 1, ground := Ground.phase }, { on := 2, ground := Ground.phase }, { on := 3, ground := Ground.phase }, { on := 4, ground := Ground.phase }, { on := 5, ground := Ground.phase }, { on := 6, ground := Ground.phase }, { on := 7, ground := Ground.textOnly Departure.lateStores }], guard := none }) (v := ?_) rfl (by kernel_rfl) (by kernel_rfl) (by kernel_rfl) (fun _ _ _ h => h) (Or.inl ⟨by rfl, ?hy⟩) hHeld ?_
          case hy => (intro w hSw; (try dsimp only at hSw); obtain ⟨_, _⟩ := hSw; go_simp; all_goals (with_reducible rfl))
          try simp only [Act.put, List.setIfInBounds_toArray, List.set_cons_zero, List.set_cons_succ]
          refine wpAnyH_take (i := 9) (oi := { dst := some 6, op := Op.assign (Operand.tmp 133), type := 35, pos := "manifest.go:172", after := #[{ on := 7, ground := Ground.data }, { on := 8, ground := Ground.chain }, { on := 0, ground := Ground.phase }, { on := 1, ground := Ground.phase }, { on := 2, ground := Ground.phase }, { on := 3, ground := Ground.phase }, { on := 4, ground := Ground.phase }, { on := 5, ground := Ground.phase }, { on := 6, ground := Ground.phase }, { on := 7, ground := Ground.phase }, { on := 8, ground := Ground.phase }], guard := none }) (v := ?_) rfl (by kernel_rfl) (by kernel_rfl) (by kernel_rfl) (fun _ _ _ h => h) (Or.inl ⟨by rfl, ?hy⟩) hHeld ?_
          case hy => (intro w hSw; (try dsimp only at hSw); obtain ⟨_, _⟩ := hSw; go_simp; all_goals (with_reducible rfl))
          try simp only [Act.put, List.setIfInBounds_toArray, List.set_cons_zero, List.set_cons_succ]
          have LS := hid (FS2.out)
          have LB := hid (KB2)
          refine wpAnyH_done (by kernel_rfl) ?_ _
          go_wp2_with fail
          go_meet
          exact ⟨_, rfl, _, _, rfl, rfl, LB, HFL, LS, HCN⟩
        case rest =>
        obtain ⟨w8, hw8, ra, rc, rfl, rfl, HK78, HF8, HBS, HCN⟩ := hcut
        subst hw8
        have HC8 := hid (show CaseAt w8 W.heap.size k n t I (.slice da dl dc) mk mn mt ms mo (.slice ma mm mc) (.slice pa pl pc) (.slice ia il ic) from (HK78.out.block _ hl7 (by omega)).trans HC7.out)
        have e4 := HC8.out.c.2.2.2.2
        have cv1 := conv_bs HBS.out
        have cv2 := conv_bs (HDD.out.below (HBW7.out.trans (HK78.out.below HBW7.out.size hWfb)))
        have hself : ∀ S : ByteArray, (!(S.toList == S.toList)) = false := fun S => by simp
        have hs1 := hself (bstr ld)
        generalize bstr ld = SD at *
        clear HKP HE HL
        go_wp2
        clear cv1 cv2 hs1 e4
        go_loopw [12] (fun iv wx => ∃ x : Nat, x ≤ t ∧ iv = .int .i64 x ∧ Hid (Kept fb w7 wx) ∧ Hid (Fld wx fb)) (fun iv _ => t - (intOf iv).toNat)
        case atStart => exact ⟨0, by omega, rfl, HK78, HF8⟩
        case round =>
          clear HF8 HBS HCN HC8 HK78
          obtain ⟨x, hx, rfl, HK79, HF9⟩ := hrel
          obtain ⟨w9, rfl⟩ : ∃ y : World, y = wr := ⟨_, rfl⟩
          have hC9 : CaseAt w9 W.heap.size k n t I (.slice da dl dc) mk mn mt ms mo (.slice ma mm mc) (.slice pa pl pc) (.slice ia il ic) := (HK79.out.block _ hl7 (by omega)).trans HC7.out
          have e2 := hC9.c.2.2.1
          clear hC9
          by_cases hxt : x < t
          · as_aux_lemma =>
            have hxt' : (x : Int) < (t : Int) := by omega
            have hre := HRST.out.regE x hxt
            have hri := HRST.out.regI x hxt
            have hrl := HRST.out.regL x hxt
            rw [← HDE.out, ← HLP.out, ← HDG.out] at hre hri hrl
            have hcp := rst_cp (k := k) (n := n) (t := t) (l := ld) (by rw [← HDE.out]; exact hok) x hxt
            rw [← HDE.out, ← HLP.out, ← HDG.out] at hcp
            obtain ⟨RL, hRL⟩ : ∃ RL, RL = encP ld k LP x := ⟨_, rfl⟩
            rw [← hRL] at hrl hcp
            have HRLL := hid (show RL.length = LP from by rw [hRL]; exact encM_length _ _ _ _)
            have HRL := hid hRL
            have HE := hid hre.symm
            have HI2 := hid hri.symm
            have HL := hid hrl.symm
            have HRG := hid (fun (wx : World) (b : Kept fb w7 wx) (aC : Option Addr) (cC : Nat) (qx : List (Int × Sl)) (hD : Dgs wx (some ⟨gd1, 0, none⟩) t t DG) (hP : PDat wx qx (rowsD ld k LP O)) (hc : k ≤ cC) (hF : Fld wx fb) (hH : Held fb wx (.slice aC k cC) qx (rowsD ld k LP O)) => rgn_any fb wx (HVK.out wx b) k n t dl OD (some ⟨gd1, 0, none⟩) t t DG HODL.out hD aC k cC qx (rowsD ld k LP O) hP (by omega) hc hF (Nat.le_trans hlow hWfb) hH hof (x : Int))
            rw [← HXM.out] at HRG
            have HKP := hid (show ∀ wx : World, Kept fb w9 wx → Kept fb w7 wx ∧ (loadVar 27 ⟨mb1, 0, none⟩).run Tryd.prog wx = .ok (.agg XM) wx from fun wx b => ⟨HK79.out.trans b, HLM.out wx (HK79.out.trans b)⟩)
            have hfb9 : fb < w9.heap.size := Nat.lt_of_lt_of_le hfb7 HK79.out.size
            have HDS9 := hid (show Dgs w9 (some ⟨gd1, 0, none⟩) t t DG from ⟨dgat_same HDS7.out.at_ (HK79.out.block gd1 (by omega) (by omega)), HDS7.out.cap, HDS7.out.nil⟩)
            clear hre hri hrl hRL
            go_upto_region 25 with fail
            go_cut [13, 14] (fun pv ev wx => ∃ wy, wy = wx ∧ ∃ pb ra rc, pv = .pointer (some ⟨pb, 0, none⟩) ∧ ev = .int .i64 0 ∧ Hid (Kept fb w9 wy) ∧ Hid (wy.heap[pb]? = some (.cells #[.int .i64 (x : Int), .slice ra RL.length rc] 44 (0, 0))) ∧ Hid (Bs wy (.slice ra RL.length rc) RL) ∧ Hid (RL.length ≤ rc ∧ (ra = none → rc = 0)) ∧ Hid (Fld wy fb))
            case first =>
              refine wp_region_held_drew (S := (fun wx => Kept fb w7 wx ∧ (loadVar 27 ⟨mb1, 0, none⟩).run Tryd.prog wx = .ok (.agg XM) wx)) (by kernel_rfl) (HKP.out _ (Kept.of_below (b := fb) (bel_drewN (Below.refl w9.heap.size w9) 1))) (fun hHeld => ?_)
              refine wpAnyH_take (i := 0) (oi := { dst := some 151, op := Op.move (Operand.tmp 3), type := 38, pos := "manifest.go:177", after := #[], guard := none }) (v := ?_) rfl (by kernel_rfl) (by kernel_rfl) (by kernel_rfl) (fun _ _ _ h => h) (Or.inl ⟨by rfl, ?hy⟩) hHeld ?_
              case hy => (intro w hSw; (try dsimp only at hSw); obtain ⟨_, _⟩ := hSw; go_simp; all_goals (with_reducible rfl))
              try simp only [Act.put, List.setIfInBounds_toArray, List.set_cons_zero, List.set_cons_succ]
              refine wpAnyH_take (i := 1) (oi := { dst := some 152, op := Op.load 27 (Operand.tmp 4), type := 27, pos := "manifest.go:177", after := #[], guard := none }) (v := .agg XM) rfl (by kernel_rfl) (by kernel_rfl) (by kernel_rfl) (fun _ _ _ h => h) (Or.inl ⟨by rfl, ?hy⟩) hHeld ?_
              case hy => (intro w hSw; exact run_load_opB hSw.2)
              try simp only [Act.put, List.setIfInBounds_toArray, List.set_cons_zero, List.set_cons_succ]
              refine wpAnyH_take (i := 2) (oi := { dst := some 153, op := Op.move (Operand.tmp 8), type := 28, pos := "manifest.go:177", after := #[], guard := none }) (v := ?_) rfl (by kernel_rfl) (by kernel_rfl) (by kernel_rfl) (fun _ _ _ h => h) (Or.inl ⟨by rfl, ?hy⟩) hHeld ?_
              case hy => (intro w hSw; (try dsimp only at hSw); obtain ⟨_, _⟩ := hSw; go_simp; all_goals (with_reducible rfl))
              try simp only [Act.put, List.setIfInBounds_toArray, List.set_cons_zero, List.set_cons_succ]
              refine wpAnyH_take (i := 4) (oi := { dst := some 155, op := Op.move (Operand.tmp 12), type := 3, pos := "manifest.go:177", after := #[], guard := none }) (v := ?_) rfl (by kernel_rfl) (by kernel_rfl) (by kernel_rfl) (fun _ _ _ h => h) (Or.inl ⟨by rfl, ?hy⟩) hHeld ?_
              case hy => (intro w hSw; (try dsimp only at hSw); obtain ⟨_, _⟩ := hSw; go_simp; all_goals (with_reducible rfl))
              try simp only [Act.put, List.setIfInBounds_toArray, List.set_cons_zero, List.set_cons_succ]
              refine wpAnyH_ready (rs := [3, 9]) (by kernel_rfl) (by simp) ?_
              refine AllReadyH.cons (o := { dst := some 154, op := Op.call { callee := Callee.value (Operand.func 14), args := #[Operand.tmp 153], argTypes := #[28] }, type := 28, pos := "manifest.go:177", after := #[{ on := 2, ground := Ground.data }], guard := none }) rfl (fun K hK => ?_) ?_
              · skip
                go_simp
                refine (HMN.out _ hHeld.1).mono ?_
                rintro e wx1 ⟨v, qx, rfl, hmi⟩
                have hb1 := hmi.below
                have KB1 : Kept fb w9 wx1 := ((Kept.of_below (b := fb) (bel_drewN (Below.refl w9.heap.size w9) 1))).trans (Kept.of_below hb1)
                obtain ⟨aC, cC, rfl, hcC, hhC⟩ := hmi.held (fb := fb) HLT.out (show fb < w9.drew.heap.size from hfb9)
                have HFN := hid (rgn_fns hmi HN.out k n t dl t DG (x : Int))
                have hpdC := hmi.pdat HLT.out HSZ.out
                have FF1 := hid (fld_belowA ((show Fld w9.drew fb from HF9.out)) hb1)
                have LF1 := Nat.lt_of_lt_of_le (show fb < w9.drew.heap.size from hfb9) hb1.size
                have FD1 := hid (((show Dgs w9.drew (some ⟨gd1, 0, none⟩) t t DG from HDS9.out.below (bel_drewN (Below.refl _ _) 1))).below hb1)
                have FH1 := hid hhC
                have FP1 := hid hpdC
                clear hb1 hmi hhC hpdC
                clear hHeld
                go_wp2_with fail
                refine hK.out _ _ (HKP.out _ KB1) (fun hHeld => ?_)
                clear hK K
                try simp only [Act.put, List.setIfInBounds_toArray, List.set_cons_zero, List.set_cons_succ]
                refine wpAnyH_ready (rs := [5, 9]) (by kernel_rfl) (by simp) ?_
                refine AllReadyH.cons (o := { dst := some 156, op := Op.call { callee := Callee.value (Operand.func 16), args := #[Operand.tmp 151, Operand.tmp 152, Operand.tmp 154, Operand.tmp 155], argTypes := #[38, 27, 28, 3] }, type := 45, pos := "manifest.go:177", after := #[{ on := 0, ground := Ground.data }, { on := 1, ground := Ground.data }, { on := 3, ground := Ground.data }, { on := 4, ground := Ground.data }, { on := 3, ground := Ground.chain }], guard := none }) rfl (fun K hK => ?_) ?_
                · skip
                  go_simp
                  refine (HRG.out _ hHeld.1 aC cC qx (FD1.out) (FP1.out) hcC FF1.out (FH1.out)).mono ?_
                  rw [HFN.out.1, HFN.out.2.1, HFN.out.2.2, ← HE.out, ← HI2.out, ← HL.out]
                  rintro e wx2 ⟨⟨ra, rc, rfl, hbs, hcr, hnr⟩, hfl, hk2⟩
                  have HCN := hid (show RL.length ≤ rc ∧ (ra = none → rc = 0) from ⟨hcr, hnr⟩)
                  have HFL := hid hfl
                  have KB2 : Kept fb w9 wx2 := (KB1).trans hk2
                  have FS2 := hid hbs
                  have LFL2 := Nat.lt_of_lt_of_le LF1 hk2.size
                  clear hk2 hbs hcr hnr hfl
                  clear hHeld
                  go_wp2_with fail
                  refine hK.out _ _ (HKP.out _ KB2) (fun hHeld => ?_)
                  clear hK K
                  try simp only [Act.put, List.setIfInBounds_toArray, List.set_cons_zero, List.set_cons_succ]
                  refine wpAnyH_take (i := 6) (oi := { dst := some 150, op := Op.move (Operand.tmp 156), type := 45, pos := "manifest.go:177", after := #[{ on := 5, ground := Ground.data }], guard := none }) (v := ?_) rfl (by kernel_rfl) (by kernel_rfl) (by kernel_rfl) (fun _ _ _ h => h) (Or.inl ⟨by rfl, ?hy⟩) hHeld ?_
                  case hy => (intro w hSw; (try dsimp only at hSw); obtain ⟨_, _⟩ := hSw; go_simp; all_goals (with_reducible rfl))
                  try simp only [Act.put, List.setIfInBounds_toArray, List.set_cons_zero, List.set_cons_succ]
                  refine wpAnyH_take (i := 7) (oi := { dst := some 157, op := Op.extract (Operand.tmp 150) 0, type := 44, pos := "manifest.go:177", after := #[{ on := 6, ground := Ground.data }], guard := none }) (v := ?_) rfl (by kernel_rfl) (by kernel_rfl) (by kernel_rfl) (fun _ _ _ h => h) (Or.inl ⟨by rfl, ?hy⟩) hHeld ?_
                  case hy => (intro w hSw; (try dsimp only at hSw); obtain ⟨_, _⟩ := hSw; go_simp; all_goals (with_reducible rfl))
                  try simp only [Act.put, List.setIfInBounds_toArray, List.set_cons_zero, List.set_cons_succ]
                  refine wpAnyH_take (i := 8) (oi := { dst := some 158, op := Op.extract (Operand.tmp 150) 1, type := 35, pos := "manifest.go:177", after := #[{ on := 6, ground := Ground.data }, { on := 10, ground := Ground.gcOnly Departure.lateStores }], guard := none }) (v := ?_) rfl (by kernel_rfl) (by kernel_rfl) (by kernel_rfl) (fun _ _ _ h => h) (Or.inl ⟨by rfl, ?hy⟩) hHeld ?_
                  case hy => (intro w hSw; (try dsimp only at hSw); obtain ⟨_, _⟩ := hSw; go_simp; all_goals (with_reducible rfl))
                  try simp only [Act.put, List.setIfInBounds_toArray, List.set_cons_zero, List.set_cons_succ]
                  refine wpAnyH_ready (rs := [9]) (by kernel_rfl) (by simp) ?_
                  refine AllReadyH.cons (o := { dst := some 13, op := Op.alloc 44, type := 0, pos := "manifest.go:177", after := #[], guard := none }) rfl (fun K hK => ?_) AllReadyH.nil
                  refine step_mkp rfl rfl ?_
                  intro pb3 wx3 hg3 hM3 hb3 hl3
                  have lo3 : w9.heap.size ≤ pb3 := by rw [hg3]; exact (KB2).size
                  have KB3 : Kept fb w9 wx3 := (KB2).trans (Kept.of_below hb3)
                  have FS3 := hid ((FS2.out).below hb3)
                  have FF3 := hid (fld_belowA (HFL.out) hb3)
                  have LF3 := Nat.lt_of_lt_of_le LFL2 hb3.size
                  have FA3 := hid hM3
                  have ne3 : pb3 ≠ fb := by have := LF3; omega
                  clear hg3 hM3 hb3
                  refine hK.out _ _ (HKP.out _ KB3) (fun hHeld => ?_)
                  clear hK K
                  try simp only [Act.put, List.setIfInBounds_toArray, List.set_cons_zero, List.set_cons_succ]
                  refine wpAnyH_ready (rs := [10]) (by kernel_rfl) (by simp) ?_
                  refine AllReadyH.cons (o := { dst := none, op := Op.store 44 (Operand.tmp 13) (Operand.tmp 157), type := 0, pos := "manifest.go:177", after := #[{ on := 9, ground := Ground.data }, { on := 7, ground := Ground.data }, { on := 5, ground := Ground.chain }, { on := 0, ground := Ground.phase }, { on := 1, ground := Ground.phase }, { on := 2, ground := Ground.phase }, { on := 3, ground := Ground.phase }, { on := 4, ground := Ground.phase }, { on := 5, ground := Ground.phase }, { on := 6, ground := Ground.phase }, { on := 7, ground := Ground.phase }, { on := 8, ground := Ground.textOnly Departure.lateStores }, { on := 9, ground := Ground.phase }], guard := none }) rfl (fun K hK => ?_) AllReadyH.nil
                  refine step_store_row rfl 44 (.tmp 13) (.tmp 157) rfl pb3 #[.int .i64 0, .slice none 0 0] #[.int .i64 (x : Int), .slice ra RL.length rc] 44 rfl rfl (FA3.out) (by kernel_rfl) rfl (piece_allS _ _ _ _) ?_
                  intro wz hz hkz
                  have HBZ : Kept fb w9 wz := (KB3).fresh hkz lo3
                  have LS := hid (bs_keptP (FS3.out) (FA3.out) hkz)
                  have LZ := hid hz
                  have LF := hid (fld_keptR (FF3.out) hkz (fun e => ne3 e.symm))
                  have LB := hid HBZ
                  refine hK.out _ _ (HKP.out _ HBZ) (fun hHeld => ?_)
                  clear hK K hz hkz HBZ
                  try simp only [Act.put, List.setIfInBounds_toArray, List.set_cons_zero, List.set_cons_succ]
                  refine wpAnyH_take (i := 11) (oi := { dst := some 14, op := Op.assign (Operand.tmp 158), type := 35, pos := "manifest.go:177", after := #[{ on := 8, ground := Ground.data }, { on := 10, ground := Ground.chain }, { on := 0, ground := Ground.phase }, { on := 1, ground := Ground.phase }, { on := 2, ground := Ground.phase }, { on := 3, ground := Ground.phase }, { on := 4, ground := Ground.phase }, { on := 5, ground := Ground.phase }, { on := 6, ground := Ground.phase }, { on := 7, ground := Ground.phase }, { on := 8, ground := Ground.phase }, { on := 9, ground := Ground.phase }, { on := 10, ground := Ground.phase }], guard := none }) (v := ?_) rfl (by kernel_rfl) (by kernel_rfl) (by kernel_rfl) (fun _ _ _ h => h) (Or.inl ⟨by rfl, ?hy⟩) hHeld ?_
                  case hy => (intro w hSw; (try dsimp only at hSw); obtain ⟨_, _⟩ := hSw; go_simp; all_goals (with_reducible rfl))
                  try simp only [Act.put, List.setIfInBounds_toArray, List.set_cons_zero, List.set_cons_succ]
                  refine wpAnyH_done (by kernel_rfl) ?_ _
                  go_wp2_with fail
                  go_meet
                  exact ⟨_, rfl, _, _, _, rfl, rfl, LB, LZ, LS, HCN, LF⟩
                refine AllReadyH.cons (o := { dst := some 13, op := Op.alloc 44, type := 0, pos := "manifest.go:177", after := #[], guard := none }) rfl (fun K hK => ?_) AllReadyH.nil
                refine step_mkp rfl rfl ?_
                intro pb5 wx5 hg5 hM5 hb5 hl5
                have lo5 : w9.heap.size ≤ pb5 := by rw [hg5]; exact (KB1).size
                have KB5 : Kept fb w9 wx5 := (KB1).trans (Kept.of_below hb5)
                have FF5 := hid (fld_belowA (FF1.out) hb5)
                have LF5 := Nat.lt_of_lt_of_le LF1 hb5.size
                have FD5 := hid ((FD1.out).below hb5)
                have FH5 := hid ((FH1.out).step (Kept.of_below hb5))
                have FP5 := hid ((FP1.out).below hb5)
                have FA5 := hid hM5
                have ne5 : pb5 ≠ fb := by have := LF5; omega
                clear hg5 hM5 hb5
                refine hK.out _ _ (HKP.out _ KB5) (fun hHeld => ?_)
                clear hK K
                try simp only [Act.put, List.setIfInBounds_toArray, List.set_cons_zero, List.set_cons_succ]
                refine wpAnyH_ready (rs := [5]) (by kernel_rfl) (by simp) ?_
                refine AllReadyH.cons (o := { dst := some 156, op := Op.call { callee := Callee.value (Operand.func 16), args := #[Operand.tmp 151, Operand.tmp 152, Operand.tmp 154, Operand.tmp 155], argTypes := #[38, 27, 28, 3] }, type := 45, pos := "manifest.go:177", after := #[{ on := 0, ground := Ground.data }, { on := 1, ground := Ground.data }, { on := 3, ground := Ground.data }, { on := 4, ground := Ground.data }, { on := 3, ground := Ground.chain }], guard := none }) rfl (fun K hK => ?_) AllReadyH.nil
                go_simp
                refine (HRG.out _ hHeld.1 aC cC qx (FD5.out) (FP5.out) hcC FF5.out (FH5.out)).mono ?_
                rw [HFN.out.1, HFN.out.2.1, HFN.out.2.2, ← HE.out, ← HI2.out, ← HL.out]
                rintro e wx6 ⟨⟨ra, rc, rfl, hbs, hcr, hnr⟩, hfl, hk6⟩
                have HCN := hid (show RL.length ≤ rc ∧ (ra = none → rc = 0) from ⟨hcr, hnr⟩)
                have HFL := hid hfl
                have KB6 : Kept fb w9 wx6 := (KB5).trans hk6
                have Fpb6 := hid ((hk6.block _ hl5 ne5).trans FA5.out)
                have Lpb6 := Nat.lt_of_lt_of_le hl5 hk6.size
                have FS6 := hid hbs
                have LFL6 := Nat.lt_of_lt_of_le LF5 hk6.size
                clear hk6 hbs hcr hnr hfl
                clear hHeld
                go_wp2_with fail
                refine hK.out _ _ (HKP.out _ KB6) (fun hHeld => ?_)
                clear hK K
                try simp only [Act.put, List.setIfInBounds_toArray, List.set_cons_zero, List.set_cons_succ]
                refine wpAnyH_take (i := 6) (oi := { dst := some 150, op := Op.move (Operand.tmp 156), type := 45, pos := "manifest.go:177", after := #[{ on := 5, ground := Ground.data }], guard := none }) (v := ?_) rfl (by kernel_rfl) (by kernel_rfl) (by kernel_rfl) (fun _ _ _ h => h) (Or.inl ⟨by rfl, ?hy⟩) hHeld ?_
                case hy => (intro w hSw; (try dsimp only at hSw); obtain ⟨_, _⟩ := hSw; go_simp; all_goals (with_reducible rfl))
                try simp only [Act.put, List.setIfInBounds_toArray, List.set_cons_zero, List.set_cons_succ]
                refine wpAnyH_take (i := 7) (oi := { dst := some 157, op := Op.extract (Operand.tmp 150) 0, type := 44, pos := "manifest.go:177", after := #[{ on := 6, ground := Ground.data }], guard := none }) (v := ?_) rfl (by kernel_rfl) (by kernel_rfl) (by kernel_rfl) (fun _ _ _ h => h) (Or.inl ⟨by rfl, ?hy⟩) hHeld ?_
                case hy => (intro w hSw; (try dsimp only at hSw); obtain ⟨_, _⟩ := hSw; go_simp; all_goals (with_reducible rfl))
                try simp only [Act.put, List.setIfInBounds_toArray, List.set_cons_zero, List.set_cons_succ]
                refine wpAnyH_take (i := 8) (oi := { dst := some 158, op := Op.extract (Operand.tmp 150) 1, type := 35, pos := "manifest.go:177", after := #[{ on := 6, ground := Ground.data }, { on := 10, ground := Ground.gcOnly Departure.lateStores }], guard := none }) (v := ?_) rfl (by kernel_rfl) (by kernel_rfl) (by kernel_rfl) (fun _ _ _ h => h) (Or.inl ⟨by rfl, ?hy⟩) hHeld ?_
                case hy => (intro w hSw; (try dsimp only at hSw); obtain ⟨_, _⟩ := hSw; go_simp; all_goals (with_reducible rfl))
                try simp only [Act.put, List.setIfInBounds_toArray, List.set_cons_zero, List.set_cons_succ]
                refine wpAnyH_ready (rs := [10]) (by kernel_rfl) (by simp) ?_
                refine AllReadyH.cons (o := { dst := none, op := Op.store 44 (Operand.tmp 13) (Operand.tmp 157), type := 0, pos := "manifest.go:177", after := #[{ on := 9, ground := Ground.data }, { on := 7, ground := Ground.data }, { on := 5, ground := Ground.chain }, { on := 0, ground := Ground.phase }, { on := 1, ground := Ground.phase }, { on := 2, ground := Ground.phase }, { on := 3, ground := Ground.phase }, { on := 4, ground := Ground.phase }, { on := 5, ground := Ground.phase }, { on := 6, ground := Ground.phase }, { on := 7, ground := Ground.phase }, { on := 8, ground := Ground.textOnly Departure.lateStores }, { on := 9, ground := Ground.phase }], guard := none }) rfl (fun K hK => ?_) AllReadyH.nil
                refine step_store_row rfl 44 (.tmp 13) (.tmp 157) rfl pb5 #[.int .i64 0, .slice none 0 0] #[.int .i64 (x : Int), .slice ra RL.length rc] 44 rfl rfl (Fpb6.out) (by kernel_rfl) rfl (piece_allS _ _ _ _) ?_
                intro wz hz hkz
                have HBZ : Kept fb w9 wz := (KB6).fresh hkz lo5
                have LS := hid (bs_keptP (FS6.out) (Fpb6.out) hkz)
                have LZ := hid hz
                have LF := hid (fld_keptR (HFL.out) hkz (fun e => ne5 e.symm))
                have LB := hid HBZ
                refine hK.out _ _ (HKP.out _ HBZ) (fun hHeld => ?_)
                clear hK K hz hkz HBZ
                try simp only [Act.put, List.setIfInBounds_toArray, List.set_cons_zero, List.set_cons_succ]
                refine wpAnyH_take (i := 11) (oi := { dst := some 14, op := Op.assign (Operand.tmp 158), type := 35, pos := "manifest.go:177", after := #[{ on := 8, ground := Ground.data }, { on := 10, ground := Ground.chain }, { on := 0, ground := Ground.phase }, { on := 1, ground := Ground.phase }, { on := 2, ground := Ground.phase }, { on := 3, ground := Ground.phase }, { on := 4, ground := Ground.phase }, { on := 5, ground := Ground.phase }, { on := 6, ground := Ground.phase }, { on := 7, ground := Ground.phase }, { on := 8, ground := Ground.phase }, { on := 9, ground := Ground.phase }, { on := 10, ground := Ground.phase }], guard := none }) (v := ?_) rfl (by kernel_rfl) (by kernel_rfl) (by kernel_rfl) (fun _ _ _ h => h) (Or.inl ⟨by rfl, ?hy⟩) hHeld ?_
                case hy => (intro w hSw; (try dsimp only at hSw); obtain ⟨_, _⟩ := hSw; go_simp; all_goals (with_reducible rfl))
                try simp only [Act.put, List.setIfInBounds_toArray, List.set_cons_zero, List.set_cons_succ]
                refine wpAnyH_done (by kernel_rfl) ?_ _
                go_wp2_with fail
                go_meet
                exact ⟨_, rfl, _, _, _, rfl, rfl, LB, LZ, LS, HCN, LF⟩
              refine AllReadyH.cons (o := { dst := some 13, op := Op.alloc 44, type := 0, pos := "manifest.go:177", after := #[], guard := none }) rfl (fun K hK => ?_) AllReadyH.nil
              refine step_mkp rfl rfl ?_
              intro pb8 wx8 hg8 hM8 hb8 hl8
              have lo8 : w9.heap.size ≤ pb8 := by rw [hg8]; exact ((Kept.of_below (b := fb) (bel_drewN (Below.refl w9.heap.size w9) 1))).size
              have KB8 : Kept fb w9 wx8 := ((Kept.of_below (b := fb) (bel_drewN (Below.refl w9.heap.size w9) 1))).trans (Kept.of_below hb8)
              have FF8 := hid (fld_belowA ((show Fld w9.drew fb from HF9.out)) hb8)
              have LF8 := Nat.lt_of_lt_of_le (show fb < w9.drew.heap.size from hfb9) hb8.size
              have FD8 := hid (((show Dgs w9.drew (some ⟨gd1, 0, none⟩) t t DG from HDS9.out.below (bel_drewN (Below.refl _ _) 1))).below hb8)
              have FA8 := hid hM8
              have ne8 : pb8 ≠ fb := by have := LF8; omega
              clear hg8 hM8 hb8
              refine hK.out _ _ (HKP.out _ KB8) (fun hHeld => ?_)
              clear hK K
              try simp only [Act.put, List.setIfInBounds_toArray, List.set_cons_zero, List.set_cons_succ]
              refine wpAnyH_ready (rs := [3]) (by kernel_rfl) (by simp) ?_
              refine AllReadyH.cons (o := { dst := some 154, op := Op.call { callee := Callee.value (Operand.func 14), args := #[Operand.tmp 153], argTypes := #[28] }, type := 28, pos := "manifest.go:177", after := #[{ on := 2, ground := Ground.data }], guard := none }) rfl (fun K hK => ?_) AllReadyH.nil
              go_simp
              refine (HMN.out _ hHeld.1).mono ?_
              rintro e wx9 ⟨v, qx, rfl, hmi⟩
              have hb9 := hmi.below
              have KB9 : Kept fb w9 wx9 := (KB8).trans (Kept.of_below hb9)
              obtain ⟨aC, cC, rfl, hcC, hhC⟩ := hmi.held (fb := fb) HLT.out LF8
              have HFN := hid (rgn_fns hmi HN.out k n t dl t DG (x : Int))
              have hpdC := hmi.pdat HLT.out HSZ.out
              have FF9 := hid (fld_belowA (FF8.out) hb9)
              have LF9 := Nat.lt_of_lt_of_le LF8 hb9.size
              have FD9 := hid ((FD8.out).below hb9)
              have Fpb9 := hid ((hb9.block _ hl8).trans FA8.out)
              have Lpb9 := Nat.lt_of_lt_of_le hl8 hb9.size
              have FH9 := hid hhC
              have FP9 := hid hpdC
              clear hb9 hmi hhC hpdC
              clear hHeld
              go_wp2_with fail
              refine hK.out _ _ (HKP.out _ KB9) (fun hHeld => ?_)
              clear hK K
              try simp only [Act.put, List.setIfInBounds_toArray, List.set_cons_zero, List.set_cons_succ]
              refine wpAnyH_ready (rs := [5]) (by kernel_rfl) (by simp) ?_
              refine AllReadyH.cons (o := { dst := some 156, op := Op.call { callee := Callee.value (Operand.func 16), args := #[Operand.tmp 151, Operand.tmp 152, Operand.tmp 154, Operand.tmp 155], argTypes := #[38, 27, 28, 3] }, type := 45, pos := "manifest.go:177", after := #[{ on := 0, ground := Ground.data }, { on := 1, ground := Ground.data }, { on := 3, ground := Ground.data }, { on := 4, ground := Ground.data }, { on := 3, ground := Ground.chain }], guard := none }) rfl (fun K hK => ?_) AllReadyH.nil
              go_simp
              refine (HRG.out _ hHeld.1 aC cC qx (FD9.out) (FP9.out) hcC FF9.out (FH9.out)).mono ?_
              rw [HFN.out.1, HFN.out.2.1, HFN.out.2.2, ← HE.out, ← HI2.out, ← HL.out]
              rintro e wx10 ⟨⟨ra, rc, rfl, hbs, hcr, hnr⟩, hfl, hk10⟩
              have HCN := hid (show RL.length ≤ rc ∧ (ra = none → rc = 0) from ⟨hcr, hnr⟩)
              have HFL := hid hfl
              have KB10 : Kept fb w9 wx10 := (KB9).trans hk10
              have Fpb10 := hid ((hk10.block _ Lpb9 ne8).trans Fpb9.out)
              have Lpb10 := Nat.lt_of_lt_of_le Lpb9 hk10.size
              have FS10 := hid hbs
              have LFL10 := Nat.lt_of_lt_of_le LF9 hk10.size
              clear hk10 hbs hcr hnr hfl
              clear hHeld
              go_wp2_with fail
              refine hK.out _ _ (HKP.out _ KB10) (fun hHeld => ?_)
              clear hK K
              try simp only [Act.put, List.setIfInBounds_toArray, List.set_cons_zero, List.set_cons_succ]
              refine wpAnyH_take (i := 6) (oi := { dst := some 150, op := Op.move (Operand.tmp 156), type := 45, pos := "manifest.go:177", after := #[{ on := 5, ground := Ground.data }], guard := none }) (v := ?_) rfl (by kernel_rfl) (by kernel_rfl) (by kernel_rfl) (fun _ _ _ h => h) (Or.inl ⟨by rfl, ?hy⟩) hHeld ?_
              case hy => (intro w hSw; (try dsimp only at hSw); obtain ⟨_, _⟩ := hSw; go_simp; all_goals (with_reducible rfl))
              try simp only [Act.put, List.setIfInBounds_toArray, List.set_cons_zero, List.set_cons_succ]
              refine wpAnyH_take (i := 7) (oi := { dst := some 157, op := Op.extract (Operand.tmp 150) 0, type := 44, pos := "manifest.go:177", after := #[{ on := 6, ground := Ground.data }], guard := none }) (v := ?_) rfl (by kernel_rfl) (by kernel_rfl) (by kernel_rfl) (fun _ _ _ h => h) (Or.inl ⟨by rfl, ?hy⟩) hHeld ?_
              case hy => (intro w hSw; (try dsimp only at hSw); obtain ⟨_, _⟩ := hSw; go_simp; all_goals (with_reducible rfl))
              try simp only [Act.put, List.setIfInBounds_toArray, List.set_cons_zero, List.set_cons_succ]
              refine wpAnyH_take (i := 8) (oi := { dst := some 158, op := Op.extract (Operand.tmp 150) 1, type := 35, pos := "manifest.go:177", after := #[{ on := 6, ground := Ground.data }, { on := 10, ground := Ground.gcOnly Departure.lateStores }], guard := none }) (v := ?_) rfl (by kernel_rfl) (by kernel_rfl) (by kernel_rfl) (fun _ _ _ h => h) (Or.inl ⟨by rfl, ?hy⟩) hHeld ?_
              case hy => (intro w hSw; (try dsimp only at hSw); obtain ⟨_, _⟩ := hSw; go_simp; all_goals (with_reducible rfl))
              try simp only [Act.put, List.setIfInBounds_toArray, List.set_cons_zero, List.set_cons_succ]
              refine wpAnyH_ready (rs := [10]) (by kernel_rfl) (by simp) ?_
              refine AllReadyH.cons (o := { dst := none, op := Op.store 44 (Operand.tmp 13) (Operand.tmp 157), type := 0, pos := "manifest.go:177", after := #[{ on := 9, ground := Ground.data }, { on := 7, ground := Ground.data }, { on := 5, ground := Ground.chain }, { on := 0, ground := Ground.phase }, { on := 1, ground := Ground.phase }, { on := 2, ground := Ground.phase }, { on := 3, ground := Ground.phase }, { on := 4, ground := Ground.phase }, { on := 5, ground := Ground.phase }, { on := 6, ground := Ground.phase }, { on := 7, ground := Ground.phase }, { on := 8, ground := Ground.textOnly Departure.lateStores }, { on := 9, ground := Ground.phase }], guard := none }) rfl (fun K hK => ?_) AllReadyH.nil
              refine step_store_row rfl 44 (.tmp 13) (.tmp 157) rfl pb8 #[.int .i64 0, .slice none 0 0] #[.int .i64 (x : Int), .slice ra RL.length rc] 44 rfl rfl (Fpb10.out) (by kernel_rfl) rfl (piece_allS _ _ _ _) ?_
              intro wz hz hkz
              have HBZ : Kept fb w9 wz := (KB10).fresh hkz lo8
              have LS := hid (bs_keptP (FS10.out) (Fpb10.out) hkz)
              have LZ := hid hz
              have LF := hid (fld_keptR (HFL.out) hkz (fun e => ne8 e.symm))
              have LB := hid HBZ
              refine hK.out _ _ (HKP.out _ HBZ) (fun hHeld => ?_)
              clear hK K hz hkz HBZ
              try simp only [Act.put, List.setIfInBounds_toArray, List.set_cons_zero, List.set_cons_succ]
              refine wpAnyH_take (i := 11) (oi := { dst := some 14, op := Op.assign (Operand.tmp 158), type := 35, pos := "manifest.go:177", after := #[{ on := 8, ground := Ground.data }, { on := 10, ground := Ground.chain }, { on := 0, ground := Ground.phase }, { on := 1, ground := Ground.phase }, { on := 2, ground := Ground.phase }, { on := 3, ground := Ground.phase }, { on := 4, ground := Ground.phase }, { on := 5, ground := Ground.phase }, { on := 6, ground := Ground.phase }, { on := 7, ground := Ground.phase }, { on := 8, ground := Ground.phase }, { on := 9, ground := Ground.phase }, { on := 10, ground := Ground.phase }], guard := none }) (v := ?_) rfl (by kernel_rfl) (by kernel_rfl) (by kernel_rfl) (fun _ _ _ h => h) (Or.inl ⟨by rfl, ?hy⟩) hHeld ?_
              case hy => (intro w hSw; (try dsimp only at hSw); obtain ⟨_, _⟩ := hSw; go_simp; all_goals (with_reducible rfl))
              try simp only [Act.put, List.setIfInBounds_toArray, List.set_cons_zero, List.set_cons_succ]
              refine wpAnyH_done (by kernel_rfl) ?_ _
              go_wp2_with fail
              go_meet
              exact ⟨_, rfl, _, _, _, rfl, rfl, LB, LZ, LS, HCN, LF⟩
            case rest =>
            obtain ⟨w10, hw10, pb, ra2, rc2, rfl, rfl, HK910, HPB, HBS2, HCN2, HF10⟩ := hcut
            subst hw10
            have HK710 := hid (HK79.out.trans HK910.out)
            have HP10 := hid (pcs_keptF HP7.out HK710.out HF7.out)
            have hG : ∀ p : Cls (fun w' => Below w10.heap.size w10 w'), Pcs p.w g1 w3.heap.size t LP bf1 (encP ld k LP) := fun p => HP10.out.below p.h
            have fp0 : ∀ p : Cls (fun w' => Below w10.heap.size w10 w'), p.w.cell? ⟨pb, 0, none⟩ = some (.int .i64 (x : Int)) := fun p => by rw [cell_of_heap ((p.h.block _ (lt_of_heap HPB.out)).trans HPB.out)]; rfl
            have fp1 : ∀ p : Cls (fun w' => Below w10.heap.size w10 w'), p.w.cell? ⟨pb, 1, none⟩ = some (.slice ra2 RL.length rc2) := fun p => by rw [cell_of_heap ((p.h.block _ (lt_of_heap HPB.out)).trans HPB.out)]; rfl
            have fa : ∀ p : Cls (fun w' => Below w10.heap.size w10 w'), p.w.cell? ⟨g1, x * 2 + 1, none⟩ = some (.slice (some ⟨bf1 x, 0, none⟩) LP LP) := fun p => by
              have h1 := (hG p).own.cell1 x (by rw [mkps_length]; exact hxt)
              rwa [mkps_get _ _ _ _ _ _ hxt] at h1
            have cvA : ∀ p : Cls (fun w' => Below w10.heap.size w10 w'), (convert 22 9 (.slice ra2 RL.length rc2)).run Tryd.prog p.w = .ok (.string (bstr RL)) p.w := fun p => conv_bs (HBS2.out.below p.h)
            have cvB : ∀ p : Cls (fun w' => Below w10.heap.size w10 w'), (convert 22 9 (.slice (some ⟨bf1 x, 0, none⟩) LP LP)).run Tryd.prog p.w = .ok (.string (bstr RL)) p.w := fun p => by
              have h5 := ((hG p).row x hxt).bs (encM_ltI HDL.out k LP x) LP
              rw [encM_length, ← HRL.out] at h5
              exact conv_bs h5
            have HRM := hid (fun (p : Cls fun w' => Below w10.heap.size w10 w') => range_of_heapI ((p.h.block mb1 (by have := HK710.out.size; omega)).trans ((HK710.out.block mb1 hmb7 hmbfb).trans HM7.out)))
            have HRP := hid (fun (p : Cls fun w' => Below w10.heap.size w10 w') => range_of_heapI ((p.h.block _ (lt_of_heap HPB.out)).trans HPB.out))
            have HIP := hid (show (Tryd.prog.info? 44).map (·.size) = some ([.int .i64 (x : Int), .slice ra2 RL.length rc2] : List Value).length from by kernel_rfl)
            have HCP := hid (fun (p : Cls fun w' => Below w10.heap.size w10 w') => chp_any p.w ((HVK.out w10 HK710.out).below p.h) k n t dl OD (some ⟨gd1, 0, none⟩) t t DG HODL.out (⟨dgat_same HDS7.out.at_ ((p.h.block gd1 (by have := HK710.out.size; omega)).trans (HK710.out.block gd1 (by omega) (by omega))), HDS7.out.cap, HDS7.out.nil⟩) (x : Int) ra2 RL.length rc2 RL (HBS2.out.below p.h) HCN2.out.1 HCN2.out.2 (by rw [HRLL.out]; omega))
            rw [hcp] at HCP
            have hself : ∀ S : ByteArray, (!(S.toList == S.toList)) = false := fun S => by simp
            have hs1 := hself (bstr RL)
            generalize bstr RL = SD2 at *
            have hne : Nonempty (Cls fun w' => Below w10.heap.size w10 w') := ⟨⟨w10, Below.refl _ _⟩⟩
            have n1 : ((x : Int) != (x : Int)) = false := by simp
            have hx0 : (0 : Int) ≤ (x : Int) := by omega
            clear hG hcp
            go_upto_region 26 with fail
            go_cut [184] (fun v wx => ∃ wy, wy = wx ∧ v = .bool false ∧ Hid (Below w10.heap.size w10 wy))
            case first =>
              refine wp_region_class_lit (G := fun w' => Below w10.heap.size w10 w') (by kernel_rfl) (by kernel_rfl) (bel_drewN (Below.refl _ _) 1) ?_
              iterate 21 (go_big_quiet_step (fail))
              refine wpQuiet_load_clsW (by rfl) 27 (.tmp 4) (by rfl) mb1 0 (by rfl) (mcells k n t dl OD (.slice (some ⟨gd1, 0, none⟩) t t)) _ HRM.out Tryd.underlying27 rfl HIM.out ?_
              rintro _ rfl
              try simp only [Act.put, List.setIfInBounds_toArray, List.set_cons_zero, List.set_cons_succ]
              refine wpQuiet_load_clsW (by rfl) 44 (.tmp 13) (by rfl) pb 0 (by rfl) [.int .i64 (x : Int), .slice ra2 RL.length rc2] _ HRP.out Tryd.underlying44 rfl HIP.out ?_
              rintro _ rfl
              try simp only [Act.put, List.setIfInBounds_toArray, List.set_cons_zero, List.set_cons_succ]
              repeat (go_big_quiet_step ((go_at_call 19; exact Calls.cls (HCP.out _))))
              refine wpQuiet_nil ?_
              rintro _ ⟨⟨wp, hwp⟩, rfl⟩
              have LB := hid hwp
              go_wp2_with fail
              go_meet
              exact ⟨_, rfl, rfl, LB⟩
            case rest =>
            obtain ⟨w11, hw11, rfl, HB1011⟩ := hcut
            subst hw11
            have HF11 := hid (fld_belowA HF10.out HB1011.out)
            have HK711 := hid (HK710.out.trans (Kept.of_below HB1011.out))
            go_wp2
            exact ⟨⟨x + 1, by omega, by go_num, HK711, HF11⟩, by simp [intOf]; omega⟩
          · obtain rfl : t = x := by omega
            have hxt' : ¬ (t : Int) < (t : Int) := by omega
            have HBE := hid (HBW7.out.trans (HK79.out.below HBW7.out.size hWfb))
            go_wp2_with fail
            refine (HK.out w9 HBE.out).mono ?_
            rintro e w12 ⟨rfl, hb12⟩
            have HB12 := hid (HBE.out.trans (hb12.mono HBE.out.size))
            go_wp2
            go_ret
            exact ⟨rfl, HB12.out⟩
theorem restoresD_walk (W : World) (V : Vars W shaRound shaStart) (v0 : Value) (hv0 : CaseWD W v0) :
    Calls Tryd.prog 6 #[v0] W fun e w' => e = .returned (.bool true) ∧ Below W.heap.size W w' := by
  obtain ⟨K, N, T, I, da, dl, dc, ld, mk, mn, mt, ms, mo, ma, mm, mc, mD, pa, pl, pc, ps, D, ia, il, ic, li, C⟩ := hv0
  obtain rfl := C.eq
  exact restores_inD W V K N T I da dl dc ld mk mn mt ms mo ma mm mc pa pl pc ia il ic li C.mo32 C.data.1 C.data.2.1 C.data.2.2 C.by_.1
end Go.Proofs.YtehjikogdaclgaaDoor

namespace Go.Proofs.YtehjikogdaclgaaDoor.digestRestores
open Go.ChangeShapes Go.WideShapes Go.ChangeAt Go.RowKit Go.WideMaps Go.WideElems
open Go.ChangeMaps (open_string shut_string)
set_option linter.unusedVariables false

set_option maxRecDepth 100000 in
theorem lifted (os : Os) (started : os.Started) (H : Type) (enc : TypeId × Value → H) :
    ReturnsInHanded {} Tryd.checked os 6 .any (fun w args => (Rows.digestRestoresSpec.pre enc Tryd.prog Tryd.f6 [] false w args ∧ laidMetH Tryd.prog laidA w) ∧ sizedMet enc Tryd.prog Tryd.f6 (OpenSpec.ofChange Rows.digestRestoresSpec) false w args)
      (Rows.digestRestoresSpec.post enc Tryd.prog Tryd.f6 false true false false) := by
  refine returnsInHanded_of_change_and (C := Tryd.checked) (X := fun w _ => laidMetH Tryd.prog laidA w) (fun _ _ _ hh h => h.of_heap hh) ownD started (by kernel_rfl) Tryd.func6
    (ChangeSpec.witness_shaped (enc := enc) (C := Tryd.checked) (os := os) (X := fun w _ => laidMetH Tryd.prog laidA w) false (World.doorLaid Tryd.prog 24 os) #[.agg cz] 8 rfl (World.shaped_of_RefB (by kernel_rfl) (by kernel_rfl)) (by kernel_rfl) (by kernel_rfl) (by kernel_rfl) (door_metA os _)) ?_
  intro W base args ds gs before hval0 hW _ _ hL _
  have hval : ∀ (j : Nat) t v, Tryd.f6.params[j]? = some t → args[j]? = some v → Value.okWide Tryd.prog W .any base t v := hval0
  have hW' := hW
  obtain ⟨p, q, hA0, hV, rfl, hfz, hnd⟩ := hW
  have hA : DataW.TrodAll enc Tryd.prog W 0 (fun _ => true) true Tryd.f6.params.toList args.toList ds p := hA0
  rw [Tryd.params6] at hA hval
  obtain ⟨v0, vs0, d0, ds0, p0, q0, hargs, rfl, rfl, h0, r0⟩ := trodAll_cons hA
  obtain ⟨rfl, rfl, rfl⟩ := trodAll_nil r0
  obtain rfl : args = #[v0] := by cases args; simp_all
  obtain ⟨rfl, rfl⟩ := trodVars_none hV
  have k0 := h0
  have lt0 : ∀ x ∈ p0, x.block < W.heap.size := by obtain ⟨m, hm⟩ := k0; exact DataW.trod_lt m _ _ _ hm
  have C0 := open_caseD (hval 0 31 v0 rfl rfl) h0
  clear hA0 hval0
  refine (restoresD_walk W (vars_of_laid hL) v0 C0).mono fun e W' ⟨he, bel⟩ => ?_
  subst he
  exact ⟨_, rfl, _, _, _, [], _, [], hW', trodAll_mk1 (shut_bool Tryd.underlying4 _), (trodAll_cons_mk (Below.trod Facts.laidOut (by kernel_rfl) (of_decide_eq_true (by kernel_rfl)) k0 bel lt0) trodAll_mk0), rfl, bel.frame _, fun h => by cases h⟩

set_option maxHeartbeats 4000000 in
set_option maxRecDepth 1000000 in
theorem closed : joinedFacts Tryd.pinned.checked.prog 6 Tryd.f6 Rows.digestRestoresSpec Rows.digestRestoresRow = true := by
  unfold joinedFacts
  refine (Facts.and2 (Facts.and2 (Facts.and2 (Facts.and2 (Facts.and2 (Facts.and2 (Facts.and2 (Facts.and2 (Facts.and2 (Facts.and2 (Facts.and2 (Facts.and2 (Facts.and2 (Facts.and2 (Facts.and2 (Facts.and2 (Facts.and2 (Facts.and2 (Facts.and2 (Facts.and2 (Facts.and2 (Facts.and2 (Facts.and2 (Facts.and2 (Facts.and2 (Facts.and2 (Facts.and2 (Facts.and2 (Facts.and2 (Facts.and2 (Facts.and2 ?_ Facts.laidOut) Facts.mapsR) ?_) ?_) ?_) Facts.stops) ?_) Facts.knobs) ?_) ?_) ?_) ?_) ?_) ?_) ?_) ?_) ?_) ?_) ?_) ?_) ?_) Facts.keys) ?_) Facts.heard) Facts.enter) ?_) ?_) ?_) ?_) ?_) ?_)
  all_goals (as_aux_lemma => kernel_rfl)

theorem over : Rows.digestRestoresRow.holds Tryd.pinned (OpenSpec.ofChange Rows.digestRestoresSpec) :=
  OpenClaim.holds_of_wide 6 Tryd.f6 rfl rfl rfl rfl rfl rfl rfl ⟨rfl, rfl, rfl, rfl, rfl⟩ rfl rfl rfl rfl rfl (by as_aux_lemma => kernel_rfl) Tryd.func6 closed
    (of_decide_eq_true (by as_aux_lemma => kernel_rfl)) (by unfold Func.isWrapper; first | (rw [if_pos (by decide +kernel)]; kernel_rfl) | (rw [if_neg (by decide +kernel)]; exact ⟨rfl, rfl⟩))
    (fun os started H enc _ => lifted os started H enc)
end Go.Proofs.YtehjikogdaclgaaDoor.digestRestores
namespace Go.Proofs.YtehjikogdaclgaaDoor
open Go
set_option maxHeartbeats 4000000 in
set_option maxRecDepth 1000000 in
theorem digestRestores_holds : Rows.DigestRestoresCardSaid :=
  Claim7.holds_tied_plain_at .later [] [.data, .data] true (true, "48bf63a4ac8f49fd2bf19fc74a41542f9b69bd07c9d5103313011b9f93b68b52") false
    digestRestores.over (fun _ h => by cases h) (by as_aux_lemma => kernel_rfl) (fun _ h => by cases h) digestRestores_row_tie rfl ⟨rfl, rfl⟩ (by as_aux_lemma => kernel_rfl) rfl
    (fun f fn hf hfn => by
      obtain rfl : f = 6 := Option.some.inj ((show Tryd.prog.funcNamed "stolon/stolonlaw02.DigestRestores" = some 6 by as_aux_lemma => kernel_rfl).symm.trans hf) |>.symm
      obtain rfl : fn = Tryd.f6 := (Option.some.inj (Tryd.func6.symm.trans hfn)).symm
      exact ⟨by as_aux_lemma => kernel_rfl, fun j t ht => by
        rw [Tryd.params6] at ht
        rcases j with _ | j
        · obtain rfl : t = 31 := by simpa using ht.symm
          exact (show Tryd.prog.wantsStandIn 31 = false by as_aux_lemma => kernel_rfl)
        · simp at ht⟩)
    (by as_aux_lemma => kernel_rfl)
#print axioms digestRestores_holds
end Go.Proofs.YtehjikogdaclgaaDoor
