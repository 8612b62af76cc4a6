/-
  PlaceRestores: for every input the call returns true, and each argument reads behind it as before; the listed variables hold what the program's text lays (tied). No other condition.
-/
import Derived.Test.YtjgiiciniplbnaaGreatDoorKr4
import Derived.Deep.DeepCutAuto
import Derived.Test.YtjgiiciniplbnaaGreatDoorKa3
import Derived.Test.YtjgiiciniplbnaaGreatDoorCards
import Derived.Test.YtjgiiciniplbnaaGreatDoorTie
import Derived.ShutString
import Derived.ChangeOld
import Derived.Below
namespace Go.Proofs.YtjgiiciniplbnaaGreatDoor
open Go Go.RowKit Go.Lib Go.Sort
set_option linter.unusedVariables false

set_option maxRecDepth 100000 in
set_option maxHeartbeats 16000000 in
theorem rs_walk (W : World) (V : Vars W shaRound shaStart) (K T : Int) (da : Option Addr) (dl dc : Nat) (ld : List Nat) (hd : By W da dl dc ld) (ia : Option Addr) (il ic : Nat) (li : List Int) (hi : In W ia il ic li) :
    Calls Tryz.prog 13 #[.agg #[.int .i64 K, .int .i64 T, .slice da dl dc, .slice ia il ic]] W fun e w' => e = .returned (.bool true) ∧ Below W.heap.size W w' := by
  have HK := hid (fun (wx : World) (b : Below W.heap.size W wx) => known_pl wx (V.below b))
  have hlow : 3 ≤ W.heap.size := V.lt
  have HV := hid V
  obtain ⟨w2, hw2⟩ : ∃ y, y = W.alloc (.cells #[.int .i64 K, .int .i64 T, .slice da dl dc, .slice ia il ic] 114) := ⟨_, rfl⟩
  have HB2 := hid (show Below W.heap.size W w2 from by rw [hw2]; exact (Below.refl _ _).alloc (Nat.le_refl _) _)
  have hC : w2.heap[W.heap.size]? = some (.cells #[.int .i64 K, .int .i64 T, .slice da dl dc, .slice ia il ic] 114 (0, 0)) := by rw [hw2]; exact heap_new _ _
  have HC := hid hC
  have HDD := hid hd
  have HI := hid hi
  have HDE := hid (show dl = ld.length from hd.1.len)
  have HDL := hid (show ∀ y ∈ ld, y < 256 from by obtain ⟨_, _, _, h, _⟩ := hd.1; exact h)
  obtain ⟨lb, hlb⟩ : ∃ y, y = W.heap.size := ⟨_, rfl⟩
  have HLB := hid hlb
  rw [← hlb] at HC hC
  clear hd hC V hi
  go_enter Tryz.func13, Tryz.ntmps13
  go_upto_region 1 with fail
  change Code.wp _ _ _ _ (W.alloc (.cells #[.int .i64 K, .int .i64 T, .slice da dl dc, .slice ia il ic] 114))
  rw [← hw2, ← hlb]
  clear hw2 hlb
  go_cut [46] (fun v wx => ∃ wy, wy = wx ∧ wy = w2 ∧ ∃ r, v = .bool r ∧ (r = false → 1 ≤ K ∧ K ≤ T ∧ T ≤ 12 ∧ dl ≤ 500 ∧ il ≤ 40))
  case first =>
    obtain ⟨e0, e1, e2, e3⟩ := pc_c HC.out
    by_cases c1 : K < 1
    · go_wp2_with fail
      go_meet
      exact ⟨_, rfl, rfl, true, rfl, fun h => by cases h⟩
    · by_cases c3 : T < K
      · go_wp2_with fail
        go_meet
        exact ⟨_, rfl, rfl, true, rfl, fun h => by cases h⟩
      · by_cases c4 : 12 < T
        · go_wp2_with fail
          go_meet
          exact ⟨_, rfl, rfl, true, rfl, fun h => by cases h⟩
        · by_cases c5 : 500 < dl
          · have c5' : (500 : Int) < (dl : Int) := by omega
            go_wp2_with fail
            go_meet
            exact ⟨_, rfl, rfl, true, rfl, fun h => by cases h⟩
          · have c5' : ¬ (500 : Int) < (dl : Int) := by omega
            by_cases c6 : 40 < il
            · have c6' : (40 : Int) < (il : Int) := by omega
              go_wp2_with fail
              go_meet
              exact ⟨_, rfl, rfl, true, rfl, fun h => by cases h⟩
            · have c6' : ¬ (40 : Int) < (il : Int) := by omega
              go_wp2_with fail
              go_meet
              exact ⟨_, rfl, rfl, false, rfl, fun _ => by omega⟩
  case rest =>
  obtain ⟨wz, hwz, hwz1, r, rfl, hrr⟩ := hcut
  subst hwz
  subst hwz1
  cases r with
  | true =>
    clear hrr
    go_wp2_with fail
    refine (HK.out _ HB2.out).mono ?_
    rintro e w3 ⟨rfl, hb3⟩
    have HB3 := hid (HB2.out.trans (hb3.mono HB2.out.size))
    go_wp2
    go_ret
    exact ⟨rfl, HB3.out⟩
  | false =>
    have hok0 := hrr rfl
    clear hrr
    obtain ⟨w2, rfl⟩ : ∃ y : World, y = wz := ⟨_, rfl⟩
    obtain ⟨k, rfl⟩ : ∃ q : Nat, K = (q : Int) := ⟨K.toNat, by omega⟩
    obtain ⟨t, rfl⟩ : ∃ q : Nat, T = (q : Int) := ⟨T.toNat, by omega⟩
    have hok : 1 ≤ k ∧ k ≤ k ∧ k ≤ t ∧ t ≤ 255 ∧ dl ≤ 8192 := by omega
    have ht12 : t ≤ 12 := by omega
    have hdl : dl ≤ 500 := by omega
    have hil : il ≤ 40 := by omega
    have ht1 : 1 ≤ t := by omega
    clear hok0
    have hl2 := lt_of_heap HC.out
    go_wp2_with fail
    refine (newField_any _).mono ?_
    rintro e w3 ⟨rfl, hF, hb3⟩
    obtain ⟨fb, hfb0⟩ : ∃ y, y = w2.heap.size := ⟨_, rfl⟩
    rw [← hfb0] at hF
    have hWfb1 : lb < fb := by omega
    have hWfb : W.heap.size ≤ fb := by have := HLB.out; omega
    have hfb : fb < w3.heap.size := lt_of_heap hF
    have HF3 := hid (show Fld w3 fb from .inl hF)
    have HB3 := hid (HB2.out.trans (hb3.mono HB2.out.size))
    have HC3 := hid ((hb3.block _ hl2).trans HC.out)
    have hlw3 := lt_of_heap HC3.out
    rw [← hfb0]
    clear hfb0 hF hb3 hl2
    have HKP := hid (show ∀ wx : World, Kept fb w3 wx → wx.cell? ⟨lb, 0, none⟩ = some (.int .i64 (k : Int)) ∧ wx.cell? ⟨lb, 1, none⟩ = some (.int .i64 (t : Int)) ∧ wx.cell? ⟨lb, 2, none⟩ = some (.slice da dl dc) from fun wx b => by
      obtain ⟨f0, f1, f2, _⟩ := pc_c ((b.block _ hlw3 (by omega)).trans HC3.out)
      exact ⟨f0, f1, f2⟩)
    have HD := hid (HDD.out.1.below HB3.out)
    have HDN := hid HDD.out.2.2
    have HMM := hid (fun (wx : World) (b : Below w3.heap.size w3 wx) a' c' (hd : Bs wx (.slice a' dl c') ld) (hc : dl ≤ c') (ho : Off fb (.slice a' dl c')) => make_postR fb k k t dl c' a' ld wx (fld_belowA HF3.out b) ((HV.out.below HB3.out).below b) hd ho hc hok.1 hok.2.1 hok.2.2.1 hok.2.2.2.1 hok.2.2.2.2 (Nat.le_trans hlow hWfb))
    go_upto_region 4 with fail
    go_cut [4, 5, 6] (fun mv pv ev wx => ∃ wy, wy = wx ∧ ∃ mb M pw ew, mv = .pointer (some ⟨mb, 0, none⟩) ∧ pv = pw ∧ ev = ew ∧ Hid (MdX fb (MkPost fb k k t dl ld) mb M pw ew w3 wy))
    case first =>
      refine wp_region_held_drew (S := (fun wx : World => wx.cell? ⟨lb, 0, none⟩ = some (.int .i64 (k : Int)) ∧ wx.cell? ⟨lb, 1, none⟩ = some (.int .i64 (t : Int)) ∧ wx.cell? ⟨lb, 2, none⟩ = some (.slice da dl dc))) (by kernel_rfl) (HKP.out _ (Kept.of_below (bel_drewN (Below.refl _ _) 1))) (fun hHeld => ?_)
      refine wpAnyH_take (i := 0) (oi := { dst := some 50, op := Op.move (Operand.tmp 3), type := 56, pos := "plain.go:236", after := #[], guard := none }) (v := ?_) rfl (by kernel_rfl) (by kernel_rfl) (by kernel_rfl) (fun _ _ _ h => h) (Or.inl ⟨by rfl, ?hy⟩) hHeld ?_
      case hy => (intro w hSw; (try dsimp only at hSw); obtain ⟨_, _, _⟩ := hSw; go_simp; all_goals (with_reducible rfl))
      try simp only [Act.put, List.setIfInBounds_toArray, List.set_cons_zero, List.set_cons_succ]
      refine wpAnyH_take (i := 1) (oi := { dst := some 51, op := Op.fieldAddr 114 (Operand.tmp 1) 0, type := 0, pos := "plain.go:236", after := #[], guard := none }) (v := ?_) rfl (by kernel_rfl) (by kernel_rfl) (by kernel_rfl) (fun _ _ _ h => h) (Or.inl ⟨by rfl, ?hy⟩) hHeld ?_
      case hy => (intro w hSw; (try dsimp only at hSw); obtain ⟨_, _, _⟩ := hSw; go_simp; all_goals (with_reducible rfl))
      try simp only [Act.put, List.setIfInBounds_toArray, List.set_cons_zero, List.set_cons_succ]
      refine wpAnyH_take (i := 2) (oi := { dst := some 52, op := Op.load 3 (Operand.tmp 51), type := 3, pos := "plain.go:236", after := #[{ on := 1, ground := Ground.data }], guard := none }) (v := ?_) rfl (by kernel_rfl) (by kernel_rfl) (by kernel_rfl) (fun _ _ _ h => h) (Or.inl ⟨by rfl, ?hy⟩) hHeld ?_
      case hy => (intro w hSw; (try dsimp only at hSw); obtain ⟨_, _, _⟩ := hSw; go_simp; all_goals (with_reducible rfl))
      try simp only [Act.put, List.setIfInBounds_toArray, List.set_cons_zero, List.set_cons_succ]
      refine wpAnyH_take (i := 3) (oi := { dst := some 53, op := Op.fieldAddr 114 (Operand.tmp 1) 0, type := 0, pos := "plain.go:236", after := #[], guard := none }) (v := ?_) rfl (by kernel_rfl) (by kernel_rfl) (by kernel_rfl) (fun _ _ _ h => h) (Or.inl ⟨by rfl, ?hy⟩) hHeld ?_
      case hy => (intro w hSw; (try dsimp only at hSw); obtain ⟨_, _, _⟩ := hSw; go_simp; all_goals (with_reducible rfl))
      try simp only [Act.put, List.setIfInBounds_toArray, List.set_cons_zero, List.set_cons_succ]
      refine wpAnyH_take (i := 4) (oi := { dst := some 54, op := Op.load 3 (Operand.tmp 53), type := 3, pos := "plain.go:236", after := #[{ on := 3, ground := Ground.data }], guard := none }) (v := ?_) rfl (by kernel_rfl) (by kernel_rfl) (by kernel_rfl) (fun _ _ _ h => h) (Or.inl ⟨by rfl, ?hy⟩) hHeld ?_
      case hy => (intro w hSw; (try dsimp only at hSw); obtain ⟨_, _, _⟩ := hSw; go_simp; all_goals (with_reducible rfl))
      try simp only [Act.put, List.setIfInBounds_toArray, List.set_cons_zero, List.set_cons_succ]
      refine wpAnyH_take (i := 5) (oi := { dst := some 55, op := Op.fieldAddr 114 (Operand.tmp 1) 1, type := 0, pos := "plain.go:236", after := #[], guard := none }) (v := ?_) rfl (by kernel_rfl) (by kernel_rfl) (by kernel_rfl) (fun _ _ _ h => h) (Or.inl ⟨by rfl, ?hy⟩) hHeld ?_
      case hy => (intro w hSw; (try dsimp only at hSw); obtain ⟨_, _, _⟩ := hSw; go_simp; all_goals (with_reducible rfl))
      try simp only [Act.put, List.setIfInBounds_toArray, List.set_cons_zero, List.set_cons_succ]
      refine wpAnyH_take (i := 6) (oi := { dst := some 56, op := Op.load 3 (Operand.tmp 55), type := 3, pos := "plain.go:236", after := #[{ on := 5, ground := Ground.data }], guard := none }) (v := ?_) rfl (by kernel_rfl) (by kernel_rfl) (by kernel_rfl) (fun _ _ _ h => h) (Or.inl ⟨by rfl, ?hy⟩) hHeld ?_
      case hy => (intro w hSw; (try dsimp only at hSw); obtain ⟨_, _, _⟩ := hSw; go_simp; all_goals (with_reducible rfl))
      try simp only [Act.put, List.setIfInBounds_toArray, List.set_cons_zero, List.set_cons_succ]
      refine wpAnyH_take (i := 8) (oi := { dst := some 58, op := Op.fieldAddr 114 (Operand.tmp 1) 2, type := 0, pos := "plain.go:236", after := #[], guard := none }) (v := ?_) rfl (by kernel_rfl) (by kernel_rfl) (by kernel_rfl) (fun _ _ _ h => h) (Or.inl ⟨by rfl, ?hy⟩) hHeld ?_
      case hy => (intro w hSw; (try dsimp only at hSw); obtain ⟨_, _, _⟩ := hSw; go_simp; all_goals (with_reducible rfl))
      try simp only [Act.put, List.setIfInBounds_toArray, List.set_cons_zero, List.set_cons_succ]
      refine wpAnyH_take (i := 9) (oi := { dst := some 59, op := Op.load 66 (Operand.tmp 58), type := 66, pos := "plain.go:236", after := #[{ on := 8, ground := Ground.data }], guard := none }) (v := ?_) rfl (by kernel_rfl) (by kernel_rfl) (by kernel_rfl) (fun _ _ _ h => h) (Or.inl ⟨by rfl, ?hy⟩) hHeld ?_
      case hy => (intro w hSw; (try dsimp only at hSw); obtain ⟨_, _, _⟩ := hSw; go_simp; all_goals (with_reducible rfl))
      try simp only [Act.put, List.setIfInBounds_toArray, List.set_cons_zero, List.set_cons_succ]
      refine wpAnyH_ready (rs := [7, 16]) (by kernel_rfl) (by simp) ?_
      refine AllReadyH.cons (o := { dst := some 57, op := Op.buildSlice 66 0 #[], type := 66, pos := "plain.go:236", after := #[], guard := none }) rfl (fun K hK => ?_) ?_
      · skip
        refine step_build0 rfl rfl ?_
        intro g1 wm1 hge1 hE1 hb1 gl1
        have HB1 : Below w3.heap.size w3 wm1 := ((bel_drewN (Below.refl w3.heap.size w3) 1)).trans (hb1.mono ((bel_drewN (Below.refl w3.heap.size w3) 1)).size)
        have glo1 : w3.heap.size ≤ g1 := by rw [hge1]; exact ((bel_drewN (Below.refl w3.heap.size w3) 1)).size
        clear hge1
        refine hK.out _ _ (HKP.out _ (Kept.of_below HB1)) (fun hHeld => ?_)
        clear hK K
        have ZHB1 := hid HB1
        have ZhE1 := hid hE1
        try clear HB1 hE1
        try simp only [Act.put, List.setIfInBounds_toArray, List.set_cons_zero, List.set_cons_succ]
        refine wpAnyH_ready (rs := [10, 16]) (by kernel_rfl) (by simp) ?_
        refine AllReadyH.cons (o := { dst := some 60, op := Op.call { callee := Callee.builtin Builtin.append, args := #[Operand.tmp 57, Operand.tmp 59], argTypes := #[66, 66] }, type := 66, pos := "plain.go:236", after := #[{ on := 7, ground := Ground.data }, { on := 9, ground := Ground.data }], guard := none }) rfl (fun K hK => ?_) ?_
        · skip
          refine step_own_bytes rfl (.tmp 57) (.tmp 59) rfl w3.heap.size g1 rfl (own_emptyM ZhE1.out glo1) da dl dc ld rfl (HD.out.below (ZHB1.out)) HDN.out (by omega) (ZHB1.out).size ?_
          intro v2 wm2 hdA2 hgA2
          have nil2 := hdA2
          obtain ⟨av2, cv2, ev2, -, hcv2, hbv2, hlow2⟩ := bs_of_owns hdA2 HDL.out
          subst ev2
          have HB2 : Below w3.heap.size w3 wm2 := (ZHB1.out).grown hgA2 (ZHB1.out).size (fun q hq => by have := glo1; simp at hq; omega)
          refine hK.out _ _ (HKP.out _ (Kept.of_below HB2)) (fun hHeld => ?_)
          clear hK K
          have ZHB2 := hid HB2
          have Zhbv2 := hid hbv2
          have Zhcv2 := hid hcv2
          have Zhlow2 := hid hlow2
          have ZhdA2 := hid hdA2
          try clear HB2 hbv2 hcv2 hlow2 hdA2
          try simp only [Act.put, List.setIfInBounds_toArray, List.set_cons_zero, List.set_cons_succ]
          refine wpAnyH_ready (rs := [11, 16]) (by kernel_rfl) (by simp) ?_
          refine AllReadyH.cons (o := { dst := some 61, op := Op.call { callee := Callee.value (Operand.func 58), args := #[Operand.tmp 50, Operand.tmp 52, Operand.tmp 54, Operand.tmp 56, Operand.tmp 60], argTypes := #[56, 3, 3, 3, 66] }, type := 115, pos := "plain.go:236", after := #[{ on := 0, ground := Ground.data }, { on := 2, ground := Ground.data }, { on := 4, ground := Ground.data }, { on := 6, ground := Ground.data }, { on := 10, ground := Ground.data }, { on := 10, ground := Ground.chain }], guard := none }) rfl (fun K hK => ?_) ?_
          · skip
            go_simp
            refine (HMM.out wm2 (ZHB2.out) av2 cv2 (Zhbv2.out) Zhcv2.out (off_lowM (fun ad h => (Zhlow2.out ad h).1) hfb)).mono ?_
            rintro e wm3 ⟨M3, pv3, ev3, rfl, hP3, hk3, hI3, hZ3, hO3⟩
            have hKK3 : Kept fb w3 wm3 := (Kept.of_below (ZHB2.out)).trans hk3
            clear hHeld
            go_wp2_with fail
            refine hK.out _ _ (HKP.out _ hKK3) (fun hHeld => ?_)
            clear hK K
            have ZhKK3 := hid hKK3
            have ZhP3 := hid hP3
            have Zhk3 := hid hk3
            have ZhI3 := hid hI3
            have ZhZ3 := hid hZ3
            have ZhO3 := hid hO3
            try clear hKK3 hP3 hk3 hI3 hZ3 hO3
            try simp only [Act.put, List.setIfInBounds_toArray, List.set_cons_zero, List.set_cons_succ]
            refine wpAnyH_take (i := 12) (oi := { dst := some 49, op := Op.move (Operand.tmp 61), type := 115, pos := "plain.go:236", after := #[{ on := 11, ground := Ground.data }], guard := none }) (v := ?_) rfl (by kernel_rfl) (by kernel_rfl) (by kernel_rfl) (fun _ _ _ h => h) (Or.inl ⟨by rfl, ?hy⟩) hHeld ?_
            case hy => (intro w hSw; (try dsimp only at hSw); obtain ⟨_, _, _⟩ := hSw; go_simp; all_goals (with_reducible rfl))
            try simp only [Act.put, List.setIfInBounds_toArray, List.set_cons_zero, List.set_cons_succ]
            refine wpAnyH_take (i := 13) (oi := { dst := some 62, op := Op.extract (Operand.tmp 49) 0, type := 62, pos := "plain.go:236", after := #[{ on := 12, ground := Ground.data }], guard := none }) (v := ?_) rfl (by kernel_rfl) (by kernel_rfl) (by kernel_rfl) (fun _ _ _ h => h) (Or.inl ⟨by rfl, ?hy⟩) hHeld ?_
            case hy => (intro w hSw; (try dsimp only at hSw); obtain ⟨_, _, _⟩ := hSw; go_simp; all_goals (with_reducible rfl))
            try simp only [Act.put, List.setIfInBounds_toArray, List.set_cons_zero, List.set_cons_succ]
            refine wpAnyH_take (i := 14) (oi := { dst := some 63, op := Op.extract (Operand.tmp 49) 1, type := 63, pos := "plain.go:236", after := #[{ on := 12, ground := Ground.data }, { on := 17, ground := Ground.gcOnly Departure.lateStores }], guard := none }) (v := ?_) rfl (by kernel_rfl) (by kernel_rfl) (by kernel_rfl) (fun _ _ _ h => h) (Or.inl ⟨by rfl, ?hy⟩) hHeld ?_
            case hy => (intro w hSw; (try dsimp only at hSw); obtain ⟨_, _, _⟩ := hSw; go_simp; all_goals (with_reducible rfl))
            try simp only [Act.put, List.setIfInBounds_toArray, List.set_cons_zero, List.set_cons_succ]
            refine wpAnyH_take (i := 15) (oi := { dst := some 64, op := Op.extract (Operand.tmp 49) 2, type := 73, pos := "plain.go:236", after := #[{ on := 12, ground := Ground.data }, { on := 18, ground := Ground.gcOnly Departure.lateStores }], guard := none }) (v := ?_) rfl (by kernel_rfl) (by kernel_rfl) (by kernel_rfl) (fun _ _ _ h => h) (Or.inl ⟨by rfl, ?hy⟩) hHeld ?_
            case hy => (intro w hSw; (try dsimp only at hSw); obtain ⟨_, _, _⟩ := hSw; go_simp; all_goals (with_reducible rfl))
            try simp only [Act.put, List.setIfInBounds_toArray, List.set_cons_zero, List.set_cons_succ]
            refine wpAnyH_ready (rs := [16]) (by kernel_rfl) (by simp) ?_
            refine AllReadyH.cons (o := { dst := some 4, op := Op.alloc 62, type := 0, pos := "plain.go:236", after := #[], guard := none }) rfl (fun K hK => ?_) AllReadyH.nil
            refine step_mkm rfl rfl ?_
            intro mb4 wm4 hmb4 hM4 hb4 ml4
            have hKK4 : Kept fb w3 wm4 := (ZhKK3.out).trans (Kept.of_below hb4)
            have mlo4 : w3.heap.size ≤ mb4 := by rw [hmb4]; exact (ZhKK3.out).size
            have Zhmb4 := hid hmb4
            clear hmb4
            refine hK.out _ _ (HKP.out _ hKK4) (fun hHeld => ?_)
            clear hK K
            have ZhM4 := hid hM4
            have ZhKK4 := hid hKK4
            try clear hM4 hKK4
            try simp only [Act.put, List.setIfInBounds_toArray, List.set_cons_zero, List.set_cons_succ]
            refine wpAnyH_ready (rs := [17]) (by kernel_rfl) (by simp) ?_
            refine AllReadyH.cons (o := { dst := none, op := Op.store 62 (Operand.tmp 4) (Operand.tmp 62), type := 0, pos := "plain.go:236", after := #[{ on := 16, ground := Ground.data }, { on := 13, ground := Ground.data }, { on := 11, ground := Ground.chain }, { on := 0, ground := Ground.phase }, { on := 1, ground := Ground.phase }, { on := 2, ground := Ground.phase }, { on := 3, ground := Ground.phase }, { on := 4, ground := Ground.phase }, { on := 5, ground := Ground.phase }, { on := 6, ground := Ground.phase }, { on := 7, ground := Ground.phase }, { on := 8, ground := Ground.phase }, { on := 9, ground := Ground.phase }, { on := 10, ground := Ground.phase }, { on := 11, ground := Ground.phase }, { on := 12, ground := Ground.phase }, { on := 13, ground := Ground.phase }, { on := 14, ground := Ground.textOnly Departure.lateStores }, { on := 15, ground := Ground.textOnly Departure.lateStores }, { on := 16, ground := Ground.phase }], guard := none }) rfl (fun K hK => ?_) AllReadyH.nil
            refine step_store_row rfl 62 (.tmp 4) (.tmp 62) rfl mb4 mz M3 62 rfl rfl ZhM4.out ZhI3.out ZhZ3.out ZhO3.out ?_
            intro wz5 hz5 hkz5
            refine hK.out _ _ (HKP.out _ ((ZhKK4.out).fresh hkz5 mlo4)) (fun hHeld => ?_)
            clear hK K
            try simp only [Act.put]
            have LV := hid (mdx_late (fb := fb) (Post := (MkPost fb k k t dl ld)) (ZHB2.out) ZhP3.out Zhk3.out Zhmb4.out hb4 ml4 hz5 hkz5)
            refine wpAnyH_take (i := 18) (oi := { dst := some 5, op := Op.assign (Operand.tmp 63), type := 63, pos := "plain.go:236", after := #[{ on := 14, ground := Ground.data }, { on := 17, ground := Ground.chain }, { on := 0, ground := Ground.phase }, { on := 1, ground := Ground.phase }, { on := 2, ground := Ground.phase }, { on := 3, ground := Ground.phase }, { on := 4, ground := Ground.phase }, { on := 5, ground := Ground.phase }, { on := 6, ground := Ground.phase }, { on := 7, ground := Ground.phase }, { on := 8, ground := Ground.phase }, { on := 9, ground := Ground.phase }, { on := 10, ground := Ground.phase }, { on := 11, ground := Ground.phase }, { on := 12, ground := Ground.phase }, { on := 13, ground := Ground.phase }, { on := 14, ground := Ground.phase }, { on := 15, ground := Ground.textOnly Departure.lateStores }, { on := 16, ground := Ground.phase }, { on := 17, ground := Ground.phase }], guard := none }) (v := ?_) rfl (by kernel_rfl) (by kernel_rfl) (by kernel_rfl) (fun _ _ _ h => h) (Or.inl ⟨by rfl, ?hy⟩) hHeld ?_
            case hy => (intro w hSw; (try dsimp only at hSw); obtain ⟨_, _, _⟩ := hSw; go_simp; all_goals (with_reducible rfl))
            try simp only [Act.put, List.setIfInBounds_toArray, List.set_cons_zero, List.set_cons_succ]
            refine wpAnyH_take (i := 19) (oi := { dst := some 6, op := Op.assign (Operand.tmp 64), type := 73, pos := "plain.go:236", after := #[{ on := 15, ground := Ground.data }, { on := 18, ground := Ground.chain }, { on := 0, ground := Ground.phase }, { on := 1, ground := Ground.phase }, { on := 2, ground := Ground.phase }, { on := 3, ground := Ground.phase }, { on := 4, ground := Ground.phase }, { on := 5, ground := Ground.phase }, { on := 6, ground := Ground.phase }, { on := 7, ground := Ground.phase }, { on := 8, ground := Ground.phase }, { on := 9, ground := Ground.phase }, { on := 10, ground := Ground.phase }, { on := 11, ground := Ground.phase }, { on := 12, ground := Ground.phase }, { on := 13, ground := Ground.phase }, { on := 14, ground := Ground.phase }, { on := 15, ground := Ground.phase }, { on := 16, ground := Ground.phase }, { on := 17, ground := Ground.phase }, { on := 18, ground := Ground.phase }], guard := none }) (v := ?_) rfl (by kernel_rfl) (by kernel_rfl) (by kernel_rfl) (fun _ _ _ h => h) (Or.inl ⟨by rfl, ?hy⟩) hHeld ?_
            case hy => (intro w hSw; (try dsimp only at hSw); obtain ⟨_, _, _⟩ := hSw; go_simp; all_goals (with_reducible rfl))
            try simp only [Act.put, List.setIfInBounds_toArray, List.set_cons_zero, List.set_cons_succ]
            refine wpAnyH_done (by kernel_rfl) ?_ _
            go_wp2_with fail
            go_meet
            exact ⟨_, rfl, _, _, _, _, rfl, rfl, rfl, LV⟩
          refine AllReadyH.cons (o := { dst := some 4, op := Op.alloc 62, type := 0, pos := "plain.go:236", after := #[], guard := none }) rfl (fun K hK => ?_) AllReadyH.nil
          refine step_mkm rfl rfl ?_
          intro mb6 wm6 hmb6 hM6 hb6 ml6
          have HB6 : Below w3.heap.size w3 wm6 := (ZHB2.out).trans (hb6.mono (ZHB2.out).size)
          have mlo6 : w3.heap.size ≤ mb6 := by rw [hmb6]; exact (ZHB2.out).size
          have hbv6 := (Zhbv2.out).below hb6
          have hown6 := owns_belowX ZhdA2.out hb6
          clear hmb6
          refine hK.out _ _ (HKP.out _ (Kept.of_below HB6)) (fun hHeld => ?_)
          clear hK K
          have ZHB6 := hid HB6
          have ZhM6 := hid hM6
          have Zhbv6 := hid hbv6
          have Zhown6 := hid hown6
          try clear HB6 hM6 hbv6 hown6
          try simp only [Act.put, List.setIfInBounds_toArray, List.set_cons_zero, List.set_cons_succ]
          refine wpAnyH_ready (rs := [11]) (by kernel_rfl) (by simp) ?_
          refine AllReadyH.cons (o := { dst := some 61, op := Op.call { callee := Callee.value (Operand.func 58), args := #[Operand.tmp 50, Operand.tmp 52, Operand.tmp 54, Operand.tmp 56, Operand.tmp 60], argTypes := #[56, 3, 3, 3, 66] }, type := 115, pos := "plain.go:236", after := #[{ on := 0, ground := Ground.data }, { on := 2, ground := Ground.data }, { on := 4, ground := Ground.data }, { on := 6, ground := Ground.data }, { on := 10, ground := Ground.data }, { on := 10, ground := Ground.chain }], guard := none }) rfl (fun K hK => ?_) AllReadyH.nil
          go_simp
          refine (HMM.out wm6 (ZHB6.out) av2 cv2 (Zhbv6.out) Zhcv2.out (off_lowM (fun ad h => (Zhlow2.out ad h).1) hfb)).mono ?_
          rintro e wm7 ⟨M7, pv7, ev7, rfl, hP7, hk7, hI7, hZ7, hO7⟩
          have hKK7 : Kept fb w3 wm7 := (Kept.of_below (ZHB6.out)).trans hk7
          have hM7 := (hk7.block _ ml6 (by have := mlo6; omega)).trans ZhM6.out
          clear hHeld
          go_wp2_with fail
          refine hK.out _ _ (HKP.out _ hKK7) (fun hHeld => ?_)
          clear hK K
          have ZhM7 := hid hM7
          have ZhKK7 := hid hKK7
          have ZhP7 := hid hP7
          have Zhk7 := hid hk7
          have ZhI7 := hid hI7
          have ZhZ7 := hid hZ7
          have ZhO7 := hid hO7
          try clear hM7 hKK7 hP7 hk7 hI7 hZ7 hO7
          try simp only [Act.put, List.setIfInBounds_toArray, List.set_cons_zero, List.set_cons_succ]
          refine wpAnyH_take (i := 12) (oi := { dst := some 49, op := Op.move (Operand.tmp 61), type := 115, pos := "plain.go:236", after := #[{ on := 11, ground := Ground.data }], guard := none }) (v := ?_) rfl (by kernel_rfl) (by kernel_rfl) (by kernel_rfl) (fun _ _ _ h => h) (Or.inl ⟨by rfl, ?hy⟩) hHeld ?_
          case hy => (intro w hSw; (try dsimp only at hSw); obtain ⟨_, _, _⟩ := hSw; go_simp; all_goals (with_reducible rfl))
          try simp only [Act.put, List.setIfInBounds_toArray, List.set_cons_zero, List.set_cons_succ]
          refine wpAnyH_take (i := 13) (oi := { dst := some 62, op := Op.extract (Operand.tmp 49) 0, type := 62, pos := "plain.go:236", after := #[{ on := 12, ground := Ground.data }], guard := none }) (v := ?_) rfl (by kernel_rfl) (by kernel_rfl) (by kernel_rfl) (fun _ _ _ h => h) (Or.inl ⟨by rfl, ?hy⟩) hHeld ?_
          case hy => (intro w hSw; (try dsimp only at hSw); obtain ⟨_, _, _⟩ := hSw; go_simp; all_goals (with_reducible rfl))
          try simp only [Act.put, List.setIfInBounds_toArray, List.set_cons_zero, List.set_cons_succ]
          refine wpAnyH_take (i := 14) (oi := { dst := some 63, op := Op.extract (Operand.tmp 49) 1, type := 63, pos := "plain.go:236", after := #[{ on := 12, ground := Ground.data }, { on := 17, ground := Ground.gcOnly Departure.lateStores }], guard := none }) (v := ?_) rfl (by kernel_rfl) (by kernel_rfl) (by kernel_rfl) (fun _ _ _ h => h) (Or.inl ⟨by rfl, ?hy⟩) hHeld ?_
          case hy => (intro w hSw; (try dsimp only at hSw); obtain ⟨_, _, _⟩ := hSw; go_simp; all_goals (with_reducible rfl))
          try simp only [Act.put, List.setIfInBounds_toArray, List.set_cons_zero, List.set_cons_succ]
          refine wpAnyH_take (i := 15) (oi := { dst := some 64, op := Op.extract (Operand.tmp 49) 2, type := 73, pos := "plain.go:236", after := #[{ on := 12, ground := Ground.data }, { on := 18, ground := Ground.gcOnly Departure.lateStores }], guard := none }) (v := ?_) rfl (by kernel_rfl) (by kernel_rfl) (by kernel_rfl) (fun _ _ _ h => h) (Or.inl ⟨by rfl, ?hy⟩) hHeld ?_
          case hy => (intro w hSw; (try dsimp only at hSw); obtain ⟨_, _, _⟩ := hSw; go_simp; all_goals (with_reducible rfl))
          try simp only [Act.put, List.setIfInBounds_toArray, List.set_cons_zero, List.set_cons_succ]
          refine wpAnyH_ready (rs := [17]) (by kernel_rfl) (by simp) ?_
          refine AllReadyH.cons (o := { dst := none, op := Op.store 62 (Operand.tmp 4) (Operand.tmp 62), type := 0, pos := "plain.go:236", after := #[{ on := 16, ground := Ground.data }, { on := 13, ground := Ground.data }, { on := 11, ground := Ground.chain }, { on := 0, ground := Ground.phase }, { on := 1, ground := Ground.phase }, { on := 2, ground := Ground.phase }, { on := 3, ground := Ground.phase }, { on := 4, ground := Ground.phase }, { on := 5, ground := Ground.phase }, { on := 6, ground := Ground.phase }, { on := 7, ground := Ground.phase }, { on := 8, ground := Ground.phase }, { on := 9, ground := Ground.phase }, { on := 10, ground := Ground.phase }, { on := 11, ground := Ground.phase }, { on := 12, ground := Ground.phase }, { on := 13, ground := Ground.phase }, { on := 14, ground := Ground.textOnly Departure.lateStores }, { on := 15, ground := Ground.textOnly Departure.lateStores }, { on := 16, ground := Ground.phase }], guard := none }) rfl (fun K hK => ?_) AllReadyH.nil
          refine step_store_row rfl 62 (.tmp 4) (.tmp 62) rfl mb6 mz M7 62 rfl rfl ZhM7.out ZhI7.out ZhZ7.out ZhO7.out ?_
          intro wz8 hz8 hkz8
          refine hK.out _ _ (HKP.out _ ((ZhKK7.out).fresh hkz8 mlo6)) (fun hHeld => ?_)
          clear hK K
          try simp only [Act.put]
          have LV := hid (mdx_early (fb := fb) (Post := (MkPost fb k k t dl ld)) (ZHB6.out) ZhP7.out Zhk7.out mlo6 ml6 hz8 hkz8)
          refine wpAnyH_take (i := 18) (oi := { dst := some 5, op := Op.assign (Operand.tmp 63), type := 63, pos := "plain.go:236", after := #[{ on := 14, ground := Ground.data }, { on := 17, ground := Ground.chain }, { on := 0, ground := Ground.phase }, { on := 1, ground := Ground.phase }, { on := 2, ground := Ground.phase }, { on := 3, ground := Ground.phase }, { on := 4, ground := Ground.phase }, { on := 5, ground := Ground.phase }, { on := 6, ground := Ground.phase }, { on := 7, ground := Ground.phase }, { on := 8, ground := Ground.phase }, { on := 9, ground := Ground.phase }, { on := 10, ground := Ground.phase }, { on := 11, ground := Ground.phase }, { on := 12, ground := Ground.phase }, { on := 13, ground := Ground.phase }, { on := 14, ground := Ground.phase }, { on := 15, ground := Ground.textOnly Departure.lateStores }, { on := 16, ground := Ground.phase }, { on := 17, ground := Ground.phase }], guard := none }) (v := ?_) rfl (by kernel_rfl) (by kernel_rfl) (by kernel_rfl) (fun _ _ _ h => h) (Or.inl ⟨by rfl, ?hy⟩) hHeld ?_
          case hy => (intro w hSw; (try dsimp only at hSw); obtain ⟨_, _, _⟩ := hSw; go_simp; all_goals (with_reducible rfl))
          try simp only [Act.put, List.setIfInBounds_toArray, List.set_cons_zero, List.set_cons_succ]
          refine wpAnyH_take (i := 19) (oi := { dst := some 6, op := Op.assign (Operand.tmp 64), type := 73, pos := "plain.go:236", after := #[{ on := 15, ground := Ground.data }, { on := 18, ground := Ground.chain }, { on := 0, ground := Ground.phase }, { on := 1, ground := Ground.phase }, { on := 2, ground := Ground.phase }, { on := 3, ground := Ground.phase }, { on := 4, ground := Ground.phase }, { on := 5, ground := Ground.phase }, { on := 6, ground := Ground.phase }, { on := 7, ground := Ground.phase }, { on := 8, ground := Ground.phase }, { on := 9, ground := Ground.phase }, { on := 10, ground := Ground.phase }, { on := 11, ground := Ground.phase }, { on := 12, ground := Ground.phase }, { on := 13, ground := Ground.phase }, { on := 14, ground := Ground.phase }, { on := 15, ground := Ground.phase }, { on := 16, ground := Ground.phase }, { on := 17, ground := Ground.phase }, { on := 18, ground := Ground.phase }], guard := none }) (v := ?_) rfl (by kernel_rfl) (by kernel_rfl) (by kernel_rfl) (fun _ _ _ h => h) (Or.inl ⟨by rfl, ?hy⟩) hHeld ?_
          case hy => (intro w hSw; (try dsimp only at hSw); obtain ⟨_, _, _⟩ := hSw; go_simp; all_goals (with_reducible rfl))
          try simp only [Act.put, List.setIfInBounds_toArray, List.set_cons_zero, List.set_cons_succ]
          refine wpAnyH_done (by kernel_rfl) ?_ _
          go_wp2_with fail
          go_meet
          exact ⟨_, rfl, _, _, _, _, rfl, rfl, rfl, LV⟩
        refine AllReadyH.cons (o := { dst := some 4, op := Op.alloc 62, type := 0, pos := "plain.go:236", after := #[], guard := none }) rfl (fun K hK => ?_) AllReadyH.nil
        refine step_mkm rfl rfl ?_
        intro mb9 wm9 hmb9 hM9 hb9 ml9
        have HB9 : Below w3.heap.size w3 wm9 := (ZHB1.out).trans (hb9.mono (ZHB1.out).size)
        have mlo9 : w3.heap.size ≤ mb9 := by rw [hmb9]; exact (ZHB1.out).size
        have nmg9 : mb9 ≠ g1 := by have := gl1; omega
        have hE9 := (hb9.block _ gl1).trans ZhE1.out
        have gl9 := Nat.lt_of_lt_of_le gl1 hb9.size
        clear hmb9
        refine hK.out _ _ (HKP.out _ (Kept.of_below HB9)) (fun hHeld => ?_)
        clear hK K
        have ZHB9 := hid HB9
        have ZhE9 := hid hE9
        have ZhM9 := hid hM9
        try clear HB9 hE9 hM9
        try simp only [Act.put, List.setIfInBounds_toArray, List.set_cons_zero, List.set_cons_succ]
        refine wpAnyH_ready (rs := [10]) (by kernel_rfl) (by simp) ?_
        refine AllReadyH.cons (o := { dst := some 60, op := Op.call { callee := Callee.builtin Builtin.append, args := #[Operand.tmp 57, Operand.tmp 59], argTypes := #[66, 66] }, type := 66, pos := "plain.go:236", after := #[{ on := 7, ground := Ground.data }, { on := 9, ground := Ground.data }], guard := none }) rfl (fun K hK => ?_) AllReadyH.nil
        refine step_own_bytes rfl (.tmp 57) (.tmp 59) rfl w3.heap.size g1 rfl (own_emptyM ZhE9.out glo1) da dl dc ld rfl (HD.out.below (ZHB9.out)) HDN.out (by omega) (ZHB9.out).size ?_
        intro v10 wm10 hdA10 hgA10
        have nil10 := hdA10
        obtain ⟨av10, cv10, ev10, -, hcv10, hbv10, hlow10⟩ := bs_of_owns hdA10 HDL.out
        subst ev10
        have HB10 : Below w3.heap.size w3 wm10 := (ZHB9.out).grown hgA10 (ZHB9.out).size (fun q hq => by have := glo1; simp at hq; omega)
        have hM10 := (hgA10.block _ ml9 (by simp; exact nmg9)).trans ZhM9.out
        have ml10 := Nat.lt_of_lt_of_le ml9 hgA10.size
        refine hK.out _ _ (HKP.out _ (Kept.of_below HB10)) (fun hHeld => ?_)
        clear hK K
        have ZHB10 := hid HB10
        have ZhM10 := hid hM10
        have Zhbv10 := hid hbv10
        have Zhcv10 := hid hcv10
        have Zhlow10 := hid hlow10
        have ZhdA10 := hid hdA10
        try clear HB10 hM10 hbv10 hcv10 hlow10 hdA10
        try simp only [Act.put, List.setIfInBounds_toArray, List.set_cons_zero, List.set_cons_succ]
        refine wpAnyH_ready (rs := [11]) (by kernel_rfl) (by simp) ?_
        refine AllReadyH.cons (o := { dst := some 61, op := Op.call { callee := Callee.value (Operand.func 58), args := #[Operand.tmp 50, Operand.tmp 52, Operand.tmp 54, Operand.tmp 56, Operand.tmp 60], argTypes := #[56, 3, 3, 3, 66] }, type := 115, pos := "plain.go:236", after := #[{ on := 0, ground := Ground.data }, { on := 2, ground := Ground.data }, { on := 4, ground := Ground.data }, { on := 6, ground := Ground.data }, { on := 10, ground := Ground.data }, { on := 10, ground := Ground.chain }], guard := none }) rfl (fun K hK => ?_) AllReadyH.nil
        go_simp
        refine (HMM.out wm10 (ZHB10.out) av10 cv10 (Zhbv10.out) Zhcv10.out (off_lowM (fun ad h => (Zhlow10.out ad h).1) hfb)).mono ?_
        rintro e wm11 ⟨M11, pv11, ev11, rfl, hP11, hk11, hI11, hZ11, hO11⟩
        have hKK11 : Kept fb w3 wm11 := (Kept.of_below (ZHB10.out)).trans hk11
        have hM11 := (hk11.block _ ml10 (by have := mlo9; omega)).trans ZhM10.out
        clear hHeld
        go_wp2_with fail
        refine hK.out _ _ (HKP.out _ hKK11) (fun hHeld => ?_)
        clear hK K
        have ZhM11 := hid hM11
        have ZhKK11 := hid hKK11
        have ZhP11 := hid hP11
        have Zhk11 := hid hk11
        have ZhI11 := hid hI11
        have ZhZ11 := hid hZ11
        have ZhO11 := hid hO11
        try clear hM11 hKK11 hP11 hk11 hI11 hZ11 hO11
        try simp only [Act.put, List.setIfInBounds_toArray, List.set_cons_zero, List.set_cons_succ]
        refine wpAnyH_take (i := 12) (oi := { dst := some 49, op := Op.move (Operand.tmp 61), type := 115, pos := "plain.go:236", after := #[{ on := 11, ground := Ground.data }], guard := none }) (v := ?_) rfl (by kernel_rfl) (by kernel_rfl) (by kernel_rfl) (fun _ _ _ h => h) (Or.inl ⟨by rfl, ?hy⟩) hHeld ?_
        case hy => (intro w hSw; (try dsimp only at hSw); obtain ⟨_, _, _⟩ := hSw; go_simp; all_goals (with_reducible rfl))
        try simp only [Act.put, List.setIfInBounds_toArray, List.set_cons_zero, List.set_cons_succ]
        refine wpAnyH_take (i := 13) (oi := { dst := some 62, op := Op.extract (Operand.tmp 49) 0, type := 62, pos := "plain.go:236", after := #[{ on := 12, ground := Ground.data }], guard := none }) (v := ?_) rfl (by kernel_rfl) (by kernel_rfl) (by kernel_rfl) (fun _ _ _ h => h) (Or.inl ⟨by rfl, ?hy⟩) hHeld ?_
        case hy => (intro w hSw; (try dsimp only at hSw); obtain ⟨_, _, _⟩ := hSw; go_simp; all_goals (with_reducible rfl))
        try simp only [Act.put, List.setIfInBounds_toArray, List.set_cons_zero, List.set_cons_succ]
        refine wpAnyH_take (i := 14) (oi := { dst := some 63, op := Op.extract (Operand.tmp 49) 1, type := 63, pos := "plain.go:236", after := #[{ on := 12, ground := Ground.data }, { on := 17, ground := Ground.gcOnly Departure.lateStores }], guard := none }) (v := ?_) rfl (by kernel_rfl) (by kernel_rfl) (by kernel_rfl) (fun _ _ _ h => h) (Or.inl ⟨by rfl, ?hy⟩) hHeld ?_
        case hy => (intro w hSw; (try dsimp only at hSw); obtain ⟨_, _, _⟩ := hSw; go_simp; all_goals (with_reducible rfl))
        try simp only [Act.put, List.setIfInBounds_toArray, List.set_cons_zero, List.set_cons_succ]
        refine wpAnyH_take (i := 15) (oi := { dst := some 64, op := Op.extract (Operand.tmp 49) 2, type := 73, pos := "plain.go:236", after := #[{ on := 12, ground := Ground.data }, { on := 18, ground := Ground.gcOnly Departure.lateStores }], guard := none }) (v := ?_) rfl (by kernel_rfl) (by kernel_rfl) (by kernel_rfl) (fun _ _ _ h => h) (Or.inl ⟨by rfl, ?hy⟩) hHeld ?_
        case hy => (intro w hSw; (try dsimp only at hSw); obtain ⟨_, _, _⟩ := hSw; go_simp; all_goals (with_reducible rfl))
        try simp only [Act.put, List.setIfInBounds_toArray, List.set_cons_zero, List.set_cons_succ]
        refine wpAnyH_ready (rs := [17]) (by kernel_rfl) (by simp) ?_
        refine AllReadyH.cons (o := { dst := none, op := Op.store 62 (Operand.tmp 4) (Operand.tmp 62), type := 0, pos := "plain.go:236", after := #[{ on := 16, ground := Ground.data }, { on := 13, ground := Ground.data }, { on := 11, ground := Ground.chain }, { on := 0, ground := Ground.phase }, { on := 1, ground := Ground.phase }, { on := 2, ground := Ground.phase }, { on := 3, ground := Ground.phase }, { on := 4, ground := Ground.phase }, { on := 5, ground := Ground.phase }, { on := 6, ground := Ground.phase }, { on := 7, ground := Ground.phase }, { on := 8, ground := Ground.phase }, { on := 9, ground := Ground.phase }, { on := 10, ground := Ground.phase }, { on := 11, ground := Ground.phase }, { on := 12, ground := Ground.phase }, { on := 13, ground := Ground.phase }, { on := 14, ground := Ground.textOnly Departure.lateStores }, { on := 15, ground := Ground.textOnly Departure.lateStores }, { on := 16, ground := Ground.phase }], guard := none }) rfl (fun K hK => ?_) AllReadyH.nil
        refine step_store_row rfl 62 (.tmp 4) (.tmp 62) rfl mb9 mz M11 62 rfl rfl ZhM11.out ZhI11.out ZhZ11.out ZhO11.out ?_
        intro wz12 hz12 hkz12
        refine hK.out _ _ (HKP.out _ ((ZhKK11.out).fresh hkz12 mlo9)) (fun hHeld => ?_)
        clear hK K
        try simp only [Act.put]
        have LV := hid (mdx_early (fb := fb) (Post := (MkPost fb k k t dl ld)) (ZHB10.out) ZhP11.out Zhk11.out mlo9 ml10 hz12 hkz12)
        refine wpAnyH_take (i := 18) (oi := { dst := some 5, op := Op.assign (Operand.tmp 63), type := 63, pos := "plain.go:236", after := #[{ on := 14, ground := Ground.data }, { on := 17, ground := Ground.chain }, { on := 0, ground := Ground.phase }, { on := 1, ground := Ground.phase }, { on := 2, ground := Ground.phase }, { on := 3, ground := Ground.phase }, { on := 4, ground := Ground.phase }, { on := 5, ground := Ground.phase }, { on := 6, ground := Ground.phase }, { on := 7, ground := Ground.phase }, { on := 8, ground := Ground.phase }, { on := 9, ground := Ground.phase }, { on := 10, ground := Ground.phase }, { on := 11, ground := Ground.phase }, { on := 12, ground := Ground.phase }, { on := 13, ground := Ground.phase }, { on := 14, ground := Ground.phase }, { on := 15, ground := Ground.textOnly Departure.lateStores }, { on := 16, ground := Ground.phase }, { on := 17, ground := Ground.phase }], guard := none }) (v := ?_) rfl (by kernel_rfl) (by kernel_rfl) (by kernel_rfl) (fun _ _ _ h => h) (Or.inl ⟨by rfl, ?hy⟩) hHeld ?_
        case hy => (intro w hSw; (try dsimp only at hSw); obtain ⟨_, _, _⟩ := hSw; go_simp; all_goals (with_reducible rfl))
        try simp only [Act.put, List.setIfInBounds_toArray, List.set_cons_zero, List.set_cons_succ]
        refine wpAnyH_take (i := 19) (oi := { dst := some 6, op := Op.assign (Operand.tmp 64), type := 73, pos := "plain.go:236", after := #[{ on := 15, ground := Ground.data }, { on := 18, ground := Ground.chain }, { on := 0, ground := Ground.phase }, { on := 1, ground := Ground.phase }, { on := 2, ground := Ground.phase }, { on := 3, ground := Ground.phase }, { on := 4, ground := Ground.phase }, { on := 5, ground := Ground.phase }, { on := 6, ground := Ground.phase }, { on := 7, ground := Ground.phase }, { on := 8, ground := Ground.phase }, { on := 9, ground := Ground.phase }, { on := 10, ground := Ground.phase }, { on := 11, ground := Ground.phase }, { on := 12, ground := Ground.phase }, { on := 13, ground := Ground.phase }, { on := 14, ground := Ground.phase }, { on := 15, ground := Ground.phase }, { on := 16, ground := Ground.phase }, { on := 17, ground := Ground.phase }, { on := 18, ground := Ground.phase }], guard := none }) (v := ?_) rfl (by kernel_rfl) (by kernel_rfl) (by kernel_rfl) (fun _ _ _ h => h) (Or.inl ⟨by rfl, ?hy⟩) hHeld ?_
        case hy => (intro w hSw; (try dsimp only at hSw); obtain ⟨_, _, _⟩ := hSw; go_simp; all_goals (with_reducible rfl))
        try simp only [Act.put, List.setIfInBounds_toArray, List.set_cons_zero, List.set_cons_succ]
        refine wpAnyH_done (by kernel_rfl) ?_ _
        go_wp2_with fail
        go_meet
        exact ⟨_, rfl, _, _, _, _, rfl, rfl, rfl, LV⟩
      refine AllReadyH.cons (o := { dst := some 4, op := Op.alloc 62, type := 0, pos := "plain.go:236", after := #[], guard := none }) rfl (fun K hK => ?_) AllReadyH.nil
      refine step_mkm rfl rfl ?_
      intro mb13 wm13 hmb13 hM13 hb13 ml13
      have HB13 : Below w3.heap.size w3 wm13 := ((bel_drewN (Below.refl w3.heap.size w3) 1)).trans (hb13.mono ((bel_drewN (Below.refl w3.heap.size w3) 1)).size)
      have mlo13 : w3.heap.size ≤ mb13 := by rw [hmb13]; exact ((bel_drewN (Below.refl w3.heap.size w3) 1)).size
      clear hmb13
      refine hK.out _ _ (HKP.out _ (Kept.of_below HB13)) (fun hHeld => ?_)
      clear hK K
      have ZHB13 := hid HB13
      have ZhM13 := hid hM13
      try clear HB13 hM13
      try simp only [Act.put, List.setIfInBounds_toArray, List.set_cons_zero, List.set_cons_succ]
      refine wpAnyH_ready (rs := [7]) (by kernel_rfl) (by simp) ?_
      refine AllReadyH.cons (o := { dst := some 57, op := Op.buildSlice 66 0 #[], type := 66, pos := "plain.go:236", after := #[], guard := none }) rfl (fun K hK => ?_) AllReadyH.nil
      refine step_build0 rfl rfl ?_
      intro g14 wm14 hge14 hE14 hb14 gl14
      have HB14 : Below w3.heap.size w3 wm14 := (ZHB13.out).trans (hb14.mono (ZHB13.out).size)
      have nmg14 : mb13 ≠ g14 := by have := ml13; omega
      have hM14 := (hb14.block _ ml13).trans ZhM13.out
      have ml14 := Nat.lt_of_lt_of_le ml13 hb14.size
      have glo14 : w3.heap.size ≤ g14 := by rw [hge14]; exact (ZHB13.out).size
      clear hge14
      refine hK.out _ _ (HKP.out _ (Kept.of_below HB14)) (fun hHeld => ?_)
      clear hK K
      have ZHB14 := hid HB14
      have ZhE14 := hid hE14
      have ZhM14 := hid hM14
      try clear HB14 hE14 hM14
      try simp only [Act.put, List.setIfInBounds_toArray, List.set_cons_zero, List.set_cons_succ]
      refine wpAnyH_ready (rs := [10]) (by kernel_rfl) (by simp) ?_
      refine AllReadyH.cons (o := { dst := some 60, op := Op.call { callee := Callee.builtin Builtin.append, args := #[Operand.tmp 57, Operand.tmp 59], argTypes := #[66, 66] }, type := 66, pos := "plain.go:236", after := #[{ on := 7, ground := Ground.data }, { on := 9, ground := Ground.data }], guard := none }) rfl (fun K hK => ?_) AllReadyH.nil
      refine step_own_bytes rfl (.tmp 57) (.tmp 59) rfl w3.heap.size g14 rfl (own_emptyM ZhE14.out glo14) da dl dc ld rfl (HD.out.below (ZHB14.out)) HDN.out (by omega) (ZHB14.out).size ?_
      intro v15 wm15 hdA15 hgA15
      have nil15 := hdA15
      obtain ⟨av15, cv15, ev15, -, hcv15, hbv15, hlow15⟩ := bs_of_owns hdA15 HDL.out
      subst ev15
      have HB15 : Below w3.heap.size w3 wm15 := (ZHB14.out).grown hgA15 (ZHB14.out).size (fun q hq => by have := glo14; simp at hq; omega)
      have hM15 := (hgA15.block _ ml14 (by simp; exact nmg14)).trans ZhM14.out
      have ml15 := Nat.lt_of_lt_of_le ml14 hgA15.size
      refine hK.out _ _ (HKP.out _ (Kept.of_below HB15)) (fun hHeld => ?_)
      clear hK K
      have ZHB15 := hid HB15
      have ZhM15 := hid hM15
      have Zhbv15 := hid hbv15
      have Zhcv15 := hid hcv15
      have Zhlow15 := hid hlow15
      have ZhdA15 := hid hdA15
      try clear HB15 hM15 hbv15 hcv15 hlow15 hdA15
      try simp only [Act.put, List.setIfInBounds_toArray, List.set_cons_zero, List.set_cons_succ]
      refine wpAnyH_ready (rs := [11]) (by kernel_rfl) (by simp) ?_
      refine AllReadyH.cons (o := { dst := some 61, op := Op.call { callee := Callee.value (Operand.func 58), args := #[Operand.tmp 50, Operand.tmp 52, Operand.tmp 54, Operand.tmp 56, Operand.tmp 60], argTypes := #[56, 3, 3, 3, 66] }, type := 115, pos := "plain.go:236", after := #[{ on := 0, ground := Ground.data }, { on := 2, ground := Ground.data }, { on := 4, ground := Ground.data }, { on := 6, ground := Ground.data }, { on := 10, ground := Ground.data }, { on := 10, ground := Ground.chain }], guard := none }) rfl (fun K hK => ?_) AllReadyH.nil
      go_simp
      refine (HMM.out wm15 (ZHB15.out) av15 cv15 (Zhbv15.out) Zhcv15.out (off_lowM (fun ad h => (Zhlow15.out ad h).1) hfb)).mono ?_
      rintro e wm16 ⟨M16, pv16, ev16, rfl, hP16, hk16, hI16, hZ16, hO16⟩
      have hKK16 : Kept fb w3 wm16 := (Kept.of_below (ZHB15.out)).trans hk16
      have hM16 := (hk16.block _ ml15 (by have := mlo13; omega)).trans ZhM15.out
      clear hHeld
      go_wp2_with fail
      refine hK.out _ _ (HKP.out _ hKK16) (fun hHeld => ?_)
      clear hK K
      have ZhM16 := hid hM16
      have ZhKK16 := hid hKK16
      have ZhP16 := hid hP16
      have Zhk16 := hid hk16
      have ZhI16 := hid hI16
      have ZhZ16 := hid hZ16
      have ZhO16 := hid hO16
      try clear hM16 hKK16 hP16 hk16 hI16 hZ16 hO16
      try simp only [Act.put, List.setIfInBounds_toArray, List.set_cons_zero, List.set_cons_succ]
      refine wpAnyH_take (i := 12) (oi := { dst := some 49, op := Op.move (Operand.tmp 61), type := 115, pos := "plain.go:236", after := #[{ on := 11, ground := Ground.data }], guard := none }) (v := ?_) rfl (by kernel_rfl) (by kernel_rfl) (by kernel_rfl) (fun _ _ _ h => h) (Or.inl ⟨by rfl, ?hy⟩) hHeld ?_
      case hy => (intro w hSw; (try dsimp only at hSw); obtain ⟨_, _, _⟩ := hSw; go_simp; all_goals (with_reducible rfl))
      try simp only [Act.put, List.setIfInBounds_toArray, List.set_cons_zero, List.set_cons_succ]
      refine wpAnyH_take (i := 13) (oi := { dst := some 62, op := Op.extract (Operand.tmp 49) 0, type := 62, pos := "plain.go:236", after := #[{ on := 12, ground := Ground.data }], guard := none }) (v := ?_) rfl (by kernel_rfl) (by kernel_rfl) (by kernel_rfl) (fun _ _ _ h => h) (Or.inl ⟨by rfl, ?hy⟩) hHeld ?_
      case hy => (intro w hSw; (try dsimp only at hSw); obtain ⟨_, _, _⟩ := hSw; go_simp; all_goals (with_reducible rfl))
      try simp only [Act.put, List.setIfInBounds_toArray, List.set_cons_zero, List.set_cons_succ]
      refine wpAnyH_take (i := 14) (oi := { dst := some 63, op := Op.extract (Operand.tmp 49) 1, type := 63, pos := "plain.go:236", after := #[{ on := 12, ground := Ground.data }, { on := 17, ground := Ground.gcOnly Departure.lateStores }], guard := none }) (v := ?_) rfl (by kernel_rfl) (by kernel_rfl) (by kernel_rfl) (fun _ _ _ h => h) (Or.inl ⟨by rfl, ?hy⟩) hHeld ?_
      case hy => (intro w hSw; (try dsimp only at hSw); obtain ⟨_, _, _⟩ := hSw; go_simp; all_goals (with_reducible rfl))
      try simp only [Act.put, List.setIfInBounds_toArray, List.set_cons_zero, List.set_cons_succ]
      refine wpAnyH_take (i := 15) (oi := { dst := some 64, op := Op.extract (Operand.tmp 49) 2, type := 73, pos := "plain.go:236", after := #[{ on := 12, ground := Ground.data }, { on := 18, ground := Ground.gcOnly Departure.lateStores }], guard := none }) (v := ?_) rfl (by kernel_rfl) (by kernel_rfl) (by kernel_rfl) (fun _ _ _ h => h) (Or.inl ⟨by rfl, ?hy⟩) hHeld ?_
      case hy => (intro w hSw; (try dsimp only at hSw); obtain ⟨_, _, _⟩ := hSw; go_simp; all_goals (with_reducible rfl))
      try simp only [Act.put, List.setIfInBounds_toArray, List.set_cons_zero, List.set_cons_succ]
      refine wpAnyH_ready (rs := [17]) (by kernel_rfl) (by simp) ?_
      refine AllReadyH.cons (o := { dst := none, op := Op.store 62 (Operand.tmp 4) (Operand.tmp 62), type := 0, pos := "plain.go:236", after := #[{ on := 16, ground := Ground.data }, { on := 13, ground := Ground.data }, { on := 11, ground := Ground.chain }, { on := 0, ground := Ground.phase }, { on := 1, ground := Ground.phase }, { on := 2, ground := Ground.phase }, { on := 3, ground := Ground.phase }, { on := 4, ground := Ground.phase }, { on := 5, ground := Ground.phase }, { on := 6, ground := Ground.phase }, { on := 7, ground := Ground.phase }, { on := 8, ground := Ground.phase }, { on := 9, ground := Ground.phase }, { on := 10, ground := Ground.phase }, { on := 11, ground := Ground.phase }, { on := 12, ground := Ground.phase }, { on := 13, ground := Ground.phase }, { on := 14, ground := Ground.textOnly Departure.lateStores }, { on := 15, ground := Ground.textOnly Departure.lateStores }, { on := 16, ground := Ground.phase }], guard := none }) rfl (fun K hK => ?_) AllReadyH.nil
      refine step_store_row rfl 62 (.tmp 4) (.tmp 62) rfl mb13 mz M16 62 rfl rfl ZhM16.out ZhI16.out ZhZ16.out ZhO16.out ?_
      intro wz17 hz17 hkz17
      refine hK.out _ _ (HKP.out _ ((ZhKK16.out).fresh hkz17 mlo13)) (fun hHeld => ?_)
      clear hK K
      try simp only [Act.put]
      have LV := hid (mdx_early (fb := fb) (Post := (MkPost fb k k t dl ld)) (ZHB15.out) ZhP16.out Zhk16.out mlo13 ml15 hz17 hkz17)
      refine wpAnyH_take (i := 18) (oi := { dst := some 5, op := Op.assign (Operand.tmp 63), type := 63, pos := "plain.go:236", after := #[{ on := 14, ground := Ground.data }, { on := 17, ground := Ground.chain }, { on := 0, ground := Ground.phase }, { on := 1, ground := Ground.phase }, { on := 2, ground := Ground.phase }, { on := 3, ground := Ground.phase }, { on := 4, ground := Ground.phase }, { on := 5, ground := Ground.phase }, { on := 6, ground := Ground.phase }, { on := 7, ground := Ground.phase }, { on := 8, ground := Ground.phase }, { on := 9, ground := Ground.phase }, { on := 10, ground := Ground.phase }, { on := 11, ground := Ground.phase }, { on := 12, ground := Ground.phase }, { on := 13, ground := Ground.phase }, { on := 14, ground := Ground.phase }, { on := 15, ground := Ground.textOnly Departure.lateStores }, { on := 16, ground := Ground.phase }, { on := 17, ground := Ground.phase }], guard := none }) (v := ?_) rfl (by kernel_rfl) (by kernel_rfl) (by kernel_rfl) (fun _ _ _ h => h) (Or.inl ⟨by rfl, ?hy⟩) hHeld ?_
      case hy => (intro w hSw; (try dsimp only at hSw); obtain ⟨_, _, _⟩ := hSw; go_simp; all_goals (with_reducible rfl))
      try simp only [Act.put, List.setIfInBounds_toArray, List.set_cons_zero, List.set_cons_succ]
      refine wpAnyH_take (i := 19) (oi := { dst := some 6, op := Op.assign (Operand.tmp 64), type := 73, pos := "plain.go:236", after := #[{ on := 15, ground := Ground.data }, { on := 18, ground := Ground.chain }, { on := 0, ground := Ground.phase }, { on := 1, ground := Ground.phase }, { on := 2, ground := Ground.phase }, { on := 3, ground := Ground.phase }, { on := 4, ground := Ground.phase }, { on := 5, ground := Ground.phase }, { on := 6, ground := Ground.phase }, { on := 7, ground := Ground.phase }, { on := 8, ground := Ground.phase }, { on := 9, ground := Ground.phase }, { on := 10, ground := Ground.phase }, { on := 11, ground := Ground.phase }, { on := 12, ground := Ground.phase }, { on := 13, ground := Ground.phase }, { on := 14, ground := Ground.phase }, { on := 15, ground := Ground.phase }, { on := 16, ground := Ground.phase }, { on := 17, ground := Ground.phase }, { on := 18, ground := Ground.phase }], guard := none }) (v := ?_) rfl (by kernel_rfl) (by kernel_rfl) (by kernel_rfl) (fun _ _ _ h => h) (Or.inl ⟨by rfl, ?hy⟩) hHeld ?_
      case hy => (intro w hSw; (try dsimp only at hSw); obtain ⟨_, _, _⟩ := hSw; go_simp; all_goals (with_reducible rfl))
      try simp only [Act.put, List.setIfInBounds_toArray, List.set_cons_zero, List.set_cons_succ]
      refine wpAnyH_done (by kernel_rfl) ?_ _
      go_wp2_with fail
      go_meet
      exact ⟨_, rfl, _, _, _, _, rfl, rfl, rfl, LV⟩
    case rest =>
    obtain ⟨w4, hw4, mb1, M1, pv1, ev1, rfl, rfl, rfl, HX1⟩ := hcut
    subst hw4
    as_aux_lemma =>
    obtain ⟨g1, gd1, bf1, rfl, rfl, R1⟩ := HX1.out.good hfb
    have HR1 := hid R1
    have HB4 := hid (HB3.out.trans (R1.kept.below HB3.out.size hWfb))
    have HC4 := hid ((R1.kept.block _ hlw3 (by omega)).trans HC3.out)
    have hlw4 := lt_of_heap HC4.out
    have hfbw4 : fb < w4.heap.size := Nat.lt_of_lt_of_le hfb R1.kept.size
    have HF4 := hid (show Fld w4 fb from .inr R1.built)
    clear R1 HX1 HKP HD HMM
    obtain ⟨LP, hLP⟩ : ∃ LP, LP = plen k dl := ⟨_, rfl⟩
    have HLP := hid hLP
    have hLPb : LP ≤ 8192 := by have := plen_le k dl hok.1; omega
    obtain ⟨DG, hDG⟩ : ∃ DG, DG = DGm ld k t := ⟨_, rfl⟩
    have HDG := hid hDG
    obtain ⟨OD, hOD⟩ : ∃ OD, OD = dig shaRound shaStart ld := ⟨_, rfl⟩
    have HOD := hid hOD
    have HODL := hid (show OD.length = 32 from by rw [hOD]; exact dig_length _ _ _)
    have HODB := hid (show ∀ y ∈ OD, y < 256 from by rw [hOD]; exact digL_lt ())
    have HM4 := hid (show ManAt w4 mb1 k k t dl OD (.slice (some ⟨gd1, 0, none⟩) t t) from by rw [hOD]; exact HR1.out.man)
    have HDS4 := hid (show Dgs w4 (some ⟨gd1, 0, none⟩) t t DG from ⟨by rw [hDG]; unfold DGm; rw [← HDE.out]; exact dgAt_rangeR HR1.out.rng, Nat.le_refl _, fun h => by cases h⟩)
    have hmn : manB k k t dl t = true := by
      have h := rst_man (k := k) (n := k) (t := t) (l := ld) (by rw [← HDE.out]; exact hok)
      rwa [← HDE.out] at h
    have HMN := hid hmn
    have hmz : manE k k t dl t = 0 := by
      unfold manE
      rw [hmn]
      rfl
    have HMZ := hid hmz
    obtain ⟨idv, hidv⟩ : ∃ y, y = idV k k t dl t OD DG := ⟨_, rfl⟩
    have HIV := hid hidv
    have HIL := hid (show idv.length = 32 from by rw [hidv]; exact idV_length _ _ _ _ _ _ _)
    have HID := hid (fun (wx : World) (h : Below w4.heap.size w4 wx) => id_any k k t dl OD (some ⟨gd1, 0, none⟩) t t DG HODL.out HODB.out wx ((HV.out.below HB4.out).below h) (HDS4.out.below h))
    rw [← hidv, hmz] at HID
    obtain ⟨MC, hMC⟩ : ∃ y, y = mcells k k t dl OD (.slice (some ⟨gd1, 0, none⟩) t t) := ⟨_, rfl⟩
    have HMC := hid hMC
    have HML := hid (show MC.length = 37 from by rw [hMC]; exact mcells_length _ _ _ _ _ _ HODL.out)
    have HMW4 := hid (show w4.heap[mb1]? = some (.cells MC.toArray 62 (0, 0)) from by rw [hMC]; exact HM4.out)
    have HIM := hid (show (Tryz.prog.info? 62).map (·.size) = some MC.length from by rw [HML.out]; kernel_rfl)
    rw [← hMC] at HID
    have HRA4 := hid (range_of_heapI HMW4.out)
    obtain ⟨q1, q2, q3⟩ := HR1.out.low
    obtain ⟨p1, p2, p3, p4⟩ := HR1.out.up
    have HP4 := hid (show Pcs w4 g1 w3.heap.size t LP bf1 (encP ld k LP) from by rw [hLP]; exact HR1.out.pcs)
    have HIFI := hid (infoD idv HIL.out)
    have HIFI2 := hid (infoDA idv HIL.out)
    have HSZI := hid (zeroDA idv HIL.out)
    clear hLP hDG hOD hmz hmn hMC hidv
    go_upto_region 5 with fail
    go_wp2_with (refine wpList_load_mid (by rfl) 62 (.tmp 4) (by rfl) mb1 0 (by rfl) MC _ HRA4.out Tryz.underlying62 rfl HIM.out ?_)
    refine (HID.out w4 (Below.refl _ _)).mono ?_
    rintro e w5 ⟨rfl, hb5⟩
    have HB45 := hid hb5
    clear hb5
    go_upto_region 6 with (refine wpList_store_row (by rfl) 23 (.tmp 7) (.tmp 68) (by rfl) w5.heap.size (u8s (List.replicate 32 0)).toArray (u8s idv).toArray 23 (by rfl) (by rfl) (heap_new w5 _) HIFI2.out HSZI.out (oneDA idv) ?_
                           intro w6 hw6 hk6)
    have HB46 := hid (show Below w4.heap.size w4 w6 from HB45.out.trans (((Below.refl w5.heap.size w5).alloc (Nat.le_refl _) (.cells (u8s (List.replicate 32 0)).toArray 23)).trans (hk6.below (by simp) (Nat.le_refl _)) |>.mono HB45.out.size))
    have HDR6 := hid (range_of_heap hw6)
    have hz46 := HB46.out.size
    have HB6 := hid (HB4.out.trans (HB46.out.mono HB4.out.size))
    have HC6 := hid ((HB46.out.block _ hlw4).trans HC4.out)
    have HF6 := hid (fld_belowA HF4.out HB46.out)
    have HMW6 := hid ((HB46.out.block _ p1).trans HMW4.out)
    have HP6 := hid (HP4.out.below HB46.out)
    have HDS6 := hid (HDS4.out.below HB46.out)
    have HV6 := hid (HV.out.below HB6.out)
    have HFB6 := hid (show fb < w6.heap.size from Nat.lt_of_lt_of_le hfbw4 hz46)
    have HG6 := hid (show mb1 < w6.heap.size ∧ g1 < w6.heap.size ∧ lb < w6.heap.size ∧ (∀ j, j < t → bf1 j < w6.heap.size) ∧ gd1 < w6.heap.size from ⟨by omega, by omega, by omega, fun j hj => by have := p4 j hj; omega, by omega⟩)
    have HNE := hid (show mb1 ≠ fb ∧ g1 ≠ fb ∧ lb ≠ fb ∧ gd1 ≠ fb from ⟨by omega, by omega, by omega, by omega⟩)
    have HHC := hid (show ∀ wx : World, wx.heap[lb]? = w6.heap[lb]? → wx.cell? ⟨lb, 0, none⟩ = some (.int .i64 (k : Int)) ∧ wx.cell? ⟨lb, 1, none⟩ = some (.int .i64 (t : Int)) ∧ wx.cell? ⟨lb, 2, none⟩ = some (.slice da dl dc) ∧ wx.cell? ⟨lb, 3, none⟩ = some (.slice ia il ic) from fun wx h => pc_c (h.trans HC6.out))
    obtain ⟨ib, hib⟩ : ∃ y, y = w5.heap.size := ⟨_, rfl⟩
    rw [← hib] at HDR6 ⊢
    clear hib hw6 hk6 q1 q2 q3 p1 p2 p3 p4 HRA4 HID HIFI2 HSZI HMW4 HDS4 HP4 HF4 HC4 HB45 HR1 hlw4 hz46 HM4
    obtain ⟨e0, e1, e2, e3⟩ := HHC.out w6 rfl
    go_wp2_with (refine wpList_load_mid (by rfl) 23 (.tmp 7) (by rfl) ib 0 (by rfl) (u8s idv) _ HDR6.out Tryz.underlying23 rfl HIFI.out ?_)
    refine (NewGather_any idv HIL.out w6).mono ?_
    rintro e w7 ⟨rfl, hG, hb7⟩
    obtain ⟨gb, hgb⟩ : ∃ y, y = w6.heap.size + 1 := ⟨_, rfl⟩
    rw [← hgb] at hG ⊢
    obtain ⟨B, hBe⟩ : ∃ y, y = w7.heap.size := ⟨_, rfl⟩
    have HB67 := hid hb7
    have HGB := hid (show w6.heap.size < gb from by omega)
    have HST := hid (show GsAt Gs.empty gb fb B idv w7 from by rw [hBe]; exact GsAt.new HIL.out (by have := HFB6.out; omega) (Nat.lt_of_lt_of_le HFB6.out hb7.size) hG)
    clear hG hb7 hgb e0 e1 e2 e3
    go_wp2_with fail
    refine (ints_own none 0 0 [] w7 ⟨none, 0, rfl, fun n h => absurd h List.not_mem_nil, fun h => absurd rfl h⟩ (fun _ => rfl) (Nat.le_refl _) (by omega)).mono ?_
    rintro e w8 ⟨lv, rfl, how, hb8⟩
    rw [← hBe] at how
    have HOW8 := hid how
    have HB78 := hid hb8
    clear how hb8
    have HB7s := hid hBe
    clear hBe
    have HB68 := hid (HB67.out.trans (HB78.out.mono HB67.out.size))
    go_wp2_with fail
    go_loopw [10, 11] (fun av iv wx => ∃ i : Nat, i ≤ t ∧ iv = .int .i64 i ∧ Hid (wx.ownsRow B 3 1 av i (i64z (natsI (List.range i)))) ∧ Hid (Below w7.heap.size w7 wx)) (fun _ iv _ => t - (intOf iv).toNat)
    case atStart => exact ⟨0, by omega, rfl, HOW8, HB78⟩
    case round =>
    clear HOW8 HB78 HB68
    obtain ⟨i, hi, rfl, HOW, HBR⟩ := hrel
    have e1 := (HHC.out wr ((HBR.out.block lb (Nat.lt_of_lt_of_le HG6.out.2.2.1 HB67.out.size)).trans (HB67.out.block lb HG6.out.2.2.1))).2.1
    rcases Nat.lt_or_ge i t with hc | hc
    · as_aux_lemma =>
      have hc2' : (i : Int) < (t : Int) := by omega
      have HWF := hid (natsI_one i (by omega))
      have hszr := HBR.out.size
      have hB7 := HB7s.out
      go_wp2_with (
        (have h0 := HWF.out)
        (refine wpList_appendZ (by rfl) (.tmp 88) (.tmp 90) (by rfl) B _ i (natsI (List.range i)) (by rfl) (owns_belowP HOW.out ((Below.refl _ _).alloc (Nat.le_refl _) _)) (by omega) (some ⟨_, 0, none⟩) 1 1 [(i : Int)] (by rfl) (is_i64 _ [(i : Int)] h0) (by intro h; cases h) (by omega) (by omega) (by simp; omega) ?_)
        (intro v6 w9 hown6 hb6)
        (have HOW9 := hid (show w9.ownsRow B 3 1 v6 (i + 1) (i64z (natsI (List.range (i + 1)))) from by rw [List.range_succ, ← natsI_snoc]; exact hown6))
        (have HB9 := hid ((HBR.out.alloc HBR.out.size (.cells #[.int .i64 (i : Int)] 3)).trans (by rw [← hB7]; exact hb6)))
        (clear hown6 hb6 h0))
      exact ⟨⟨i + 1, by omega, by go_num, HOW9, HB9⟩, by simp [intOf]; omega⟩
    obtain rfl : t = i := by omega
    obtain ⟨w9, rfl⟩ : ∃ y : World, y = wr := ⟨_, rfl⟩
    have hc' : ¬ (t : Int) < (t : Int) := by omega
    obtain ⟨la0, lc0, rfl, -, hac, hisA, hnA, hblA⟩ := is_of_ownsZ HOW.out (natsI_wf _ (fun x hx => by have := List.mem_range.1 hx; omega))
    have HB69 := hid (HB67.out.trans (HBR.out.mono HB67.out.size))
    have HLF0 := hid (show LfO B w9 (.slice la0 t lc0) t 0 (List.range t) [] from ⟨⟨la0, lc0, by rw [List.length_range], by rw [List.length_range]; exact hisA, by rw [List.length_range]; exact hac, hnA, hblA⟩, List.Perm.refl _, rfl⟩)
    have HGS0 := hid (HST.out.below HBR.out)
    clear hisA hac hnA hblA HOW
    have HSEP0 := hid (show ∀ ad, (Value.slice la0 t lc0) = .slice (some ad) t lc0 → Gs.empty.pv.ownBlock ≠ some ad.block from fun ad _ e => by cases e)
    go_wp2_with fail
    go_loopw [10, 12] (fun lv iv wx => ∃ (q : Nat) (L O : List Nat) (g : Gs), q ≤ k ∧ iv = .int .i64 q ∧ Hid (LfO B wx lv t q L O) ∧ Hid (GsAt g gb fb B idv wx) ∧ Hid (GoOf g k k t dl t OD DG LP (encP ld k LP) O) ∧ Hid (∀ ad n c, lv = .slice (some ad) n c → g.pv.ownBlock ≠ some ad.block) ∧ Hid (Below w6.heap.size w6 wx)) (fun _ iv _ => k - (intOf iv).toNat)
    case atStart => exact ⟨0, _, _, Gs.empty, by omega, rfl, HLF0, HGS0, hid (GoOf.empty _ _ _ _ _ _ _ _ _), hid (fun ad n c _ e => by cases e), HB69⟩
    case round =>
    clear HLF0 HGS0 HSEP0 HB69 HBR e1 HST
    obtain ⟨q, L, O, g, hq, rfl, HLF, HGS, HGO, HSEP, HBR⟩ := hrel
    obtain ⟨wq, rfl⟩ : ∃ y : World, y = wr := ⟨_, rfl⟩
    rcases Nat.lt_or_ge q k with hqk | hqk
    · as_aux_lemma =>
      have hqk' : (q : Int) < (k : Int) := by omega
      have hcnt := HLF.out.count
      obtain ⟨la, lc, rfl, hisL, hlc, hlnil, hlbl⟩ := HLF.out.is
      obtain ⟨n', hn⟩ : ∃ y, y = L.length := ⟨_, rfl⟩
      have HN := hid hn
      rw [← hn] at hisL hlc hcnt ⊢
      rw [← hn] at HSEP
      obtain ⟨lg, lo, rfl, _⟩ := hisL.atP 0 (by omega)
      have HLG := hid (hlbl _ rfl)
      have HIS := hid hisL
      have HSP := hid (HSEP.out _ _ _ rfl)
      clear hlbl hisL hn hlnil HSEP
      obtain ⟨e0, e1, e2, e3⟩ := HHC.out wq (HBR.out.block lb HG6.out.2.2.1)
      go_upto_if 102 with fail
      go_cut [13] (fun jv wx => ∃ j : Nat, j < n' ∧ jv = .int .i64 j ∧ Hid (wx = wq))
      case first =>
        by_cases hm : q < il
        · have hm' : (q : Int) < (il : Int) := by omega
          obtain ⟨b2, o2, rfl, hcell⟩ := (HI.out.1.belowP (HB6.out.trans (HBR.out.mono HB6.out.size))).atP q hm
          go_wp2_with fail
          refine (idx_any _ n' (by omega) (by omega) wq).mono ?_
          rintro e w1 ⟨⟨r, rfl, hr⟩, rfl⟩
          go_wp2_with fail
          go_meet
          exact ⟨r, hr, rfl, hid rfl⟩
        · have hm' : ¬ (q : Int) < (il : Int) := by omega
          go_wp2_with fail
          go_meet
          exact ⟨0, by omega, rfl, hid rfl⟩
      case rest =>
      obtain ⟨j, hj, rfl, hw⟩ := hcut
      have e := hw.out
      subst e
      clear hw e0 e1 e2 e3
      obtain ⟨w20, rfl⟩ : ∃ y : World, y = wc := ⟨_, rfl⟩
      have hjL : j < L.length := by rw [← HN.out]; exact hj
      have HX := hid (HLF.out.fresh j hjL)
      obtain ⟨x, hx⟩ : ∃ y, y = L.getD j 0 := ⟨_, rfl⟩
      rw [← hx] at HX
      have Hx := hid hx
      have HFEW := hid (HGO.out.few (by rw [HLF.out.len]; exact hqk))
      clear hx
      go_wp2_with fail
      refine (Gs_few g gb fb B idv w20 HGS.out (.pointer (some ⟨fb, 0, none⟩)) HFEW.out).mono ?_
      rintro e w21 ⟨rfl, hb21⟩
      have HB21 := hid hb21
      clear hb21
      go_upto_region 21 with fail
      have HBR21 := hid (HBR.out.trans (HB21.out.mono HBR.out.size))
      have HGS21 := hid (HGS.out.below HB21.out)
      have HIS21 := hid (HIS.out.belowP HB21.out)
      have HLG21 := hid (show B ≤ lg ∧ lg < w21.heap.size from ⟨HLG.out.1, Nat.lt_of_lt_of_le HLG.out.2 HB21.out.size⟩)
      have HCJ := hid (show w21.cell? ⟨lg, lo + j, none⟩ = some (.int .i64 (x : Int)) from by
        obtain ⟨b', o', hb', hc'⟩ := HIS21.out.atP j hj
        simp only [Option.some.injEq, Addr.mk.injEq, and_true] at hb'
        obtain ⟨rfl, rfl⟩ := hb'
        rw [hc', natsI_getD, ← Hx.out])
      have HP21 := hid (pcs_atR (HP6.out.below HBR21.out) HDL.out x HX.out.2)
      have HKS := hid (show ∀ wx : World, wx.heap[mb1]? = w21.heap[mb1]? → wx.heap[g1]? = w21.heap[g1]? → wx.heap[lg]? = w21.heap[lg]? → (loadVar 62 ⟨mb1, 0, none⟩).run Tryz.prog wx = .ok (.agg MC.toArray) wx ∧ wx.cell? ⟨lg, lo + j, none⟩ = some (.int .i64 (x : Int)) ∧ (loadVar 68 ⟨g1, x * 2, none⟩).run Tryz.prog wx = .ok (.agg #[.int .i64 (x : Int), .slice (some ⟨bf1 x, 0, none⟩) LP LP]) wx from fun wx h1 h2 h3 => by
        refine ⟨run_loadVar_mid (P := Tryz.prog) wx mb1 0 62 MC _ (range_of_heapI (h1.trans ((HBR21.out.block mb1 HG6.out.1).trans HMW6.out))) Tryz.underlying62 rfl HIM.out, by rw [World.cell?_of_block (a := ⟨lg, lo + j, none⟩) h3]; exact HCJ.out, run_loadVar_mid (P := Tryz.prog) wx g1 (x * 2) 68 [.int .i64 (x : Int), .slice (some ⟨bf1 x, 0, none⟩) LP LP] _ (fun jj v hjj => ?_) Tryz.underlying68 rfl (by show _ = some 2; kernel_rfl)⟩
        match jj, hjj with
        | 0, hjj => rw [World.cell?_of_block (a := ⟨g1, x * 2 + 0, none⟩) h2]; exact HP21.out.1.trans (by simpa using hjj)
        | 1, hjj => rw [World.cell?_of_block (a := ⟨g1, x * 2 + 1, none⟩) h2]; exact HP21.out.2.1.trans (by simpa using hjj))
      have HKB := hid (fun (wx : World) (b : Below w21.heap.size w21 wx) => HKS.out wx (b.block mb1 (Nat.lt_of_lt_of_le HG6.out.1 HBR21.out.size)) (b.block g1 (Nat.lt_of_lt_of_le HG6.out.2.1 HBR21.out.size)) (b.block lg HLG21.out.2))
      have HRDY := hid (fun (wx : World) (b : Below w21.heap.size w21 wx) => Gs_ready g gb fb B idv wx (HGS21.out.below b))
      rw [HFEW.out] at HRDY
      have HOWN := hid (fun (wx : World) (b : Below w21.heap.size w21 wx) => own_pl k k t dl OD (some ⟨gd1, 0, none⟩) t t DG x (some ⟨bf1 x, 0, none⟩) LP LP (encP ld k LP x) wx HODL.out ((HDS6.out.below HBR21.out).below b) (by omega) (HP21.out.2.2.below b) (fun h => by cases h) (by omega))
      rw [← HMC.out] at HOWN
      have hcp := rst_cp (k := k) (n := k) (t := t) (l := ld) (by rw [← HDE.out]; exact hok) x HX.out.2
      rw [← HDE.out, ← HLP.out, ← HDG.out] at hcp
      have HCPZ := hid hcp
      have HWX := hid (show (Lit.int .i64 (x : Int)).wf = true from natsI_one x (by have := HX.out.2; omega) _ (List.mem_singleton.2 rfl))
      have hj0 : (0 : Int) ≤ (j : Int) := by omega
      have hjn : (j : Int) < (n' : Int) := by omega
      have hx0 : (0 : Int) ≤ (x : Int) := by omega
      have hxt : (x : Int) < (t : Int) := by have := HX.out.2; omega
      have HVR := hid (HV6.out.below HBR21.out)
      clear hcp hcnt
      go_cut [138] (fun v wx => v = .bool false ∧ ∃ g2, Hid (GsAt g2 gb fb B idv wx) ∧ Hid (GoOf g2 k k t dl t OD DG LP (encP ld k LP) (O ++ [x])) ∧ Hid (Below w6.heap.size w6 wx) ∧ Hid (Is wx (.slice (some ⟨lg, lo, none⟩) n' lc) (natsI L)))
      case first =>
        refine wp_region_held_drew (S := (fun wx : World => (loadVar 62 ⟨mb1, 0, none⟩).run Tryz.prog wx = .ok (.agg MC.toArray) wx ∧ wx.cell? ⟨lg, lo + j, none⟩ = some (.int .i64 (x : Int)) ∧ (loadVar 68 ⟨g1, x * 2, none⟩).run Tryz.prog wx = .ok (.agg #[.int .i64 (x : Int), .slice (some ⟨bf1 x, 0, none⟩) LP LP]) wx)) (by kernel_rfl) (HKB.out _ (bel_drewN (Below.refl w21.heap.size w21) 1)) (fun hHeld => ?_)
        refine wpAnyH_take (i := 0) (oi := { dst := some 117, op := Op.move (Operand.tmp 9), type := 58, pos := "plain.go:251", after := #[], guard := none }) (v := ?_) rfl (by kernel_rfl) (by kernel_rfl) (by kernel_rfl) (fun _ _ _ h => h) (Or.inl ⟨by rfl, ?hy⟩) hHeld ?_
        case hy => (intro w hSw; (try dsimp only at hSw); obtain ⟨_, _, _⟩ := hSw; go_simp; all_goals (with_reducible rfl))
        try simp only [Act.put, List.setIfInBounds_toArray, List.set_cons_zero, List.set_cons_succ]
        refine wpAnyH_ready (rs := [1]) (by kernel_rfl) (by simp) ?_
        refine AllReadyH.cons (o := { dst := some 118, op := Op.call { callee := Callee.value (Operand.func 47), args := #[Operand.tmp 117], argTypes := #[58] }, type := 4, pos := "plain.go:251", after := #[{ on := 0, ground := Ground.data }], guard := none }) rfl (fun K hK => ?_) AllReadyH.nil
        go_simp
        refine (HRDY.out _ (bel_drewN (Below.refl w21.heap.size w21) 1)).mono ?_
        rintro e w22 ⟨rfl, hb22⟩
        have HB22 := hid ((bel_drewN (Below.refl w21.heap.size w21) 1).trans hb22)
        clear hb22
        clear hHeld
        go_wp2_with fail
        refine hK.out _ _ (HKB.out _ HB22.out) (fun hHeld => ?_)
        clear hK K
        try simp only [Act.put, List.setIfInBounds_toArray, List.set_cons_zero, List.set_cons_succ]
        refine wpAnyH_take (i := 2) (oi := { dst := some 119, op := Op.move (Operand.tmp 118), type := 4, pos := "plain.go:251", after := #[{ on := 1, ground := Ground.data }, { on := 1, ground := Ground.chain }], guard := none }) (v := ?_) rfl (by kernel_rfl) (by kernel_rfl) (by kernel_rfl) (fun _ _ _ h => h) (Or.inl ⟨by rfl, ?hy⟩) hHeld ?_
        case hy => (intro w hSw; (try dsimp only at hSw); obtain ⟨_, _, _⟩ := hSw; go_simp; all_goals (with_reducible rfl))
        try simp only [Act.put, List.setIfInBounds_toArray, List.set_cons_zero, List.set_cons_succ]
        refine wpAnyH_take (i := 3) (oi := { dst := some 120, op := Op.move (Operand.tmp 15), type := 73, pos := "plain.go:251", after := #[{ on := 2, ground := Ground.guard }], guard := some (2, false) }) (v := ?_) rfl (by kernel_rfl) (by kernel_rfl) (by kernel_rfl) (fun _ _ _ h => h) (Or.inl ⟨by rfl, ?hy⟩) hHeld ?_
        case hy => (intro w hSw; (try dsimp only at hSw); obtain ⟨_, _, _⟩ := hSw; go_simp; all_goals (with_reducible rfl))
        try simp only [Act.put, List.setIfInBounds_toArray, List.set_cons_zero, List.set_cons_succ]
        refine wpAnyH_take (i := 4) (oi := { dst := some 121, op := Op.binOp BinOp.neq 73 (Operand.tmp 120) (Operand.const (Value.int IntKind.i64 12)) 73, type := 4, pos := "plain.go:251", after := #[{ on := 3, ground := Ground.data }, { on := 2, ground := Ground.guard }], guard := some (2, false) }) (v := ?_) rfl (by kernel_rfl) (by kernel_rfl) (by kernel_rfl) (fun _ _ _ h => h) (Or.inl ⟨by rfl, ?hy⟩) hHeld ?_
        case hy => (intro w hSw; (try dsimp only at hSw); obtain ⟨_, _, _⟩ := hSw; go_simp; all_goals (with_reducible rfl))
        try simp only [Act.put, List.setIfInBounds_toArray, List.set_cons_zero, List.set_cons_succ]
        refine wpAnyH_take (i := 5) (oi := { dst := some 122, op := Op.pick (Operand.tmp 119) (Operand.const (Value.bool true)) (Operand.tmp 121), type := 4, pos := "plain.go:251", after := #[{ on := 2, ground := Ground.data }, { on := 4, ground := Ground.data }], guard := none }) (v := ?_) rfl (by kernel_rfl) (by kernel_rfl) (by kernel_rfl) (fun _ _ _ h => h) (Or.inl ⟨by rfl, ?hy⟩) hHeld ?_
        case hy => (intro w hSw; (try dsimp only at hSw); obtain ⟨_, _, _⟩ := hSw; go_simp; all_goals (with_reducible rfl))
        try simp only [Act.put, List.setIfInBounds_toArray, List.set_cons_zero, List.set_cons_succ]
        refine wpAnyH_take (i := 6) (oi := { dst := some 123, op := Op.move (Operand.tmp 122), type := 4, pos := "plain.go:251", after := #[{ on := 5, ground := Ground.data }, { on := 2, ground := Ground.chain }], guard := none }) (v := ?_) rfl (by kernel_rfl) (by kernel_rfl) (by kernel_rfl) (fun _ _ _ h => h) (Or.inl ⟨by rfl, ?hy⟩) hHeld ?_
        case hy => (intro w hSw; (try dsimp only at hSw); obtain ⟨_, _, _⟩ := hSw; go_simp; all_goals (with_reducible rfl))
        try simp only [Act.put, List.setIfInBounds_toArray, List.set_cons_zero, List.set_cons_succ]
        refine wpAnyH_take (i := 7) (oi := { dst := some 124, op := Op.move (Operand.tmp 9), type := 58, pos := "plain.go:251", after := #[{ on := 6, ground := Ground.guard }], guard := some (6, false) }) (v := ?_) rfl (by kernel_rfl) (by kernel_rfl) (by kernel_rfl) (fun _ _ _ h => h) (Or.inl ⟨by rfl, ?hy⟩) hHeld ?_
        case hy => (intro w hSw; (try dsimp only at hSw); obtain ⟨_, _, _⟩ := hSw; go_simp; all_goals (with_reducible rfl))
        try simp only [Act.put, List.setIfInBounds_toArray, List.set_cons_zero, List.set_cons_succ]
        refine wpAnyH_take (i := 8) (oi := { dst := some 125, op := Op.load 62 (Operand.tmp 4), type := 62, pos := "plain.go:251", after := #[{ on := 6, ground := Ground.guard }], guard := some (6, false) }) (v := .agg MC.toArray) rfl (by kernel_rfl) (by kernel_rfl) (by kernel_rfl) (fun _ _ _ h => h) (Or.inl ⟨by rfl, ?hy⟩) hHeld ?_
        case hy => (intro w hSw; exact run_load_opP hSw.1)
        try simp only [Act.put, List.setIfInBounds_toArray, List.set_cons_zero, List.set_cons_succ]
        refine wpAnyH_take (i := 9) (oi := { dst := some 126, op := Op.move (Operand.tmp 5), type := 63, pos := "plain.go:251", after := #[{ on := 6, ground := Ground.guard }], guard := some (6, false) }) (v := ?_) rfl (by kernel_rfl) (by kernel_rfl) (by kernel_rfl) (fun _ _ _ h => h) (Or.inl ⟨by rfl, ?hy⟩) hHeld ?_
        case hy => (intro w hSw; (try dsimp only at hSw); obtain ⟨_, _, _⟩ := hSw; go_simp; all_goals (with_reducible rfl))
        try simp only [Act.put, List.setIfInBounds_toArray, List.set_cons_zero, List.set_cons_succ]
        refine wpAnyH_take (i := 10) (oi := { dst := some 127, op := Op.move (Operand.tmp 10), type := 27, pos := "plain.go:251", after := #[{ on := 6, ground := Ground.guard }], guard := some (6, false) }) (v := ?_) rfl (by kernel_rfl) (by kernel_rfl) (by kernel_rfl) (fun _ _ _ h => h) (Or.inl ⟨by rfl, ?hy⟩) hHeld ?_
        case hy => (intro w hSw; (try dsimp only at hSw); obtain ⟨_, _, _⟩ := hSw; go_simp; all_goals (with_reducible rfl))
        try simp only [Act.put, List.setIfInBounds_toArray, List.set_cons_zero, List.set_cons_succ]
        refine wpAnyH_take (i := 11) (oi := { dst := some 128, op := Op.move (Operand.tmp 13), type := 3, pos := "plain.go:251", after := #[{ on := 6, ground := Ground.guard }], guard := some (6, false) }) (v := ?_) rfl (by kernel_rfl) (by kernel_rfl) (by kernel_rfl) (fun _ _ _ h => h) (Or.inl ⟨by rfl, ?hy⟩) hHeld ?_
        case hy => (intro w hSw; (try dsimp only at hSw); obtain ⟨_, _, _⟩ := hSw; go_simp; all_goals (with_reducible rfl))
        try simp only [Act.put, List.setIfInBounds_toArray, List.set_cons_zero, List.set_cons_succ]
        refine wpAnyH_take (i := 12) (oi := { dst := some 129, op := Op.indexAddr 27 (Operand.tmp 127) (Operand.tmp 128), type := 0, pos := "plain.go:251", after := #[{ on := 10, ground := Ground.data }, { on := 11, ground := Ground.data }, { on := 6, ground := Ground.guard }], guard := some (6, false) }) (v := ?_) rfl (by kernel_rfl) (by kernel_rfl) (by kernel_rfl) (fun _ _ _ h => h) (Or.inl ⟨by rfl, ?hy⟩) hHeld ?_
        case hy => (intro w hSw; (try dsimp only at hSw); obtain ⟨_, _, _⟩ := hSw; go_simp; all_goals (with_reducible rfl))
        try simp only [Act.put, List.setIfInBounds_toArray, List.set_cons_zero, List.set_cons_succ]
        refine wpAnyH_take (i := 13) (oi := { dst := some 130, op := Op.load 3 (Operand.tmp 129), type := 3, pos := "plain.go:251", after := #[{ on := 12, ground := Ground.data }, { on := 6, ground := Ground.guard }], guard := some (6, false) }) (v := ?_) rfl (by kernel_rfl) (by kernel_rfl) (by kernel_rfl) (fun _ _ _ h => h) (Or.inl ⟨by rfl, ?hy⟩) hHeld ?_
        case hy => (intro w hSw; (try dsimp only at hSw); obtain ⟨_, _, _⟩ := hSw; go_simp; all_goals (with_reducible rfl))
        try simp only [Act.put, List.setIfInBounds_toArray, List.set_cons_zero, List.set_cons_succ]
        refine wpAnyH_take (i := 14) (oi := { dst := some 131, op := Op.indexAddr 63 (Operand.tmp 126) (Operand.tmp 130), type := 0, pos := "plain.go:251", after := #[{ on := 9, ground := Ground.data }, { on := 13, ground := Ground.data }, { on := 6, ground := Ground.guard }], guard := some (6, false) }) (v := ?_) rfl (by kernel_rfl) (by kernel_rfl) (by kernel_rfl) (fun _ _ _ h => h) (Or.inl ⟨by rfl, ?hy⟩) hHeld ?_
        case hy => (intro w hSw; (try dsimp only at hSw); obtain ⟨_, _, _⟩ := hSw; go_simp; all_goals (with_reducible rfl))
        try simp only [Act.put, List.setIfInBounds_toArray, List.set_cons_zero, List.set_cons_succ]
        refine wpAnyH_take (i := 15) (oi := { dst := some 132, op := Op.load 68 (Operand.tmp 131), type := 68, pos := "plain.go:251", after := #[{ on := 14, ground := Ground.data }, { on := 6, ground := Ground.guard }], guard := some (6, false) }) (v := .agg #[.int .i64 (x : Int), .slice (some ⟨bf1 x, 0, none⟩) LP LP]) rfl (by kernel_rfl) (by kernel_rfl) (by kernel_rfl) (fun _ _ _ h => h) (Or.inl ⟨by rfl, ?hy⟩) hHeld ?_
        case hy => (intro w hSw; exact run_load_opP hSw.2.2)
        try simp only [Act.put, List.setIfInBounds_toArray, List.set_cons_zero, List.set_cons_succ]
        refine wpAnyH_ready (rs := [16]) (by kernel_rfl) (by simp) ?_
        refine AllReadyH.cons (o := { dst := some 133, op := Op.call { callee := Callee.value (Operand.func 43), args := #[Operand.tmp 125, Operand.tmp 132], argTypes := #[62, 68] }, type := 71, pos := "plain.go:251", after := #[{ on := 8, ground := Ground.data }, { on := 15, ground := Ground.data }, { on := 6, ground := Ground.chain }, { on := 6, ground := Ground.guard }], guard := some (6, false) }) rfl (fun K hK => ?_) AllReadyH.nil
        go_simp
        refine (HOWN.out w22 HB22.out).mono ?_
        rintro e w23 ⟨a3, c3, pa3, pc3, rfl, hd4, -, hp4, hc4, hn4, hl4, hb4⟩
        have HB223 := hid hb4
        have HB23 := hid (HB22.out.trans (hb4.mono HB22.out.size))
        have HD4 := hid hd4
        have HP4x := hid hp4
        have HC4x := hid hc4
        have HN4x := hid hn4
        have HL4x := hid hl4
        clear hd4 hp4 hc4 hn4 hl4 hb4
        clear hHeld
        go_wp2_with fail
        refine hK.out _ _ (HKB.out _ HB23.out) (fun hHeld => ?_)
        clear hK K
        try simp only [Act.put, List.setIfInBounds_toArray, List.set_cons_zero, List.set_cons_succ]
        refine wpAnyH_take (i := 17) (oi := { dst := some 134, op := Op.extract (Operand.tmp 133) 0, type := 62, pos := "plain.go:251", after := #[{ on := 16, ground := Ground.data }, { on := 6, ground := Ground.guard }], guard := some (6, false) }) (v := ?_) rfl (by kernel_rfl) (by kernel_rfl) (by kernel_rfl) (fun _ _ _ h => h) (Or.inl ⟨by rfl, ?hy⟩) hHeld ?_
        case hy => (intro w hSw; (try dsimp only at hSw); obtain ⟨_, _, _⟩ := hSw; go_simp; all_goals (with_reducible rfl))
        try simp only [Act.put, List.setIfInBounds_toArray, List.set_cons_zero, List.set_cons_succ]
        refine wpAnyH_take (i := 18) (oi := { dst := some 135, op := Op.extract (Operand.tmp 133) 1, type := 68, pos := "plain.go:251", after := #[{ on := 16, ground := Ground.data }, { on := 6, ground := Ground.guard }], guard := some (6, false) }) (v := ?_) rfl (by kernel_rfl) (by kernel_rfl) (by kernel_rfl) (fun _ _ _ h => h) (Or.inl ⟨by rfl, ?hy⟩) hHeld ?_
        case hy => (intro w hSw; (try dsimp only at hSw); obtain ⟨_, _, _⟩ := hSw; go_simp; all_goals (with_reducible rfl))
        try simp only [Act.put, List.setIfInBounds_toArray, List.set_cons_zero, List.set_cons_succ]
        refine wpAnyH_ready (rs := [19]) (by kernel_rfl) (by simp) ?_
        refine AllReadyH.cons (o := { dst := some 136, op := Op.call { callee := Callee.value (Operand.func 44), args := #[Operand.tmp 124, Operand.tmp 134, Operand.tmp 135], argTypes := #[58, 62, 68] }, type := 73, pos := "plain.go:251", after := #[{ on := 7, ground := Ground.data }, { on := 17, ground := Ground.data }, { on := 18, ground := Ground.data }, { on := 16, ground := Ground.chain }, { on := 6, ground := Ground.guard }], guard := some (6, false) }) rfl (fun K hK => ?_) AllReadyH.nil
        go_simp
        refine (Gs_accept g gb fb B idv w23 (HGS21.out.below HB23.out) (HVR.out.below HB23.out) (by rw [HGO.out.len, HLF.out.len]; omega) k k t dl OD HODL.out HODB.out a3 t c3 DG HD4.out (by omega) (x : Int) HWX.out pa3 LP pc3 (encP ld k LP x) HP4x.out HC4x.out HN4x.out (by omega) (by
          have h1 := HL4x.out
          have h2 := lt_of_heap (HGS21.out.below HB22.out).gth
          cases pa3 with
          | none => trivial
          | some ad => show ad.block ≠ gb; have h3 := h1 ad rfl; omega) HMZ.out HIV.out.symm HCPZ.out (HGO.out.fresh x HX.out.1) HFEW.out).mono ?_
        rintro e w24 ⟨rfl, ma, mc, rb, cap, a5, c5, hgs, hk, hs⟩
        have HBR23 := hid (HBR21.out.trans (HB23.out.mono HBR21.out.size))
        have hgB := HGS21.out.gB
        have hgo := HGS21.out.own
        have hBw := HGS21.out.bw
        have hgb := HGB.out
        have hg6 := HG6.out
        have hlg := HLG21.out
        have hz23 := HB23.out.size
        have hz6 := HBR21.out.size
        have hz7 := HB67.out.size
        have hB7 := HB7s.out
        have hkb : ∀ y, y < B → y ≠ gb → w24.heap[y]? = w23.heap[y]? := fun y h1 h2 => hk.block y (by omega) h2 (fun e => by have := hgo y e; omega)
        have hkl : w24.heap[lg]? = w23.heap[lg]? := hk.block lg (by omega) (by omega) HSP.out
        have HBR24 := hid (show Below w6.heap.size w6 w24 from HBR23.out.trans (hk.below HBR23.out.size (by omega) (fun y e => by have := hgo y e; omega)))
        have HIS24 := hid (show Is w24 (.slice (some ⟨lg, lo, none⟩) n' lc) (natsI L) from by
          obtain ⟨a', c', h1, h2, h3⟩ := HIS21.out.belowP HB23.out
          refine ⟨a', c', h1, h2, fun hl => ?_⟩
          obtain ⟨b, o, ha, hc⟩ := h3 hl
          refine ⟨b, o, ha, fun i hi => ?_⟩
          simp only [Value.slice.injEq] at h1
          obtain rfl : lg = b := by have h5 := h1.1.trans ha; simpa using congrArg (fun y : Option Addr => (y.map (·.block))) h5
          rw [World.cell?_of_block (a := ⟨lg, o + i, none⟩) hkl]
          exact hc i hi)
        have HGO24 := hid (HGO.out.add ma mc rb cap x a5 c5)
        have HGS24 := hid hgs
        have HS24 := hid (HKS.out w24 ((hkb mb1 (by omega) (by omega)).trans (HB23.out.block mb1 (by omega))) ((hkb g1 (by omega) (by omega)).trans (HB23.out.block g1 (by omega))) (hkl.trans (HB23.out.block lg (by omega))))
        clear hgs hk hs hkb hkl hgB hgo hBw hgb hg6 hlg hz23 hz6 hz7 hB7
        clear hHeld
        go_wp2_with fail
        refine hK.out _ _ (HS24.out) (fun hHeld => ?_)
        clear hK K
        try simp only [Act.put, List.setIfInBounds_toArray, List.set_cons_zero, List.set_cons_succ]
        refine wpAnyH_take (i := 20) (oi := { dst := some 137, op := Op.binOp BinOp.neq 73 (Operand.tmp 136) (Operand.const (Value.int IntKind.i64 0)) 73, type := 4, pos := "plain.go:251", after := #[{ on := 19, ground := Ground.data }, { on := 6, ground := Ground.guard }], guard := some (6, false) }) (v := ?_) rfl (by kernel_rfl) (by kernel_rfl) (by kernel_rfl) (fun _ _ _ h => h) (Or.inl ⟨by rfl, ?hy⟩) hHeld ?_
        case hy => (intro w hSw; (try dsimp only at hSw); obtain ⟨_, _, _⟩ := hSw; go_simp; all_goals (with_reducible rfl))
        try simp only [Act.put, List.setIfInBounds_toArray, List.set_cons_zero, List.set_cons_succ]
        refine wpAnyH_take (i := 21) (oi := { dst := some 138, op := Op.pick (Operand.tmp 123) (Operand.const (Value.bool true)) (Operand.tmp 137), type := 4, pos := "plain.go:251", after := #[{ on := 6, ground := Ground.data }, { on := 20, ground := Ground.data }], guard := none }) (v := ?_) rfl (by kernel_rfl) (by kernel_rfl) (by kernel_rfl) (fun _ _ _ h => h) (Or.inl ⟨by rfl, ?hy⟩) hHeld ?_
        case hy => (intro w hSw; (try dsimp only at hSw); obtain ⟨_, _, _⟩ := hSw; go_simp; all_goals (with_reducible rfl))
        try simp only [Act.put, List.setIfInBounds_toArray, List.set_cons_zero, List.set_cons_succ]
        refine wpAnyH_done (by kernel_rfl) ?_ _
        go_wp2
        go_meet
        exact ⟨rfl, _, HGS24, HGO24, HBR24, HIS24⟩
      case rest =>
      obtain ⟨rfl, g2, HGS24, HGO24, HBR24, HIS24⟩ := hcut
      obtain ⟨w24, rfl⟩ : ∃ y : World, y = wc := ⟨_, rfl⟩
      clear HKS HKB HRDY HOWN HCPZ HWX HVR hx0 hxt HCJ HP21 HIS21 HGS21 HB21 HIS HSP HGS
      go_upto_region 23 with fail
      have hjb : j + 1 ≤ n' ∧ n' ≤ 12 := by have h1 := HLF.out.count; have h2 := HN.out; omega
      obtain ⟨j1, hj1⟩ : ∃ y, y = j + 1 := ⟨_, rfl⟩
      obtain ⟨A8, hA8⟩ : ∃ A8 : Addr, A8 = (if lc = j1 then (⟨lg, lo, none⟩ : Addr) else ⟨lg, lo + j1, none⟩) := ⟨_, rfl⟩
      have HA8 := hid hA8
      have q1 : IntKind.i64.wrap ((j : Int) + 1) = (j1 : Int) := by rw [hj1]; exact IntWalk.i64_in _ (by omega)
      have hs3 : ∀ wx : World, (Instr.sliceAt 27 (.slice (some ⟨lg, lo, none⟩) n' lc) none (some (.int .i64 (j : Int))) none).run Tryz.prog wx = .ok (.slice (some ⟨lg, lo, none⟩) j lc) wx := fun wx => uptoI lg lo n' lc j (by omega) wx
      have hs8 : ∀ wx : World, (Instr.sliceAt 27 (.slice (some ⟨lg, lo, none⟩) n' lc) (some (.int .i64 (j1 : Int))) none none).run Tryz.prog wx = .ok (.slice (some A8) (n' - j1) (lc - j1)) wx := fun wx => by rw [hA8]; exact fromI lg lo n' lc j1 (by omega) hlc wx
      have HJ1 := hid hj1
      have HJB := hid hjb
      have HS3 := hid hs3
      have HS8 := hid hs8
      have HWFL := hid (natsI_wf L (fun y hy => by have := HLF.out.lt y (List.mem_append_right _ hy); omega))
      have hsz24 := HBR24.out.size
      have hB24 : B ≤ w24.heap.size := HGS24.out.bw
      have hj12 : j ≤ 12 := by omega
      have hn12 : n' ≤ 12 := by omega
      clear hA8 hj1 hjb hs3 hs8
      refine wp_region_held_drew (S := (fun wx : World => Below w24.heap.size w24 wx)) (by kernel_rfl) (bel_drewN (Below.refl w24.heap.size w24) 1) (fun hHeld => ?_)
      refine wpAnyH_take (i := 0) (oi := { dst := some 139, op := Op.move (Operand.tmp 10), type := 27, pos := "plain.go:254", after := #[], guard := none }) (v := ?_) rfl (by kernel_rfl) (by kernel_rfl) (by kernel_rfl) (fun _ _ _ h => h) (Or.inl ⟨by rfl, ?hy⟩) hHeld ?_
      case hy => (intro w hSw; (try dsimp only at hSw); go_simp; all_goals (with_reducible rfl))
      try simp only [Act.put, List.setIfInBounds_toArray, List.set_cons_zero, List.set_cons_succ]
      refine wpAnyH_take (i := 1) (oi := { dst := some 140, op := Op.move (Operand.tmp 13), type := 3, pos := "plain.go:254", after := #[], guard := none }) (v := ?_) rfl (by kernel_rfl) (by kernel_rfl) (by kernel_rfl) (fun _ _ _ h => h) (Or.inl ⟨by rfl, ?hy⟩) hHeld ?_
      case hy => (intro w hSw; (try dsimp only at hSw); go_simp; all_goals (with_reducible rfl))
      try simp only [Act.put, List.setIfInBounds_toArray, List.set_cons_zero, List.set_cons_succ]
      refine wpAnyH_take (i := 2) (oi := { dst := some 141, op := Op.slice 27 (Operand.tmp 139) none (some (Operand.tmp 140)) none, type := 27, pos := "plain.go:254", after := #[{ on := 0, ground := Ground.data }, { on := 1, ground := Ground.data }], guard := none }) (v := .slice (some ⟨lg, lo, none⟩) j lc) rfl (by kernel_rfl) (by kernel_rfl) (by kernel_rfl) (fun _ _ _ h => h) (Or.inl ⟨by rfl, ?hy⟩) hHeld ?_
      case hy => (intro w hSw; exact run_slice_opI (HS3.out w))
      try simp only [Act.put, List.setIfInBounds_toArray, List.set_cons_zero, List.set_cons_succ]
      refine wpAnyH_take (i := 4) (oi := { dst := some 143, op := Op.move (Operand.tmp 10), type := 27, pos := "plain.go:254", after := #[], guard := none }) (v := ?_) rfl (by kernel_rfl) (by kernel_rfl) (by kernel_rfl) (fun _ _ _ h => h) (Or.inl ⟨by rfl, ?hy⟩) hHeld ?_
      case hy => (intro w hSw; (try dsimp only at hSw); go_simp; all_goals (with_reducible rfl))
      try simp only [Act.put, List.setIfInBounds_toArray, List.set_cons_zero, List.set_cons_succ]
      refine wpAnyH_take (i := 5) (oi := { dst := some 144, op := Op.move (Operand.tmp 13), type := 3, pos := "plain.go:254", after := #[], guard := none }) (v := ?_) rfl (by kernel_rfl) (by kernel_rfl) (by kernel_rfl) (fun _ _ _ h => h) (Or.inl ⟨by rfl, ?hy⟩) hHeld ?_
      case hy => (intro w hSw; (try dsimp only at hSw); go_simp; all_goals (with_reducible rfl))
      try simp only [Act.put, List.setIfInBounds_toArray, List.set_cons_zero, List.set_cons_succ]
      refine wpAnyH_take (i := 6) (oi := { dst := some 145, op := Op.binOp BinOp.add 3 (Operand.tmp 144) (Operand.const (Value.int IntKind.i64 1)) 3, type := 3, pos := "plain.go:254", after := #[{ on := 5, ground := Ground.data }], guard := none }) (v := ?_) rfl (by kernel_rfl) (by kernel_rfl) (by kernel_rfl) (fun _ _ _ h => h) (Or.inl ⟨by rfl, ?hy⟩) hHeld ?_
      case hy => (intro w hSw; (try dsimp only at hSw); go_simp; all_goals (with_reducible rfl))
      try simp only [Act.put, List.setIfInBounds_toArray, List.set_cons_zero, List.set_cons_succ]
      refine wpAnyH_take (i := 7) (oi := { dst := some 146, op := Op.slice 27 (Operand.tmp 143) (some (Operand.tmp 145)) none none, type := 27, pos := "plain.go:254", after := #[{ on := 4, ground := Ground.data }, { on := 6, ground := Ground.data }], guard := none }) (v := .slice (some A8) (n' - j1) (lc - j1)) rfl (by kernel_rfl) (by kernel_rfl) (by kernel_rfl) (fun _ _ _ h => h) (Or.inl ⟨by rfl, ?hy⟩) hHeld ?_
      case hy => (intro w hSw; exact run_slice_opI (HS8.out w))
      try simp only [Act.put, List.setIfInBounds_toArray, List.set_cons_zero, List.set_cons_succ]
      refine wpAnyH_ready (rs := [3]) (by kernel_rfl) (by simp) ?_
      refine AllReadyH.cons (o := { dst := some 142, op := Op.call { callee := Callee.value (Operand.func 23), args := #[Operand.tmp 141], argTypes := #[27] }, type := 27, pos := "plain.go:254", after := #[{ on := 2, ground := Ground.data }], guard := none }) rfl (fun K hK => ?_) AllReadyH.nil
      go_simp
      refine (ints_own (some ⟨lg, lo, none⟩) j lc ((natsI L).take j) (w24.drewN 1) ((HIS24.out.belowP (bel_drewN (Below.refl w24.heap.size w24) 1)).takeI j (by omega)) (by intro h; cases h) (by omega) (by omega)).mono ?_
      rintro e w25 ⟨v25, rfl, how25, hb25⟩
      have HOW25 := hid (show w25.ownsRow w24.heap.size 3 1 v25 j (i64z ((natsI L).take j)) from how25)
      have HB25 := hid (show Below w24.heap.size w24 w25 from (bel_drewN (Below.refl w24.heap.size w24) 1).trans hb25)
      clear how25 hb25
      clear hHeld
      go_wp2_with fail
      refine hK.out _ _ (HB25.out) (fun hHeld => ?_)
      clear hK K
      try simp only [Act.put, List.setIfInBounds_toArray, List.set_cons_zero, List.set_cons_succ]
      refine wpAnyH_ready (rs := [8]) (by kernel_rfl) (by simp) ?_
      refine AllReadyH.cons (o := { dst := some 147, op := Op.call { callee := Callee.builtin Builtin.append, args := #[Operand.tmp 142, Operand.tmp 146], argTypes := #[27, 27] }, type := 27, pos := "plain.go:254", after := #[{ on := 3, ground := Ground.data }, { on := 7, ground := Ground.data }, { on := 3, ground := Ground.chain }], guard := none }) rfl (fun K hK => ?_) AllReadyH.nil
      refine step_appendG rfl (.tmp 142) (.tmp 146) rfl w24.heap.size v25 j ((natsI L).take j) rfl HOW25.out (by omega) (some A8) (n' - j1) (lc - j1) ((natsI L).drop j1) rfl (by rw [HA8.out]; exact (HIS24.out.belowP HB25.out).dropI hlc j1 (by have := HJ1.out; have := HJB.out; omega)) (by intro h; cases h) (by omega) (by omega) HB25.out.size ?_
      intro v26 w26 how26 hg26
      have HB26 := hid (HB25.out.grown hg26 HB25.out.size (owns_blockZ HOW25.out))
      obtain ⟨a6, c6, rfl, -, hac6, his6, hn6, hbl6⟩ := is_of_ownsZ how26 (fun y hy => (List.mem_append.1 hy).elim (fun h => HWFL.out y (List.mem_of_mem_take h)) (fun h => HWFL.out y (List.mem_of_mem_drop h)))
      have HAC6 := hid hac6
      have HIS6 := hid his6
      have HN6 := hid hn6
      have HBL6 := hid hbl6
      clear how26 hg26 hac6 his6 hn6 hbl6
      refine hK.out _ _ (HB26.out) (fun hHeld => ?_)
      clear hK K
      try simp only [Act.put, List.setIfInBounds_toArray, List.set_cons_zero, List.set_cons_succ]
      refine wpAnyH_take (i := 9) (oi := { dst := some 10, op := Op.assign (Operand.tmp 147), type := 27, pos := "plain.go:254", after := #[{ on := 8, ground := Ground.data }, { on := 8, ground := Ground.chain }, { on := 0, ground := Ground.phase }, { on := 1, ground := Ground.phase }, { on := 2, ground := Ground.phase }, { on := 3, ground := Ground.phase }, { on := 4, ground := Ground.phase }, { on := 5, ground := Ground.phase }, { on := 6, ground := Ground.phase }, { on := 7, ground := Ground.phase }, { on := 8, ground := Ground.phase }], guard := none }) (v := ?_) rfl (by kernel_rfl) (by kernel_rfl) (by kernel_rfl) (fun _ _ _ h => h) (Or.inl ⟨by rfl, ?hy⟩) hHeld ?_
      case hy => (intro w hSw; (try dsimp only at hSw); go_simp; all_goals (with_reducible rfl))
      try simp only [Act.put, List.setIfInBounds_toArray, List.set_cons_zero, List.set_cons_succ]
      refine wpAnyH_done (by kernel_rfl) ?_ _
      have HBR26 := hid (HBR24.out.trans (HB26.out.mono HBR24.out.size))
      have HGS26 := hid (HGS24.out.below HB26.out)
      have HSEP26 := hid (show ∀ ad n c, (Value.slice a6 (j + (n' - j1)) c6) = .slice (some ad) n c → g2.pv.ownBlock ≠ some ad.block from fun ad n c e h => by
        simp only [Value.slice.injEq] at e
        have h1 := (HBL6.out ad e.1).1
        have h2 := (HGS24.out.row.lt _ h).2
        omega)
      have HLF26 := hid (show LfO B w26 (.slice a6 (j + (n' - j1)) c6) t (q + 1) (L.take j ++ L.drop (j + 1)) (O ++ [x]) from by
        have e := HN.out
        have e2 := Hx.out
        subst e
        subst e2
        have e3 := HJ1.out
        subst e3
        exact HLF.out.next j hjL ⟨a6, c6, rfl, HIS6.out, HAC6.out, HN6.out, fun ad h => ⟨by have := (HBL6.out ad h).1; omega, (HBL6.out ad h).2⟩⟩)
      clear q1
      go_wp2_with fail
      exact ⟨⟨q + 1, _, _, g2, by omega, by go_num, HLF26, HGS26, HGO24, HSEP26, HBR26⟩, by simp [intOf]; omega⟩
    · obtain rfl : k = q := by omega
      as_aux_lemma =>
      have hqk' : ¬ (k : Int) < (k : Int) := by omega
      have hch := HLF.out.chosen
      have hOl : O.length = k := hch.len
      obtain ⟨m1, m2, m3, m4, m5, m6, m7⟩ := HGO.out.man (fun e => by rw [e] at hOl; simp at hOl; omega)
      have hpl : g.ps.length = k := HGO.out.len.trans hOl
      have hrst : Rst k k t ld O g.ps := ⟨by rw [← HDE.out]; exact hok, HDL.out, hch, fun i hi => HGO.out.idx i (by rw [hOl]; exact hi), fun i hi => (HGO.out.pln i (by rw [hOl]; exact hi)).trans (by rw [HLP.out, HDE.out])⟩
      have hae := hrst.asmE
      have hal := hrst.asmL
      rw [← HDE.out, ← HLP.out, ← HDG.out, ← HOD.out] at hae hal
      obtain ⟨g2, hg2⟩ : ∃ y : Gs, y = { g with Dd := rowsD ld k LP O } := ⟨_, rfl⟩
      have HG2 := hid (show GsAt g2 gb fb B idv wq from by rw [hg2]; exact HGS.out.setD (rowsD ld k LP O) (fun i hi => HGO.out.dat i (by rw [← HGO.out.len]; exact hi)))
      have HE := hid (show asmE g2.k g2.n g2.t g2.s g2.mm g2.od g2.D g2.ps g2.Dd g2.ps.length = 0 from by rw [hg2]; dsimp only; rw [m1, m2, m3, m4, m5, m6, m7, hpl]; exact hae)
      have HL := hid (show asmL g2.k g2.n g2.t g2.s g2.mm g2.od g2.D g2.ps g2.Dd g2.ps.length = ld from by rw [hg2]; dsimp only; rw [m1, m2, m3, m4, m5, m6, m7, hpl]; exact hal)
      have HRD := hid (show rdyG g2.k g2.ps.length = true from by rw [hg2]; exact HGO.out.full hOl hok.1)
      have HQ2 := hid (show g2.ps.length = k from by rw [hg2]; exact hpl)
      have HDN2 := hid (show g2.D ≠ [] from by
        rw [hg2]
        dsimp only
        rw [m7, HDG.out]
        intro e
        have h1 := DGm_len ld k t
        rw [e] at h1
        simp at h1
        omega)
      have HRG := hid (show ∀ x, x < t → regE g2.k g2.n g2.t g2.s g2.mm g2.D g2.ps g2.Dd g2.ps.length (x : Int) = 0 ∧ regI g2.k g2.n g2.t g2.s g2.mm g2.D g2.ps g2.Dd g2.ps.length (x : Int) = (x : Int) ∧ regL g2.k g2.n g2.t g2.s g2.mm g2.D g2.ps g2.Dd g2.ps.length (x : Int) = encP ld k LP x from fun x hx => by
        have h1 := hrst.regE x hx
        have h2 := hrst.regI x hx
        have h3 := hrst.regL x hx
        rw [← HDE.out, ← HLP.out, ← HDG.out] at h1 h2 h3
        rw [hg2]
        dsimp only
        rw [m1, m2, m3, m4, m6, m7, hpl]
        exact ⟨h1, h2, h3⟩)
      have HVQ := hid (HV6.out.below HBR.out)
      have HFQ := hid (fld_belowA HF6.out HBR.out)
      have HPQ := hid (HP6.out.below HBR.out)
      have HCQ := hid ((HBR.out.block lb HG6.out.2.2.1).trans HC6.out)
      have HDQ := hid (HDD.out.1.below (HB6.out.trans (HBR.out.mono HB6.out.size)))
      have HLQ := hid (show lb < wq.heap.size from Nat.lt_of_lt_of_le HG6.out.2.2.1 HBR.out.size)
      have HBQ := hid (HB6.out.trans (HBR.out.mono HB6.out.size))
      have hlo : 3 ≤ fb := Nat.le_trans hlow hWfb
      obtain ⟨e0, e1, e2, e3⟩ := pc_c HCQ.out
      clear hae hal hrst m1 m2 m3 m4 m5 m6 m7 hpl hg2 hch HLF HSEP HGO HGS
      go_wp2_with fail
      refine (Gs_dataR g2 gb fb B idv wq HG2.out HVQ.out HFQ.out hlo (by rw [HQ2.out]; omega) HRD.out 0 ld HE.out HL.out).mono ?_
      rintro e w30 ⟨⟨ra, rc, rfl, hbs, hle, hnn⟩, hf30, hk30⟩
      have HBS := hid hbs
      have HF30 := hid hf30
      have HK30 := hid hk30
      clear hbs hle hnn hf30 hk30 e0 e1 e2 e3
      go_wp2_with fail
      have hrd := Gs_ready g2 gb fb B idv w30 (HG2.out.kept HK30.out)
      rw [HRD.out] at hrd
      refine hrd.mono ?_
      rintro e w31 ⟨rfl, hb31⟩
      have HB31 := hid hb31
      clear hb31 hrd
      have HKQ1 := hid (HK30.out.trans (Kept.of_below HB31.out))
      have HC31 := hid ((HKQ1.out.block lb HLQ.out HNE.out.2.2.1).trans HCQ.out)
      have HG31 := hid (HG2.out.kept HKQ1.out)
      have HV31 := hid (HVQ.out.kept HKQ1.out hlo)
      have HF31 := hid (fld_belowA HF30.out HB31.out)
      have HP31 := hid (pcs_keptR HPQ.out HKQ1.out HFQ.out)
      have HL31 := hid (show lb < w31.heap.size from Nat.lt_of_lt_of_le HLQ.out HKQ1.out.size)
      have HB31W := hid (HBQ.out.trans (HKQ1.out.below HBQ.out.size hWfb))
      obtain ⟨e0, e1, e2, e3⟩ := pc_c HC31.out
      have cv1 := conv_bs (HBS.out.below HB31.out)
      have cv2 := conv_bs (HDD.out.1.below HB31W.out)
      have hself : ∀ S : ByteArray, (!(S.toList == S.toList)) = false := fun S => by simp
      have hs1 := hself (bstr ld)
      obtain ⟨SD, hSD⟩ : ∃ y, y = bstr ld := ⟨_, rfl⟩
      rw [← hSD] at cv1 cv2 hs1
      clear hSD HBS HE HL HF30 HK30 HB31
      go_wp2
      clear cv1 cv2 hs1 e0 e1 e2 e3
      go_loopw [17] (fun iv wx => ∃ x : Nat, x ≤ t ∧ iv = .int .i64 x ∧ Hid (Kept fb w31 wx) ∧ Hid (Fld wx fb)) (fun iv _ => t - (intOf iv).toNat)
      case atStart => exact ⟨0, by omega, rfl, hid (Kept.of_below (Below.refl _ _)), HF31⟩
      case round =>
      obtain ⟨x, hx, rfl, HK9, HF9⟩ := hrel
      obtain ⟨w9, rfl⟩ : ∃ y : World, y = wr := ⟨_, rfl⟩
      have e1 := (pc_c ((HK9.out.block lb HL31.out HNE.out.2.2.1).trans HC31.out)).2.1
      have HBW9 := hid (HB31W.out.trans (HK9.out.below HB31W.out.size hWfb))
      rcases Nat.lt_or_ge x t with hxt | hxt
      · as_aux_lemma =>
        have hxt' : (x : Int) < (t : Int) := by omega
        obtain ⟨r1, r2, r3⟩ := HRG.out x hxt
        have HPC := hid (Gs_pieceR g2 gb fb B idv w9 (HG31.out.kept HK9.out) (HV31.out.kept HK9.out hlo) HF9.out hlo (by rw [HQ2.out]; omega) HRD.out HDN2.out x 0 x (encP ld k LP x) r1 r2 r3)
        obtain ⟨RL, hRL⟩ : ∃ y, y = encP ld k LP x := ⟨_, rfl⟩
        have HRL := hid hRL
        rw [← hRL] at HPC
        clear r1 r2 r3 hRL
        go_wp2_with fail
        refine HPC.out.mono ?_
        rintro e w10 ⟨⟨ra2, rc2, rfl, hbs, hle, hnn⟩, hf10, hk10⟩
        have HBS2 := hid hbs
        have HF10 := hid hf10
        have HK10 := hid hk10
        clear hbs hle hnn hf10 hk10 HPC
        go_upto_region 31 with fail
        obtain ⟨w11, hw11⟩ : ∃ y, y = w10.alloc (.cells #[.int .i64 (x : Int), .slice ra2 RL.length rc2] 68) := ⟨_, rfl⟩
        have HB1011 := hid (show Below w10.heap.size w10 w11 from by rw [hw11]; exact (Below.refl _ _).alloc (Nat.le_refl _) _)
        have HPW := hid (show w11.heap[w10.heap.size]? = some (.cells #[.int .i64 (x : Int), .slice ra2 RL.length rc2] 68 (0, 0)) from by rw [hw11]; exact heap_new _ _)
        rw [← hw11]
        clear hw11
        obtain ⟨pb, hpb⟩ : ∃ y, y = w10.heap.size := ⟨_, rfl⟩
        rw [← hpb] at HPW ⊢
        clear hpb
        have HK911 := hid (HK10.out.trans (Kept.of_below HB1011.out))
        have HK3111 := hid (HK9.out.trans HK911.out)
        have HF11 := hid (fld_belowA HF10.out HB1011.out)
        have HP11 := hid (pcs_atR (pcs_keptR HP31.out HK3111.out HF31.out) HDL.out x hxt)
        have HSX := hid (show ∀ wx : World, Below w11.heap.size w11 wx → wx.cell? ⟨pb, 0, none⟩ = some (.int .i64 (x : Int)) ∧ wx.cell? ⟨pb, 1, none⟩ = some (.slice ra2 RL.length rc2) ∧ wx.cell? ⟨g1, x * 2 + 1, none⟩ = some (.slice (some ⟨bf1 x, 0, none⟩) LP LP) ∧ (convert 66 9 (.slice ra2 RL.length rc2)).run Tryz.prog wx = .ok (.string (bstr RL)) wx ∧ (convert 66 9 (.slice (some ⟨bf1 x, 0, none⟩) LP LP)).run Tryz.prog wx = .ok (.string (bstr RL)) wx from fun wx h => by
          have hp := (h.block _ (lt_of_heap HPW.out)).trans HPW.out
          have hg := HP11.out.2.1
          refine ⟨by rw [cell_of_heap hp]; rfl, by rw [cell_of_heap hp]; rfl, (h.cell (World.block_lt_of_cell? _ _ hg)).trans hg, conv_bs ((HBS2.out.below HB1011.out).below h), ?_⟩
          have h5 := HP11.out.2.2.below h
          rw [← HRL.out] at h5
          exact conv_bs h5)
        obtain ⟨SD2, hSD2⟩ : ∃ y, y = bstr RL := ⟨_, rfl⟩
        rw [← hSD2] at HSX
        have n1 : ((x : Int) != (x : Int)) = false := by simp
        have hx0 : (0 : Int) ≤ (x : Int) := by omega
        have hs2 := hself SD2
        clear hSD2 e1
        go_cut [201] (fun v wx => v = .bool false ∧ Hid (Below w11.heap.size w11 wx))
        case first =>
          refine wp_region_held_drew (S := (fun wx : World => wx.cell? ⟨pb, 0, none⟩ = some (.int .i64 (x : Int)) ∧ wx.cell? ⟨pb, 1, none⟩ = some (.slice ra2 RL.length rc2) ∧ wx.cell? ⟨g1, x * 2 + 1, none⟩ = some (.slice (some ⟨bf1 x, 0, none⟩) LP LP) ∧ (convert 66 9 (.slice ra2 RL.length rc2)).run Tryz.prog wx = .ok (.string SD2) wx ∧ (convert 66 9 (.slice (some ⟨bf1 x, 0, none⟩) LP LP)).run Tryz.prog wx = .ok (.string SD2) wx)) (by kernel_rfl) (HSX.out _ (bel_drewN (Below.refl w11.heap.size w11) 1)) (fun hHeld => ?_)
          refine wpAnyH_take (i := 0) (oi := { dst := some 182, op := Op.move (Operand.tmp 19), type := 73, pos := "plain.go:262", after := #[], guard := none }) (v := ?_) rfl (by kernel_rfl) (by kernel_rfl) (by kernel_rfl) (fun _ _ _ h => h) (Or.inl ⟨by rfl, ?hy⟩) hHeld ?_
          case hy => (intro w hSw; (try dsimp only at hSw); obtain ⟨_, _, _, _, _⟩ := hSw; go_simp; all_goals (with_reducible rfl))
          try simp only [Act.put, List.setIfInBounds_toArray, List.set_cons_zero, List.set_cons_succ]
          refine wpAnyH_take (i := 1) (oi := { dst := some 183, op := Op.binOp BinOp.neq 73 (Operand.tmp 182) (Operand.const (Value.int IntKind.i64 0)) 73, type := 4, pos := "plain.go:262", after := #[{ on := 0, ground := Ground.data }], guard := none }) (v := ?_) rfl (by kernel_rfl) (by kernel_rfl) (by kernel_rfl) (fun _ _ _ h => h) (Or.inl ⟨by rfl, ?hy⟩) hHeld ?_
          case hy => (intro w hSw; (try dsimp only at hSw); obtain ⟨_, _, _, _, _⟩ := hSw; go_simp; all_goals (with_reducible rfl))
          try simp only [Act.put, List.setIfInBounds_toArray, List.set_cons_zero, List.set_cons_succ]
          refine wpAnyH_take (i := 2) (oi := { dst := some 184, op := Op.move (Operand.tmp 183), type := 4, pos := "plain.go:262", after := #[{ on := 1, ground := Ground.data }], guard := none }) (v := ?_) rfl (by kernel_rfl) (by kernel_rfl) (by kernel_rfl) (fun _ _ _ h => h) (Or.inl ⟨by rfl, ?hy⟩) hHeld ?_
          case hy => (intro w hSw; (try dsimp only at hSw); obtain ⟨_, _, _, _, _⟩ := hSw; go_simp; all_goals (with_reducible rfl))
          try simp only [Act.put, List.setIfInBounds_toArray, List.set_cons_zero, List.set_cons_succ]
          refine wpAnyH_take (i := 3) (oi := { dst := some 185, op := Op.fieldAddr 68 (Operand.tmp 18) 0, type := 0, pos := "plain.go:262", after := #[{ on := 2, ground := Ground.guard }], guard := some (2, false) }) (v := ?_) rfl (by kernel_rfl) (by kernel_rfl) (by kernel_rfl) (fun _ _ _ h => h) (Or.inl ⟨by rfl, ?hy⟩) hHeld ?_
          case hy => (intro w hSw; (try dsimp only at hSw); obtain ⟨_, _, _, _, _⟩ := hSw; go_simp; all_goals (with_reducible rfl))
          try simp only [Act.put, List.setIfInBounds_toArray, List.set_cons_zero, List.set_cons_succ]
          refine wpAnyH_take (i := 4) (oi := { dst := some 186, op := Op.load 3 (Operand.tmp 185), type := 3, pos := "plain.go:262", after := #[{ on := 3, ground := Ground.data }, { on := 2, ground := Ground.guard }], guard := some (2, false) }) (v := ?_) rfl (by kernel_rfl) (by kernel_rfl) (by kernel_rfl) (fun _ _ _ h => h) (Or.inl ⟨by rfl, ?hy⟩) hHeld ?_
          case hy => (intro w hSw; (try dsimp only at hSw); obtain ⟨_, _, _, _, _⟩ := hSw; go_simp; all_goals (with_reducible rfl))
          try simp only [Act.put, List.setIfInBounds_toArray, List.set_cons_zero, List.set_cons_succ]
          refine wpAnyH_take (i := 5) (oi := { dst := some 187, op := Op.move (Operand.tmp 17), type := 3, pos := "plain.go:262", after := #[{ on := 2, ground := Ground.guard }], guard := some (2, false) }) (v := ?_) rfl (by kernel_rfl) (by kernel_rfl) (by kernel_rfl) (fun _ _ _ h => h) (Or.inl ⟨by rfl, ?hy⟩) hHeld ?_
          case hy => (intro w hSw; (try dsimp only at hSw); obtain ⟨_, _, _, _, _⟩ := hSw; go_simp; all_goals (with_reducible rfl))
          try simp only [Act.put, List.setIfInBounds_toArray, List.set_cons_zero, List.set_cons_succ]
          refine wpAnyH_take (i := 6) (oi := { dst := some 188, op := Op.binOp BinOp.neq 3 (Operand.tmp 186) (Operand.tmp 187) 3, type := 4, pos := "plain.go:262", after := #[{ on := 4, ground := Ground.data }, { on := 5, ground := Ground.data }, { on := 2, ground := Ground.guard }], guard := some (2, false) }) (v := ?_) rfl (by kernel_rfl) (by kernel_rfl) (by kernel_rfl) (fun _ _ _ h => h) (Or.inl ⟨by rfl, ?hy⟩) hHeld ?_
          case hy => (intro w hSw; (try dsimp only at hSw); obtain ⟨_, _, _, _, _⟩ := hSw; go_simp; all_goals (with_reducible rfl))
          try simp only [Act.put, List.setIfInBounds_toArray, List.set_cons_zero, List.set_cons_succ]
          refine wpAnyH_take (i := 7) (oi := { dst := some 189, op := Op.pick (Operand.tmp 184) (Operand.const (Value.bool true)) (Operand.tmp 188), type := 4, pos := "plain.go:262", after := #[{ on := 2, ground := Ground.data }, { on := 6, ground := Ground.data }], guard := none }) (v := ?_) rfl (by kernel_rfl) (by kernel_rfl) (by kernel_rfl) (fun _ _ _ h => h) (Or.inl ⟨by rfl, ?hy⟩) hHeld ?_
          case hy => (intro w hSw; (try dsimp only at hSw); obtain ⟨_, _, _, _, _⟩ := hSw; go_simp; all_goals (with_reducible rfl))
          try simp only [Act.put, List.setIfInBounds_toArray, List.set_cons_zero, List.set_cons_succ]
          refine wpAnyH_take (i := 8) (oi := { dst := some 190, op := Op.move (Operand.tmp 189), type := 4, pos := "plain.go:262", after := #[{ on := 7, ground := Ground.data }, { on := 2, ground := Ground.chain }], guard := none }) (v := ?_) rfl (by kernel_rfl) (by kernel_rfl) (by kernel_rfl) (fun _ _ _ h => h) (Or.inl ⟨by rfl, ?hy⟩) hHeld ?_
          case hy => (intro w hSw; (try dsimp only at hSw); obtain ⟨_, _, _, _, _⟩ := hSw; go_simp; all_goals (with_reducible rfl))
          try simp only [Act.put, List.setIfInBounds_toArray, List.set_cons_zero, List.set_cons_succ]
          refine wpAnyH_take (i := 9) (oi := { dst := some 191, op := Op.fieldAddr 68 (Operand.tmp 18) 1, type := 0, pos := "plain.go:262", after := #[{ on := 8, ground := Ground.guard }], guard := some (8, false) }) (v := ?_) rfl (by kernel_rfl) (by kernel_rfl) (by kernel_rfl) (fun _ _ _ h => h) (Or.inl ⟨by rfl, ?hy⟩) hHeld ?_
          case hy => (intro w hSw; (try dsimp only at hSw); obtain ⟨_, _, _, _, _⟩ := hSw; go_simp; all_goals (with_reducible rfl))
          try simp only [Act.put, List.setIfInBounds_toArray, List.set_cons_zero, List.set_cons_succ]
          refine wpAnyH_take (i := 10) (oi := { dst := some 192, op := Op.load 66 (Operand.tmp 191), type := 66, pos := "plain.go:262", after := #[{ on := 9, ground := Ground.data }, { on := 8, ground := Ground.guard }], guard := some (8, false) }) (v := ?_) rfl (by kernel_rfl) (by kernel_rfl) (by kernel_rfl) (fun _ _ _ h => h) (Or.inl ⟨by rfl, ?hy⟩) hHeld ?_
          case hy => (intro w hSw; (try dsimp only at hSw); obtain ⟨_, _, _, _, _⟩ := hSw; go_simp; all_goals (with_reducible rfl))
          try simp only [Act.put, List.setIfInBounds_toArray, List.set_cons_zero, List.set_cons_succ]
          refine wpAnyH_take (i := 11) (oi := { dst := some 193, op := Op.convert 66 9 (Operand.tmp 192), type := 9, pos := "plain.go:262", after := #[{ on := 10, ground := Ground.data }, { on := 8, ground := Ground.guard }], guard := some (8, false) }) (v := .string SD2) rfl (by kernel_rfl) (by kernel_rfl) (by kernel_rfl) (fun _ _ _ h => h) (Or.inl ⟨by rfl, ?hy⟩) hHeld ?_
          case hy => (intro w hSw; exact run_conv_op hSw.2.2.2.1)
          try simp only [Act.put, List.setIfInBounds_toArray, List.set_cons_zero, List.set_cons_succ]
          refine wpAnyH_take (i := 12) (oi := { dst := some 194, op := Op.move (Operand.tmp 5), type := 63, pos := "plain.go:262", after := #[{ on := 8, ground := Ground.guard }], guard := some (8, false) }) (v := ?_) rfl (by kernel_rfl) (by kernel_rfl) (by kernel_rfl) (fun _ _ _ h => h) (Or.inl ⟨by rfl, ?hy⟩) hHeld ?_
          case hy => (intro w hSw; (try dsimp only at hSw); obtain ⟨_, _, _, _, _⟩ := hSw; go_simp; all_goals (with_reducible rfl))
          try simp only [Act.put, List.setIfInBounds_toArray, List.set_cons_zero, List.set_cons_succ]
          refine wpAnyH_take (i := 13) (oi := { dst := some 195, op := Op.move (Operand.tmp 17), type := 3, pos := "plain.go:262", after := #[{ on := 8, ground := Ground.guard }], guard := some (8, false) }) (v := ?_) rfl (by kernel_rfl) (by kernel_rfl) (by kernel_rfl) (fun _ _ _ h => h) (Or.inl ⟨by rfl, ?hy⟩) hHeld ?_
          case hy => (intro w hSw; (try dsimp only at hSw); obtain ⟨_, _, _, _, _⟩ := hSw; go_simp; all_goals (with_reducible rfl))
          try simp only [Act.put, List.setIfInBounds_toArray, List.set_cons_zero, List.set_cons_succ]
          refine wpAnyH_take (i := 14) (oi := { dst := some 196, op := Op.indexAddr 63 (Operand.tmp 194) (Operand.tmp 195), type := 0, pos := "plain.go:262", after := #[{ on := 12, ground := Ground.data }, { on := 13, ground := Ground.data }, { on := 8, ground := Ground.guard }], guard := some (8, false) }) (v := ?_) rfl (by kernel_rfl) (by kernel_rfl) (by kernel_rfl) (fun _ _ _ h => h) (Or.inl ⟨by rfl, ?hy⟩) hHeld ?_
          case hy => (intro w hSw; (try dsimp only at hSw); obtain ⟨_, _, _, _, _⟩ := hSw; go_simp; all_goals (with_reducible rfl))
          try simp only [Act.put, List.setIfInBounds_toArray, List.set_cons_zero, List.set_cons_succ]
          refine wpAnyH_take (i := 15) (oi := { dst := some 197, op := Op.fieldAddr 68 (Operand.tmp 196) 1, type := 0, pos := "plain.go:262", after := #[{ on := 14, ground := Ground.data }, { on := 8, ground := Ground.guard }], guard := some (8, false) }) (v := ?_) rfl (by kernel_rfl) (by kernel_rfl) (by kernel_rfl) (fun _ _ _ h => h) (Or.inl ⟨by rfl, ?hy⟩) hHeld ?_
          case hy => (intro w hSw; (try dsimp only at hSw); obtain ⟨_, _, _, _, _⟩ := hSw; go_simp; all_goals (with_reducible rfl))
          try simp only [Act.put, List.setIfInBounds_toArray, List.set_cons_zero, List.set_cons_succ]
          refine wpAnyH_take (i := 16) (oi := { dst := some 198, op := Op.load 66 (Operand.tmp 197), type := 66, pos := "plain.go:262", after := #[{ on := 15, ground := Ground.data }, { on := 8, ground := Ground.guard }], guard := some (8, false) }) (v := ?_) rfl (by kernel_rfl) (by kernel_rfl) (by kernel_rfl) (fun _ _ _ h => h) (Or.inl ⟨by rfl, ?hy⟩) hHeld ?_
          case hy => (intro w hSw; (try dsimp only at hSw); obtain ⟨_, _, _, _, _⟩ := hSw; go_simp; all_goals (with_reducible rfl))
          try simp only [Act.put, List.setIfInBounds_toArray, List.set_cons_zero, List.set_cons_succ]
          refine wpAnyH_take (i := 17) (oi := { dst := some 199, op := Op.convert 66 9 (Operand.tmp 198), type := 9, pos := "plain.go:262", after := #[{ on := 16, ground := Ground.data }, { on := 8, ground := Ground.guard }], guard := some (8, false) }) (v := .string SD2) rfl (by kernel_rfl) (by kernel_rfl) (by kernel_rfl) (fun _ _ _ h => h) (Or.inl ⟨by rfl, ?hy⟩) hHeld ?_
          case hy => (intro w hSw; exact run_conv_op hSw.2.2.2.2)
          try simp only [Act.put, List.setIfInBounds_toArray, List.set_cons_zero, List.set_cons_succ]
          refine wpAnyH_take (i := 18) (oi := { dst := some 200, op := Op.binOp BinOp.neq 9 (Operand.tmp 193) (Operand.tmp 199) 9, type := 4, pos := "plain.go:262", after := #[{ on := 11, ground := Ground.data }, { on := 17, ground := Ground.data }, { on := 8, ground := Ground.guard }], guard := some (8, false) }) (v := ?_) rfl (by kernel_rfl) (by kernel_rfl) (by kernel_rfl) (fun _ _ _ h => h) (Or.inl ⟨by rfl, ?hy⟩) hHeld ?_
          case hy => (intro w hSw; (try dsimp only at hSw); obtain ⟨_, _, _, _, _⟩ := hSw; go_simp; all_goals (with_reducible rfl))
          try simp only [Act.put, List.setIfInBounds_toArray, List.set_cons_zero, List.set_cons_succ]
          refine wpAnyH_take (i := 19) (oi := { dst := some 201, op := Op.pick (Operand.tmp 190) (Operand.const (Value.bool true)) (Operand.tmp 200), type := 4, pos := "plain.go:262", after := #[{ on := 8, ground := Ground.data }, { on := 18, ground := Ground.data }], guard := none }) (v := ?_) rfl (by kernel_rfl) (by kernel_rfl) (by kernel_rfl) (fun _ _ _ h => h) (Or.inl ⟨by rfl, ?hy⟩) hHeld ?_
          case hy => (intro w hSw; (try dsimp only at hSw); obtain ⟨_, _, _, _, _⟩ := hSw; go_simp; all_goals (with_reducible rfl))
          try simp only [Act.put, List.setIfInBounds_toArray, List.set_cons_zero, List.set_cons_succ]
          refine wpAnyH_done (by kernel_rfl) ?_ _
          go_wp2
          go_meet
          exact ⟨rfl, hid (bel_drewN (Below.refl w11.heap.size w11) 1)⟩
        case rest =>
        obtain ⟨rfl, HB12⟩ := hcut
        obtain ⟨w12, rfl⟩ : ∃ y : World, y = wc := ⟨_, rfl⟩
        have HK12 := hid (HK3111.out.trans (Kept.of_below HB12.out))
        have HF12 := hid (fld_belowA HF11.out HB12.out)
        go_wp2
        exact ⟨⟨x + 1, by omega, by go_num, HK12, HF12⟩, by simp [intOf]; omega⟩
      · obtain rfl : t = x := by omega
        have hxt' : ¬ (t : Int) < (t : Int) := by omega
        go_wp2_with fail
        refine (HK.out w9 HBW9.out).mono ?_
        rintro e w12 ⟨rfl, hb12⟩
        have HB12 := hid (HBW9.out.trans (hb12.mono HBW9.out.size))
        go_wp2
        go_ret
        exact ⟨rfl, HB12.out⟩
end Go.Proofs.YtjgiiciniplbnaaGreatDoor

namespace Go.Proofs.YtjgiiciniplbnaaGreatDoor.placeRestores
open Go.ChangeShapes Go.WideShapes Go.ChangeAt Go.RowKit Go.WideMaps Go.WideElems
open Go.ChangeMaps (open_string shut_string)
set_option linter.unusedVariables false

set_option maxRecDepth 100000 in
theorem lifted (os : Os) (started : os.Started) (H : Type) (enc : TypeId × Value → H) :
    ReturnsInHanded {} Tryz.checked os 13 .any (fun w args => (Rows.placeRestoresSpec.pre enc Tryz.prog Tryz.f13 [] false w args ∧ laidMetH Tryz.prog laidA w) ∧ sizedMet enc Tryz.prog Tryz.f13 (OpenSpec.ofChange Rows.placeRestoresSpec) false w args)
      (Rows.placeRestoresSpec.post enc Tryz.prog Tryz.f13 false true false false) := by
  refine returnsInHanded_of_change_and (C := Tryz.checked) (X := fun w _ => laidMetH Tryz.prog laidA w) (fun _ _ _ hh h => h.of_heap hh) ownD started (by kernel_rfl) Tryz.func13
    (ChangeSpec.witness_shaped (enc := enc) (C := Tryz.checked) (os := os) (X := fun w _ => laidMetH Tryz.prog laidA w) false (World.doorLaid Tryz.prog 24 os) #[.agg #[.int .i64 0, .int .i64 0, .slice none 0 0, .slice none 0 0]] 8 rfl (World.shaped_of_RefB (by kernel_rfl) (by kernel_rfl)) (by kernel_rfl) (by kernel_rfl) (by kernel_rfl) (door_metA os _)) ?_
  intro W base args ds gs before hval0 hW _ _ hL _
  have hval : ∀ (j : Nat) t v, Tryz.f13.params[j]? = some t → args[j]? = some v → Value.okWide Tryz.prog W .any base t v := hval0
  have hW' := hW
  obtain ⟨p, q, hA0, hV, rfl, hfz, hnd⟩ := hW
  have hA : DataW.TrodAll enc Tryz.prog W 0 (fun _ => true) true Tryz.f13.params.toList args.toList ds p := hA0
  rw [Tryz.params13] at hA hval
  obtain ⟨v0, vs0, d0, ds0, p0, q0, hargs, rfl, rfl, h0, r0⟩ := trodAll_cons hA
  obtain ⟨rfl, rfl, rfl⟩ := trodAll_nil r0
  obtain rfl : args = #[v0] := by cases args; simp_all
  obtain ⟨rfl, rfl⟩ := trodVars_none hV
  have k0 := h0
  have lt0 : ∀ x ∈ p0, x.block < W.heap.size := by obtain ⟨m, hm⟩ := k0; exact DataW.trod_lt m _ _ _ hm
  obtain ⟨kx0, kt0, da0, dn0, dc0, dl0, ia0, in_0, ic0, il0, rfl, vd0, vi0⟩ := open_pieces (hval 0 114 v0 rfl rfl) h0
  clear hA0 hval0
  refine (rs_walk W (vars_of_laid hL) kx0 kt0 da0 dn0 dc0 dl0 vd0 ia0 in_0 ic0 il0 vi0).mono fun e W' ⟨he, bel⟩ => ?_
  subst he
  exact ⟨_, rfl, _, _, _, [], _, [], hW', trodAll_mk1 (shut_bool Tryz.underlying4 _), (trodAll_cons_mk (Below.trod Facts.laidOut (by kernel_rfl) (of_decide_eq_true (by kernel_rfl)) k0 bel lt0) trodAll_mk0), rfl, bel.frame _, fun h => by cases h⟩

set_option maxHeartbeats 4000000 in
set_option maxRecDepth 1000000 in
theorem closed : joinedFacts Tryz.pinned.checked.prog 13 Tryz.f13 Rows.placeRestoresSpec Rows.placeRestoresRow = true := by
  unfold joinedFacts
  refine (Facts.and2 (Facts.and2 (Facts.and2 (Facts.and2 (Facts.and2 (Facts.and2 (Facts.and2 (Facts.and2 (Facts.and2 (Facts.and2 (Facts.and2 (Facts.and2 (Facts.and2 (Facts.and2 (Facts.and2 (Facts.and2 (Facts.and2 (Facts.and2 (Facts.and2 (Facts.and2 (Facts.and2 (Facts.and2 (Facts.and2 (Facts.and2 (Facts.and2 (Facts.and2 (Facts.and2 (Facts.and2 (Facts.and2 (Facts.and2 (Facts.and2 ?_ Facts.laidOut) Facts.mapsR) ?_) ?_) ?_) Facts.stops) ?_) Facts.knobs) ?_) ?_) ?_) ?_) ?_) ?_) ?_) ?_) ?_) ?_) ?_) ?_) ?_) Facts.keys) ?_) Facts.heard) Facts.enter) ?_) ?_) ?_) ?_) ?_) ?_)
  all_goals (as_aux_lemma => kernel_rfl)

theorem over : Rows.placeRestoresRow.holds Tryz.pinned (OpenSpec.ofChange Rows.placeRestoresSpec) :=
  OpenClaim.holds_of_wide 13 Tryz.f13 rfl rfl rfl rfl rfl rfl rfl ⟨rfl, rfl, rfl, rfl, rfl⟩ rfl rfl rfl rfl rfl (by as_aux_lemma => kernel_rfl) Tryz.func13 closed
    (of_decide_eq_true (by as_aux_lemma => kernel_rfl)) (by unfold Func.isWrapper; first | (rw [if_pos (by decide +kernel)]; kernel_rfl) | (rw [if_neg (by decide +kernel)]; exact ⟨rfl, rfl⟩))
    (fun os started H enc _ => lifted os started H enc)
end Go.Proofs.YtjgiiciniplbnaaGreatDoor.placeRestores
namespace Go.Proofs.YtjgiiciniplbnaaGreatDoor
open Go
set_option maxHeartbeats 4000000 in
set_option maxRecDepth 1000000 in
theorem placeRestores_holds : Rows.PlaceRestoresCardSaid :=
  Claim7.holds_tied_plain_at .later [] [.data, .data] true (true, "4a085e94ccebdf24e9b63843c722f4a968f2e6f610b760c9b6f284c344973c54") false
    placeRestores.over (fun _ h => by cases h) (by as_aux_lemma => kernel_rfl) (fun _ h => by cases h) placeRestores_row_tie rfl ⟨rfl, rfl⟩ (by as_aux_lemma => kernel_rfl) rfl
    (fun f fn hf hfn => by
      obtain rfl : f = 13 := Option.some.inj ((show Tryz.prog.funcNamed "stolon/stolonlaw07.PlaceRestores" = some 13 by as_aux_lemma => kernel_rfl).symm.trans hf) |>.symm
      obtain rfl : fn = Tryz.f13 := (Option.some.inj (Tryz.func13.symm.trans hfn)).symm
      exact ⟨by as_aux_lemma => kernel_rfl, fun j t ht => by
        rw [Tryz.params13] at ht
        rcases j with _ | j
        · obtain rfl : t = 114 := by simpa using ht.symm
          exact (show Tryz.prog.wantsStandIn 114 = false by as_aux_lemma => kernel_rfl)
        · simp at ht⟩)
    (by as_aux_lemma => kernel_rfl)
#print axioms placeRestores_holds
end Go.Proofs.YtjgiiciniplbnaaGreatDoor
