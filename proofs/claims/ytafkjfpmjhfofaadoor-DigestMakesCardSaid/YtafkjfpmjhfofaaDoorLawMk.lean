/-
  DigestMakes.
-/
import Derived.Test.YtafkjfpmjhfofaaDoorMkf
import Derived.Test.YtafkjfpmjhfofaaDoorMks
import Derived.Test.YtafkjfpmjhfofaaDoorKnw
import Derived.Deep.DeepCutAuto
namespace Go.Proofs.YtafkjfpmjhfofaaDoor
open Go Go.RowKit
set_option linter.unusedVariables false
set_option linter.unusedSimpArgs false

theorem wpList_load_wantE {P : Program} {ops : Array Oper} {rest : List Oper} {op : Oper} {a : Act} {w : World} {Q : Exit → Act → World → Prop} (hw : Region.wanted op (yielded ops a.tmps) = true) (ty : TypeId) (x : Operand) (ho : op.op = .load ty x)
    (b o : Nat) (hx : a.eval x = .pointer (some ⟨b, o, none⟩)) (cs : List Value) (d : TypeDesc) (hc : w.rangeAt b o cs)
    (hu : P.underlying ty = some d) (hd : d.isRow = true) (hi : (P.info? ty).map (·.size) = some cs.length)
    (h : wpList P ops Q rest (a.put op.dst (.agg cs.toArray)) w) : wpList P ops Q (op :: rest) a w :=
  BigFrame.wpList_want hw fun _ hK => wp_load_mid ty x ho b o hx cs d hc hu hd hi (hK _ _ h)
/-- what large says of the data, where it answers r -/
def LrgOk (r : Bool) (dl : Nat) : Prop := r = false → dl ≤ 10000
set_option maxRecDepth 100000 in
set_option maxHeartbeats 40000000 in
theorem makes_main (W : World) (K N T I : Int) (da : Option Addr) (dl dc : Nat) (ld : List Nat) (mk mn mt ms : Int) (mo : List Nat) (ma : Option Addr) (mm mc : Nat) (pa : Option Addr) (pl pc : Nat) (ps : List (Int × Sl)) (ia : Option Addr) (il ic : Nat) (ho : mo.length = 32) (hp : Ps W (.slice pa pl pc) ps)
    (hd : Bs W (.slice da dl dc) ld) (hdc : dl ≤ dc) (hdn : da = none → dc = 0) (hsm : dl ≤ 10000 → True)
    (E : Int) (G : World → Array Value → Value → Prop) (POST : Nat → World → World → Array Value → Value → Value → Prop)
    (HK : ∀ wx, Below W.heap.size W wx → Calls Tryd.prog 12 #[] wx fun e w' => e = .returned (.bool true) ∧ Below wx.heap.size wx w')
    (HMK0 : dl ≤ 10000 → ∀ fb wx, Below W.heap.size W wx → W.heap.size ≤ fb → Fresh wx fb → ∀ a' c', Bs wx (.slice a' dl c') ld → dl ≤ c' → Off fb (.slice a' dl c') → Calls Tryd.prog 13 #[.pointer (some ⟨fb, 0, none⟩), .int .i64 K, .int .i64 N, .int .i64 T, .slice a' dl c'] wx fun e w' => ∃ M pv ev, e = .returned (.tuple #[.agg M, pv, ev]) ∧ POST fb wx w' M pv ev ∧ Kept fb wx w' ∧ (Tryd.prog.info? 27).map (·.size) = some M.size ∧ mz.size = M.size ∧ M.all (·.oneCell') = true)
    (HG : ∀ w1 w fb mb M pv ev, MdX fb (POST fb) mb M pv ev w1 w → G w M pv ∧ ev = .int .i64 E)
    (HGB : ∀ w w' M pv, Below w.heap.size w w' → G w M pv → G w' M pv)
    (HRM : dl ≤ 10000 → ∀ wx, Below W.heap.size W wx → Calls Tryd.prog 15 #[.int .i64 K, .int .i64 N, .int .i64 T, .slice da dl dc] wx fun e w' => ∃ M pv, e = .returned (.tuple #[.agg M, pv, .int .i64 E]) ∧ G w' M pv ∧ Below wx.heap.size wx w')
    (HML : ∀ w M pv, G w M pv → ∃ ML : List Value, M = ML.toArray ∧ ML.length = 37 ∧ ML.toArray.all (·.oneCell') = true)
    (HSA : ∀ wx M pv M' pv', G wx M pv → G wx M' pv' → Calls Tryd.prog 16 #[.agg M, .agg M'] wx fun e w' => e = .returned (.bool true) ∧ Below wx.heap.size wx w')
    (HSP : ∀ wx M pv M' pv', G wx M pv → G wx M' pv' → Calls Tryd.prog 17 #[pv, pv'] wx fun e w' => e = .returned (.bool true) ∧ Below wx.heap.size wx w')
    :
    Calls Tryd.prog 3 #[.agg (cc K N T I (.slice da dl dc) mk mn mt ms mo (.slice ma mm mc) (.slice pa pl pc) (.slice ia il ic)).toArray] W fun e w' => e = .returned (.bool true) ∧ Below W.heap.size W w' := by
  have HK := hid HK
  have HMK0 := hid HMK0
  have HG := hid HG
  have HGB := hid HGB
  have HRM := hid HRM
  have HML := hid HML
  have HSA := hid HSA
  have HSP := hid HSP
  obtain ⟨w1, hw1⟩ : ∃ y, y = W.alloc (.cells (cc K N T I (.slice da dl dc) mk mn mt ms mo (.slice ma mm mc) (.slice pa pl pc) (.slice ia il ic)).toArray 31) := ⟨_, rfl⟩
  have HB1 := hid (show Below W.heap.size W w1 from by rw [hw1]; exact (Below.refl _ _).alloc (Nat.le_refl _) _)
  have hC : CaseAt w1 W.heap.size K N T I (.slice da dl dc) mk mn mt ms mo (.slice ma mm mc) (.slice pa pl pc) (.slice ia il ic) := by rw [hw1]; exact heap_new _ _
  have HC := hid hC
  have HLG := hid (large_any K N T I da dl dc mk mn mt ms mo ma mm mc pa pl pc ps ia il ic w1 ho (hp.below HB1.out))
  have HIFC := hid (show (Tryd.prog.info? 31).map (·.size) = some (cc K N T I (.slice da dl dc) mk mn mt ms mo (.slice ma mm mc) (.slice pa pl pc) (.slice ia il ic)).length from by rw [cc_length _ _ _ _ _ _ _ _ _ _ _ _ _ ho]; kernel_rfl)
  have HRC := hid (show w1.rangeAt W.heap.size 0 (cc K N T I (.slice da dl dc) mk mn mt ms mo (.slice ma mm mc) (.slice pa pl pc) (.slice ia il ic)) from range_of_heapI hC)
  have HDD := hid hd
  have HDN := hid hdn
  have HDL := hid (show ∀ y ∈ ld, y < 256 from by obtain ⟨_, _, _, h, _⟩ := hd; exact h)
  have HTT := hid ho
  obtain ⟨CL, hCL⟩ : ∃ CL, CL = cc K N T I (.slice da dl dc) mk mn mt ms mo (.slice ma mm mc) (.slice pa pl pc) (.slice ia il ic) := ⟨_, rfl⟩
  rw [← hCL] at HLG HIFC HRC hw1 ⊢
  clear ho hp hd hdn hC hsm hCL
  go_enter Tryd.func3, Tryd.ntmps3
  go_upto_region 1 with fail
  change Code.wp _ _ _ _ (W.alloc (.cells CL.toArray 31))
  rw [← hw1]
  clear hw1
  go_cut [20] (fun v wx => ∃ wy, wy = wx ∧ ∃ r, v = .bool r ∧ Hid (Below w1.heap.size w1 wy) ∧ Hid (LrgOk r dl))
  case first =>
    go_wp2_with (refine wpList_load_mid (by rfl) 31 (.tmp 1) (by rfl) W.heap.size 0 (by rfl) CL _ HRC.out Tryd.underlying31 rfl HIFC.out ?_)
    refine HLG.out.mono ?_
    rintro e w2 ⟨hb2, r, rfl, hr⟩
    have HB12 := hid hb2
    have hC2 : CaseAt w2 W.heap.size K N T I (.slice da dl dc) mk mn mt ms mo (.slice ma mm mc) (.slice pa pl pc) (.slice ia il ic) := (hb2.block _ (lt_of_heap HC.out)).trans HC.out
    obtain ⟨-, -, e2, -, -⟩ := hC2.c
    clear hb2 hC2 HLG HIFC HRC
    cases r with
    | true =>
      have HX := hid (show LrgOk true dl from fun h => by cases h)
      clear hr
      go_wp2_with fail
      go_meet
      exact ⟨_, rfl, true, rfl, HB12, HX⟩
    | false =>
      have HDLL := hid (hr rfl).2.2.1
      clear hr
      by_cases g60 : 60 < T
      · by_cases g255 : T ≤ 255
        · have HX := hid (show LrgOk true dl from fun h => by cases h)
          go_wp2_with fail
          go_meet
          exact ⟨_, rfl, true, rfl, HB12, HX⟩
        · have HX := hid (show LrgOk false dl from fun _ => HDLL.out)
          go_wp2_with fail
          go_meet
          exact ⟨_, rfl, false, by first | rfl | (congr 1; simp; omega), HB12, HX⟩
      · have HX := hid (show LrgOk false dl from fun _ => HDLL.out)
        go_wp2_with fail
        go_meet
        exact ⟨_, rfl, false, rfl, HB12, HX⟩
  case rest =>
  obtain ⟨w2, hw2, r, rfl, HB12, hrr⟩ := hcut
  subst hw2
  have HB2 := hid (HB1.out.trans (HB12.out.mono HB1.out.size))
  have hC2 : CaseAt w2 W.heap.size K N T I (.slice da dl dc) mk mn mt ms mo (.slice ma mm mc) (.slice pa pl pc) (.slice ia il ic) := (HB12.out.block _ (lt_of_heap HC.out)).trans HC.out
  have HC2 := hid hC2
  clear hC2 HLG HIFC HRC
  cases r with
  | true => as_aux_lemma =>
    clear hrr
    go_wp2_with fail
    refine (HK.out w2 HB2.out).mono ?_
    rintro e w3 ⟨rfl, hb3⟩
    have HB3 := hid (HB2.out.trans (hb3.mono HB2.out.size))
    go_wp2
    go_ret
    exact ⟨rfl, HB3.out⟩
  | false =>
    have hdl := hrr.out rfl
    clear hrr
    have HMK := hid (fun (fb : Nat) (wx : World) (b : Below w2.heap.size w2 wx) (hlo : w2.heap.size ≤ fb) => HMK0.out hdl fb wx (HB2.out.trans (b.mono HB2.out.size)) (Nat.le_trans HB2.out.size hlo))
    have HRM := hid (HRM.out hdl)
    have HD := hid (HDD.out.below HB2.out)
    have hl2 := lt_of_heap HC2.out
    have HKP := hid (show ∀ wx : World, Below w2.heap.size w2 wx → wx.cell? ⟨W.heap.size, 0, none⟩ = some (.int .i64 K) ∧ wx.cell? ⟨W.heap.size, 1, none⟩ = some (.int .i64 N) ∧ wx.cell? ⟨W.heap.size, 2, none⟩ = some (.int .i64 T) ∧ wx.cell? ⟨W.heap.size, 4, none⟩ = some (.slice da dl dc) from fun wx b => by
      have h : CaseAt wx W.heap.size K N T I (.slice da dl dc) mk mn mt ms mo (.slice ma mm mc) (.slice pa pl pc) (.slice ia il ic) := (b.block _ hl2).trans HC2.out
      obtain ⟨f0, f1, f2, -, f4⟩ := h.c
      exact ⟨f0, f1, f2, f4⟩)
    go_upto_region 3 with fail
    go_cut [3, 4, 5] (fun mv pv ev wx => ∃ wy, wy = wx ∧ ∃ fb, w2.heap.size ≤ fb ∧ ∃ mb M pw ew, mv = .pointer (some ⟨mb, 0, none⟩) ∧ pv = pw ∧ ev = ew ∧ Hid (MdX fb (POST fb) mb M pw ew w2 wy))
    case first =>
      refine wp_region_held_drew (S := (fun wx => wx.cell? ⟨W.heap.size, 0, none⟩ = some (.int .i64 K) ∧ wx.cell? ⟨W.heap.size, 1, none⟩ = some (.int .i64 N) ∧ wx.cell? ⟨W.heap.size, 2, none⟩ = some (.int .i64 T) ∧ wx.cell? ⟨W.heap.size, 4, none⟩ = some (.slice da dl dc))) (by kernel_rfl) (HKP.out _ (bel_drewN (Below.refl _ _) 1)) (fun hHeld => ?_)
      refine wpAnyH_take (i := 1) (oi := { dst := some 24, op := Op.fieldAddr 31 (Operand.tmp 1) 0, type := 0, pos := "manifest.go:53", after := #[], guard := none }) (v := ?_) rfl (by kernel_rfl) (by kernel_rfl) (by kernel_rfl) (fun _ _ _ h => h) (Or.inl ⟨by rfl, ?hy⟩) hHeld ?_
      case hy => (intro w hSw; (try dsimp only at hSw); obtain ⟨_, _, _, _⟩ := hSw; go_simp; all_goals (with_reducible rfl))
      try simp only [Act.put, List.setIfInBounds_toArray, List.set_cons_zero, List.set_cons_succ]
      refine wpAnyH_take (i := 2) (oi := { dst := some 25, op := Op.load 3 (Operand.tmp 24), type := 3, pos := "manifest.go:53", after := #[{ on := 1, ground := Ground.data }], guard := none }) (v := ?_) rfl (by kernel_rfl) (by kernel_rfl) (by kernel_rfl) (fun _ _ _ h => h) (Or.inl ⟨by rfl, ?hy⟩) hHeld ?_
      case hy => (intro w hSw; (try dsimp only at hSw); obtain ⟨_, _, _, _⟩ := hSw; go_simp; all_goals (with_reducible rfl))
      try simp only [Act.put, List.setIfInBounds_toArray, List.set_cons_zero, List.set_cons_succ]
      refine wpAnyH_take (i := 3) (oi := { dst := some 26, op := Op.fieldAddr 31 (Operand.tmp 1) 1, type := 0, pos := "manifest.go:53", after := #[], guard := none }) (v := ?_) rfl (by kernel_rfl) (by kernel_rfl) (by kernel_rfl) (fun _ _ _ h => h) (Or.inl ⟨by rfl, ?hy⟩) hHeld ?_
      case hy => (intro w hSw; (try dsimp only at hSw); obtain ⟨_, _, _, _⟩ := hSw; go_simp; all_goals (with_reducible rfl))
      try simp only [Act.put, List.setIfInBounds_toArray, List.set_cons_zero, List.set_cons_succ]
      refine wpAnyH_take (i := 4) (oi := { dst := some 27, op := Op.load 3 (Operand.tmp 26), type := 3, pos := "manifest.go:53", after := #[{ on := 3, ground := Ground.data }], guard := none }) (v := ?_) rfl (by kernel_rfl) (by kernel_rfl) (by kernel_rfl) (fun _ _ _ h => h) (Or.inl ⟨by rfl, ?hy⟩) hHeld ?_
      case hy => (intro w hSw; (try dsimp only at hSw); obtain ⟨_, _, _, _⟩ := hSw; go_simp; all_goals (with_reducible rfl))
      try simp only [Act.put, List.setIfInBounds_toArray, List.set_cons_zero, List.set_cons_succ]
      refine wpAnyH_take (i := 5) (oi := { dst := some 28, op := Op.fieldAddr 31 (Operand.tmp 1) 2, type := 0, pos := "manifest.go:53", after := #[], guard := none }) (v := ?_) rfl (by kernel_rfl) (by kernel_rfl) (by kernel_rfl) (fun _ _ _ h => h) (Or.inl ⟨by rfl, ?hy⟩) hHeld ?_
      case hy => (intro w hSw; (try dsimp only at hSw); obtain ⟨_, _, _, _⟩ := hSw; go_simp; all_goals (with_reducible rfl))
      try simp only [Act.put, List.setIfInBounds_toArray, List.set_cons_zero, List.set_cons_succ]
      refine wpAnyH_take (i := 6) (oi := { dst := some 29, op := Op.load 3 (Operand.tmp 28), type := 3, pos := "manifest.go:53", after := #[{ on := 5, ground := Ground.data }], guard := none }) (v := ?_) rfl (by kernel_rfl) (by kernel_rfl) (by kernel_rfl) (fun _ _ _ h => h) (Or.inl ⟨by rfl, ?hy⟩) hHeld ?_
      case hy => (intro w hSw; (try dsimp only at hSw); obtain ⟨_, _, _, _⟩ := hSw; go_simp; all_goals (with_reducible rfl))
      try simp only [Act.put, List.setIfInBounds_toArray, List.set_cons_zero, List.set_cons_succ]
      refine wpAnyH_take (i := 8) (oi := { dst := some 31, op := Op.fieldAddr 31 (Operand.tmp 1) 4, type := 0, pos := "manifest.go:53", after := #[], guard := none }) (v := ?_) rfl (by kernel_rfl) (by kernel_rfl) (by kernel_rfl) (fun _ _ _ h => h) (Or.inl ⟨by rfl, ?hy⟩) hHeld ?_
      case hy => (intro w hSw; (try dsimp only at hSw); obtain ⟨_, _, _, _⟩ := hSw; go_simp; all_goals (with_reducible rfl))
      try simp only [Act.put, List.setIfInBounds_toArray, List.set_cons_zero, List.set_cons_succ]
      refine wpAnyH_take (i := 9) (oi := { dst := some 32, op := Op.load 22 (Operand.tmp 31), type := 22, pos := "manifest.go:53", after := #[{ on := 8, ground := Ground.data }], guard := none }) (v := ?_) rfl (by kernel_rfl) (by kernel_rfl) (by kernel_rfl) (fun _ _ _ h => h) (Or.inl ⟨by rfl, ?hy⟩) hHeld ?_
      case hy => (intro w hSw; (try dsimp only at hSw); obtain ⟨_, _, _, _⟩ := hSw; go_simp; all_goals (with_reducible rfl))
      try simp only [Act.put, List.setIfInBounds_toArray, List.set_cons_zero, List.set_cons_succ]
      refine wpAnyH_ready (rs := [0, 7, 16]) (by kernel_rfl) (by simp) ?_
      refine AllReadyH.cons (o := { dst := some 23, op := Op.call { callee := Callee.value (Operand.func 14), args := #[], argTypes := #[] }, type := 37, pos := "manifest.go:53", after := #[], guard := none }) rfl (fun K hK => ?_) ?_
      · skip
        go_simp
        refine (newField_any (w2.drewN 1)).mono ?_
        rintro e wm1 ⟨rfl, hF1, hb1⟩
        have fl1 := lt_of_heap hF1
        obtain ⟨fb1, hfb1⟩ : ∃ y, y = (w2.drewN 1).heap.size := ⟨_, rfl⟩
        rw [← hfb1] at hF1 fl1
        have HB1 : Below w2.heap.size w2 wm1 := ((bel_drewN (Below.refl w2.heap.size w2) 1)).trans (hb1.mono ((bel_drewN (Below.refl w2.heap.size w2) 1)).size)
        have flo1 : w2.heap.size ≤ fb1 := by rw [hfb1]; exact ((bel_drewN (Below.refl w2.heap.size w2) 1)).size
        clear hHeld
        rw [← hfb1]
        clear hfb1
        go_wp2_with fail
        refine hK.out _ _ (HKP.out _ HB1) (fun hHeld => ?_)
        clear hK K
        have ZHB1 := hid HB1
        have ZhF1 := hid hF1
        try clear HB1 hF1
        try simp only [Act.put, List.setIfInBounds_toArray, List.set_cons_zero, List.set_cons_succ]
        refine wpAnyH_ready (rs := [7, 16]) (by kernel_rfl) (by simp) ?_
        refine AllReadyH.cons (o := { dst := some 30, op := Op.buildSlice 22 0 #[], type := 22, pos := "manifest.go:53", after := #[], guard := none }) rfl (fun K hK => ?_) ?_
        · skip
          refine step_build0 rfl rfl ?_
          intro g2 wm2 hge2 hE2 hb2 gl2
          have HB2 : Below w2.heap.size w2 wm2 := (ZHB1.out).trans (hb2.mono (ZHB1.out).size)
          have nfg2 : fb1 ≠ g2 := by have := fl1; omega
          have hF2 := (hb2.block _ fl1).trans ZhF1.out
          have fl2 := Nat.lt_of_lt_of_le fl1 hb2.size
          have glo2 : w2.heap.size ≤ g2 := by rw [hge2]; exact (ZHB1.out).size
          clear hge2
          refine hK.out _ _ (HKP.out _ HB2) (fun hHeld => ?_)
          clear hK K
          have ZHB2 := hid HB2
          have ZhE2 := hid hE2
          have ZhF2 := hid hF2
          try clear HB2 hE2 hF2
          try simp only [Act.put, List.setIfInBounds_toArray, List.set_cons_zero, List.set_cons_succ]
          refine wpAnyH_ready (rs := [10, 16]) (by kernel_rfl) (by simp) ?_
          refine AllReadyH.cons (o := { dst := some 33, op := Op.call { callee := Callee.builtin Builtin.append, args := #[Operand.tmp 30, Operand.tmp 32], argTypes := #[22, 22] }, type := 22, pos := "manifest.go:53", after := #[{ on := 7, ground := Ground.data }, { on := 9, ground := Ground.data }, { on := 0, ground := Ground.chain }], guard := none }) rfl (fun K hK => ?_) ?_
          · skip
            refine step_own_bytes rfl (.tmp 30) (.tmp 32) rfl w2.heap.size g2 rfl (own_emptyM ZhE2.out glo2) da dl dc ld rfl (HD.out.below (ZHB2.out)) HDN.out (by omega) (ZHB2.out).size ?_
            intro v3 wm3 hdA3 hgA3
            have nil3 := hdA3
            obtain ⟨av3, cv3, ev3, -, hcv3, hbv3, hlow3⟩ := bs_of_owns hdA3 HDL.out
            subst ev3
            have HB3 : Below w2.heap.size w2 wm3 := (ZHB2.out).grown hgA3 (ZHB2.out).size (fun q hq => by have := glo2; simp at hq; omega)
            have hF3 := (hgA3.block _ fl2 (by simp; exact nfg2)).trans ZhF2.out
            have fl3 := Nat.lt_of_lt_of_le fl2 hgA3.size
            refine hK.out _ _ (HKP.out _ HB3) (fun hHeld => ?_)
            clear hK K
            have ZHB3 := hid HB3
            have ZhF3 := hid hF3
            have Zhbv3 := hid hbv3
            have Zhcv3 := hid hcv3
            have Zhlow3 := hid hlow3
            have ZhdA3 := hid hdA3
            try clear HB3 hF3 hbv3 hcv3 hlow3 hdA3
            try simp only [Act.put, List.setIfInBounds_toArray, List.set_cons_zero, List.set_cons_succ]
            refine wpAnyH_ready (rs := [11, 16]) (by kernel_rfl) (by simp) ?_
            refine AllReadyH.cons (o := { dst := some 34, op := Op.call { callee := Callee.value (Operand.func 13), args := #[Operand.tmp 23, Operand.tmp 25, Operand.tmp 27, Operand.tmp 29, Operand.tmp 33], argTypes := #[37, 3, 3, 3, 22] }, type := 35, pos := "manifest.go:53", after := #[{ on := 0, ground := Ground.data }, { on := 2, ground := Ground.data }, { on := 4, ground := Ground.data }, { on := 6, ground := Ground.data }, { on := 10, ground := Ground.data }, { on := 10, ground := Ground.chain }], guard := none }) rfl (fun K hK => ?_) ?_
            · skip
              go_simp
              refine (HMK.out fb1 wm3 (ZHB3.out) flo1 ZhF3.out av3 cv3 (Zhbv3.out) Zhcv3.out (off_typeX ZhdA3.out ZhF3.out (by decide))).mono ?_
              rintro e wm4 ⟨M4, pv4, ev4, rfl, hP4, hk4, hI4, hZ4, hO4⟩
              have hKK4 : Below w2.heap.size w2 wm4 := (ZHB3.out).trans (hk4.below (ZHB3.out).size flo1)
              clear hHeld
              go_wp2_with fail
              refine hK.out _ _ (HKP.out _ hKK4) (fun hHeld => ?_)
              clear hK K
              have ZhKK4 := hid hKK4
              have ZhP4 := hid hP4
              have Zhk4 := hid hk4
              have ZhI4 := hid hI4
              have ZhZ4 := hid hZ4
              have ZhO4 := hid hO4
              try clear hKK4 hP4 hk4 hI4 hZ4 hO4
              try simp only [Act.put, List.setIfInBounds_toArray, List.set_cons_zero, List.set_cons_succ]
              refine wpAnyH_take (i := 12) (oi := { dst := some 22, op := Op.move (Operand.tmp 34), type := 35, pos := "manifest.go:53", after := #[{ on := 11, ground := Ground.data }], guard := none }) (v := ?_) rfl (by kernel_rfl) (by kernel_rfl) (by kernel_rfl) (fun _ _ _ h => h) (Or.inl ⟨by rfl, ?hy⟩) hHeld ?_
              case hy => (intro w hSw; (try dsimp only at hSw); obtain ⟨_, _, _, _⟩ := hSw; go_simp; all_goals (with_reducible rfl))
              try simp only [Act.put, List.setIfInBounds_toArray, List.set_cons_zero, List.set_cons_succ]
              refine wpAnyH_take (i := 13) (oi := { dst := some 35, op := Op.extract (Operand.tmp 22) 0, type := 27, pos := "manifest.go:53", after := #[{ on := 12, ground := Ground.data }], guard := none }) (v := ?_) rfl (by kernel_rfl) (by kernel_rfl) (by kernel_rfl) (fun _ _ _ h => h) (Or.inl ⟨by rfl, ?hy⟩) hHeld ?_
              case hy => (intro w hSw; (try dsimp only at hSw); obtain ⟨_, _, _, _⟩ := hSw; go_simp; all_goals (with_reducible rfl))
              try simp only [Act.put, List.setIfInBounds_toArray, List.set_cons_zero, List.set_cons_succ]
              refine wpAnyH_take (i := 14) (oi := { dst := some 36, op := Op.extract (Operand.tmp 22) 1, type := 28, pos := "manifest.go:53", after := #[{ on := 12, ground := Ground.data }, { on := 17, ground := Ground.gcOnly Departure.lateStores }], guard := none }) (v := ?_) rfl (by kernel_rfl) (by kernel_rfl) (by kernel_rfl) (fun _ _ _ h => h) (Or.inl ⟨by rfl, ?hy⟩) hHeld ?_
              case hy => (intro w hSw; (try dsimp only at hSw); obtain ⟨_, _, _, _⟩ := hSw; go_simp; all_goals (with_reducible rfl))
              try simp only [Act.put, List.setIfInBounds_toArray, List.set_cons_zero, List.set_cons_succ]
              refine wpAnyH_take (i := 15) (oi := { dst := some 37, op := Op.extract (Operand.tmp 22) 2, type := 34, pos := "manifest.go:53", after := #[{ on := 12, ground := Ground.data }, { on := 18, ground := Ground.gcOnly Departure.lateStores }], guard := none }) (v := ?_) rfl (by kernel_rfl) (by kernel_rfl) (by kernel_rfl) (fun _ _ _ h => h) (Or.inl ⟨by rfl, ?hy⟩) hHeld ?_
              case hy => (intro w hSw; (try dsimp only at hSw); obtain ⟨_, _, _, _⟩ := hSw; go_simp; all_goals (with_reducible rfl))
              try simp only [Act.put, List.setIfInBounds_toArray, List.set_cons_zero, List.set_cons_succ]
              refine wpAnyH_ready (rs := [16]) (by kernel_rfl) (by simp) ?_
              refine AllReadyH.cons (o := { dst := some 3, op := Op.alloc 27, type := 0, pos := "manifest.go:53", after := #[], guard := none }) rfl (fun K hK => ?_) AllReadyH.nil
              refine step_mkm rfl rfl ?_
              intro mb5 wm5 hmb5 hM5 hb5 ml5
              have hKK5 : Below w2.heap.size w2 wm5 := (ZhKK4.out).trans (hb5.mono (ZhKK4.out).size)
              have mlo5 : w2.heap.size ≤ mb5 := by rw [hmb5]; exact (ZhKK4.out).size
              have Zhmb5 := hid hmb5
              clear hmb5
              refine hK.out _ _ (HKP.out _ hKK5) (fun hHeld => ?_)
              clear hK K
              have ZhM5 := hid hM5
              have ZhKK5 := hid hKK5
              try clear hM5 hKK5
              try simp only [Act.put, List.setIfInBounds_toArray, List.set_cons_zero, List.set_cons_succ]
              refine wpAnyH_ready (rs := [17]) (by kernel_rfl) (by simp) ?_
              refine AllReadyH.cons (o := { dst := none, op := Op.store 27 (Operand.tmp 3) (Operand.tmp 35), type := 0, pos := "manifest.go:53", after := #[{ on := 16, ground := Ground.data }, { on := 13, ground := Ground.data }, { on := 11, ground := Ground.chain }, { on := 0, ground := Ground.phase }, { on := 1, ground := Ground.phase }, { on := 2, ground := Ground.phase }, { on := 3, ground := Ground.phase }, { on := 4, ground := Ground.phase }, { on := 5, ground := Ground.phase }, { on := 6, ground := Ground.phase }, { on := 7, ground := Ground.phase }, { on := 8, ground := Ground.phase }, { on := 9, ground := Ground.phase }, { on := 10, ground := Ground.phase }, { on := 11, ground := Ground.phase }, { on := 12, ground := Ground.phase }, { on := 13, ground := Ground.phase }, { on := 14, ground := Ground.textOnly Departure.lateStores }, { on := 15, ground := Ground.textOnly Departure.lateStores }, { on := 16, ground := Ground.phase }], guard := none }) rfl (fun K hK => ?_) AllReadyH.nil
              refine step_store_row rfl 27 (.tmp 3) (.tmp 35) rfl mb5 mz M4 27 rfl rfl ZhM5.out ZhI4.out ZhZ4.out ZhO4.out ?_
              intro wz6 hz6 hkz6
              refine hK.out _ _ (HKP.out _ ((ZhKK5.out).trans (hkz6.below (ZhKK5.out).size mlo5))) (fun hHeld => ?_)
              clear hK K
              try simp only [Act.put]
              have LV := hid (mdx_late (fb := fb1) (Post := (POST fb1)) (ZHB3.out) ZhP4.out Zhk4.out Zhmb5.out hb5 ml5 hz6 hkz6)
              refine wpAnyH_take (i := 18) (oi := { dst := some 4, op := Op.assign (Operand.tmp 36), type := 28, pos := "manifest.go:53", after := #[{ on := 14, ground := Ground.data }, { on := 17, ground := Ground.chain }, { on := 0, ground := Ground.phase }, { on := 1, ground := Ground.phase }, { on := 2, ground := Ground.phase }, { on := 3, ground := Ground.phase }, { on := 4, ground := Ground.phase }, { on := 5, ground := Ground.phase }, { on := 6, ground := Ground.phase }, { on := 7, ground := Ground.phase }, { on := 8, ground := Ground.phase }, { on := 9, ground := Ground.phase }, { on := 10, ground := Ground.phase }, { on := 11, ground := Ground.phase }, { on := 12, ground := Ground.phase }, { on := 13, ground := Ground.phase }, { on := 14, ground := Ground.phase }, { on := 15, ground := Ground.textOnly Departure.lateStores }, { on := 16, ground := Ground.phase }, { on := 17, ground := Ground.phase }], guard := none }) (v := ?_) rfl (by kernel_rfl) (by kernel_rfl) (by kernel_rfl) (fun _ _ _ h => h) (Or.inl ⟨by rfl, ?hy⟩) hHeld ?_
              case hy => (intro w hSw; (try dsimp only at hSw); obtain ⟨_, _, _, _⟩ := hSw; go_simp; all_goals (with_reducible rfl))
              try simp only [Act.put, List.setIfInBounds_toArray, List.set_cons_zero, List.set_cons_succ]
              refine wpAnyH_take (i := 19) (oi := { dst := some 5, op := Op.assign (Operand.tmp 37), type := 34, pos := "manifest.go:53", after := #[{ on := 15, ground := Ground.data }, { on := 18, ground := Ground.chain }, { on := 0, ground := Ground.phase }, { on := 1, ground := Ground.phase }, { on := 2, ground := Ground.phase }, { on := 3, ground := Ground.phase }, { on := 4, ground := Ground.phase }, { on := 5, ground := Ground.phase }, { on := 6, ground := Ground.phase }, { on := 7, ground := Ground.phase }, { on := 8, ground := Ground.phase }, { on := 9, ground := Ground.phase }, { on := 10, ground := Ground.phase }, { on := 11, ground := Ground.phase }, { on := 12, ground := Ground.phase }, { on := 13, ground := Ground.phase }, { on := 14, ground := Ground.phase }, { on := 15, ground := Ground.phase }, { on := 16, ground := Ground.phase }, { on := 17, ground := Ground.phase }, { on := 18, ground := Ground.phase }], guard := none }) (v := ?_) rfl (by kernel_rfl) (by kernel_rfl) (by kernel_rfl) (fun _ _ _ h => h) (Or.inl ⟨by rfl, ?hy⟩) hHeld ?_
              case hy => (intro w hSw; (try dsimp only at hSw); obtain ⟨_, _, _, _⟩ := hSw; go_simp; all_goals (with_reducible rfl))
              try simp only [Act.put, List.setIfInBounds_toArray, List.set_cons_zero, List.set_cons_succ]
              refine wpAnyH_done (by kernel_rfl) ?_ _
              go_wp2_with fail
              go_meet
              exact ⟨_, rfl, fb1, flo1, _, _, _, _, rfl, rfl, rfl, LV⟩
            refine AllReadyH.cons (o := { dst := some 3, op := Op.alloc 27, type := 0, pos := "manifest.go:53", after := #[], guard := none }) rfl (fun K hK => ?_) AllReadyH.nil
            refine step_mkm rfl rfl ?_
            intro mb7 wm7 hmb7 hM7 hb7 ml7
            have HB7 : Below w2.heap.size w2 wm7 := (ZHB3.out).trans (hb7.mono (ZHB3.out).size)
            have mlo7 : w2.heap.size ≤ mb7 := by rw [hmb7]; exact (ZHB3.out).size
            have nmf7 : mb7 ≠ fb1 := by have := fl3; omega
            have hF7 := (hb7.block _ fl3).trans ZhF3.out
            have fl7 := Nat.lt_of_lt_of_le fl3 hb7.size
            have hbv7 := (Zhbv3.out).below hb7
            have hown7 := owns_belowX ZhdA3.out hb7
            clear hmb7
            refine hK.out _ _ (HKP.out _ HB7) (fun hHeld => ?_)
            clear hK K
            have ZHB7 := hid HB7
            have ZhM7 := hid hM7
            have ZhF7 := hid hF7
            have Zhbv7 := hid hbv7
            have Zhown7 := hid hown7
            try clear HB7 hM7 hF7 hbv7 hown7
            try simp only [Act.put, List.setIfInBounds_toArray, List.set_cons_zero, List.set_cons_succ]
            refine wpAnyH_ready (rs := [11]) (by kernel_rfl) (by simp) ?_
            refine AllReadyH.cons (o := { dst := some 34, op := Op.call { callee := Callee.value (Operand.func 13), args := #[Operand.tmp 23, Operand.tmp 25, Operand.tmp 27, Operand.tmp 29, Operand.tmp 33], argTypes := #[37, 3, 3, 3, 22] }, type := 35, pos := "manifest.go:53", after := #[{ on := 0, ground := Ground.data }, { on := 2, ground := Ground.data }, { on := 4, ground := Ground.data }, { on := 6, ground := Ground.data }, { on := 10, ground := Ground.data }, { on := 10, ground := Ground.chain }], guard := none }) rfl (fun K hK => ?_) AllReadyH.nil
            go_simp
            refine (HMK.out fb1 wm7 (ZHB7.out) flo1 ZhF7.out av3 cv3 (Zhbv7.out) Zhcv3.out (off_typeX Zhown7.out ZhF7.out (by decide))).mono ?_
            rintro e wm8 ⟨M8, pv8, ev8, rfl, hP8, hk8, hI8, hZ8, hO8⟩
            have hKK8 : Below w2.heap.size w2 wm8 := (ZHB7.out).trans (hk8.below (ZHB7.out).size flo1)
            have hM8 := (hk8.block _ ml7 nmf7).trans ZhM7.out
            clear hHeld
            go_wp2_with fail
            refine hK.out _ _ (HKP.out _ hKK8) (fun hHeld => ?_)
            clear hK K
            have ZhM8 := hid hM8
            have ZhKK8 := hid hKK8
            have ZhP8 := hid hP8
            have Zhk8 := hid hk8
            have ZhI8 := hid hI8
            have ZhZ8 := hid hZ8
            have ZhO8 := hid hO8
            try clear hM8 hKK8 hP8 hk8 hI8 hZ8 hO8
            try simp only [Act.put, List.setIfInBounds_toArray, List.set_cons_zero, List.set_cons_succ]
            refine wpAnyH_take (i := 12) (oi := { dst := some 22, op := Op.move (Operand.tmp 34), type := 35, pos := "manifest.go:53", after := #[{ on := 11, ground := Ground.data }], guard := none }) (v := ?_) rfl (by kernel_rfl) (by kernel_rfl) (by kernel_rfl) (fun _ _ _ h => h) (Or.inl ⟨by rfl, ?hy⟩) hHeld ?_
            case hy => (intro w hSw; (try dsimp only at hSw); obtain ⟨_, _, _, _⟩ := hSw; go_simp; all_goals (with_reducible rfl))
            try simp only [Act.put, List.setIfInBounds_toArray, List.set_cons_zero, List.set_cons_succ]
            refine wpAnyH_take (i := 13) (oi := { dst := some 35, op := Op.extract (Operand.tmp 22) 0, type := 27, pos := "manifest.go:53", after := #[{ on := 12, ground := Ground.data }], guard := none }) (v := ?_) rfl (by kernel_rfl) (by kernel_rfl) (by kernel_rfl) (fun _ _ _ h => h) (Or.inl ⟨by rfl, ?hy⟩) hHeld ?_
            case hy => (intro w hSw; (try dsimp only at hSw); obtain ⟨_, _, _, _⟩ := hSw; go_simp; all_goals (with_reducible rfl))
            try simp only [Act.put, List.setIfInBounds_toArray, List.set_cons_zero, List.set_cons_succ]
            refine wpAnyH_take (i := 14) (oi := { dst := some 36, op := Op.extract (Operand.tmp 22) 1, type := 28, pos := "manifest.go:53", after := #[{ on := 12, ground := Ground.data }, { on := 17, ground := Ground.gcOnly Departure.lateStores }], guard := none }) (v := ?_) rfl (by kernel_rfl) (by kernel_rfl) (by kernel_rfl) (fun _ _ _ h => h) (Or.inl ⟨by rfl, ?hy⟩) hHeld ?_
            case hy => (intro w hSw; (try dsimp only at hSw); obtain ⟨_, _, _, _⟩ := hSw; go_simp; all_goals (with_reducible rfl))
            try simp only [Act.put, List.setIfInBounds_toArray, List.set_cons_zero, List.set_cons_succ]
            refine wpAnyH_take (i := 15) (oi := { dst := some 37, op := Op.extract (Operand.tmp 22) 2, type := 34, pos := "manifest.go:53", after := #[{ on := 12, ground := Ground.data }, { on := 18, ground := Ground.gcOnly Departure.lateStores }], guard := none }) (v := ?_) rfl (by kernel_rfl) (by kernel_rfl) (by kernel_rfl) (fun _ _ _ h => h) (Or.inl ⟨by rfl, ?hy⟩) hHeld ?_
            case hy => (intro w hSw; (try dsimp only at hSw); obtain ⟨_, _, _, _⟩ := hSw; go_simp; all_goals (with_reducible rfl))
            try simp only [Act.put, List.setIfInBounds_toArray, List.set_cons_zero, List.set_cons_succ]
            refine wpAnyH_ready (rs := [17]) (by kernel_rfl) (by simp) ?_
            refine AllReadyH.cons (o := { dst := none, op := Op.store 27 (Operand.tmp 3) (Operand.tmp 35), type := 0, pos := "manifest.go:53", after := #[{ on := 16, ground := Ground.data }, { on := 13, ground := Ground.data }, { on := 11, ground := Ground.chain }, { on := 0, ground := Ground.phase }, { on := 1, ground := Ground.phase }, { on := 2, ground := Ground.phase }, { on := 3, ground := Ground.phase }, { on := 4, ground := Ground.phase }, { on := 5, ground := Ground.phase }, { on := 6, ground := Ground.phase }, { on := 7, ground := Ground.phase }, { on := 8, ground := Ground.phase }, { on := 9, ground := Ground.phase }, { on := 10, ground := Ground.phase }, { on := 11, ground := Ground.phase }, { on := 12, ground := Ground.phase }, { on := 13, ground := Ground.phase }, { on := 14, ground := Ground.textOnly Departure.lateStores }, { on := 15, ground := Ground.textOnly Departure.lateStores }, { on := 16, ground := Ground.phase }], guard := none }) rfl (fun K hK => ?_) AllReadyH.nil
            refine step_store_row rfl 27 (.tmp 3) (.tmp 35) rfl mb7 mz M8 27 rfl rfl ZhM8.out ZhI8.out ZhZ8.out ZhO8.out ?_
            intro wz9 hz9 hkz9
            refine hK.out _ _ (HKP.out _ ((ZhKK8.out).trans (hkz9.below (ZhKK8.out).size mlo7))) (fun hHeld => ?_)
            clear hK K
            try simp only [Act.put]
            have LV := hid (mdx_early (fb := fb1) (Post := (POST fb1)) (ZHB7.out) ZhP8.out Zhk8.out mlo7 ml7 hz9 hkz9)
            refine wpAnyH_take (i := 18) (oi := { dst := some 4, op := Op.assign (Operand.tmp 36), type := 28, pos := "manifest.go:53", after := #[{ on := 14, ground := Ground.data }, { on := 17, ground := Ground.chain }, { on := 0, ground := Ground.phase }, { on := 1, ground := Ground.phase }, { on := 2, ground := Ground.phase }, { on := 3, ground := Ground.phase }, { on := 4, ground := Ground.phase }, { on := 5, ground := Ground.phase }, { on := 6, ground := Ground.phase }, { on := 7, ground := Ground.phase }, { on := 8, ground := Ground.phase }, { on := 9, ground := Ground.phase }, { on := 10, ground := Ground.phase }, { on := 11, ground := Ground.phase }, { on := 12, ground := Ground.phase }, { on := 13, ground := Ground.phase }, { on := 14, ground := Ground.phase }, { on := 15, ground := Ground.textOnly Departure.lateStores }, { on := 16, ground := Ground.phase }, { on := 17, ground := Ground.phase }], guard := none }) (v := ?_) rfl (by kernel_rfl) (by kernel_rfl) (by kernel_rfl) (fun _ _ _ h => h) (Or.inl ⟨by rfl, ?hy⟩) hHeld ?_
            case hy => (intro w hSw; (try dsimp only at hSw); obtain ⟨_, _, _, _⟩ := hSw; go_simp; all_goals (with_reducible rfl))
            try simp only [Act.put, List.setIfInBounds_toArray, List.set_cons_zero, List.set_cons_succ]
            refine wpAnyH_take (i := 19) (oi := { dst := some 5, op := Op.assign (Operand.tmp 37), type := 34, pos := "manifest.go:53", after := #[{ on := 15, ground := Ground.data }, { on := 18, ground := Ground.chain }, { on := 0, ground := Ground.phase }, { on := 1, ground := Ground.phase }, { on := 2, ground := Ground.phase }, { on := 3, ground := Ground.phase }, { on := 4, ground := Ground.phase }, { on := 5, ground := Ground.phase }, { on := 6, ground := Ground.phase }, { on := 7, ground := Ground.phase }, { on := 8, ground := Ground.phase }, { on := 9, ground := Ground.phase }, { on := 10, ground := Ground.phase }, { on := 11, ground := Ground.phase }, { on := 12, ground := Ground.phase }, { on := 13, ground := Ground.phase }, { on := 14, ground := Ground.phase }, { on := 15, ground := Ground.phase }, { on := 16, ground := Ground.phase }, { on := 17, ground := Ground.phase }, { on := 18, ground := Ground.phase }], guard := none }) (v := ?_) rfl (by kernel_rfl) (by kernel_rfl) (by kernel_rfl) (fun _ _ _ h => h) (Or.inl ⟨by rfl, ?hy⟩) hHeld ?_
            case hy => (intro w hSw; (try dsimp only at hSw); obtain ⟨_, _, _, _⟩ := hSw; go_simp; all_goals (with_reducible rfl))
            try simp only [Act.put, List.setIfInBounds_toArray, List.set_cons_zero, List.set_cons_succ]
            refine wpAnyH_done (by kernel_rfl) ?_ _
            go_wp2_with fail
            go_meet
            exact ⟨_, rfl, fb1, flo1, _, _, _, _, rfl, rfl, rfl, LV⟩
          refine AllReadyH.cons (o := { dst := some 3, op := Op.alloc 27, type := 0, pos := "manifest.go:53", after := #[], guard := none }) rfl (fun K hK => ?_) AllReadyH.nil
          refine step_mkm rfl rfl ?_
          intro mb10 wm10 hmb10 hM10 hb10 ml10
          have HB10 : Below w2.heap.size w2 wm10 := (ZHB2.out).trans (hb10.mono (ZHB2.out).size)
          have mlo10 : w2.heap.size ≤ mb10 := by rw [hmb10]; exact (ZHB2.out).size
          have nmg10 : mb10 ≠ g2 := by have := gl2; omega
          have nmf10 : mb10 ≠ fb1 := by have := fl2; omega
          have hE10 := (hb10.block _ gl2).trans ZhE2.out
          have gl10 := Nat.lt_of_lt_of_le gl2 hb10.size
          have hF10 := (hb10.block _ fl2).trans ZhF2.out
          have fl10 := Nat.lt_of_lt_of_le fl2 hb10.size
          clear hmb10
          refine hK.out _ _ (HKP.out _ HB10) (fun hHeld => ?_)
          clear hK K
          have ZHB10 := hid HB10
          have ZhE10 := hid hE10
          have ZhM10 := hid hM10
          have ZhF10 := hid hF10
          try clear HB10 hE10 hM10 hF10
          try simp only [Act.put, List.setIfInBounds_toArray, List.set_cons_zero, List.set_cons_succ]
          refine wpAnyH_ready (rs := [10]) (by kernel_rfl) (by simp) ?_
          refine AllReadyH.cons (o := { dst := some 33, op := Op.call { callee := Callee.builtin Builtin.append, args := #[Operand.tmp 30, Operand.tmp 32], argTypes := #[22, 22] }, type := 22, pos := "manifest.go:53", after := #[{ on := 7, ground := Ground.data }, { on := 9, ground := Ground.data }, { on := 0, ground := Ground.chain }], guard := none }) rfl (fun K hK => ?_) AllReadyH.nil
          refine step_own_bytes rfl (.tmp 30) (.tmp 32) rfl w2.heap.size g2 rfl (own_emptyM ZhE10.out glo2) da dl dc ld rfl (HD.out.below (ZHB10.out)) HDN.out (by omega) (ZHB10.out).size ?_
          intro v11 wm11 hdA11 hgA11
          have nil11 := hdA11
          obtain ⟨av11, cv11, ev11, -, hcv11, hbv11, hlow11⟩ := bs_of_owns hdA11 HDL.out
          subst ev11
          have HB11 : Below w2.heap.size w2 wm11 := (ZHB10.out).grown hgA11 (ZHB10.out).size (fun q hq => by have := glo2; simp at hq; omega)
          have hM11 := (hgA11.block _ ml10 (by simp; exact nmg10)).trans ZhM10.out
          have ml11 := Nat.lt_of_lt_of_le ml10 hgA11.size
          have hF11 := (hgA11.block _ fl10 (by simp; exact nfg2)).trans ZhF10.out
          have fl11 := Nat.lt_of_lt_of_le fl10 hgA11.size
          refine hK.out _ _ (HKP.out _ HB11) (fun hHeld => ?_)
          clear hK K
          have ZHB11 := hid HB11
          have ZhM11 := hid hM11
          have ZhF11 := hid hF11
          have Zhbv11 := hid hbv11
          have Zhcv11 := hid hcv11
          have Zhlow11 := hid hlow11
          have ZhdA11 := hid hdA11
          try clear HB11 hM11 hF11 hbv11 hcv11 hlow11 hdA11
          try simp only [Act.put, List.setIfInBounds_toArray, List.set_cons_zero, List.set_cons_succ]
          refine wpAnyH_ready (rs := [11]) (by kernel_rfl) (by simp) ?_
          refine AllReadyH.cons (o := { dst := some 34, op := Op.call { callee := Callee.value (Operand.func 13), args := #[Operand.tmp 23, Operand.tmp 25, Operand.tmp 27, Operand.tmp 29, Operand.tmp 33], argTypes := #[37, 3, 3, 3, 22] }, type := 35, pos := "manifest.go:53", after := #[{ on := 0, ground := Ground.data }, { on := 2, ground := Ground.data }, { on := 4, ground := Ground.data }, { on := 6, ground := Ground.data }, { on := 10, ground := Ground.data }, { on := 10, ground := Ground.chain }], guard := none }) rfl (fun K hK => ?_) AllReadyH.nil
          go_simp
          refine (HMK.out fb1 wm11 (ZHB11.out) flo1 ZhF11.out av11 cv11 (Zhbv11.out) Zhcv11.out (off_typeX ZhdA11.out ZhF11.out (by decide))).mono ?_
          rintro e wm12 ⟨M12, pv12, ev12, rfl, hP12, hk12, hI12, hZ12, hO12⟩
          have hKK12 : Below w2.heap.size w2 wm12 := (ZHB11.out).trans (hk12.below (ZHB11.out).size flo1)
          have hM12 := (hk12.block _ ml11 nmf10).trans ZhM11.out
          clear hHeld
          go_wp2_with fail
          refine hK.out _ _ (HKP.out _ hKK12) (fun hHeld => ?_)
          clear hK K
          have ZhM12 := hid hM12
          have ZhKK12 := hid hKK12
          have ZhP12 := hid hP12
          have Zhk12 := hid hk12
          have ZhI12 := hid hI12
          have ZhZ12 := hid hZ12
          have ZhO12 := hid hO12
          try clear hM12 hKK12 hP12 hk12 hI12 hZ12 hO12
          try simp only [Act.put, List.setIfInBounds_toArray, List.set_cons_zero, List.set_cons_succ]
          refine wpAnyH_take (i := 12) (oi := { dst := some 22, op := Op.move (Operand.tmp 34), type := 35, pos := "manifest.go:53", after := #[{ on := 11, ground := Ground.data }], guard := none }) (v := ?_) rfl (by kernel_rfl) (by kernel_rfl) (by kernel_rfl) (fun _ _ _ h => h) (Or.inl ⟨by rfl, ?hy⟩) hHeld ?_
          case hy => (intro w hSw; (try dsimp only at hSw); obtain ⟨_, _, _, _⟩ := hSw; go_simp; all_goals (with_reducible rfl))
          try simp only [Act.put, List.setIfInBounds_toArray, List.set_cons_zero, List.set_cons_succ]
          refine wpAnyH_take (i := 13) (oi := { dst := some 35, op := Op.extract (Operand.tmp 22) 0, type := 27, pos := "manifest.go:53", after := #[{ on := 12, ground := Ground.data }], guard := none }) (v := ?_) rfl (by kernel_rfl) (by kernel_rfl) (by kernel_rfl) (fun _ _ _ h => h) (Or.inl ⟨by rfl, ?hy⟩) hHeld ?_
          case hy => (intro w hSw; (try dsimp only at hSw); obtain ⟨_, _, _, _⟩ := hSw; go_simp; all_goals (with_reducible rfl))
          try simp only [Act.put, List.setIfInBounds_toArray, List.set_cons_zero, List.set_cons_succ]
          refine wpAnyH_take (i := 14) (oi := { dst := some 36, op := Op.extract (Operand.tmp 22) 1, type := 28, pos := "manifest.go:53", after := #[{ on := 12, ground := Ground.data }, { on := 17, ground := Ground.gcOnly Departure.lateStores }], guard := none }) (v := ?_) rfl (by kernel_rfl) (by kernel_rfl) (by kernel_rfl) (fun _ _ _ h => h) (Or.inl ⟨by rfl, ?hy⟩) hHeld ?_
          case hy => (intro w hSw; (try dsimp only at hSw); obtain ⟨_, _, _, _⟩ := hSw; go_simp; all_goals (with_reducible rfl))
          try simp only [Act.put, List.setIfInBounds_toArray, List.set_cons_zero, List.set_cons_succ]
          refine wpAnyH_take (i := 15) (oi := { dst := some 37, op := Op.extract (Operand.tmp 22) 2, type := 34, pos := "manifest.go:53", after := #[{ on := 12, ground := Ground.data }, { on := 18, ground := Ground.gcOnly Departure.lateStores }], guard := none }) (v := ?_) rfl (by kernel_rfl) (by kernel_rfl) (by kernel_rfl) (fun _ _ _ h => h) (Or.inl ⟨by rfl, ?hy⟩) hHeld ?_
          case hy => (intro w hSw; (try dsimp only at hSw); obtain ⟨_, _, _, _⟩ := hSw; go_simp; all_goals (with_reducible rfl))
          try simp only [Act.put, List.setIfInBounds_toArray, List.set_cons_zero, List.set_cons_succ]
          refine wpAnyH_ready (rs := [17]) (by kernel_rfl) (by simp) ?_
          refine AllReadyH.cons (o := { dst := none, op := Op.store 27 (Operand.tmp 3) (Operand.tmp 35), type := 0, pos := "manifest.go:53", after := #[{ on := 16, ground := Ground.data }, { on := 13, ground := Ground.data }, { on := 11, ground := Ground.chain }, { on := 0, ground := Ground.phase }, { on := 1, ground := Ground.phase }, { on := 2, ground := Ground.phase }, { on := 3, ground := Ground.phase }, { on := 4, ground := Ground.phase }, { on := 5, ground := Ground.phase }, { on := 6, ground := Ground.phase }, { on := 7, ground := Ground.phase }, { on := 8, ground := Ground.phase }, { on := 9, ground := Ground.phase }, { on := 10, ground := Ground.phase }, { on := 11, ground := Ground.phase }, { on := 12, ground := Ground.phase }, { on := 13, ground := Ground.phase }, { on := 14, ground := Ground.textOnly Departure.lateStores }, { on := 15, ground := Ground.textOnly Departure.lateStores }, { on := 16, ground := Ground.phase }], guard := none }) rfl (fun K hK => ?_) AllReadyH.nil
          refine step_store_row rfl 27 (.tmp 3) (.tmp 35) rfl mb10 mz M12 27 rfl rfl ZhM12.out ZhI12.out ZhZ12.out ZhO12.out ?_
          intro wz13 hz13 hkz13
          refine hK.out _ _ (HKP.out _ ((ZhKK12.out).trans (hkz13.below (ZhKK12.out).size mlo10))) (fun hHeld => ?_)
          clear hK K
          try simp only [Act.put]
          have LV := hid (mdx_early (fb := fb1) (Post := (POST fb1)) (ZHB11.out) ZhP12.out Zhk12.out mlo10 ml11 hz13 hkz13)
          refine wpAnyH_take (i := 18) (oi := { dst := some 4, op := Op.assign (Operand.tmp 36), type := 28, pos := "manifest.go:53", after := #[{ on := 14, ground := Ground.data }, { on := 17, ground := Ground.chain }, { on := 0, ground := Ground.phase }, { on := 1, ground := Ground.phase }, { on := 2, ground := Ground.phase }, { on := 3, ground := Ground.phase }, { on := 4, ground := Ground.phase }, { on := 5, ground := Ground.phase }, { on := 6, ground := Ground.phase }, { on := 7, ground := Ground.phase }, { on := 8, ground := Ground.phase }, { on := 9, ground := Ground.phase }, { on := 10, ground := Ground.phase }, { on := 11, ground := Ground.phase }, { on := 12, ground := Ground.phase }, { on := 13, ground := Ground.phase }, { on := 14, ground := Ground.phase }, { on := 15, ground := Ground.textOnly Departure.lateStores }, { on := 16, ground := Ground.phase }, { on := 17, ground := Ground.phase }], guard := none }) (v := ?_) rfl (by kernel_rfl) (by kernel_rfl) (by kernel_rfl) (fun _ _ _ h => h) (Or.inl ⟨by rfl, ?hy⟩) hHeld ?_
          case hy => (intro w hSw; (try dsimp only at hSw); obtain ⟨_, _, _, _⟩ := hSw; go_simp; all_goals (with_reducible rfl))
          try simp only [Act.put, List.setIfInBounds_toArray, List.set_cons_zero, List.set_cons_succ]
          refine wpAnyH_take (i := 19) (oi := { dst := some 5, op := Op.assign (Operand.tmp 37), type := 34, pos := "manifest.go:53", after := #[{ on := 15, ground := Ground.data }, { on := 18, ground := Ground.chain }, { on := 0, ground := Ground.phase }, { on := 1, ground := Ground.phase }, { on := 2, ground := Ground.phase }, { on := 3, ground := Ground.phase }, { on := 4, ground := Ground.phase }, { on := 5, ground := Ground.phase }, { on := 6, ground := Ground.phase }, { on := 7, ground := Ground.phase }, { on := 8, ground := Ground.phase }, { on := 9, ground := Ground.phase }, { on := 10, ground := Ground.phase }, { on := 11, ground := Ground.phase }, { on := 12, ground := Ground.phase }, { on := 13, ground := Ground.phase }, { on := 14, ground := Ground.phase }, { on := 15, ground := Ground.phase }, { on := 16, ground := Ground.phase }, { on := 17, ground := Ground.phase }, { on := 18, ground := Ground.phase }], guard := none }) (v := ?_) rfl (by kernel_rfl) (by kernel_rfl) (by kernel_rfl) (fun _ _ _ h => h) (Or.inl ⟨by rfl, ?hy⟩) hHeld ?_
          case hy => (intro w hSw; (try dsimp only at hSw); obtain ⟨_, _, _, _⟩ := hSw; go_simp; all_goals (with_reducible rfl))
          try simp only [Act.put, List.setIfInBounds_toArray, List.set_cons_zero, List.set_cons_succ]
          refine wpAnyH_done (by kernel_rfl) ?_ _
          go_wp2_with fail
          go_meet
          exact ⟨_, rfl, fb1, flo1, _, _, _, _, rfl, rfl, rfl, LV⟩
        refine AllReadyH.cons (o := { dst := some 3, op := Op.alloc 27, type := 0, pos := "manifest.go:53", after := #[], guard := none }) rfl (fun K hK => ?_) AllReadyH.nil
        refine step_mkm rfl rfl ?_
        intro mb14 wm14 hmb14 hM14 hb14 ml14
        have HB14 : Below w2.heap.size w2 wm14 := (ZHB1.out).trans (hb14.mono (ZHB1.out).size)
        have mlo14 : w2.heap.size ≤ mb14 := by rw [hmb14]; exact (ZHB1.out).size
        have nmf14 : mb14 ≠ fb1 := by have := fl1; omega
        have hF14 := (hb14.block _ fl1).trans ZhF1.out
        have fl14 := Nat.lt_of_lt_of_le fl1 hb14.size
        clear hmb14
        refine hK.out _ _ (HKP.out _ HB14) (fun hHeld => ?_)
        clear hK K
        have ZHB14 := hid HB14
        have ZhM14 := hid hM14
        have ZhF14 := hid hF14
        try clear HB14 hM14 hF14
        try simp only [Act.put, List.setIfInBounds_toArray, List.set_cons_zero, List.set_cons_succ]
        refine wpAnyH_ready (rs := [7]) (by kernel_rfl) (by simp) ?_
        refine AllReadyH.cons (o := { dst := some 30, op := Op.buildSlice 22 0 #[], type := 22, pos := "manifest.go:53", after := #[], guard := none }) rfl (fun K hK => ?_) AllReadyH.nil
        refine step_build0 rfl rfl ?_
        intro g15 wm15 hge15 hE15 hb15 gl15
        have HB15 : Below w2.heap.size w2 wm15 := (ZHB14.out).trans (hb15.mono (ZHB14.out).size)
        have nfg15 : fb1 ≠ g15 := by have := fl14; omega
        have nmg15 : mb14 ≠ g15 := by have := ml14; omega
        have hM15 := (hb15.block _ ml14).trans ZhM14.out
        have ml15 := Nat.lt_of_lt_of_le ml14 hb15.size
        have hF15 := (hb15.block _ fl14).trans ZhF14.out
        have fl15 := Nat.lt_of_lt_of_le fl14 hb15.size
        have glo15 : w2.heap.size ≤ g15 := by rw [hge15]; exact (ZHB14.out).size
        clear hge15
        refine hK.out _ _ (HKP.out _ HB15) (fun hHeld => ?_)
        clear hK K
        have ZHB15 := hid HB15
        have ZhE15 := hid hE15
        have ZhM15 := hid hM15
        have ZhF15 := hid hF15
        try clear HB15 hE15 hM15 hF15
        try simp only [Act.put, List.setIfInBounds_toArray, List.set_cons_zero, List.set_cons_succ]
        refine wpAnyH_ready (rs := [10]) (by kernel_rfl) (by simp) ?_
        refine AllReadyH.cons (o := { dst := some 33, op := Op.call { callee := Callee.builtin Builtin.append, args := #[Operand.tmp 30, Operand.tmp 32], argTypes := #[22, 22] }, type := 22, pos := "manifest.go:53", after := #[{ on := 7, ground := Ground.data }, { on := 9, ground := Ground.data }, { on := 0, ground := Ground.chain }], guard := none }) rfl (fun K hK => ?_) AllReadyH.nil
        refine step_own_bytes rfl (.tmp 30) (.tmp 32) rfl w2.heap.size g15 rfl (own_emptyM ZhE15.out glo15) da dl dc ld rfl (HD.out.below (ZHB15.out)) HDN.out (by omega) (ZHB15.out).size ?_
        intro v16 wm16 hdA16 hgA16
        have nil16 := hdA16
        obtain ⟨av16, cv16, ev16, -, hcv16, hbv16, hlow16⟩ := bs_of_owns hdA16 HDL.out
        subst ev16
        have HB16 : Below w2.heap.size w2 wm16 := (ZHB15.out).grown hgA16 (ZHB15.out).size (fun q hq => by have := glo15; simp at hq; omega)
        have hM16 := (hgA16.block _ ml15 (by simp; exact nmg15)).trans ZhM15.out
        have ml16 := Nat.lt_of_lt_of_le ml15 hgA16.size
        have hF16 := (hgA16.block _ fl15 (by simp; exact nfg15)).trans ZhF15.out
        have fl16 := Nat.lt_of_lt_of_le fl15 hgA16.size
        refine hK.out _ _ (HKP.out _ HB16) (fun hHeld => ?_)
        clear hK K
        have ZHB16 := hid HB16
        have ZhM16 := hid hM16
        have ZhF16 := hid hF16
        have Zhbv16 := hid hbv16
        have Zhcv16 := hid hcv16
        have Zhlow16 := hid hlow16
        have ZhdA16 := hid hdA16
        try clear HB16 hM16 hF16 hbv16 hcv16 hlow16 hdA16
        try simp only [Act.put, List.setIfInBounds_toArray, List.set_cons_zero, List.set_cons_succ]
        refine wpAnyH_ready (rs := [11]) (by kernel_rfl) (by simp) ?_
        refine AllReadyH.cons (o := { dst := some 34, op := Op.call { callee := Callee.value (Operand.func 13), args := #[Operand.tmp 23, Operand.tmp 25, Operand.tmp 27, Operand.tmp 29, Operand.tmp 33], argTypes := #[37, 3, 3, 3, 22] }, type := 35, pos := "manifest.go:53", after := #[{ on := 0, ground := Ground.data }, { on := 2, ground := Ground.data }, { on := 4, ground := Ground.data }, { on := 6, ground := Ground.data }, { on := 10, ground := Ground.data }, { on := 10, ground := Ground.chain }], guard := none }) rfl (fun K hK => ?_) AllReadyH.nil
        go_simp
        refine (HMK.out fb1 wm16 (ZHB16.out) flo1 ZhF16.out av16 cv16 (Zhbv16.out) Zhcv16.out (off_typeX ZhdA16.out ZhF16.out (by decide))).mono ?_
        rintro e wm17 ⟨M17, pv17, ev17, rfl, hP17, hk17, hI17, hZ17, hO17⟩
        have hKK17 : Below w2.heap.size w2 wm17 := (ZHB16.out).trans (hk17.below (ZHB16.out).size flo1)
        have hM17 := (hk17.block _ ml16 nmf14).trans ZhM16.out
        clear hHeld
        go_wp2_with fail
        refine hK.out _ _ (HKP.out _ hKK17) (fun hHeld => ?_)
        clear hK K
        have ZhM17 := hid hM17
        have ZhKK17 := hid hKK17
        have ZhP17 := hid hP17
        have Zhk17 := hid hk17
        have ZhI17 := hid hI17
        have ZhZ17 := hid hZ17
        have ZhO17 := hid hO17
        try clear hM17 hKK17 hP17 hk17 hI17 hZ17 hO17
        try simp only [Act.put, List.setIfInBounds_toArray, List.set_cons_zero, List.set_cons_succ]
        refine wpAnyH_take (i := 12) (oi := { dst := some 22, op := Op.move (Operand.tmp 34), type := 35, pos := "manifest.go:53", after := #[{ on := 11, ground := Ground.data }], guard := none }) (v := ?_) rfl (by kernel_rfl) (by kernel_rfl) (by kernel_rfl) (fun _ _ _ h => h) (Or.inl ⟨by rfl, ?hy⟩) hHeld ?_
        case hy => (intro w hSw; (try dsimp only at hSw); obtain ⟨_, _, _, _⟩ := hSw; go_simp; all_goals (with_reducible rfl))
        try simp only [Act.put, List.setIfInBounds_toArray, List.set_cons_zero, List.set_cons_succ]
        refine wpAnyH_take (i := 13) (oi := { dst := some 35, op := Op.extract (Operand.tmp 22) 0, type := 27, pos := "manifest.go:53", after := #[{ on := 12, ground := Ground.data }], guard := none }) (v := ?_) rfl (by kernel_rfl) (by kernel_rfl) (by kernel_rfl) (fun _ _ _ h => h) (Or.inl ⟨by rfl, ?hy⟩) hHeld ?_
        case hy => (intro w hSw; (try dsimp only at hSw); obtain ⟨_, _, _, _⟩ := hSw; go_simp; all_goals (with_reducible rfl))
        try simp only [Act.put, List.setIfInBounds_toArray, List.set_cons_zero, List.set_cons_succ]
        refine wpAnyH_take (i := 14) (oi := { dst := some 36, op := Op.extract (Operand.tmp 22) 1, type := 28, pos := "manifest.go:53", after := #[{ on := 12, ground := Ground.data }, { on := 17, ground := Ground.gcOnly Departure.lateStores }], guard := none }) (v := ?_) rfl (by kernel_rfl) (by kernel_rfl) (by kernel_rfl) (fun _ _ _ h => h) (Or.inl ⟨by rfl, ?hy⟩) hHeld ?_
        case hy => (intro w hSw; (try dsimp only at hSw); obtain ⟨_, _, _, _⟩ := hSw; go_simp; all_goals (with_reducible rfl))
        try simp only [Act.put, List.setIfInBounds_toArray, List.set_cons_zero, List.set_cons_succ]
        refine wpAnyH_take (i := 15) (oi := { dst := some 37, op := Op.extract (Operand.tmp 22) 2, type := 34, pos := "manifest.go:53", after := #[{ on := 12, ground := Ground.data }, { on := 18, ground := Ground.gcOnly Departure.lateStores }], guard := none }) (v := ?_) rfl (by kernel_rfl) (by kernel_rfl) (by kernel_rfl) (fun _ _ _ h => h) (Or.inl ⟨by rfl, ?hy⟩) hHeld ?_
        case hy => (intro w hSw; (try dsimp only at hSw); obtain ⟨_, _, _, _⟩ := hSw; go_simp; all_goals (with_reducible rfl))
        try simp only [Act.put, List.setIfInBounds_toArray, List.set_cons_zero, List.set_cons_succ]
        refine wpAnyH_ready (rs := [17]) (by kernel_rfl) (by simp) ?_
        refine AllReadyH.cons (o := { dst := none, op := Op.store 27 (Operand.tmp 3) (Operand.tmp 35), type := 0, pos := "manifest.go:53", after := #[{ on := 16, ground := Ground.data }, { on := 13, ground := Ground.data }, { on := 11, ground := Ground.chain }, { on := 0, ground := Ground.phase }, { on := 1, ground := Ground.phase }, { on := 2, ground := Ground.phase }, { on := 3, ground := Ground.phase }, { on := 4, ground := Ground.phase }, { on := 5, ground := Ground.phase }, { on := 6, ground := Ground.phase }, { on := 7, ground := Ground.phase }, { on := 8, ground := Ground.phase }, { on := 9, ground := Ground.phase }, { on := 10, ground := Ground.phase }, { on := 11, ground := Ground.phase }, { on := 12, ground := Ground.phase }, { on := 13, ground := Ground.phase }, { on := 14, ground := Ground.textOnly Departure.lateStores }, { on := 15, ground := Ground.textOnly Departure.lateStores }, { on := 16, ground := Ground.phase }], guard := none }) rfl (fun K hK => ?_) AllReadyH.nil
        refine step_store_row rfl 27 (.tmp 3) (.tmp 35) rfl mb14 mz M17 27 rfl rfl ZhM17.out ZhI17.out ZhZ17.out ZhO17.out ?_
        intro wz18 hz18 hkz18
        refine hK.out _ _ (HKP.out _ ((ZhKK17.out).trans (hkz18.below (ZhKK17.out).size mlo14))) (fun hHeld => ?_)
        clear hK K
        try simp only [Act.put]
        have LV := hid (mdx_early (fb := fb1) (Post := (POST fb1)) (ZHB16.out) ZhP17.out Zhk17.out mlo14 ml16 hz18 hkz18)
        refine wpAnyH_take (i := 18) (oi := { dst := some 4, op := Op.assign (Operand.tmp 36), type := 28, pos := "manifest.go:53", after := #[{ on := 14, ground := Ground.data }, { on := 17, ground := Ground.chain }, { on := 0, ground := Ground.phase }, { on := 1, ground := Ground.phase }, { on := 2, ground := Ground.phase }, { on := 3, ground := Ground.phase }, { on := 4, ground := Ground.phase }, { on := 5, ground := Ground.phase }, { on := 6, ground := Ground.phase }, { on := 7, ground := Ground.phase }, { on := 8, ground := Ground.phase }, { on := 9, ground := Ground.phase }, { on := 10, ground := Ground.phase }, { on := 11, ground := Ground.phase }, { on := 12, ground := Ground.phase }, { on := 13, ground := Ground.phase }, { on := 14, ground := Ground.phase }, { on := 15, ground := Ground.textOnly Departure.lateStores }, { on := 16, ground := Ground.phase }, { on := 17, ground := Ground.phase }], guard := none }) (v := ?_) rfl (by kernel_rfl) (by kernel_rfl) (by kernel_rfl) (fun _ _ _ h => h) (Or.inl ⟨by rfl, ?hy⟩) hHeld ?_
        case hy => (intro w hSw; (try dsimp only at hSw); obtain ⟨_, _, _, _⟩ := hSw; go_simp; all_goals (with_reducible rfl))
        try simp only [Act.put, List.setIfInBounds_toArray, List.set_cons_zero, List.set_cons_succ]
        refine wpAnyH_take (i := 19) (oi := { dst := some 5, op := Op.assign (Operand.tmp 37), type := 34, pos := "manifest.go:53", after := #[{ on := 15, ground := Ground.data }, { on := 18, ground := Ground.chain }, { on := 0, ground := Ground.phase }, { on := 1, ground := Ground.phase }, { on := 2, ground := Ground.phase }, { on := 3, ground := Ground.phase }, { on := 4, ground := Ground.phase }, { on := 5, ground := Ground.phase }, { on := 6, ground := Ground.phase }, { on := 7, ground := Ground.phase }, { on := 8, ground := Ground.phase }, { on := 9, ground := Ground.phase }, { on := 10, ground := Ground.phase }, { on := 11, ground := Ground.phase }, { on := 12, ground := Ground.phase }, { on := 13, ground := Ground.phase }, { on := 14, ground := Ground.phase }, { on := 15, ground := Ground.phase }, { on := 16, ground := Ground.phase }, { on := 17, ground := Ground.phase }, { on := 18, ground := Ground.phase }], guard := none }) (v := ?_) rfl (by kernel_rfl) (by kernel_rfl) (by kernel_rfl) (fun _ _ _ h => h) (Or.inl ⟨by rfl, ?hy⟩) hHeld ?_
        case hy => (intro w hSw; (try dsimp only at hSw); obtain ⟨_, _, _, _⟩ := hSw; go_simp; all_goals (with_reducible rfl))
        try simp only [Act.put, List.setIfInBounds_toArray, List.set_cons_zero, List.set_cons_succ]
        refine wpAnyH_done (by kernel_rfl) ?_ _
        go_wp2_with fail
        go_meet
        exact ⟨_, rfl, fb1, flo1, _, _, _, _, rfl, rfl, rfl, LV⟩
      refine AllReadyH.cons (o := { dst := some 30, op := Op.buildSlice 22 0 #[], type := 22, pos := "manifest.go:53", after := #[], guard := none }) rfl (fun K hK => ?_) ?_
      · skip
        refine step_build0 rfl rfl ?_
        intro g19 wm19 hge19 hE19 hb19 gl19
        have HB19 : Below w2.heap.size w2 wm19 := ((bel_drewN (Below.refl w2.heap.size w2) 1)).trans (hb19.mono ((bel_drewN (Below.refl w2.heap.size w2) 1)).size)
        have glo19 : w2.heap.size ≤ g19 := by rw [hge19]; exact ((bel_drewN (Below.refl w2.heap.size w2) 1)).size
        clear hge19
        refine hK.out _ _ (HKP.out _ HB19) (fun hHeld => ?_)
        clear hK K
        have ZHB19 := hid HB19
        have ZhE19 := hid hE19
        try clear HB19 hE19
        try simp only [Act.put, List.setIfInBounds_toArray, List.set_cons_zero, List.set_cons_succ]
        refine wpAnyH_ready (rs := [0, 16]) (by kernel_rfl) (by simp) ?_
        refine AllReadyH.cons (o := { dst := some 23, op := Op.call { callee := Callee.value (Operand.func 14), args := #[], argTypes := #[] }, type := 37, pos := "manifest.go:53", after := #[], guard := none }) rfl (fun K hK => ?_) ?_
        · skip
          go_simp
          refine (newField_any wm19).mono ?_
          rintro e wm20 ⟨rfl, hF20, hb20⟩
          have fl20 := lt_of_heap hF20
          obtain ⟨fb20, hfb20⟩ : ∃ y, y = wm19.heap.size := ⟨_, rfl⟩
          rw [← hfb20] at hF20 fl20
          have HB20 : Below w2.heap.size w2 wm20 := (ZHB19.out).trans (hb20.mono (ZHB19.out).size)
          have flo20 : w2.heap.size ≤ fb20 := by rw [hfb20]; exact (ZHB19.out).size
          have nfg20 : fb20 ≠ g19 := by have := gl19; omega
          have hE20 := (hb20.block _ gl19).trans ZhE19.out
          have gl20 := Nat.lt_of_lt_of_le gl19 hb20.size
          clear hHeld
          rw [← hfb20]
          clear hfb20
          go_wp2_with fail
          refine hK.out _ _ (HKP.out _ HB20) (fun hHeld => ?_)
          clear hK K
          have ZHB20 := hid HB20
          have ZhE20 := hid hE20
          have ZhF20 := hid hF20
          try clear HB20 hE20 hF20
          try simp only [Act.put, List.setIfInBounds_toArray, List.set_cons_zero, List.set_cons_succ]
          refine wpAnyH_ready (rs := [10, 16]) (by kernel_rfl) (by simp) ?_
          refine AllReadyH.cons (o := { dst := some 33, op := Op.call { callee := Callee.builtin Builtin.append, args := #[Operand.tmp 30, Operand.tmp 32], argTypes := #[22, 22] }, type := 22, pos := "manifest.go:53", after := #[{ on := 7, ground := Ground.data }, { on := 9, ground := Ground.data }, { on := 0, ground := Ground.chain }], guard := none }) rfl (fun K hK => ?_) ?_
          · skip
            refine step_own_bytes rfl (.tmp 30) (.tmp 32) rfl w2.heap.size g19 rfl (own_emptyM ZhE20.out glo19) da dl dc ld rfl (HD.out.below (ZHB20.out)) HDN.out (by omega) (ZHB20.out).size ?_
            intro v21 wm21 hdA21 hgA21
            have nil21 := hdA21
            obtain ⟨av21, cv21, ev21, -, hcv21, hbv21, hlow21⟩ := bs_of_owns hdA21 HDL.out
            subst ev21
            have HB21 : Below w2.heap.size w2 wm21 := (ZHB20.out).grown hgA21 (ZHB20.out).size (fun q hq => by have := glo19; simp at hq; omega)
            have hF21 := (hgA21.block _ fl20 (by simp; exact nfg20)).trans ZhF20.out
            have fl21 := Nat.lt_of_lt_of_le fl20 hgA21.size
            refine hK.out _ _ (HKP.out _ HB21) (fun hHeld => ?_)
            clear hK K
            have ZHB21 := hid HB21
            have ZhF21 := hid hF21
            have Zhbv21 := hid hbv21
            have Zhcv21 := hid hcv21
            have Zhlow21 := hid hlow21
            have ZhdA21 := hid hdA21
            try clear HB21 hF21 hbv21 hcv21 hlow21 hdA21
            try simp only [Act.put, List.setIfInBounds_toArray, List.set_cons_zero, List.set_cons_succ]
            refine wpAnyH_ready (rs := [11, 16]) (by kernel_rfl) (by simp) ?_
            refine AllReadyH.cons (o := { dst := some 34, op := Op.call { callee := Callee.value (Operand.func 13), args := #[Operand.tmp 23, Operand.tmp 25, Operand.tmp 27, Operand.tmp 29, Operand.tmp 33], argTypes := #[37, 3, 3, 3, 22] }, type := 35, pos := "manifest.go:53", after := #[{ on := 0, ground := Ground.data }, { on := 2, ground := Ground.data }, { on := 4, ground := Ground.data }, { on := 6, ground := Ground.data }, { on := 10, ground := Ground.data }, { on := 10, ground := Ground.chain }], guard := none }) rfl (fun K hK => ?_) ?_
            · skip
              go_simp
              refine (HMK.out fb20 wm21 (ZHB21.out) flo20 ZhF21.out av21 cv21 (Zhbv21.out) Zhcv21.out (off_typeX ZhdA21.out ZhF21.out (by decide))).mono ?_
              rintro e wm22 ⟨M22, pv22, ev22, rfl, hP22, hk22, hI22, hZ22, hO22⟩
              have hKK22 : Below w2.heap.size w2 wm22 := (ZHB21.out).trans (hk22.below (ZHB21.out).size flo20)
              clear hHeld
              go_wp2_with fail
              refine hK.out _ _ (HKP.out _ hKK22) (fun hHeld => ?_)
              clear hK K
              have ZhKK22 := hid hKK22
              have ZhP22 := hid hP22
              have Zhk22 := hid hk22
              have ZhI22 := hid hI22
              have ZhZ22 := hid hZ22
              have ZhO22 := hid hO22
              try clear hKK22 hP22 hk22 hI22 hZ22 hO22
              try simp only [Act.put, List.setIfInBounds_toArray, List.set_cons_zero, List.set_cons_succ]
              refine wpAnyH_take (i := 12) (oi := { dst := some 22, op := Op.move (Operand.tmp 34), type := 35, pos := "manifest.go:53", after := #[{ on := 11, ground := Ground.data }], guard := none }) (v := ?_) rfl (by kernel_rfl) (by kernel_rfl) (by kernel_rfl) (fun _ _ _ h => h) (Or.inl ⟨by rfl, ?hy⟩) hHeld ?_
              case hy => (intro w hSw; (try dsimp only at hSw); obtain ⟨_, _, _, _⟩ := hSw; go_simp; all_goals (with_reducible rfl))
              try simp only [Act.put, List.setIfInBounds_toArray, List.set_cons_zero, List.set_cons_succ]
              refine wpAnyH_take (i := 13) (oi := { dst := some 35, op := Op.extract (Operand.tmp 22) 0, type := 27, pos := "manifest.go:53", after := #[{ on := 12, ground := Ground.data }], guard := none }) (v := ?_) rfl (by kernel_rfl) (by kernel_rfl) (by kernel_rfl) (fun _ _ _ h => h) (Or.inl ⟨by rfl, ?hy⟩) hHeld ?_
              case hy => (intro w hSw; (try dsimp only at hSw); obtain ⟨_, _, _, _⟩ := hSw; go_simp; all_goals (with_reducible rfl))
              try simp only [Act.put, List.setIfInBounds_toArray, List.set_cons_zero, List.set_cons_succ]
              refine wpAnyH_take (i := 14) (oi := { dst := some 36, op := Op.extract (Operand.tmp 22) 1, type := 28, pos := "manifest.go:53", after := #[{ on := 12, ground := Ground.data }, { on := 17, ground := Ground.gcOnly Departure.lateStores }], guard := none }) (v := ?_) rfl (by kernel_rfl) (by kernel_rfl) (by kernel_rfl) (fun _ _ _ h => h) (Or.inl ⟨by rfl, ?hy⟩) hHeld ?_
              case hy => (intro w hSw; (try dsimp only at hSw); obtain ⟨_, _, _, _⟩ := hSw; go_simp; all_goals (with_reducible rfl))
              try simp only [Act.put, List.setIfInBounds_toArray, List.set_cons_zero, List.set_cons_succ]
              refine wpAnyH_take (i := 15) (oi := { dst := some 37, op := Op.extract (Operand.tmp 22) 2, type := 34, pos := "manifest.go:53", after := #[{ on := 12, ground := Ground.data }, { on := 18, ground := Ground.gcOnly Departure.lateStores }], guard := none }) (v := ?_) rfl (by kernel_rfl) (by kernel_rfl) (by kernel_rfl) (fun _ _ _ h => h) (Or.inl ⟨by rfl, ?hy⟩) hHeld ?_
              case hy => (intro w hSw; (try dsimp only at hSw); obtain ⟨_, _, _, _⟩ := hSw; go_simp; all_goals (with_reducible rfl))
              try simp only [Act.put, List.setIfInBounds_toArray, List.set_cons_zero, List.set_cons_succ]
              refine wpAnyH_ready (rs := [16]) (by kernel_rfl) (by simp) ?_
              refine AllReadyH.cons (o := { dst := some 3, op := Op.alloc 27, type := 0, pos := "manifest.go:53", after := #[], guard := none }) rfl (fun K hK => ?_) AllReadyH.nil
              refine step_mkm rfl rfl ?_
              intro mb23 wm23 hmb23 hM23 hb23 ml23
              have hKK23 : Below w2.heap.size w2 wm23 := (ZhKK22.out).trans (hb23.mono (ZhKK22.out).size)
              have mlo23 : w2.heap.size ≤ mb23 := by rw [hmb23]; exact (ZhKK22.out).size
              have Zhmb23 := hid hmb23
              clear hmb23
              refine hK.out _ _ (HKP.out _ hKK23) (fun hHeld => ?_)
              clear hK K
              have ZhM23 := hid hM23
              have ZhKK23 := hid hKK23
              try clear hM23 hKK23
              try simp only [Act.put, List.setIfInBounds_toArray, List.set_cons_zero, List.set_cons_succ]
              refine wpAnyH_ready (rs := [17]) (by kernel_rfl) (by simp) ?_
              refine AllReadyH.cons (o := { dst := none, op := Op.store 27 (Operand.tmp 3) (Operand.tmp 35), type := 0, pos := "manifest.go:53", after := #[{ on := 16, ground := Ground.data }, { on := 13, ground := Ground.data }, { on := 11, ground := Ground.chain }, { on := 0, ground := Ground.phase }, { on := 1, ground := Ground.phase }, { on := 2, ground := Ground.phase }, { on := 3, ground := Ground.phase }, { on := 4, ground := Ground.phase }, { on := 5, ground := Ground.phase }, { on := 6, ground := Ground.phase }, { on := 7, ground := Ground.phase }, { on := 8, ground := Ground.phase }, { on := 9, ground := Ground.phase }, { on := 10, ground := Ground.phase }, { on := 11, ground := Ground.phase }, { on := 12, ground := Ground.phase }, { on := 13, ground := Ground.phase }, { on := 14, ground := Ground.textOnly Departure.lateStores }, { on := 15, ground := Ground.textOnly Departure.lateStores }, { on := 16, ground := Ground.phase }], guard := none }) rfl (fun K hK => ?_) AllReadyH.nil
              refine step_store_row rfl 27 (.tmp 3) (.tmp 35) rfl mb23 mz M22 27 rfl rfl ZhM23.out ZhI22.out ZhZ22.out ZhO22.out ?_
              intro wz24 hz24 hkz24
              refine hK.out _ _ (HKP.out _ ((ZhKK23.out).trans (hkz24.below (ZhKK23.out).size mlo23))) (fun hHeld => ?_)
              clear hK K
              try simp only [Act.put]
              have LV := hid (mdx_late (fb := fb20) (Post := (POST fb20)) (ZHB21.out) ZhP22.out Zhk22.out Zhmb23.out hb23 ml23 hz24 hkz24)
              refine wpAnyH_take (i := 18) (oi := { dst := some 4, op := Op.assign (Operand.tmp 36), type := 28, pos := "manifest.go:53", after := #[{ on := 14, ground := Ground.data }, { on := 17, ground := Ground.chain }, { on := 0, ground := Ground.phase }, { on := 1, ground := Ground.phase }, { on := 2, ground := Ground.phase }, { on := 3, ground := Ground.phase }, { on := 4, ground := Ground.phase }, { on := 5, ground := Ground.phase }, { on := 6, ground := Ground.phase }, { on := 7, ground := Ground.phase }, { on := 8, ground := Ground.phase }, { on := 9, ground := Ground.phase }, { on := 10, ground := Ground.phase }, { on := 11, ground := Ground.phase }, { on := 12, ground := Ground.phase }, { on := 13, ground := Ground.phase }, { on := 14, ground := Ground.phase }, { on := 15, ground := Ground.textOnly Departure.lateStores }, { on := 16, ground := Ground.phase }, { on := 17, ground := Ground.phase }], guard := none }) (v := ?_) rfl (by kernel_rfl) (by kernel_rfl) (by kernel_rfl) (fun _ _ _ h => h) (Or.inl ⟨by rfl, ?hy⟩) hHeld ?_
              case hy => (intro w hSw; (try dsimp only at hSw); obtain ⟨_, _, _, _⟩ := hSw; go_simp; all_goals (with_reducible rfl))
              try simp only [Act.put, List.setIfInBounds_toArray, List.set_cons_zero, List.set_cons_succ]
              refine wpAnyH_take (i := 19) (oi := { dst := some 5, op := Op.assign (Operand.tmp 37), type := 34, pos := "manifest.go:53", after := #[{ on := 15, ground := Ground.data }, { on := 18, ground := Ground.chain }, { on := 0, ground := Ground.phase }, { on := 1, ground := Ground.phase }, { on := 2, ground := Ground.phase }, { on := 3, ground := Ground.phase }, { on := 4, ground := Ground.phase }, { on := 5, ground := Ground.phase }, { on := 6, ground := Ground.phase }, { on := 7, ground := Ground.phase }, { on := 8, ground := Ground.phase }, { on := 9, ground := Ground.phase }, { on := 10, ground := Ground.phase }, { on := 11, ground := Ground.phase }, { on := 12, ground := Ground.phase }, { on := 13, ground := Ground.phase }, { on := 14, ground := Ground.phase }, { on := 15, ground := Ground.phase }, { on := 16, ground := Ground.phase }, { on := 17, ground := Ground.phase }, { on := 18, ground := Ground.phase }], guard := none }) (v := ?_) rfl (by kernel_rfl) (by kernel_rfl) (by kernel_rfl) (fun _ _ _ h => h) (Or.inl ⟨by rfl, ?hy⟩) hHeld ?_
              case hy => (intro w hSw; (try dsimp only at hSw); obtain ⟨_, _, _, _⟩ := hSw; go_simp; all_goals (with_reducible rfl))
              try simp only [Act.put, List.setIfInBounds_toArray, List.set_cons_zero, List.set_cons_succ]
              refine wpAnyH_done (by kernel_rfl) ?_ _
              go_wp2_with fail
              go_meet
              exact ⟨_, rfl, fb20, flo20, _, _, _, _, rfl, rfl, rfl, LV⟩
            refine AllReadyH.cons (o := { dst := some 3, op := Op.alloc 27, type := 0, pos := "manifest.go:53", after := #[], guard := none }) rfl (fun K hK => ?_) AllReadyH.nil
            refine step_mkm rfl rfl ?_
            intro mb25 wm25 hmb25 hM25 hb25 ml25
            have HB25 : Below w2.heap.size w2 wm25 := (ZHB21.out).trans (hb25.mono (ZHB21.out).size)
            have mlo25 : w2.heap.size ≤ mb25 := by rw [hmb25]; exact (ZHB21.out).size
            have nmf25 : mb25 ≠ fb20 := by have := fl21; omega
            have hF25 := (hb25.block _ fl21).trans ZhF21.out
            have fl25 := Nat.lt_of_lt_of_le fl21 hb25.size
            have hbv25 := (Zhbv21.out).below hb25
            have hown25 := owns_belowX ZhdA21.out hb25
            clear hmb25
            refine hK.out _ _ (HKP.out _ HB25) (fun hHeld => ?_)
            clear hK K
            have ZHB25 := hid HB25
            have ZhM25 := hid hM25
            have ZhF25 := hid hF25
            have Zhbv25 := hid hbv25
            have Zhown25 := hid hown25
            try clear HB25 hM25 hF25 hbv25 hown25
            try simp only [Act.put, List.setIfInBounds_toArray, List.set_cons_zero, List.set_cons_succ]
            refine wpAnyH_ready (rs := [11]) (by kernel_rfl) (by simp) ?_
            refine AllReadyH.cons (o := { dst := some 34, op := Op.call { callee := Callee.value (Operand.func 13), args := #[Operand.tmp 23, Operand.tmp 25, Operand.tmp 27, Operand.tmp 29, Operand.tmp 33], argTypes := #[37, 3, 3, 3, 22] }, type := 35, pos := "manifest.go:53", after := #[{ on := 0, ground := Ground.data }, { on := 2, ground := Ground.data }, { on := 4, ground := Ground.data }, { on := 6, ground := Ground.data }, { on := 10, ground := Ground.data }, { on := 10, ground := Ground.chain }], guard := none }) rfl (fun K hK => ?_) AllReadyH.nil
            go_simp
            refine (HMK.out fb20 wm25 (ZHB25.out) flo20 ZhF25.out av21 cv21 (Zhbv25.out) Zhcv21.out (off_typeX Zhown25.out ZhF25.out (by decide))).mono ?_
            rintro e wm26 ⟨M26, pv26, ev26, rfl, hP26, hk26, hI26, hZ26, hO26⟩
            have hKK26 : Below w2.heap.size w2 wm26 := (ZHB25.out).trans (hk26.below (ZHB25.out).size flo20)
            have hM26 := (hk26.block _ ml25 nmf25).trans ZhM25.out
            clear hHeld
            go_wp2_with fail
            refine hK.out _ _ (HKP.out _ hKK26) (fun hHeld => ?_)
            clear hK K
            have ZhM26 := hid hM26
            have ZhKK26 := hid hKK26
            have ZhP26 := hid hP26
            have Zhk26 := hid hk26
            have ZhI26 := hid hI26
            have ZhZ26 := hid hZ26
            have ZhO26 := hid hO26
            try clear hM26 hKK26 hP26 hk26 hI26 hZ26 hO26
            try simp only [Act.put, List.setIfInBounds_toArray, List.set_cons_zero, List.set_cons_succ]
            refine wpAnyH_take (i := 12) (oi := { dst := some 22, op := Op.move (Operand.tmp 34), type := 35, pos := "manifest.go:53", after := #[{ on := 11, ground := Ground.data }], guard := none }) (v := ?_) rfl (by kernel_rfl) (by kernel_rfl) (by kernel_rfl) (fun _ _ _ h => h) (Or.inl ⟨by rfl, ?hy⟩) hHeld ?_
            case hy => (intro w hSw; (try dsimp only at hSw); obtain ⟨_, _, _, _⟩ := hSw; go_simp; all_goals (with_reducible rfl))
            try simp only [Act.put, List.setIfInBounds_toArray, List.set_cons_zero, List.set_cons_succ]
            refine wpAnyH_take (i := 13) (oi := { dst := some 35, op := Op.extract (Operand.tmp 22) 0, type := 27, pos := "manifest.go:53", after := #[{ on := 12, ground := Ground.data }], guard := none }) (v := ?_) rfl (by kernel_rfl) (by kernel_rfl) (by kernel_rfl) (fun _ _ _ h => h) (Or.inl ⟨by rfl, ?hy⟩) hHeld ?_
            case hy => (intro w hSw; (try dsimp only at hSw); obtain ⟨_, _, _, _⟩ := hSw; go_simp; all_goals (with_reducible rfl))
            try simp only [Act.put, List.setIfInBounds_toArray, List.set_cons_zero, List.set_cons_succ]
            refine wpAnyH_take (i := 14) (oi := { dst := some 36, op := Op.extract (Operand.tmp 22) 1, type := 28, pos := "manifest.go:53", after := #[{ on := 12, ground := Ground.data }, { on := 17, ground := Ground.gcOnly Departure.lateStores }], guard := none }) (v := ?_) rfl (by kernel_rfl) (by kernel_rfl) (by kernel_rfl) (fun _ _ _ h => h) (Or.inl ⟨by rfl, ?hy⟩) hHeld ?_
            case hy => (intro w hSw; (try dsimp only at hSw); obtain ⟨_, _, _, _⟩ := hSw; go_simp; all_goals (with_reducible rfl))
            try simp only [Act.put, List.setIfInBounds_toArray, List.set_cons_zero, List.set_cons_succ]
            refine wpAnyH_take (i := 15) (oi := { dst := some 37, op := Op.extract (Operand.tmp 22) 2, type := 34, pos := "manifest.go:53", after := #[{ on := 12, ground := Ground.data }, { on := 18, ground := Ground.gcOnly Departure.lateStores }], guard := none }) (v := ?_) rfl (by kernel_rfl) (by kernel_rfl) (by kernel_rfl) (fun _ _ _ h => h) (Or.inl ⟨by rfl, ?hy⟩) hHeld ?_
            case hy => (intro w hSw; (try dsimp only at hSw); obtain ⟨_, _, _, _⟩ := hSw; go_simp; all_goals (with_reducible rfl))
            try simp only [Act.put, List.setIfInBounds_toArray, List.set_cons_zero, List.set_cons_succ]
            refine wpAnyH_ready (rs := [17]) (by kernel_rfl) (by simp) ?_
            refine AllReadyH.cons (o := { dst := none, op := Op.store 27 (Operand.tmp 3) (Operand.tmp 35), type := 0, pos := "manifest.go:53", after := #[{ on := 16, ground := Ground.data }, { on := 13, ground := Ground.data }, { on := 11, ground := Ground.chain }, { on := 0, ground := Ground.phase }, { on := 1, ground := Ground.phase }, { on := 2, ground := Ground.phase }, { on := 3, ground := Ground.phase }, { on := 4, ground := Ground.phase }, { on := 5, ground := Ground.phase }, { on := 6, ground := Ground.phase }, { on := 7, ground := Ground.phase }, { on := 8, ground := Ground.phase }, { on := 9, ground := Ground.phase }, { on := 10, ground := Ground.phase }, { on := 11, ground := Ground.phase }, { on := 12, ground := Ground.phase }, { on := 13, ground := Ground.phase }, { on := 14, ground := Ground.textOnly Departure.lateStores }, { on := 15, ground := Ground.textOnly Departure.lateStores }, { on := 16, ground := Ground.phase }], guard := none }) rfl (fun K hK => ?_) AllReadyH.nil
            refine step_store_row rfl 27 (.tmp 3) (.tmp 35) rfl mb25 mz M26 27 rfl rfl ZhM26.out ZhI26.out ZhZ26.out ZhO26.out ?_
            intro wz27 hz27 hkz27
            refine hK.out _ _ (HKP.out _ ((ZhKK26.out).trans (hkz27.below (ZhKK26.out).size mlo25))) (fun hHeld => ?_)
            clear hK K
            try simp only [Act.put]
            have LV := hid (mdx_early (fb := fb20) (Post := (POST fb20)) (ZHB25.out) ZhP26.out Zhk26.out mlo25 ml25 hz27 hkz27)
            refine wpAnyH_take (i := 18) (oi := { dst := some 4, op := Op.assign (Operand.tmp 36), type := 28, pos := "manifest.go:53", after := #[{ on := 14, ground := Ground.data }, { on := 17, ground := Ground.chain }, { on := 0, ground := Ground.phase }, { on := 1, ground := Ground.phase }, { on := 2, ground := Ground.phase }, { on := 3, ground := Ground.phase }, { on := 4, ground := Ground.phase }, { on := 5, ground := Ground.phase }, { on := 6, ground := Ground.phase }, { on := 7, ground := Ground.phase }, { on := 8, ground := Ground.phase }, { on := 9, ground := Ground.phase }, { on := 10, ground := Ground.phase }, { on := 11, ground := Ground.phase }, { on := 12, ground := Ground.phase }, { on := 13, ground := Ground.phase }, { on := 14, ground := Ground.phase }, { on := 15, ground := Ground.textOnly Departure.lateStores }, { on := 16, ground := Ground.phase }, { on := 17, ground := Ground.phase }], guard := none }) (v := ?_) rfl (by kernel_rfl) (by kernel_rfl) (by kernel_rfl) (fun _ _ _ h => h) (Or.inl ⟨by rfl, ?hy⟩) hHeld ?_
            case hy => (intro w hSw; (try dsimp only at hSw); obtain ⟨_, _, _, _⟩ := hSw; go_simp; all_goals (with_reducible rfl))
            try simp only [Act.put, List.setIfInBounds_toArray, List.set_cons_zero, List.set_cons_succ]
            refine wpAnyH_take (i := 19) (oi := { dst := some 5, op := Op.assign (Operand.tmp 37), type := 34, pos := "manifest.go:53", after := #[{ on := 15, ground := Ground.data }, { on := 18, ground := Ground.chain }, { on := 0, ground := Ground.phase }, { on := 1, ground := Ground.phase }, { on := 2, ground := Ground.phase }, { on := 3, ground := Ground.phase }, { on := 4, ground := Ground.phase }, { on := 5, ground := Ground.phase }, { on := 6, ground := Ground.phase }, { on := 7, ground := Ground.phase }, { on := 8, ground := Ground.phase }, { on := 9, ground := Ground.phase }, { on := 10, ground := Ground.phase }, { on := 11, ground := Ground.phase }, { on := 12, ground := Ground.phase }, { on := 13, ground := Ground.phase }, { on := 14, ground := Ground.phase }, { on := 15, ground := Ground.phase }, { on := 16, ground := Ground.phase }, { on := 17, ground := Ground.phase }, { on := 18, ground := Ground.phase }], guard := none }) (v := ?_) rfl (by kernel_rfl) (by kernel_rfl) (by kernel_rfl) (fun _ _ _ h => h) (Or.inl ⟨by rfl, ?hy⟩) hHeld ?_
            case hy => (intro w hSw; (try dsimp only at hSw); obtain ⟨_, _, _, _⟩ := hSw; go_simp; all_goals (with_reducible rfl))
            try simp only [Act.put, List.setIfInBounds_toArray, List.set_cons_zero, List.set_cons_succ]
            refine wpAnyH_done (by kernel_rfl) ?_ _
            go_wp2_with fail
            go_meet
            exact ⟨_, rfl, fb20, flo20, _, _, _, _, rfl, rfl, rfl, LV⟩
          refine AllReadyH.cons (o := { dst := some 3, op := Op.alloc 27, type := 0, pos := "manifest.go:53", after := #[], guard := none }) rfl (fun K hK => ?_) AllReadyH.nil
          refine step_mkm rfl rfl ?_
          intro mb28 wm28 hmb28 hM28 hb28 ml28
          have HB28 : Below w2.heap.size w2 wm28 := (ZHB20.out).trans (hb28.mono (ZHB20.out).size)
          have mlo28 : w2.heap.size ≤ mb28 := by rw [hmb28]; exact (ZHB20.out).size
          have nmg28 : mb28 ≠ g19 := by have := gl20; omega
          have nmf28 : mb28 ≠ fb20 := by have := fl20; omega
          have hE28 := (hb28.block _ gl20).trans ZhE20.out
          have gl28 := Nat.lt_of_lt_of_le gl20 hb28.size
          have hF28 := (hb28.block _ fl20).trans ZhF20.out
          have fl28 := Nat.lt_of_lt_of_le fl20 hb28.size
          clear hmb28
          refine hK.out _ _ (HKP.out _ HB28) (fun hHeld => ?_)
          clear hK K
          have ZHB28 := hid HB28
          have ZhE28 := hid hE28
          have ZhM28 := hid hM28
          have ZhF28 := hid hF28
          try clear HB28 hE28 hM28 hF28
          try simp only [Act.put, List.setIfInBounds_toArray, List.set_cons_zero, List.set_cons_succ]
          refine wpAnyH_ready (rs := [10]) (by kernel_rfl) (by simp) ?_
          refine AllReadyH.cons (o := { dst := some 33, op := Op.call { callee := Callee.builtin Builtin.append, args := #[Operand.tmp 30, Operand.tmp 32], argTypes := #[22, 22] }, type := 22, pos := "manifest.go:53", after := #[{ on := 7, ground := Ground.data }, { on := 9, ground := Ground.data }, { on := 0, ground := Ground.chain }], guard := none }) rfl (fun K hK => ?_) AllReadyH.nil
          refine step_own_bytes rfl (.tmp 30) (.tmp 32) rfl w2.heap.size g19 rfl (own_emptyM ZhE28.out glo19) da dl dc ld rfl (HD.out.below (ZHB28.out)) HDN.out (by omega) (ZHB28.out).size ?_
          intro v29 wm29 hdA29 hgA29
          have nil29 := hdA29
          obtain ⟨av29, cv29, ev29, -, hcv29, hbv29, hlow29⟩ := bs_of_owns hdA29 HDL.out
          subst ev29
          have HB29 : Below w2.heap.size w2 wm29 := (ZHB28.out).grown hgA29 (ZHB28.out).size (fun q hq => by have := glo19; simp at hq; omega)
          have hM29 := (hgA29.block _ ml28 (by simp; exact nmg28)).trans ZhM28.out
          have ml29 := Nat.lt_of_lt_of_le ml28 hgA29.size
          have hF29 := (hgA29.block _ fl28 (by simp; exact nfg20)).trans ZhF28.out
          have fl29 := Nat.lt_of_lt_of_le fl28 hgA29.size
          refine hK.out _ _ (HKP.out _ HB29) (fun hHeld => ?_)
          clear hK K
          have ZHB29 := hid HB29
          have ZhM29 := hid hM29
          have ZhF29 := hid hF29
          have Zhbv29 := hid hbv29
          have Zhcv29 := hid hcv29
          have Zhlow29 := hid hlow29
          have ZhdA29 := hid hdA29
          try clear HB29 hM29 hF29 hbv29 hcv29 hlow29 hdA29
          try simp only [Act.put, List.setIfInBounds_toArray, List.set_cons_zero, List.set_cons_succ]
          refine wpAnyH_ready (rs := [11]) (by kernel_rfl) (by simp) ?_
          refine AllReadyH.cons (o := { dst := some 34, op := Op.call { callee := Callee.value (Operand.func 13), args := #[Operand.tmp 23, Operand.tmp 25, Operand.tmp 27, Operand.tmp 29, Operand.tmp 33], argTypes := #[37, 3, 3, 3, 22] }, type := 35, pos := "manifest.go:53", after := #[{ on := 0, ground := Ground.data }, { on := 2, ground := Ground.data }, { on := 4, ground := Ground.data }, { on := 6, ground := Ground.data }, { on := 10, ground := Ground.data }, { on := 10, ground := Ground.chain }], guard := none }) rfl (fun K hK => ?_) AllReadyH.nil
          go_simp
          refine (HMK.out fb20 wm29 (ZHB29.out) flo20 ZhF29.out av29 cv29 (Zhbv29.out) Zhcv29.out (off_typeX ZhdA29.out ZhF29.out (by decide))).mono ?_
          rintro e wm30 ⟨M30, pv30, ev30, rfl, hP30, hk30, hI30, hZ30, hO30⟩
          have hKK30 : Below w2.heap.size w2 wm30 := (ZHB29.out).trans (hk30.below (ZHB29.out).size flo20)
          have hM30 := (hk30.block _ ml29 nmf28).trans ZhM29.out
          clear hHeld
          go_wp2_with fail
          refine hK.out _ _ (HKP.out _ hKK30) (fun hHeld => ?_)
          clear hK K
          have ZhM30 := hid hM30
          have ZhKK30 := hid hKK30
          have ZhP30 := hid hP30
          have Zhk30 := hid hk30
          have ZhI30 := hid hI30
          have ZhZ30 := hid hZ30
          have ZhO30 := hid hO30
          try clear hM30 hKK30 hP30 hk30 hI30 hZ30 hO30
          try simp only [Act.put, List.setIfInBounds_toArray, List.set_cons_zero, List.set_cons_succ]
          refine wpAnyH_take (i := 12) (oi := { dst := some 22, op := Op.move (Operand.tmp 34), type := 35, pos := "manifest.go:53", after := #[{ on := 11, ground := Ground.data }], guard := none }) (v := ?_) rfl (by kernel_rfl) (by kernel_rfl) (by kernel_rfl) (fun _ _ _ h => h) (Or.inl ⟨by rfl, ?hy⟩) hHeld ?_
          case hy => (intro w hSw; (try dsimp only at hSw); obtain ⟨_, _, _, _⟩ := hSw; go_simp; all_goals (with_reducible rfl))
          try simp only [Act.put, List.setIfInBounds_toArray, List.set_cons_zero, List.set_cons_succ]
          refine wpAnyH_take (i := 13) (oi := { dst := some 35, op := Op.extract (Operand.tmp 22) 0, type := 27, pos := "manifest.go:53", after := #[{ on := 12, ground := Ground.data }], guard := none }) (v := ?_) rfl (by kernel_rfl) (by kernel_rfl) (by kernel_rfl) (fun _ _ _ h => h) (Or.inl ⟨by rfl, ?hy⟩) hHeld ?_
          case hy => (intro w hSw; (try dsimp only at hSw); obtain ⟨_, _, _, _⟩ := hSw; go_simp; all_goals (with_reducible rfl))
          try simp only [Act.put, List.setIfInBounds_toArray, List.set_cons_zero, List.set_cons_succ]
          refine wpAnyH_take (i := 14) (oi := { dst := some 36, op := Op.extract (Operand.tmp 22) 1, type := 28, pos := "manifest.go:53", after := #[{ on := 12, ground := Ground.data }, { on := 17, ground := Ground.gcOnly Departure.lateStores }], guard := none }) (v := ?_) rfl (by kernel_rfl) (by kernel_rfl) (by kernel_rfl) (fun _ _ _ h => h) (Or.inl ⟨by rfl, ?hy⟩) hHeld ?_
          case hy => (intro w hSw; (try dsimp only at hSw); obtain ⟨_, _, _, _⟩ := hSw; go_simp; all_goals (with_reducible rfl))
          try simp only [Act.put, List.setIfInBounds_toArray, List.set_cons_zero, List.set_cons_succ]
          refine wpAnyH_take (i := 15) (oi := { dst := some 37, op := Op.extract (Operand.tmp 22) 2, type := 34, pos := "manifest.go:53", after := #[{ on := 12, ground := Ground.data }, { on := 18, ground := Ground.gcOnly Departure.lateStores }], guard := none }) (v := ?_) rfl (by kernel_rfl) (by kernel_rfl) (by kernel_rfl) (fun _ _ _ h => h) (Or.inl ⟨by rfl, ?hy⟩) hHeld ?_
          case hy => (intro w hSw; (try dsimp only at hSw); obtain ⟨_, _, _, _⟩ := hSw; go_simp; all_goals (with_reducible rfl))
          try simp only [Act.put, List.setIfInBounds_toArray, List.set_cons_zero, List.set_cons_succ]
          refine wpAnyH_ready (rs := [17]) (by kernel_rfl) (by simp) ?_
          refine AllReadyH.cons (o := { dst := none, op := Op.store 27 (Operand.tmp 3) (Operand.tmp 35), type := 0, pos := "manifest.go:53", after := #[{ on := 16, ground := Ground.data }, { on := 13, ground := Ground.data }, { on := 11, ground := Ground.chain }, { on := 0, ground := Ground.phase }, { on := 1, ground := Ground.phase }, { on := 2, ground := Ground.phase }, { on := 3, ground := Ground.phase }, { on := 4, ground := Ground.phase }, { on := 5, ground := Ground.phase }, { on := 6, ground := Ground.phase }, { on := 7, ground := Ground.phase }, { on := 8, ground := Ground.phase }, { on := 9, ground := Ground.phase }, { on := 10, ground := Ground.phase }, { on := 11, ground := Ground.phase }, { on := 12, ground := Ground.phase }, { on := 13, ground := Ground.phase }, { on := 14, ground := Ground.textOnly Departure.lateStores }, { on := 15, ground := Ground.textOnly Departure.lateStores }, { on := 16, ground := Ground.phase }], guard := none }) rfl (fun K hK => ?_) AllReadyH.nil
          refine step_store_row rfl 27 (.tmp 3) (.tmp 35) rfl mb28 mz M30 27 rfl rfl ZhM30.out ZhI30.out ZhZ30.out ZhO30.out ?_
          intro wz31 hz31 hkz31
          refine hK.out _ _ (HKP.out _ ((ZhKK30.out).trans (hkz31.below (ZhKK30.out).size mlo28))) (fun hHeld => ?_)
          clear hK K
          try simp only [Act.put]
          have LV := hid (mdx_early (fb := fb20) (Post := (POST fb20)) (ZHB29.out) ZhP30.out Zhk30.out mlo28 ml29 hz31 hkz31)
          refine wpAnyH_take (i := 18) (oi := { dst := some 4, op := Op.assign (Operand.tmp 36), type := 28, pos := "manifest.go:53", after := #[{ on := 14, ground := Ground.data }, { on := 17, ground := Ground.chain }, { on := 0, ground := Ground.phase }, { on := 1, ground := Ground.phase }, { on := 2, ground := Ground.phase }, { on := 3, ground := Ground.phase }, { on := 4, ground := Ground.phase }, { on := 5, ground := Ground.phase }, { on := 6, ground := Ground.phase }, { on := 7, ground := Ground.phase }, { on := 8, ground := Ground.phase }, { on := 9, ground := Ground.phase }, { on := 10, ground := Ground.phase }, { on := 11, ground := Ground.phase }, { on := 12, ground := Ground.phase }, { on := 13, ground := Ground.phase }, { on := 14, ground := Ground.phase }, { on := 15, ground := Ground.textOnly Departure.lateStores }, { on := 16, ground := Ground.phase }, { on := 17, ground := Ground.phase }], guard := none }) (v := ?_) rfl (by kernel_rfl) (by kernel_rfl) (by kernel_rfl) (fun _ _ _ h => h) (Or.inl ⟨by rfl, ?hy⟩) hHeld ?_
          case hy => (intro w hSw; (try dsimp only at hSw); obtain ⟨_, _, _, _⟩ := hSw; go_simp; all_goals (with_reducible rfl))
          try simp only [Act.put, List.setIfInBounds_toArray, List.set_cons_zero, List.set_cons_succ]
          refine wpAnyH_take (i := 19) (oi := { dst := some 5, op := Op.assign (Operand.tmp 37), type := 34, pos := "manifest.go:53", after := #[{ on := 15, ground := Ground.data }, { on := 18, ground := Ground.chain }, { on := 0, ground := Ground.phase }, { on := 1, ground := Ground.phase }, { on := 2, ground := Ground.phase }, { on := 3, ground := Ground.phase }, { on := 4, ground := Ground.phase }, { on := 5, ground := Ground.phase }, { on := 6, ground := Ground.phase }, { on := 7, ground := Ground.phase }, { on := 8, ground := Ground.phase }, { on := 9, ground := Ground.phase }, { on := 10, ground := Ground.phase }, { on := 11, ground := Ground.phase }, { on := 12, ground := Ground.phase }, { on := 13, ground := Ground.phase }, { on := 14, ground := Ground.phase }, { on := 15, ground := Ground.phase }, { on := 16, ground := Ground.phase }, { on := 17, ground := Ground.phase }, { on := 18, ground := Ground.phase }], guard := none }) (v := ?_) rfl (by kernel_rfl) (by kernel_rfl) (by kernel_rfl) (fun _ _ _ h => h) (Or.inl ⟨by rfl, ?hy⟩) hHeld ?_
          case hy => (intro w hSw; (try dsimp only at hSw); obtain ⟨_, _, _, _⟩ := hSw; go_simp; all_goals (with_reducible rfl))
          try simp only [Act.put, List.setIfInBounds_toArray, List.set_cons_zero, List.set_cons_succ]
          refine wpAnyH_done (by kernel_rfl) ?_ _
          go_wp2_with fail
          go_meet
          exact ⟨_, rfl, fb20, flo20, _, _, _, _, rfl, rfl, rfl, LV⟩
        refine AllReadyH.cons (o := { dst := some 3, op := Op.alloc 27, type := 0, pos := "manifest.go:53", after := #[], guard := none }) rfl (fun K hK => ?_) AllReadyH.nil
        refine step_mkm rfl rfl ?_
        intro mb32 wm32 hmb32 hM32 hb32 ml32
        have HB32 : Below w2.heap.size w2 wm32 := (ZHB19.out).trans (hb32.mono (ZHB19.out).size)
        have mlo32 : w2.heap.size ≤ mb32 := by rw [hmb32]; exact (ZHB19.out).size
        have nmg32 : mb32 ≠ g19 := by have := gl19; omega
        have hE32 := (hb32.block _ gl19).trans ZhE19.out
        have gl32 := Nat.lt_of_lt_of_le gl19 hb32.size
        clear hmb32
        refine hK.out _ _ (HKP.out _ HB32) (fun hHeld => ?_)
        clear hK K
        have ZHB32 := hid HB32
        have ZhE32 := hid hE32
        have ZhM32 := hid hM32
        try clear HB32 hE32 hM32
        try simp only [Act.put, List.setIfInBounds_toArray, List.set_cons_zero, List.set_cons_succ]
        refine wpAnyH_ready (rs := [0]) (by kernel_rfl) (by simp) ?_
        refine AllReadyH.cons (o := { dst := some 23, op := Op.call { callee := Callee.value (Operand.func 14), args := #[], argTypes := #[] }, type := 37, pos := "manifest.go:53", after := #[], guard := none }) rfl (fun K hK => ?_) AllReadyH.nil
        go_simp
        refine (newField_any wm32).mono ?_
        rintro e wm33 ⟨rfl, hF33, hb33⟩
        have fl33 := lt_of_heap hF33
        obtain ⟨fb33, hfb33⟩ : ∃ y, y = wm32.heap.size := ⟨_, rfl⟩
        rw [← hfb33] at hF33 fl33
        have HB33 : Below w2.heap.size w2 wm33 := (ZHB32.out).trans (hb33.mono (ZHB32.out).size)
        have flo33 : w2.heap.size ≤ fb33 := by rw [hfb33]; exact (ZHB32.out).size
        have nfg33 : fb33 ≠ g19 := by have := gl32; omega
        have nmf33 : mb32 ≠ fb33 := by have := ml32; omega
        have hE33 := (hb33.block _ gl32).trans ZhE32.out
        have gl33 := Nat.lt_of_lt_of_le gl32 hb33.size
        have hM33 := (hb33.block _ ml32).trans ZhM32.out
        have ml33 := Nat.lt_of_lt_of_le ml32 hb33.size
        clear hHeld
        rw [← hfb33]
        clear hfb33
        go_wp2_with fail
        refine hK.out _ _ (HKP.out _ HB33) (fun hHeld => ?_)
        clear hK K
        have ZHB33 := hid HB33
        have ZhE33 := hid hE33
        have ZhM33 := hid hM33
        have ZhF33 := hid hF33
        try clear HB33 hE33 hM33 hF33
        try simp only [Act.put, List.setIfInBounds_toArray, List.set_cons_zero, List.set_cons_succ]
        refine wpAnyH_ready (rs := [10]) (by kernel_rfl) (by simp) ?_
        refine AllReadyH.cons (o := { dst := some 33, op := Op.call { callee := Callee.builtin Builtin.append, args := #[Operand.tmp 30, Operand.tmp 32], argTypes := #[22, 22] }, type := 22, pos := "manifest.go:53", after := #[{ on := 7, ground := Ground.data }, { on := 9, ground := Ground.data }, { on := 0, ground := Ground.chain }], guard := none }) rfl (fun K hK => ?_) AllReadyH.nil
        refine step_own_bytes rfl (.tmp 30) (.tmp 32) rfl w2.heap.size g19 rfl (own_emptyM ZhE33.out glo19) da dl dc ld rfl (HD.out.below (ZHB33.out)) HDN.out (by omega) (ZHB33.out).size ?_
        intro v34 wm34 hdA34 hgA34
        have nil34 := hdA34
        obtain ⟨av34, cv34, ev34, -, hcv34, hbv34, hlow34⟩ := bs_of_owns hdA34 HDL.out
        subst ev34
        have HB34 : Below w2.heap.size w2 wm34 := (ZHB33.out).grown hgA34 (ZHB33.out).size (fun q hq => by have := glo19; simp at hq; omega)
        have hM34 := (hgA34.block _ ml33 (by simp; exact nmg32)).trans ZhM33.out
        have ml34 := Nat.lt_of_lt_of_le ml33 hgA34.size
        have hF34 := (hgA34.block _ fl33 (by simp; exact nfg33)).trans ZhF33.out
        have fl34 := Nat.lt_of_lt_of_le fl33 hgA34.size
        refine hK.out _ _ (HKP.out _ HB34) (fun hHeld => ?_)
        clear hK K
        have ZHB34 := hid HB34
        have ZhM34 := hid hM34
        have ZhF34 := hid hF34
        have Zhbv34 := hid hbv34
        have Zhcv34 := hid hcv34
        have Zhlow34 := hid hlow34
        have ZhdA34 := hid hdA34
        try clear HB34 hM34 hF34 hbv34 hcv34 hlow34 hdA34
        try simp only [Act.put, List.setIfInBounds_toArray, List.set_cons_zero, List.set_cons_succ]
        refine wpAnyH_ready (rs := [11]) (by kernel_rfl) (by simp) ?_
        refine AllReadyH.cons (o := { dst := some 34, op := Op.call { callee := Callee.value (Operand.func 13), args := #[Operand.tmp 23, Operand.tmp 25, Operand.tmp 27, Operand.tmp 29, Operand.tmp 33], argTypes := #[37, 3, 3, 3, 22] }, type := 35, pos := "manifest.go:53", after := #[{ on := 0, ground := Ground.data }, { on := 2, ground := Ground.data }, { on := 4, ground := Ground.data }, { on := 6, ground := Ground.data }, { on := 10, ground := Ground.data }, { on := 10, ground := Ground.chain }], guard := none }) rfl (fun K hK => ?_) AllReadyH.nil
        go_simp
        refine (HMK.out fb33 wm34 (ZHB34.out) flo33 ZhF34.out av34 cv34 (Zhbv34.out) Zhcv34.out (off_typeX ZhdA34.out ZhF34.out (by decide))).mono ?_
        rintro e wm35 ⟨M35, pv35, ev35, rfl, hP35, hk35, hI35, hZ35, hO35⟩
        have hKK35 : Below w2.heap.size w2 wm35 := (ZHB34.out).trans (hk35.below (ZHB34.out).size flo33)
        have hM35 := (hk35.block _ ml34 nmf33).trans ZhM34.out
        clear hHeld
        go_wp2_with fail
        refine hK.out _ _ (HKP.out _ hKK35) (fun hHeld => ?_)
        clear hK K
        have ZhM35 := hid hM35
        have ZhKK35 := hid hKK35
        have ZhP35 := hid hP35
        have Zhk35 := hid hk35
        have ZhI35 := hid hI35
        have ZhZ35 := hid hZ35
        have ZhO35 := hid hO35
        try clear hM35 hKK35 hP35 hk35 hI35 hZ35 hO35
        try simp only [Act.put, List.setIfInBounds_toArray, List.set_cons_zero, List.set_cons_succ]
        refine wpAnyH_take (i := 12) (oi := { dst := some 22, op := Op.move (Operand.tmp 34), type := 35, pos := "manifest.go:53", after := #[{ on := 11, ground := Ground.data }], guard := none }) (v := ?_) rfl (by kernel_rfl) (by kernel_rfl) (by kernel_rfl) (fun _ _ _ h => h) (Or.inl ⟨by rfl, ?hy⟩) hHeld ?_
        case hy => (intro w hSw; (try dsimp only at hSw); obtain ⟨_, _, _, _⟩ := hSw; go_simp; all_goals (with_reducible rfl))
        try simp only [Act.put, List.setIfInBounds_toArray, List.set_cons_zero, List.set_cons_succ]
        refine wpAnyH_take (i := 13) (oi := { dst := some 35, op := Op.extract (Operand.tmp 22) 0, type := 27, pos := "manifest.go:53", after := #[{ on := 12, ground := Ground.data }], guard := none }) (v := ?_) rfl (by kernel_rfl) (by kernel_rfl) (by kernel_rfl) (fun _ _ _ h => h) (Or.inl ⟨by rfl, ?hy⟩) hHeld ?_
        case hy => (intro w hSw; (try dsimp only at hSw); obtain ⟨_, _, _, _⟩ := hSw; go_simp; all_goals (with_reducible rfl))
        try simp only [Act.put, List.setIfInBounds_toArray, List.set_cons_zero, List.set_cons_succ]
        refine wpAnyH_take (i := 14) (oi := { dst := some 36, op := Op.extract (Operand.tmp 22) 1, type := 28, pos := "manifest.go:53", after := #[{ on := 12, ground := Ground.data }, { on := 17, ground := Ground.gcOnly Departure.lateStores }], guard := none }) (v := ?_) rfl (by kernel_rfl) (by kernel_rfl) (by kernel_rfl) (fun _ _ _ h => h) (Or.inl ⟨by rfl, ?hy⟩) hHeld ?_
        case hy => (intro w hSw; (try dsimp only at hSw); obtain ⟨_, _, _, _⟩ := hSw; go_simp; all_goals (with_reducible rfl))
        try simp only [Act.put, List.setIfInBounds_toArray, List.set_cons_zero, List.set_cons_succ]
        refine wpAnyH_take (i := 15) (oi := { dst := some 37, op := Op.extract (Operand.tmp 22) 2, type := 34, pos := "manifest.go:53", after := #[{ on := 12, ground := Ground.data }, { on := 18, ground := Ground.gcOnly Departure.lateStores }], guard := none }) (v := ?_) rfl (by kernel_rfl) (by kernel_rfl) (by kernel_rfl) (fun _ _ _ h => h) (Or.inl ⟨by rfl, ?hy⟩) hHeld ?_
        case hy => (intro w hSw; (try dsimp only at hSw); obtain ⟨_, _, _, _⟩ := hSw; go_simp; all_goals (with_reducible rfl))
        try simp only [Act.put, List.setIfInBounds_toArray, List.set_cons_zero, List.set_cons_succ]
        refine wpAnyH_ready (rs := [17]) (by kernel_rfl) (by simp) ?_
        refine AllReadyH.cons (o := { dst := none, op := Op.store 27 (Operand.tmp 3) (Operand.tmp 35), type := 0, pos := "manifest.go:53", after := #[{ on := 16, ground := Ground.data }, { on := 13, ground := Ground.data }, { on := 11, ground := Ground.chain }, { on := 0, ground := Ground.phase }, { on := 1, ground := Ground.phase }, { on := 2, ground := Ground.phase }, { on := 3, ground := Ground.phase }, { on := 4, ground := Ground.phase }, { on := 5, ground := Ground.phase }, { on := 6, ground := Ground.phase }, { on := 7, ground := Ground.phase }, { on := 8, ground := Ground.phase }, { on := 9, ground := Ground.phase }, { on := 10, ground := Ground.phase }, { on := 11, ground := Ground.phase }, { on := 12, ground := Ground.phase }, { on := 13, ground := Ground.phase }, { on := 14, ground := Ground.textOnly Departure.lateStores }, { on := 15, ground := Ground.textOnly Departure.lateStores }, { on := 16, ground := Ground.phase }], guard := none }) rfl (fun K hK => ?_) AllReadyH.nil
        refine step_store_row rfl 27 (.tmp 3) (.tmp 35) rfl mb32 mz M35 27 rfl rfl ZhM35.out ZhI35.out ZhZ35.out ZhO35.out ?_
        intro wz36 hz36 hkz36
        refine hK.out _ _ (HKP.out _ ((ZhKK35.out).trans (hkz36.below (ZhKK35.out).size mlo32))) (fun hHeld => ?_)
        clear hK K
        try simp only [Act.put]
        have LV := hid (mdx_early (fb := fb33) (Post := (POST fb33)) (ZHB34.out) ZhP35.out Zhk35.out mlo32 ml34 hz36 hkz36)
        refine wpAnyH_take (i := 18) (oi := { dst := some 4, op := Op.assign (Operand.tmp 36), type := 28, pos := "manifest.go:53", after := #[{ on := 14, ground := Ground.data }, { on := 17, ground := Ground.chain }, { on := 0, ground := Ground.phase }, { on := 1, ground := Ground.phase }, { on := 2, ground := Ground.phase }, { on := 3, ground := Ground.phase }, { on := 4, ground := Ground.phase }, { on := 5, ground := Ground.phase }, { on := 6, ground := Ground.phase }, { on := 7, ground := Ground.phase }, { on := 8, ground := Ground.phase }, { on := 9, ground := Ground.phase }, { on := 10, ground := Ground.phase }, { on := 11, ground := Ground.phase }, { on := 12, ground := Ground.phase }, { on := 13, ground := Ground.phase }, { on := 14, ground := Ground.phase }, { on := 15, ground := Ground.textOnly Departure.lateStores }, { on := 16, ground := Ground.phase }, { on := 17, ground := Ground.phase }], guard := none }) (v := ?_) rfl (by kernel_rfl) (by kernel_rfl) (by kernel_rfl) (fun _ _ _ h => h) (Or.inl ⟨by rfl, ?hy⟩) hHeld ?_
        case hy => (intro w hSw; (try dsimp only at hSw); obtain ⟨_, _, _, _⟩ := hSw; go_simp; all_goals (with_reducible rfl))
        try simp only [Act.put, List.setIfInBounds_toArray, List.set_cons_zero, List.set_cons_succ]
        refine wpAnyH_take (i := 19) (oi := { dst := some 5, op := Op.assign (Operand.tmp 37), type := 34, pos := "manifest.go:53", after := #[{ on := 15, ground := Ground.data }, { on := 18, ground := Ground.chain }, { on := 0, ground := Ground.phase }, { on := 1, ground := Ground.phase }, { on := 2, ground := Ground.phase }, { on := 3, ground := Ground.phase }, { on := 4, ground := Ground.phase }, { on := 5, ground := Ground.phase }, { on := 6, ground := Ground.phase }, { on := 7, ground := Ground.phase }, { on := 8, ground := Ground.phase }, { on := 9, ground := Ground.phase }, { on := 10, ground := Ground.phase }, { on := 11, ground := Ground.phase }, { on := 12, ground := Ground.phase }, { on := 13, ground := Ground.phase }, { on := 14, ground := Ground.phase }, { on := 15, ground := Ground.phase }, { on := 16, ground := Ground.phase }, { on := 17, ground := Ground.phase }, { on := 18, ground := Ground.phase }], guard := none }) (v := ?_) rfl (by kernel_rfl) (by kernel_rfl) (by kernel_rfl) (fun _ _ _ h => h) (Or.inl ⟨by rfl, ?hy⟩) hHeld ?_
        case hy => (intro w hSw; (try dsimp only at hSw); obtain ⟨_, _, _, _⟩ := hSw; go_simp; all_goals (with_reducible rfl))
        try simp only [Act.put, List.setIfInBounds_toArray, List.set_cons_zero, List.set_cons_succ]
        refine wpAnyH_done (by kernel_rfl) ?_ _
        go_wp2_with fail
        go_meet
        exact ⟨_, rfl, fb33, flo33, _, _, _, _, rfl, rfl, rfl, LV⟩
      refine AllReadyH.cons (o := { dst := some 3, op := Op.alloc 27, type := 0, pos := "manifest.go:53", after := #[], guard := none }) rfl (fun K hK => ?_) AllReadyH.nil
      refine step_mkm rfl rfl ?_
      intro mb37 wm37 hmb37 hM37 hb37 ml37
      have HB37 : Below w2.heap.size w2 wm37 := ((bel_drewN (Below.refl w2.heap.size w2) 1)).trans (hb37.mono ((bel_drewN (Below.refl w2.heap.size w2) 1)).size)
      have mlo37 : w2.heap.size ≤ mb37 := by rw [hmb37]; exact ((bel_drewN (Below.refl w2.heap.size w2) 1)).size
      clear hmb37
      refine hK.out _ _ (HKP.out _ HB37) (fun hHeld => ?_)
      clear hK K
      have ZHB37 := hid HB37
      have ZhM37 := hid hM37
      try clear HB37 hM37
      try simp only [Act.put, List.setIfInBounds_toArray, List.set_cons_zero, List.set_cons_succ]
      refine wpAnyH_ready (rs := [0, 7]) (by kernel_rfl) (by simp) ?_
      refine AllReadyH.cons (o := { dst := some 23, op := Op.call { callee := Callee.value (Operand.func 14), args := #[], argTypes := #[] }, type := 37, pos := "manifest.go:53", after := #[], guard := none }) rfl (fun K hK => ?_) ?_
      · skip
        go_simp
        refine (newField_any wm37).mono ?_
        rintro e wm38 ⟨rfl, hF38, hb38⟩
        have fl38 := lt_of_heap hF38
        obtain ⟨fb38, hfb38⟩ : ∃ y, y = wm37.heap.size := ⟨_, rfl⟩
        rw [← hfb38] at hF38 fl38
        have HB38 : Below w2.heap.size w2 wm38 := (ZHB37.out).trans (hb38.mono (ZHB37.out).size)
        have flo38 : w2.heap.size ≤ fb38 := by rw [hfb38]; exact (ZHB37.out).size
        have nmf38 : mb37 ≠ fb38 := by have := ml37; omega
        have hM38 := (hb38.block _ ml37).trans ZhM37.out
        have ml38 := Nat.lt_of_lt_of_le ml37 hb38.size
        clear hHeld
        rw [← hfb38]
        clear hfb38
        go_wp2_with fail
        refine hK.out _ _ (HKP.out _ HB38) (fun hHeld => ?_)
        clear hK K
        have ZHB38 := hid HB38
        have ZhM38 := hid hM38
        have ZhF38 := hid hF38
        try clear HB38 hM38 hF38
        try simp only [Act.put, List.setIfInBounds_toArray, List.set_cons_zero, List.set_cons_succ]
        refine wpAnyH_ready (rs := [7]) (by kernel_rfl) (by simp) ?_
        refine AllReadyH.cons (o := { dst := some 30, op := Op.buildSlice 22 0 #[], type := 22, pos := "manifest.go:53", after := #[], guard := none }) rfl (fun K hK => ?_) AllReadyH.nil
        refine step_build0 rfl rfl ?_
        intro g39 wm39 hge39 hE39 hb39 gl39
        have HB39 : Below w2.heap.size w2 wm39 := (ZHB38.out).trans (hb39.mono (ZHB38.out).size)
        have nfg39 : fb38 ≠ g39 := by have := fl38; omega
        have nmg39 : mb37 ≠ g39 := by have := ml38; omega
        have hM39 := (hb39.block _ ml38).trans ZhM38.out
        have ml39 := Nat.lt_of_lt_of_le ml38 hb39.size
        have hF39 := (hb39.block _ fl38).trans ZhF38.out
        have fl39 := Nat.lt_of_lt_of_le fl38 hb39.size
        have glo39 : w2.heap.size ≤ g39 := by rw [hge39]; exact (ZHB38.out).size
        clear hge39
        refine hK.out _ _ (HKP.out _ HB39) (fun hHeld => ?_)
        clear hK K
        have ZHB39 := hid HB39
        have ZhE39 := hid hE39
        have ZhM39 := hid hM39
        have ZhF39 := hid hF39
        try clear HB39 hE39 hM39 hF39
        try simp only [Act.put, List.setIfInBounds_toArray, List.set_cons_zero, List.set_cons_succ]
        refine wpAnyH_ready (rs := [10]) (by kernel_rfl) (by simp) ?_
        refine AllReadyH.cons (o := { dst := some 33, op := Op.call { callee := Callee.builtin Builtin.append, args := #[Operand.tmp 30, Operand.tmp 32], argTypes := #[22, 22] }, type := 22, pos := "manifest.go:53", after := #[{ on := 7, ground := Ground.data }, { on := 9, ground := Ground.data }, { on := 0, ground := Ground.chain }], guard := none }) rfl (fun K hK => ?_) AllReadyH.nil
        refine step_own_bytes rfl (.tmp 30) (.tmp 32) rfl w2.heap.size g39 rfl (own_emptyM ZhE39.out glo39) da dl dc ld rfl (HD.out.below (ZHB39.out)) HDN.out (by omega) (ZHB39.out).size ?_
        intro v40 wm40 hdA40 hgA40
        have nil40 := hdA40
        obtain ⟨av40, cv40, ev40, -, hcv40, hbv40, hlow40⟩ := bs_of_owns hdA40 HDL.out
        subst ev40
        have HB40 : Below w2.heap.size w2 wm40 := (ZHB39.out).grown hgA40 (ZHB39.out).size (fun q hq => by have := glo39; simp at hq; omega)
        have hM40 := (hgA40.block _ ml39 (by simp; exact nmg39)).trans ZhM39.out
        have ml40 := Nat.lt_of_lt_of_le ml39 hgA40.size
        have hF40 := (hgA40.block _ fl39 (by simp; exact nfg39)).trans ZhF39.out
        have fl40 := Nat.lt_of_lt_of_le fl39 hgA40.size
        refine hK.out _ _ (HKP.out _ HB40) (fun hHeld => ?_)
        clear hK K
        have ZHB40 := hid HB40
        have ZhM40 := hid hM40
        have ZhF40 := hid hF40
        have Zhbv40 := hid hbv40
        have Zhcv40 := hid hcv40
        have Zhlow40 := hid hlow40
        have ZhdA40 := hid hdA40
        try clear HB40 hM40 hF40 hbv40 hcv40 hlow40 hdA40
        try simp only [Act.put, List.setIfInBounds_toArray, List.set_cons_zero, List.set_cons_succ]
        refine wpAnyH_ready (rs := [11]) (by kernel_rfl) (by simp) ?_
        refine AllReadyH.cons (o := { dst := some 34, op := Op.call { callee := Callee.value (Operand.func 13), args := #[Operand.tmp 23, Operand.tmp 25, Operand.tmp 27, Operand.tmp 29, Operand.tmp 33], argTypes := #[37, 3, 3, 3, 22] }, type := 35, pos := "manifest.go:53", after := #[{ on := 0, ground := Ground.data }, { on := 2, ground := Ground.data }, { on := 4, ground := Ground.data }, { on := 6, ground := Ground.data }, { on := 10, ground := Ground.data }, { on := 10, ground := Ground.chain }], guard := none }) rfl (fun K hK => ?_) AllReadyH.nil
        go_simp
        refine (HMK.out fb38 wm40 (ZHB40.out) flo38 ZhF40.out av40 cv40 (Zhbv40.out) Zhcv40.out (off_typeX ZhdA40.out ZhF40.out (by decide))).mono ?_
        rintro e wm41 ⟨M41, pv41, ev41, rfl, hP41, hk41, hI41, hZ41, hO41⟩
        have hKK41 : Below w2.heap.size w2 wm41 := (ZHB40.out).trans (hk41.below (ZHB40.out).size flo38)
        have hM41 := (hk41.block _ ml40 nmf38).trans ZhM40.out
        clear hHeld
        go_wp2_with fail
        refine hK.out _ _ (HKP.out _ hKK41) (fun hHeld => ?_)
        clear hK K
        have ZhM41 := hid hM41
        have ZhKK41 := hid hKK41
        have ZhP41 := hid hP41
        have Zhk41 := hid hk41
        have ZhI41 := hid hI41
        have ZhZ41 := hid hZ41
        have ZhO41 := hid hO41
        try clear hM41 hKK41 hP41 hk41 hI41 hZ41 hO41
        try simp only [Act.put, List.setIfInBounds_toArray, List.set_cons_zero, List.set_cons_succ]
        refine wpAnyH_take (i := 12) (oi := { dst := some 22, op := Op.move (Operand.tmp 34), type := 35, pos := "manifest.go:53", after := #[{ on := 11, ground := Ground.data }], guard := none }) (v := ?_) rfl (by kernel_rfl) (by kernel_rfl) (by kernel_rfl) (fun _ _ _ h => h) (Or.inl ⟨by rfl, ?hy⟩) hHeld ?_
        case hy => (intro w hSw; (try dsimp only at hSw); obtain ⟨_, _, _, _⟩ := hSw; go_simp; all_goals (with_reducible rfl))
        try simp only [Act.put, List.setIfInBounds_toArray, List.set_cons_zero, List.set_cons_succ]
        refine wpAnyH_take (i := 13) (oi := { dst := some 35, op := Op.extract (Operand.tmp 22) 0, type := 27, pos := "manifest.go:53", after := #[{ on := 12, ground := Ground.data }], guard := none }) (v := ?_) rfl (by kernel_rfl) (by kernel_rfl) (by kernel_rfl) (fun _ _ _ h => h) (Or.inl ⟨by rfl, ?hy⟩) hHeld ?_
        case hy => (intro w hSw; (try dsimp only at hSw); obtain ⟨_, _, _, _⟩ := hSw; go_simp; all_goals (with_reducible rfl))
        try simp only [Act.put, List.setIfInBounds_toArray, List.set_cons_zero, List.set_cons_succ]
        refine wpAnyH_take (i := 14) (oi := { dst := some 36, op := Op.extract (Operand.tmp 22) 1, type := 28, pos := "manifest.go:53", after := #[{ on := 12, ground := Ground.data }, { on := 17, ground := Ground.gcOnly Departure.lateStores }], guard := none }) (v := ?_) rfl (by kernel_rfl) (by kernel_rfl) (by kernel_rfl) (fun _ _ _ h => h) (Or.inl ⟨by rfl, ?hy⟩) hHeld ?_
        case hy => (intro w hSw; (try dsimp only at hSw); obtain ⟨_, _, _, _⟩ := hSw; go_simp; all_goals (with_reducible rfl))
        try simp only [Act.put, List.setIfInBounds_toArray, List.set_cons_zero, List.set_cons_succ]
        refine wpAnyH_take (i := 15) (oi := { dst := some 37, op := Op.extract (Operand.tmp 22) 2, type := 34, pos := "manifest.go:53", after := #[{ on := 12, ground := Ground.data }, { on := 18, ground := Ground.gcOnly Departure.lateStores }], guard := none }) (v := ?_) rfl (by kernel_rfl) (by kernel_rfl) (by kernel_rfl) (fun _ _ _ h => h) (Or.inl ⟨by rfl, ?hy⟩) hHeld ?_
        case hy => (intro w hSw; (try dsimp only at hSw); obtain ⟨_, _, _, _⟩ := hSw; go_simp; all_goals (with_reducible rfl))
        try simp only [Act.put, List.setIfInBounds_toArray, List.set_cons_zero, List.set_cons_succ]
        refine wpAnyH_ready (rs := [17]) (by kernel_rfl) (by simp) ?_
        refine AllReadyH.cons (o := { dst := none, op := Op.store 27 (Operand.tmp 3) (Operand.tmp 35), type := 0, pos := "manifest.go:53", after := #[{ on := 16, ground := Ground.data }, { on := 13, ground := Ground.data }, { on := 11, ground := Ground.chain }, { on := 0, ground := Ground.phase }, { on := 1, ground := Ground.phase }, { on := 2, ground := Ground.phase }, { on := 3, ground := Ground.phase }, { on := 4, ground := Ground.phase }, { on := 5, ground := Ground.phase }, { on := 6, ground := Ground.phase }, { on := 7, ground := Ground.phase }, { on := 8, ground := Ground.phase }, { on := 9, ground := Ground.phase }, { on := 10, ground := Ground.phase }, { on := 11, ground := Ground.phase }, { on := 12, ground := Ground.phase }, { on := 13, ground := Ground.phase }, { on := 14, ground := Ground.textOnly Departure.lateStores }, { on := 15, ground := Ground.textOnly Departure.lateStores }, { on := 16, ground := Ground.phase }], guard := none }) rfl (fun K hK => ?_) AllReadyH.nil
        refine step_store_row rfl 27 (.tmp 3) (.tmp 35) rfl mb37 mz M41 27 rfl rfl ZhM41.out ZhI41.out ZhZ41.out ZhO41.out ?_
        intro wz42 hz42 hkz42
        refine hK.out _ _ (HKP.out _ ((ZhKK41.out).trans (hkz42.below (ZhKK41.out).size mlo37))) (fun hHeld => ?_)
        clear hK K
        try simp only [Act.put]
        have LV := hid (mdx_early (fb := fb38) (Post := (POST fb38)) (ZHB40.out) ZhP41.out Zhk41.out mlo37 ml40 hz42 hkz42)
        refine wpAnyH_take (i := 18) (oi := { dst := some 4, op := Op.assign (Operand.tmp 36), type := 28, pos := "manifest.go:53", after := #[{ on := 14, ground := Ground.data }, { on := 17, ground := Ground.chain }, { on := 0, ground := Ground.phase }, { on := 1, ground := Ground.phase }, { on := 2, ground := Ground.phase }, { on := 3, ground := Ground.phase }, { on := 4, ground := Ground.phase }, { on := 5, ground := Ground.phase }, { on := 6, ground := Ground.phase }, { on := 7, ground := Ground.phase }, { on := 8, ground := Ground.phase }, { on := 9, ground := Ground.phase }, { on := 10, ground := Ground.phase }, { on := 11, ground := Ground.phase }, { on := 12, ground := Ground.phase }, { on := 13, ground := Ground.phase }, { on := 14, ground := Ground.phase }, { on := 15, ground := Ground.textOnly Departure.lateStores }, { on := 16, ground := Ground.phase }, { on := 17, ground := Ground.phase }], guard := none }) (v := ?_) rfl (by kernel_rfl) (by kernel_rfl) (by kernel_rfl) (fun _ _ _ h => h) (Or.inl ⟨by rfl, ?hy⟩) hHeld ?_
        case hy => (intro w hSw; (try dsimp only at hSw); obtain ⟨_, _, _, _⟩ := hSw; go_simp; all_goals (with_reducible rfl))
        try simp only [Act.put, List.setIfInBounds_toArray, List.set_cons_zero, List.set_cons_succ]
        refine wpAnyH_take (i := 19) (oi := { dst := some 5, op := Op.assign (Operand.tmp 37), type := 34, pos := "manifest.go:53", after := #[{ on := 15, ground := Ground.data }, { on := 18, ground := Ground.chain }, { on := 0, ground := Ground.phase }, { on := 1, ground := Ground.phase }, { on := 2, ground := Ground.phase }, { on := 3, ground := Ground.phase }, { on := 4, ground := Ground.phase }, { on := 5, ground := Ground.phase }, { on := 6, ground := Ground.phase }, { on := 7, ground := Ground.phase }, { on := 8, ground := Ground.phase }, { on := 9, ground := Ground.phase }, { on := 10, ground := Ground.phase }, { on := 11, ground := Ground.phase }, { on := 12, ground := Ground.phase }, { on := 13, ground := Ground.phase }, { on := 14, ground := Ground.phase }, { on := 15, ground := Ground.phase }, { on := 16, ground := Ground.phase }, { on := 17, ground := Ground.phase }, { on := 18, ground := Ground.phase }], guard := none }) (v := ?_) rfl (by kernel_rfl) (by kernel_rfl) (by kernel_rfl) (fun _ _ _ h => h) (Or.inl ⟨by rfl, ?hy⟩) hHeld ?_
        case hy => (intro w hSw; (try dsimp only at hSw); obtain ⟨_, _, _, _⟩ := hSw; go_simp; all_goals (with_reducible rfl))
        try simp only [Act.put, List.setIfInBounds_toArray, List.set_cons_zero, List.set_cons_succ]
        refine wpAnyH_done (by kernel_rfl) ?_ _
        go_wp2_with fail
        go_meet
        exact ⟨_, rfl, fb38, flo38, _, _, _, _, rfl, rfl, rfl, LV⟩
      refine AllReadyH.cons (o := { dst := some 30, op := Op.buildSlice 22 0 #[], type := 22, pos := "manifest.go:53", after := #[], guard := none }) rfl (fun K hK => ?_) AllReadyH.nil
      refine step_build0 rfl rfl ?_
      intro g43 wm43 hge43 hE43 hb43 gl43
      have HB43 : Below w2.heap.size w2 wm43 := (ZHB37.out).trans (hb43.mono (ZHB37.out).size)
      have nmg43 : mb37 ≠ g43 := by have := ml37; omega
      have hM43 := (hb43.block _ ml37).trans ZhM37.out
      have ml43 := Nat.lt_of_lt_of_le ml37 hb43.size
      have glo43 : w2.heap.size ≤ g43 := by rw [hge43]; exact (ZHB37.out).size
      clear hge43
      refine hK.out _ _ (HKP.out _ HB43) (fun hHeld => ?_)
      clear hK K
      have ZHB43 := hid HB43
      have ZhE43 := hid hE43
      have ZhM43 := hid hM43
      try clear HB43 hE43 hM43
      try simp only [Act.put, List.setIfInBounds_toArray, List.set_cons_zero, List.set_cons_succ]
      refine wpAnyH_ready (rs := [0]) (by kernel_rfl) (by simp) ?_
      refine AllReadyH.cons (o := { dst := some 23, op := Op.call { callee := Callee.value (Operand.func 14), args := #[], argTypes := #[] }, type := 37, pos := "manifest.go:53", after := #[], guard := none }) rfl (fun K hK => ?_) AllReadyH.nil
      go_simp
      refine (newField_any wm43).mono ?_
      rintro e wm44 ⟨rfl, hF44, hb44⟩
      have fl44 := lt_of_heap hF44
      obtain ⟨fb44, hfb44⟩ : ∃ y, y = wm43.heap.size := ⟨_, rfl⟩
      rw [← hfb44] at hF44 fl44
      have HB44 : Below w2.heap.size w2 wm44 := (ZHB43.out).trans (hb44.mono (ZHB43.out).size)
      have flo44 : w2.heap.size ≤ fb44 := by rw [hfb44]; exact (ZHB43.out).size
      have nfg44 : fb44 ≠ g43 := by have := gl43; omega
      have nmf44 : mb37 ≠ fb44 := by have := ml43; omega
      have hE44 := (hb44.block _ gl43).trans ZhE43.out
      have gl44 := Nat.lt_of_lt_of_le gl43 hb44.size
      have hM44 := (hb44.block _ ml43).trans ZhM43.out
      have ml44 := Nat.lt_of_lt_of_le ml43 hb44.size
      clear hHeld
      rw [← hfb44]
      clear hfb44
      go_wp2_with fail
      refine hK.out _ _ (HKP.out _ HB44) (fun hHeld => ?_)
      clear hK K
      have ZHB44 := hid HB44
      have ZhE44 := hid hE44
      have ZhM44 := hid hM44
      have ZhF44 := hid hF44
      try clear HB44 hE44 hM44 hF44
      try simp only [Act.put, List.setIfInBounds_toArray, List.set_cons_zero, List.set_cons_succ]
      refine wpAnyH_ready (rs := [10]) (by kernel_rfl) (by simp) ?_
      refine AllReadyH.cons (o := { dst := some 33, op := Op.call { callee := Callee.builtin Builtin.append, args := #[Operand.tmp 30, Operand.tmp 32], argTypes := #[22, 22] }, type := 22, pos := "manifest.go:53", after := #[{ on := 7, ground := Ground.data }, { on := 9, ground := Ground.data }, { on := 0, ground := Ground.chain }], guard := none }) rfl (fun K hK => ?_) AllReadyH.nil
      refine step_own_bytes rfl (.tmp 30) (.tmp 32) rfl w2.heap.size g43 rfl (own_emptyM ZhE44.out glo43) da dl dc ld rfl (HD.out.below (ZHB44.out)) HDN.out (by omega) (ZHB44.out).size ?_
      intro v45 wm45 hdA45 hgA45
      have nil45 := hdA45
      obtain ⟨av45, cv45, ev45, -, hcv45, hbv45, hlow45⟩ := bs_of_owns hdA45 HDL.out
      subst ev45
      have HB45 : Below w2.heap.size w2 wm45 := (ZHB44.out).grown hgA45 (ZHB44.out).size (fun q hq => by have := glo43; simp at hq; omega)
      have hM45 := (hgA45.block _ ml44 (by simp; exact nmg43)).trans ZhM44.out
      have ml45 := Nat.lt_of_lt_of_le ml44 hgA45.size
      have hF45 := (hgA45.block _ fl44 (by simp; exact nfg44)).trans ZhF44.out
      have fl45 := Nat.lt_of_lt_of_le fl44 hgA45.size
      refine hK.out _ _ (HKP.out _ HB45) (fun hHeld => ?_)
      clear hK K
      have ZHB45 := hid HB45
      have ZhM45 := hid hM45
      have ZhF45 := hid hF45
      have Zhbv45 := hid hbv45
      have Zhcv45 := hid hcv45
      have Zhlow45 := hid hlow45
      have ZhdA45 := hid hdA45
      try clear HB45 hM45 hF45 hbv45 hcv45 hlow45 hdA45
      try simp only [Act.put, List.setIfInBounds_toArray, List.set_cons_zero, List.set_cons_succ]
      refine wpAnyH_ready (rs := [11]) (by kernel_rfl) (by simp) ?_
      refine AllReadyH.cons (o := { dst := some 34, op := Op.call { callee := Callee.value (Operand.func 13), args := #[Operand.tmp 23, Operand.tmp 25, Operand.tmp 27, Operand.tmp 29, Operand.tmp 33], argTypes := #[37, 3, 3, 3, 22] }, type := 35, pos := "manifest.go:53", after := #[{ on := 0, ground := Ground.data }, { on := 2, ground := Ground.data }, { on := 4, ground := Ground.data }, { on := 6, ground := Ground.data }, { on := 10, ground := Ground.data }, { on := 10, ground := Ground.chain }], guard := none }) rfl (fun K hK => ?_) AllReadyH.nil
      go_simp
      refine (HMK.out fb44 wm45 (ZHB45.out) flo44 ZhF45.out av45 cv45 (Zhbv45.out) Zhcv45.out (off_typeX ZhdA45.out ZhF45.out (by decide))).mono ?_
      rintro e wm46 ⟨M46, pv46, ev46, rfl, hP46, hk46, hI46, hZ46, hO46⟩
      have hKK46 : Below w2.heap.size w2 wm46 := (ZHB45.out).trans (hk46.below (ZHB45.out).size flo44)
      have hM46 := (hk46.block _ ml45 nmf44).trans ZhM45.out
      clear hHeld
      go_wp2_with fail
      refine hK.out _ _ (HKP.out _ hKK46) (fun hHeld => ?_)
      clear hK K
      have ZhM46 := hid hM46
      have ZhKK46 := hid hKK46
      have ZhP46 := hid hP46
      have Zhk46 := hid hk46
      have ZhI46 := hid hI46
      have ZhZ46 := hid hZ46
      have ZhO46 := hid hO46
      try clear hM46 hKK46 hP46 hk46 hI46 hZ46 hO46
      try simp only [Act.put, List.setIfInBounds_toArray, List.set_cons_zero, List.set_cons_succ]
      refine wpAnyH_take (i := 12) (oi := { dst := some 22, op := Op.move (Operand.tmp 34), type := 35, pos := "manifest.go:53", after := #[{ on := 11, ground := Ground.data }], guard := none }) (v := ?_) rfl (by kernel_rfl) (by kernel_rfl) (by kernel_rfl) (fun _ _ _ h => h) (Or.inl ⟨by rfl, ?hy⟩) hHeld ?_
      case hy => (intro w hSw; (try dsimp only at hSw); obtain ⟨_, _, _, _⟩ := hSw; go_simp; all_goals (with_reducible rfl))
      try simp only [Act.put, List.setIfInBounds_toArray, List.set_cons_zero, List.set_cons_succ]
      refine wpAnyH_take (i := 13) (oi := { dst := some 35, op := Op.extract (Operand.tmp 22) 0, type := 27, pos := "manifest.go:53", after := #[{ on := 12, ground := Ground.data }], guard := none }) (v := ?_) rfl (by kernel_rfl) (by kernel_rfl) (by kernel_rfl) (fun _ _ _ h => h) (Or.inl ⟨by rfl, ?hy⟩) hHeld ?_
      case hy => (intro w hSw; (try dsimp only at hSw); obtain ⟨_, _, _, _⟩ := hSw; go_simp; all_goals (with_reducible rfl))
      try simp only [Act.put, List.setIfInBounds_toArray, List.set_cons_zero, List.set_cons_succ]
      refine wpAnyH_take (i := 14) (oi := { dst := some 36, op := Op.extract (Operand.tmp 22) 1, type := 28, pos := "manifest.go:53", after := #[{ on := 12, ground := Ground.data }, { on := 17, ground := Ground.gcOnly Departure.lateStores }], guard := none }) (v := ?_) rfl (by kernel_rfl) (by kernel_rfl) (by kernel_rfl) (fun _ _ _ h => h) (Or.inl ⟨by rfl, ?hy⟩) hHeld ?_
      case hy => (intro w hSw; (try dsimp only at hSw); obtain ⟨_, _, _, _⟩ := hSw; go_simp; all_goals (with_reducible rfl))
      try simp only [Act.put, List.setIfInBounds_toArray, List.set_cons_zero, List.set_cons_succ]
      refine wpAnyH_take (i := 15) (oi := { dst := some 37, op := Op.extract (Operand.tmp 22) 2, type := 34, pos := "manifest.go:53", after := #[{ on := 12, ground := Ground.data }, { on := 18, ground := Ground.gcOnly Departure.lateStores }], guard := none }) (v := ?_) rfl (by kernel_rfl) (by kernel_rfl) (by kernel_rfl) (fun _ _ _ h => h) (Or.inl ⟨by rfl, ?hy⟩) hHeld ?_
      case hy => (intro w hSw; (try dsimp only at hSw); obtain ⟨_, _, _, _⟩ := hSw; go_simp; all_goals (with_reducible rfl))
      try simp only [Act.put, List.setIfInBounds_toArray, List.set_cons_zero, List.set_cons_succ]
      refine wpAnyH_ready (rs := [17]) (by kernel_rfl) (by simp) ?_
      refine AllReadyH.cons (o := { dst := none, op := Op.store 27 (Operand.tmp 3) (Operand.tmp 35), type := 0, pos := "manifest.go:53", after := #[{ on := 16, ground := Ground.data }, { on := 13, ground := Ground.data }, { on := 11, ground := Ground.chain }, { on := 0, ground := Ground.phase }, { on := 1, ground := Ground.phase }, { on := 2, ground := Ground.phase }, { on := 3, ground := Ground.phase }, { on := 4, ground := Ground.phase }, { on := 5, ground := Ground.phase }, { on := 6, ground := Ground.phase }, { on := 7, ground := Ground.phase }, { on := 8, ground := Ground.phase }, { on := 9, ground := Ground.phase }, { on := 10, ground := Ground.phase }, { on := 11, ground := Ground.phase }, { on := 12, ground := Ground.phase }, { on := 13, ground := Ground.phase }, { on := 14, ground := Ground.textOnly Departure.lateStores }, { on := 15, ground := Ground.textOnly Departure.lateStores }, { on := 16, ground := Ground.phase }], guard := none }) rfl (fun K hK => ?_) AllReadyH.nil
      refine step_store_row rfl 27 (.tmp 3) (.tmp 35) rfl mb37 mz M46 27 rfl rfl ZhM46.out ZhI46.out ZhZ46.out ZhO46.out ?_
      intro wz47 hz47 hkz47
      refine hK.out _ _ (HKP.out _ ((ZhKK46.out).trans (hkz47.below (ZhKK46.out).size mlo37))) (fun hHeld => ?_)
      clear hK K
      try simp only [Act.put]
      have LV := hid (mdx_early (fb := fb44) (Post := (POST fb44)) (ZHB45.out) ZhP46.out Zhk46.out mlo37 ml45 hz47 hkz47)
      refine wpAnyH_take (i := 18) (oi := { dst := some 4, op := Op.assign (Operand.tmp 36), type := 28, pos := "manifest.go:53", after := #[{ on := 14, ground := Ground.data }, { on := 17, ground := Ground.chain }, { on := 0, ground := Ground.phase }, { on := 1, ground := Ground.phase }, { on := 2, ground := Ground.phase }, { on := 3, ground := Ground.phase }, { on := 4, ground := Ground.phase }, { on := 5, ground := Ground.phase }, { on := 6, ground := Ground.phase }, { on := 7, ground := Ground.phase }, { on := 8, ground := Ground.phase }, { on := 9, ground := Ground.phase }, { on := 10, ground := Ground.phase }, { on := 11, ground := Ground.phase }, { on := 12, ground := Ground.phase }, { on := 13, ground := Ground.phase }, { on := 14, ground := Ground.phase }, { on := 15, ground := Ground.textOnly Departure.lateStores }, { on := 16, ground := Ground.phase }, { on := 17, ground := Ground.phase }], guard := none }) (v := ?_) rfl (by kernel_rfl) (by kernel_rfl) (by kernel_rfl) (fun _ _ _ h => h) (Or.inl ⟨by rfl, ?hy⟩) hHeld ?_
      case hy => (intro w hSw; (try dsimp only at hSw); obtain ⟨_, _, _, _⟩ := hSw; go_simp; all_goals (with_reducible rfl))
      try simp only [Act.put, List.setIfInBounds_toArray, List.set_cons_zero, List.set_cons_succ]
      refine wpAnyH_take (i := 19) (oi := { dst := some 5, op := Op.assign (Operand.tmp 37), type := 34, pos := "manifest.go:53", after := #[{ on := 15, ground := Ground.data }, { on := 18, ground := Ground.chain }, { on := 0, ground := Ground.phase }, { on := 1, ground := Ground.phase }, { on := 2, ground := Ground.phase }, { on := 3, ground := Ground.phase }, { on := 4, ground := Ground.phase }, { on := 5, ground := Ground.phase }, { on := 6, ground := Ground.phase }, { on := 7, ground := Ground.phase }, { on := 8, ground := Ground.phase }, { on := 9, ground := Ground.phase }, { on := 10, ground := Ground.phase }, { on := 11, ground := Ground.phase }, { on := 12, ground := Ground.phase }, { on := 13, ground := Ground.phase }, { on := 14, ground := Ground.phase }, { on := 15, ground := Ground.phase }, { on := 16, ground := Ground.phase }, { on := 17, ground := Ground.phase }, { on := 18, ground := Ground.phase }], guard := none }) (v := ?_) rfl (by kernel_rfl) (by kernel_rfl) (by kernel_rfl) (fun _ _ _ h => h) (Or.inl ⟨by rfl, ?hy⟩) hHeld ?_
      case hy => (intro w hSw; (try dsimp only at hSw); obtain ⟨_, _, _, _⟩ := hSw; go_simp; all_goals (with_reducible rfl))
      try simp only [Act.put, List.setIfInBounds_toArray, List.set_cons_zero, List.set_cons_succ]
      refine wpAnyH_done (by kernel_rfl) ?_ _
      go_wp2_with fail
      go_meet
      exact ⟨_, rfl, fb44, flo44, _, _, _, _, rfl, rfl, rfl, LV⟩
    case rest =>
      obtain ⟨w3, hw3, fb, hfb, mb, M, pv, ew, rfl, rfl, rfl, HX⟩ := hcut
      subst hw3
      as_aux_lemma =>
      have hg := HG.out _ _ _ _ _ _ _ HX.out
      have HG3 := hid hg.1
      obtain rfl := hg.2
      obtain ⟨ML, rfl, hml, -⟩ := HML.out _ _ _ hg.1
      have HB23 := hid (HX.out.kept.below (Nat.le_refl _) hfb)
      have HB3 := hid (HB2.out.trans (HB23.out.mono HB2.out.size))
      have HM3 := hid HX.out.at_
      have HIM := hid (show (Tryd.prog.info? 27).map (·.size) = some ML.length from by rw [hml]; kernel_rfl)
      obtain ⟨e0, e1, e2, e4⟩ := HKP.out w3 HB23.out
      clear hg hml
      go_wp2_with fail
      refine (HRM.out w3 HB3.out).mono ?_
      rintro e w4 ⟨M4, pv4, rfl, hg4, hb4⟩
      obtain ⟨ML4, rfl, hml4, hone4⟩ := HML.out _ _ _ hg4
      have HG4 := hid hg4
      have HB34 := hid hb4
      have HB4 := hid (HB3.out.trans (hb4.mono HB3.out.size))
      have HIM4 := hid (show (Tryd.prog.info? 27).map (·.size) = some ML4.length from by rw [hml4]; kernel_rfl)
      have HIMA := hid (show (Tryd.prog.info? 27).map (·.size) = some ML4.toArray.size from by rw [List.size_toArray, hml4]; kernel_rfl)
      have HSZ4 := hid (show mz.size = ML4.toArray.size from by rw [mz_sizeO, List.size_toArray, hml4])
      have HON4 := hid hone4
      have HGA := hid (HGB.out _ _ _ _ hb4 HG3.out)
      clear hg4 hb4 hml4 hone4 e0 e1 e2 e4
      go_wp2_with (first
        | (refine wpList_store_row (by rfl) 27 (.tmp 6) (.tmp 48) (by rfl) w4.heap.size mz ML4.toArray 27 (by rfl) (by rfl) (by exact heap_new w4 _) HIMA.out HSZ4.out HON4.out ?_
           intro w5 hw5 hk5
           have HB45 := hid (show Below w4.heap.size w4 w5 from ((Below.refl _ _).alloc (Nat.le_refl _) _).trans (hk5.below (by simp) (Nat.le_refl _)))
           have HB5 := hid (HB4.out.trans (HB45.out.mono HB4.out.size))
           have HR6 := hid (range_of_heapI hw5)
           have HR3 := hid (range_of_heapI (((HB45.out.block _ (Nat.lt_of_lt_of_le (lt_of_heap HM3.out) HB34.out.size)).trans (HB34.out.block _ (lt_of_heap HM3.out))).trans HM3.out))
           have HGA5 := hid (HGB.out _ _ _ _ HB45.out HGA.out)
           have HGB5 := hid (HGB.out _ _ _ _ HB45.out HG4.out)
           clear hw5 hk5)
        | (refine wpList_load_wantE (by rfl) 27 (.tmp 3) (by rfl) mb 0 (by rfl) ML _ HR3.out Tryd.underlying27 rfl HIM.out ?_)
        | (refine wpList_load_wantE (by rfl) 27 (.tmp 6) (by rfl) w4.heap.size 0 (by rfl) ML4 _ HR6.out Tryd.underlying27 rfl HIM4.out ?_))
      refine (HSA.out w5 _ _ _ _ HGA5.out HGB5.out).mono ?_
      rintro e w6 ⟨rfl, hb6⟩
      have HGA6 := hid (HGB.out _ _ _ _ hb6 HGA5.out)
      have HGB6 := hid (HGB.out _ _ _ _ hb6 HGB5.out)
      have HB6 := hid (HB5.out.trans (hb6.mono HB5.out.size))
      clear hb6
      go_wp2_with fail
      refine (HSP.out w6 _ _ _ _ HGA6.out HGB6.out).mono ?_
      rintro e w7 ⟨rfl, hb7⟩
      have HB7 := hid (HB6.out.trans (hb7.mono HB6.out.size))
      clear hb7
      go_wp2_with fail
      refine (HK.out w7 HB7.out).mono ?_
      rintro e w8 ⟨rfl, hb8⟩
      have HB8 := hid (HB7.out.trans (hb8.mono HB7.out.size))
      clear hb8
      go_wp2
      go_ret
      exact ⟨rfl, HB8.out⟩


/-- the manifest and the pieces of a Make that is right -/
def GoodM (k n t m : Nat) (l : List Nat) (w : World) (M : Array Value) (pv : Value) : Prop :=
  (∃ gd cp, M = (mcells k n t m (dig shaRound shaStart l) (.slice (some ⟨gd, 0, none⟩) t cp)).toArray ∧ Dgs w (some ⟨gd, 0, none⟩) t cp ((List.range t).map fun j => pdg shaRound shaStart l k (plen k m) j)) ∧
  (∃ a c bf, pv = .slice a t c ∧ Ps w (.slice a t c) (mkps bf (plen k m) t t) ∧ ∀ j, j < t → Bs w (.slice (some ⟨bf j, 0, none⟩) (plen k m) (plen k m)) (encP l k (plen k m) j))
def BadM (w : World) (M : Array Value) (pv : Value) : Prop := M = mz ∧ pv = .slice none 0 0
theorem good_below {k n t m : Nat} {l : List Nat} {w w' : World} {M : Array Value} {pv : Value} (b : Below w.heap.size w w') (h : GoodM k n t m l w M pv) : GoodM k n t m l w' M pv := by
  obtain ⟨⟨gd, cp, h1, h2⟩, a, c, bf, h3, h4, h5⟩ := h
  exact ⟨⟨gd, cp, h1, h2.below b⟩, a, c, bf, h3, h4.below b, fun j hj => (h5 j hj).below b⟩
theorem good_of {fb k n t m mb : Nat} {l : List Nat} {M : Array Value} {pv ev : Value} {w1 w : World} (hl : ∀ i, l.getD i 0 < 256) (h : MdX fb (MkPost fb k n t m l) mb M pv ev w1 w) : GoodM k n t m l w M pv ∧ ev = .int .i64 0 := by
  obtain ⟨wS, wE, hS, ⟨rb, mb0, g, gd, bf, N, rfl, rfl, rfl, R⟩, hE, hor, hb, hsz⟩ := h.ex
  obtain ⟨n1, n2, n3, n4, n5⟩ := N.ne
  obtain ⟨l1, l2, l3, l4, l5, l6⟩ := N.low
  have hgl := R.pcs.own.lt
  have hgdl := R.gdl
  have hbf : ∀ j, j < t → wS.heap.size ≤ bf j ∧ bf j < wE.heap.size := fun j hj => ⟨R.pcs.low j hj, (R.pcs.row j hj).lt⟩
  have hown : POwn w g (mkps bf (plen k m) t t) := (hb g hgl (by omega)).trans R.pcs.own
  refine ⟨⟨⟨gd, t, rfl, ⟨⟨some ⟨gd, 0, none⟩, t, by simp, fun d hd => ?_, fun _ => ⟨gd, 0, rfl, fun j hj => ?_⟩⟩, Nat.le_refl _, fun e => by cases e⟩⟩, some ⟨g, 0, none⟩, t, bf, rfl, hown.ps t t (by rw [mkps_length]), fun j hj => ?_⟩, rfl⟩
  · obtain ⟨j, _, rfl⟩ := List.mem_map.1 hd
    exact ⟨dig_length _ _ _, digL_lt3 ()⟩
  · have hjt : j < t := by simpa using hj
    have h5 := range_same (R.rng j hjt) (hb gd hgdl (by omega))
    rw [Nat.zero_add]
    have e : ((List.range t).map fun j => pdg shaRound shaStart l k (plen k m) j).getD j [] = pdg shaRound shaStart l k (plen k m) j := by
      rw [List.getD_eq_getElem?_getD]
      simp [hjt]
    rw [e]
    exact h5
  · have hrow : Own w (bf j) (encP l k (plen k m) j) := (hb _ (hbf j hj).2 (by have := hbf j hj; omega)).trans (R.pcs.row j hj)
    exact row_bsM hl hrow
theorem good_ml {k n t m : Nat} {l : List Nat} {w : World} {M : Array Value} {pv : Value} (h : GoodM k n t m l w M pv) : ∃ ML : List Value, M = ML.toArray ∧ ML.length = 37 ∧ ML.toArray.all (·.oneCell') = true := by
  obtain ⟨⟨gd, cp, h1, h2⟩, _⟩ := h
  exact ⟨_, h1, mcells_length _ _ _ _ _ _ (dig_length _ _ _), mcells_one _ _ _ _ _ _ _ _⟩
theorem bad_ml {w : World} {M : Array Value} {pv : Value} (h : BadM w M pv) : ∃ ML : List Value, M = ML.toArray ∧ ML.length = 37 ∧ ML.toArray.all (·.oneCell') = true :=
  ⟨_, h.1, mcells_length _ _ _ _ _ _ (by simp), mcells_one _ _ _ _ _ _ _ _⟩
theorem good_same {k n t m : Nat} {l : List Nat} {w : World} {M M' : Array Value} {pv pv' : Value} (ht : t ≤ 255) (h : GoodM k n t m l w M pv) (h' : GoodM k n t m l w M' pv') :
    Calls Tryd.prog 16 #[.agg M, .agg M'] w fun e w' => e = .returned (.bool true) ∧ Below w.heap.size w w' := by
  obtain ⟨⟨gd, cp, rfl, h2⟩, _⟩ := h
  obtain ⟨⟨gd', cp', rfl, h2'⟩, _⟩ := h'
  exact same_man k n t m _ _ _ t cp cp' _ w (dig_length _ _ _) h2 h2' (by omega)
theorem good_pcs {k n t m : Nat} {l : List Nat} {w : World} {M M' : Array Value} {pv pv' : Value} (ht : t ≤ 255) (h : GoodM k n t m l w M pv) (h' : GoodM k n t m l w M' pv') :
    Calls Tryd.prog 17 #[pv, pv'] w fun e w' => e = .returned (.bool true) ∧ Below w.heap.size w w' := by
  obtain ⟨_, a, c, bf, rfl, h4, h5⟩ := h
  obtain ⟨_, a', c', bf', rfl, h4', h5'⟩ := h'
  refine same_yes a a' t c c' _ _ (fun j => encP l k (plen k m) j) w h4 h4' (by omega) (fun i hi hi' => ?_) (fun i hi => ?_) (fun i hi => ?_)
  · have hit : i < t := by rw [mkps_length] at hi; exact hi
    rw [mkps_get bf _ t t i hi hit, mkps_get bf' _ t t i hi' hit]
  · have hit : i < t := by rw [mkps_length] at hi; exact hi
    rw [mkps_get bf _ t t i hi hit]
    exact h5 i hit
  · have hit : i < t := by rw [mkps_length] at hi; exact hi
    rw [mkps_get bf' _ t t i hi hit]
    exact h5' i hit
theorem dgs_none (w : World) : Dgs w none 0 0 [] := ⟨⟨none, 0, rfl, fun d h => absurd h List.not_mem_nil, fun h => absurd rfl h⟩, Nat.le_refl _, fun _ => rfl⟩
theorem bad_same {w : World} {M M' : Array Value} {pv pv' : Value} (h : BadM w M pv) (h' : BadM w M' pv') :
    Calls Tryd.prog 16 #[.agg M, .agg M'] w fun e w' => e = .returned (.bool true) ∧ Below w.heap.size w w' := by
  obtain ⟨rfl, _⟩ := h
  obtain ⟨rfl, _⟩ := h'
  exact same_man 0 0 0 0 (List.replicate 32 0) none none 0 0 0 [] w (by simp) (dgs_none w) (dgs_none w) (by omega)
theorem bad_pcs {w : World} {M M' : Array Value} {pv pv' : Value} (h : BadM w M pv) (h' : BadM w M' pv') :
    Calls Tryd.prog 17 #[pv, pv'] w fun e w' => e = .returned (.bool true) ∧ Below w.heap.size w w' := by
  obtain ⟨_, rfl⟩ := h
  obtain ⟨_, rfl⟩ := h'
  exact same_yes none none 0 0 0 [] [] (fun _ => []) w ⟨none, 0, rfl, fun h => absurd rfl h⟩ ⟨none, 0, rfl, fun h => absurd rfl h⟩ (by omega) (fun i hi => absurd hi (Nat.not_lt_zero _)) (fun i hi => absurd hi (Nat.not_lt_zero _)) (fun i hi => absurd hi (Nat.not_lt_zero _))
theorem bad_post {w w' : World} {E : Int} {e : Ending} {fb : Nat} (h : MkBad w E e w') : ∃ M pv ev, e = .returned (.tuple #[.agg M, pv, ev]) ∧ (M = mz ∧ pv = .slice none 0 0 ∧ ev = .int .i64 E) ∧ Kept fb w w' ∧ (Tryd.prog.info? 27).map (·.size) = some M.size ∧ mz.size = M.size ∧ M.all (·.oneCell') = true :=
  ⟨mz, _, _, h.1, ⟨rfl, rfl, rfl⟩, Kept.of_below h.2, info_manE, rfl, mz_oneE⟩

theorem makes_walk (W : World) (V : Vars W shaRound shaStart) (R : Rnds W) (v : Value) (C : CaseWD W v) :
    Calls Tryd.prog 3 #[v] W fun e w' => e = .returned (.bool true) ∧ Below W.heap.size W w' := by
  obtain ⟨K, N, T, I, da, dl, dc, ld, mk, mn, mt, ms, mo, ma, mm, mc, mD, pa, pl, pc, ps, D, ia, il, ic, li, C⟩ := C
  have he := C.eq
  subst he
  have HK := fun (wx : World) (b : Below W.heap.size W wx) => known_dg wx (V.below b)
  have hvl := V.lt
  by_cases hv : vcB K N T = true
  · by_cases hm : dl ≤ 8192
    · have hn : 1 ≤ K ∧ K ≤ N ∧ N ≤ T ∧ T ≤ 255 := by unfold vcB at hv; simpa using hv
      obtain ⟨k, rfl⟩ : ∃ q : Nat, K = (q : Int) := ⟨K.toNat, by omega⟩
      obtain ⟨n, rfl⟩ : ∃ q : Nat, N = (q : Int) := ⟨N.toNat, by omega⟩
      obtain ⟨t, rfl⟩ : ∃ q : Nat, T = (q : Int) := ⟨T.toNat, by omega⟩
      refine makes_main W k n t I da dl dc ld mk mn mt ms mo ma mm mc pa pl pc ps ia il ic C.mo32 C.pieces.1 C.data.1 C.data.2.1 C.data.2.2 (fun _ => trivial) 0 (GoodM k n t dl ld) (fun fb => MkPost fb k n t dl ld) HK ?_ ?_ (fun _ _ _ _ b h => good_below b h) ?_ (fun _ _ _ h => good_ml h) (fun _ _ _ _ _ h h' => good_same (by omega) h h') (fun _ _ _ _ _ h h' => good_pcs (by omega) h h')
      · intro _ fb wx b hlo hF a' c' hd hc ho
        refine (Make_any fb k n t dl c' a' shaRound shaStart ld wx (.inl hF) (V.below b) hd ho hc (by omega) (by omega) (by omega) (by omega) hm (by omega)).mono ?_
        rintro e w' ⟨rb, mb, g, gd, bf, NN, rfl, RR⟩
        refine ⟨_, _, _, rfl, ⟨rb, mb, g, gd, bf, NN, rfl, rfl, rfl, RR⟩, RR.kept, ?_, ?_, mcells_one _ _ _ _ _ _ _ _⟩
        · rw [List.size_toArray, mcells_length _ _ _ _ _ _ (dig_length _ _ _)]; kernel_rfl
        · rw [mz_sizeO, List.size_toArray, mcells_length _ _ _ _ _ _ (dig_length _ _ _)]
      · exact fun _ _ _ _ _ _ _ h => good_of C.data.1.lt h
      · intro _ wx b
        refine (rmake_ok k n t dl dc da ld wx (R.below b) (C.data.1.below b) C.data.2.2 (by omega) (by omega) (by omega) (by omega) hm).mono ?_
        rintro e w' ⟨gd, cp, vv, bf, rfl, h1, h2, h3⟩
        obtain ⟨pg, pcap, rfl, -, hps⟩ := psM h2 (by omega)
        exact ⟨_, _, rfl, ⟨⟨gd, cp, rfl, h1⟩, _, pcap, bf, rfl, hps, fun j hj => row_bsM C.data.1.lt (h2.rows j hj)⟩, h3⟩
    · refine makes_main W K N T I da dl dc ld mk mn mt ms mo ma mm mc pa pl pc ps ia il ic C.mo32 C.pieces.1 C.data.1 C.data.2.1 C.data.2.2 (fun _ => trivial) 3 BadM (fun _ _ _ M pv ev => M = mz ∧ pv = .slice none 0 0 ∧ ev = .int .i64 3) HK ?_ ?_ (fun _ _ _ _ _ h => h) ?_ (fun _ _ _ h => bad_ml h) (fun _ _ _ _ _ h h' => bad_same h h') (fun _ _ _ _ _ h h' => bad_pcs h h')
      · exact fun _ fb wx _ _ _ a' c' _ _ _ => (make_long fb K N T a' dl c' wx hv (by omega)).mono fun e w' h => bad_post h
      · exact fun _ _ _ _ _ _ _ h => by obtain ⟨_, _, _, h1, _⟩ := h.ex; exact ⟨⟨h1.1, h1.2.1⟩, h1.2.2⟩
      · exact fun _ wx _ => (rmake_long K N T da dl dc wx hv (by omega)).mono fun e w' h => ⟨mz, _, h.1, ⟨rfl, rfl⟩, h.2⟩
  · have hv' : vcB K N T = false := by simpa using hv
    refine makes_main W K N T I da dl dc ld mk mn mt ms mo ma mm mc pa pl pc ps ia il ic C.mo32 C.pieces.1 C.data.1 C.data.2.1 C.data.2.2 (fun _ => trivial) 2 BadM (fun _ _ _ M pv ev => M = mz ∧ pv = .slice none 0 0 ∧ ev = .int .i64 2) HK ?_ ?_ (fun _ _ _ _ _ h => h) ?_ (fun _ _ _ h => bad_ml h) (fun _ _ _ _ _ h h' => bad_same h h') (fun _ _ _ _ _ h h' => bad_pcs h h')
    · exact fun _ fb wx _ _ _ a' c' _ _ _ => (make_bad fb K N T a' dl c' wx hv').mono fun e w' h => bad_post h
    · exact fun _ _ _ _ _ _ _ h => by obtain ⟨_, _, _, h1, _⟩ := h.ex; exact ⟨⟨h1.1, h1.2.1⟩, h1.2.2⟩
    · exact fun _ wx _ => (rmake_bad K N T da dl dc wx hv').mono fun e w' h => ⟨mz, _, h.1, ⟨rfl, rfl⟩, h.2⟩
end Go.Proofs.YtafkjfpmjhfofaaDoor
