/-
  DigestSound: for every input the call returns true, and each argument reads behind it as before; the listed variables hold what the program's text lays (tied). No other condition.
-/
import Derived.Test.YtahnihihfheegaaDoorBb15
import Derived.Test.YtahnihihfheegaaDoorBb16
import Derived.Test.YtahnihihfheegaaDoorBb13
import Derived.Deep.DeepCutAuto
import Derived.Test.YtahnihihfheegaaDoorBb17
import Derived.Test.YtahnihihfheegaaDoorBb6
import Derived.Test.YtahnihihfheegaaDoorCards
import Derived.Test.YtahnihihfheegaaDoorTie
import Derived.ShutString
import Derived.ChangeOld
import Derived.Below
namespace Go.Proofs.YtahnihihfheegaaDoor
open Go Go.RowKit
set_option linter.unusedVariables false

/-- a load, as an operation -/
theorem run_load_opA {P : Program} {ev : Operand → Value} {o : Oper} {ty : TypeId} {x : Operand} {w : World} {v : Value} {ad : Addr} (h : (loadVar ty ad).run P w = .ok v w) (ho : o.op = .load ty x := by rfl) (hx : ev x = .pointer (some ad) := by rfl) :
    (execOp ev o).run P w = .ok (.value v) w := by
  unfold execOp
  simp only [ho, hx, Instr.loadAt, Instr.sureAddr, Sem.run_bind, Sem.run_pure, Result.andThen_ok, h]
/-- the manifest within a case -/
theorem case_man {w : World} {b : Nat} {K N T I : Int} {dv : Value} {mk mn mt ms : Int} {mo : List Nat} {mv pv iv : Value} (h : CaseAt w b K N T I dv mk mn mt ms mo mv pv iv) : w.rangeAt b 5 (mcells mk mn mt ms mo mv) := fun j u hj => by
  have h1 := range_of_heapI h (5 + j) u (by
    unfold cc
    rw [List.append_assoc, List.getElem?_append_right (by simp), List.getElem?_append_left (by simp; exact (List.getElem?_eq_some_iff.1 hj).1)]
    simpa using hj)
  rwa [Nat.zero_add] at h1
theorem case_k {w : World} {b : Nat} {K N T I : Int} {dv : Value} {mk mn mt ms : Int} {mo : List Nat} {mv pv iv : Value} (h : CaseAt w b K N T I dv mk mn mt ms mo mv pv iv) : w.cell? ⟨b, 5, none⟩ = some (.int .i64 mk) := by
  have h1 := case_man h 0 (.int .i64 mk) rfl
  simpa using h1

/-- where large says no -/
def LrgF (r : Bool) (pl mm : Nat) (ps : List (Int × Sl)) (mk : Int) : Prop := r = false → pl ≤ 60 ∧ mm ≤ 400 ∧ ∀ j, j < ps.length → plenL ps j ≤ 9000

set_option maxRecDepth 100000 in
set_option maxHeartbeats 8000000 in
theorem assembles_in (W : World) (V : Vars W shaRound shaStart) (R : Rnds W) (K N T I : Int) (da : Option Addr) (dl dc : Nat) (ld : List Nat) (mk mn mt ms : Int) (mo : List Nat) (ma : Option Addr) (mm mc : Nat) (mD : List (List Nat)) (pa : Option Addr) (pl pc : Nat) (ps : List (Int × Sl)) (D : Nat → List Nat) (ia : Option Addr) (il ic : Nat) (ho : mo.length = 32) (hD : Dgs W ma mm mc mD) (hp : Pcn W pa pl pc ps D) :
    Calls Tryd.prog 3 #[.agg (cc K N T I (.slice da dl dc) mk mn mt ms mo (.slice ma mm mc) (.slice pa pl pc) (.slice ia il ic)).toArray] W fun e w' => e = .returned (.bool true) ∧ Below W.heap.size W w' := by
  have HK := hid (fun (wx : World) (b : Below W.heap.size W wx) => known_dg wx (V.below b))
  obtain ⟨w1, hw1⟩ : ∃ y, y = W.alloc (.cells (cc K N T I (.slice da dl dc) mk mn mt ms mo (.slice ma mm mc) (.slice pa pl pc) (.slice ia il ic)).toArray 31) := ⟨_, rfl⟩
  have HB1 := hid (show Below W.heap.size W w1 from by rw [hw1]; exact (Below.refl _ _).alloc (Nat.le_refl _) _)
  have hC : CaseAt w1 W.heap.size K N T I (.slice da dl dc) mk mn mt ms mo (.slice ma mm mc) (.slice pa pl pc) (.slice ia il ic) := by rw [hw1]; exact heap_new _ _
  have HC := hid hC
  have HLG := hid (large_any K N T I da dl dc mk mn mt ms mo ma mm mc pa pl pc ps ia il ic w1 ho (hp.1.below HB1.out))
  have HIFC := hid (show (Tryd.prog.info? 31).map (·.size) = some (cc K N T I (.slice da dl dc) mk mn mt ms mo (.slice ma mm mc) (.slice pa pl pc) (.slice ia il ic)).length from by rw [cc_length _ _ _ _ _ _ _ _ _ _ _ _ _ ho]; kernel_rfl)
  have HIF := hid (show (Tryd.prog.info? 27).map (·.size) = some (mcells mk mn mt ms mo (.slice ma mm mc)).length from by rw [mcells_length _ _ _ _ _ _ ho]; kernel_rfl)
  have HRC := hid (show w1.rangeAt W.heap.size 0 (cc K N T I (.slice da dl dc) mk mn mt ms mo (.slice ma mm mc) (.slice pa pl pc) (.slice ia il ic)) from range_of_heapI hC)
  have HVL := hid (fun wx => valid_any mk mn mt ms mo ma mm mc ho wx)
  have hlow : 3 ≤ W.heap.size := V.lt
  have HV := hid V
  have HR := hid R
  have HDD := hid hD
  have HP := hid hp
  have HO := hid ho
  have HN := hid (show pl = ps.length from by obtain ⟨_, _, h, _⟩ := hp.1; simp only [Value.slice.injEq] at h; exact h.2.1)
  obtain ⟨CL, hCL⟩ : ∃ CL, CL = cc K N T I (.slice da dl dc) mk mn mt ms mo (.slice ma mm mc) (.slice pa pl pc) (.slice ia il ic) := ⟨_, rfl⟩
  rw [← hCL] at HLG HIFC HRC hw1 ⊢
  clear hC hCL V R hD hp ho
  go_enter Tryd.func3, Tryd.ntmps3
  go_upto_region 1 with fail
  change Code.wp _ _ _ _ (W.alloc (.cells CL.toArray 31))
  rw [← hw1]
  clear hw1
  go_cut [19] (fun v wx => ∃ wy, wy = wx ∧ ∃ r, v = .bool r ∧ Hid (Below w1.heap.size w1 wy) ∧ Hid (LrgF r pl mm ps mk))
  case first =>
    go_wp2_with (refine wpList_load_mid (by rfl) 31 (.tmp 1) (by rfl) W.heap.size 0 (by rfl) CL _ HRC.out Tryd.underlying31 rfl HIFC.out ?_)
    refine HLG.out.mono ?_
    rintro e w2 ⟨hb2, r, rfl, hr⟩
    have HB12 := hid hb2
    have hC2 : CaseAt w2 W.heap.size K N T I (.slice da dl dc) mk mn mt ms mo (.slice ma mm mc) (.slice pa pl pc) (.slice ia il ic) := (hb2.block _ (lt_of_heap HC.out)).trans HC.out
    have e5 := case_k hC2
    have HRM := hid (case_man hC2)
    clear hb2 hC2 HLG HIFC HRC
    cases r with
    | true =>
      have HX := hid (show LrgF true pl mm ps mk from fun h => by cases h)
      clear hr
      go_wp2_with fail
      go_meet
      exact ⟨_, rfl, true, rfl, HB12, HX⟩
    | false =>
      have HX0 := hid (show LrgF false pl mm ps mk from fun _ => ⟨(hr rfl).1, (hr rfl).2.1, (hr rfl).2.2.2.2⟩)
      have HXT := hid (show LrgF true pl mm ps mk from fun h => by cases h)
      clear hr
      by_cases g60 : 60 < mk
      · cases hvv : manB mk mn mt ms mm with
        | true =>
          rw [hvv] at HVL
          clear hvv
          go_wp2_with (refine wpList_load_wantA (by rfl) 27 (.tmp 15) (by rfl) W.heap.size 5 (by rfl) (mcells mk mn mt ms mo (.slice ma mm mc)) _ HRM.out Tryd.underlying27 rfl HIF.out ?_)
          refine (HVL.out w2).mono ?_
          rintro e w3 ⟨rfl, hb3⟩
          have HB13 := hid (HB12.out.trans (hb3.mono HB12.out.size))
          clear hb3
          go_wp2_with fail
          go_meet
          exact ⟨_, rfl, true, rfl, HB13, HXT⟩
        | false =>
          rw [hvv] at HVL
          clear hvv
          go_wp2_with (refine wpList_load_wantA (by rfl) 27 (.tmp 15) (by rfl) W.heap.size 5 (by rfl) (mcells mk mn mt ms mo (.slice ma mm mc)) _ HRM.out Tryd.underlying27 rfl HIF.out ?_)
          refine (HVL.out w2).mono ?_
          rintro e w3 ⟨rfl, hb3⟩
          have HB13 := hid (HB12.out.trans (hb3.mono HB12.out.size))
          clear hb3
          go_wp2_with fail
          go_meet
          exact ⟨_, rfl, false, rfl, HB13, HX0⟩
      · go_wp2_with fail
        go_meet
        exact ⟨_, rfl, false, rfl, HB12, HX0⟩
  case rest =>
  obtain ⟨w2, hw2, r, rfl, HB12, hrr⟩ := hcut
  subst hw2
  have HB2 := hid (HB1.out.trans (HB12.out.mono HB1.out.size))
  have hC2 : CaseAt w2 W.heap.size K N T I (.slice da dl dc) mk mn mt ms mo (.slice ma mm mc) (.slice pa pl pc) (.slice ia il ic) := (HB12.out.block _ (lt_of_heap HC.out)).trans HC.out
  have HC2 := hid hC2
  clear hC2 HLG HIFC HRC
  cases r with
  | true => as_aux_lemma =>
    clear hrr
    go_wp2_with fail
    refine (HK.out w2 HB2.out).mono ?_
    rintro e w3 ⟨rfl, hb3⟩
    have HB3 := hid (HB2.out.trans (hb3.mono HB2.out.size))
    go_wp2
    go_ret
    exact ⟨rfl, HB3.out⟩
  | false => as_aux_lemma =>
    obtain ⟨hpl, hmm, hsz9⟩ := hrr.out rfl
    clear hrr
    have hl2 := lt_of_heap HC2.out
    obtain ⟨XM, hXM⟩ : ∃ XM, XM = (mcells mk mn mt ms mo (.slice ma mm mc)).toArray := ⟨_, rfl⟩
    have HKP := hid (show ∀ wx : World, Below w2.heap.size w2 wx → Below w2.heap.size w2 wx ∧ (loadVar 27 ⟨W.heap.size, 5, none⟩).run Tryd.prog wx = .ok (.agg XM) wx ∧ wx.cell? ⟨W.heap.size, 42, none⟩ = some (.slice pa pl pc) from fun wx b => by
      have h : CaseAt wx W.heap.size K N T I (.slice da dl dc) mk mn mt ms mo (.slice ma mm mc) (.slice pa pl pc) (.slice ia il ic) := (b.block _ hl2).trans HC2.out
      refine ⟨b, ?_, (h.hi HO.out).2.1⟩
      rw [hXM]
      exact run_loadVar_mid (P := Tryd.prog) wx W.heap.size 5 27 (mcells mk mn mt ms mo (.slice ma mm mc)) _ (case_man h) Tryd.underlying27 rfl HIF.out)
    have HOW := hid (fun (wx : World) (b : Below w2.heap.size w2 wx) => (own_man mk mn mt ms mo ma mm mc mD wx HO.out (HDD.out.below (HB2.out.trans (b.mono HB2.out.size))) (by omega)).mono (fun e w' (h : ∃ a' c', e = .returned (.agg (mcells mk mn mt ms mo (.slice a' mm c')).toArray) ∧ Dgs w' a' mm c' mD ∧ Below wx.heap.size wx w') => h))
    rw [← hXM] at HOW
    have hpd : PDat W ps D := fun i hi => ⟨(HP.out.2.2.2 i hi).2.1, (HP.out.2.2.2 i hi).2.2.1, (HP.out.2.2.2 i hi).2.2.2, by have := hsz9 i hi; rw [← plenL_at ps i hi] at this; omega⟩
    have HPD := hid hpd
    have HMN := hid (fun (wx : World) (b : Below w2.heap.size w2 wx) => mineD_any pa pl pc ps D wx (by omega) (HP.out.1.below (HB2.out.trans (b.mono HB2.out.size))) (fun i hi => ⟨(HPD.out i hi).1.below (HB2.out.trans (b.mono HB2.out.size)), (HPD.out i hi).2.2.1, (HPD.out i hi).2.2.2⟩))
    have HLT := hid (show ∀ i, i < pl → ∀ x ∈ D i, x < 256 from fun i hi => by
      obtain ⟨_, _, _, h, _⟩ := (HPD.out i (by have := HN.out; omega)).1
      exact h)
    have HSZ := hid (show ∀ i, i < pl → plen' ps i ≤ 800000000 from fun i hi => by
      have hi2 : i < ps.length := by have := HN.out; omega
      have := (HPD.out i hi2).2.2.2
      rwa [plen_at] at this)
    have hpc : pl ≤ pc := HP.out.2.1
    have HRA := hid (fun (wx : World) (b : Below W.heap.size W wx) => rasm_any wx (HR.out.below b) mk mn mt ms mo ma mm mc mD HO.out (HDD.out.below b) pa pl pc ps D (HP.out.1.below b) (HPD.out.below b) (by omega) hpc)
    obtain ⟨E, hE⟩ : ∃ E, E = asmE mk mn mt ms mm mo mD ps D pl := ⟨_, rfl⟩
    obtain ⟨L, hL⟩ : ∃ L, L = asmL mk mn mt ms mm mo mD ps D pl := ⟨_, rfl⟩
    rw [← hE, ← hL] at HRA
    have HE := hid hE
    have HL := hid hL
    clear hE hL hsz9 hpd
    have HXM := hid hXM
    clear hXM
    go_upto_region 3 with fail
    refine wp_region_held_drew (S := fun wx => Below w2.heap.size w2 wx ∧ (loadVar 27 ⟨W.heap.size, 5, none⟩).run Tryd.prog wx = .ok (.agg XM) wx ∧ wx.cell? ⟨W.heap.size, 42, none⟩ = some (.slice pa pl pc)) (by kernel_rfl) (HKP.out _ (bel_drewN (Below.refl _ _) 1)) (fun hHeld => ?_)
    refine wpAnyH_take (i := 1) (oi := { dst := some 23, op := Op.fieldAddr 31 (Operand.tmp 1) 5, type := 0, pos := "manifest.go:117", after := #[], guard := none }) (v := ?_) rfl (by kernel_rfl) (by kernel_rfl) (by kernel_rfl) (fun _ _ _ h => h) (Or.inl ⟨by rfl, ?hy⟩) hHeld ?_
    case hy => (intro w hSw; (try dsimp only at hSw); obtain ⟨_, _, _⟩ := hSw; go_simp; all_goals (with_reducible rfl))
    try simp only [Act.put, List.setIfInBounds_toArray, List.set_cons_zero, List.set_cons_succ]
    refine wpAnyH_take (i := 2) (oi := { dst := some 24, op := Op.load 27 (Operand.tmp 23), type := 27, pos := "manifest.go:117", after := #[{ on := 1, ground := Ground.data }], guard := none }) (v := .agg XM) rfl (by kernel_rfl) (by kernel_rfl) (by kernel_rfl) (fun _ _ _ h => h) (Or.inl ⟨by rfl, ?hy⟩) hHeld ?_
    case hy => (intro w hSw; exact run_load_opA hSw.2.1)
    try simp only [Act.put, List.setIfInBounds_toArray, List.set_cons_zero, List.set_cons_succ]
    refine wpAnyH_take (i := 4) (oi := { dst := some 26, op := Op.fieldAddr 31 (Operand.tmp 1) 6, type := 0, pos := "manifest.go:117", after := #[], guard := none }) (v := ?_) rfl (by kernel_rfl) (by kernel_rfl) (by kernel_rfl) (fun _ _ _ h => h) (Or.inl ⟨by rfl, ?hy⟩) hHeld ?_
    case hy => (intro w hSw; (try dsimp only at hSw); obtain ⟨_, _, _⟩ := hSw; go_simp; all_goals (with_reducible rfl))
    try simp only [Act.put, List.setIfInBounds_toArray, List.set_cons_zero, List.set_cons_succ]
    refine wpAnyH_take (i := 5) (oi := { dst := some 27, op := Op.load 28 (Operand.tmp 26), type := 28, pos := "manifest.go:117", after := #[{ on := 4, ground := Ground.data }], guard := none }) (v := ?_) rfl (by kernel_rfl) (by kernel_rfl) (by kernel_rfl) (fun _ _ _ h => h) (Or.inl ⟨by rfl, ?hy⟩) hHeld ?_
    case hy => (intro w hSw; (try dsimp only at hSw); obtain ⟨_, _, _⟩ := hSw; go_simp; all_goals (with_reducible rfl))
    try simp only [Act.put, List.setIfInBounds_toArray, List.set_cons_zero, List.set_cons_succ]
    refine wpAnyH_ready (rs := [0]) (by kernel_rfl) (by simp) ?_
    refine AllReadyH.cons (o := { dst := some 22, op := Op.call { callee := Callee.value (Operand.func 12), args := #[], argTypes := #[] }, type := 38, pos := "manifest.go:117", after := #[], guard := none }) rfl (fun K hK => ?_) AllReadyH.nil
    go_simp
    refine (newField_any (w2.drewN 1)).mono ?_
    rintro e wA ⟨rfl, hF, hb⟩
    have hbA := hHeld.1.trans (hb.mono hHeld.1.size)
    obtain ⟨fb, hfb⟩ : ∃ y, y = (w2.drewN 1).heap.size := ⟨_, rfl⟩
    rw [← hfb] at hF
    have flo : w2.heap.size ≤ fb := by rw [hfb]; exact hHeld.1.size
    have HF := hid hF
    have flt := lt_of_heap hF
    rw [← hfb]
    clear hfb hF hb
    have hB := hHeld.1
    clear hHeld
    go_wp2_with fail
    refine hK.out _ _ (HKP.out _ hbA) (fun hHeld => ?_)
    clear hK K hbA hB
    try simp only [Act.put, List.setIfInBounds_toArray, List.set_cons_zero, List.set_cons_succ]
    refine wpAnyH_ready (rs := [3]) (by kernel_rfl) (by simp) ?_
    refine AllReadyH.cons (o := { dst := some 25, op := Op.call { callee := Callee.value (Operand.func 13), args := #[Operand.tmp 24], argTypes := #[27] }, type := 27, pos := "manifest.go:117", after := #[{ on := 2, ground := Ground.data }, { on := 0, ground := Ground.chain }], guard := none }) rfl (fun K hK => ?_) AllReadyH.nil
    go_simp
    refine (HOW.out _ hHeld.1).mono ?_
    rintro e wB ⟨aB, cB, rfl, hdB, hb⟩
    have hbA := hHeld.1.trans (hb.mono hHeld.1.size)
    have HDB := hid hdB
    have HFB := hid ((hb.block _ flt).trans HF.out)
    have fltB := Nat.lt_of_lt_of_le flt hb.size
    clear hdB hb
    have hB := hHeld.1
    clear hHeld
    go_wp2_with fail
    refine hK.out _ _ (HKP.out _ hbA) (fun hHeld => ?_)
    clear hK K hbA hB
    try simp only [Act.put, List.setIfInBounds_toArray, List.set_cons_zero, List.set_cons_succ]
    refine wpAnyH_ready (rs := [6]) (by kernel_rfl) (by simp) ?_
    refine AllReadyH.cons (o := { dst := some 28, op := Op.call { callee := Callee.value (Operand.func 14), args := #[Operand.tmp 27], argTypes := #[28] }, type := 28, pos := "manifest.go:117", after := #[{ on := 5, ground := Ground.data }, { on := 3, ground := Ground.chain }], guard := none }) rfl (fun K hK => ?_) AllReadyH.nil
    go_simp
    refine (HMN.out _ hHeld.1).mono ?_
    rintro e wC ⟨v, qs, rfl, hmi⟩
    have hb := hmi.below
    have hbA := hHeld.1.trans (hb.mono hHeld.1.size)
    obtain ⟨aC, cC, rfl, hcC, hhC⟩ := hmi.held (fb := fb) HLT.out fltB
    have hfn := mine_fns hmi HN.out mk mn mt ms mm mo mD
    have hpdC := hmi.pdat HLT.out HSZ.out
    have HHC := hid hhC
    have HFN := hid hfn
    have HPC := hid hpdC
    have HDC := hid (HDB.out.below hb)
    have HFC := hid ((hb.block _ fltB).trans HFB.out)
    clear hmi hb hhC hfn hpdC
    have hB := hHeld.1
    clear hHeld
    go_wp2_with fail
    refine hK.out _ _ (HKP.out _ hbA) (fun hHeld => ?_)
    clear hK K hbA hB
    try simp only [Act.put, List.setIfInBounds_toArray, List.set_cons_zero, List.set_cons_succ]
    refine wpAnyH_ready (rs := [7]) (by kernel_rfl) (by simp) ?_
    refine AllReadyH.cons (o := { dst := some 29, op := Op.call { callee := Callee.value (Operand.func 11), args := #[Operand.tmp 22, Operand.tmp 25, Operand.tmp 28], argTypes := #[38, 27, 28] }, type := 36, pos := "manifest.go:117", after := #[{ on := 0, ground := Ground.data }, { on := 3, ground := Ground.data }, { on := 6, ground := Ground.data }, { on := 6, ground := Ground.chain }], guard := none }) rfl (fun K hK => ?_) AllReadyH.nil
    go_simp
    refine (asm_any fb _ (HV.out.below (HB2.out.trans (hHeld.1.mono HB2.out.size))) mk mn mt ms mo aB mm cB mD HO.out HDC.out aC pl cC qs D HPC.out (by omega) hcC (.inl HFC.out) (Nat.le_trans hlow (Nat.le_trans HB2.out.size flo)) HHC.out).mono ?_
    rw [HFN.out.1, HFN.out.2, ← HE.out, ← HL.out]
    rintro e wD ⟨⟨ra, rc, rfl, hbs, hcr, hnr⟩, hfl, hk⟩
    have hbA := hHeld.1.trans (hk.below hHeld.1.size flo)
    have HBS := hid hbs
    clear hbs hcr hnr hfl hk
    have hB := hHeld.1
    clear hHeld
    go_wp2_with fail
    refine hK.out _ _ (HKP.out _ hbA) (fun hHeld => ?_)
    clear hK K hbA hB
    try simp only [Act.put, List.setIfInBounds_toArray, List.set_cons_zero, List.set_cons_succ]
    refine wpAnyH_take (i := 8) (oi := { dst := some 21, op := Op.move (Operand.tmp 29), type := 36, pos := "manifest.go:117", after := #[{ on := 7, ground := Ground.data }], guard := none }) (v := ?_) rfl (by kernel_rfl) (by kernel_rfl) (by kernel_rfl) (fun _ _ _ h => h) (Or.inl ⟨by rfl, ?hy⟩) hHeld ?_
    case hy => (intro w hSw; (try dsimp only at hSw); obtain ⟨_, _, _⟩ := hSw; go_simp; all_goals (with_reducible rfl))
    try simp only [Act.put, List.setIfInBounds_toArray, List.set_cons_zero, List.set_cons_succ]
    refine wpAnyH_take (i := 9) (oi := { dst := some 30, op := Op.extract (Operand.tmp 21) 0, type := 22, pos := "manifest.go:117", after := #[{ on := 8, ground := Ground.data }], guard := none }) (v := ?_) rfl (by kernel_rfl) (by kernel_rfl) (by kernel_rfl) (fun _ _ _ h => h) (Or.inl ⟨by rfl, ?hy⟩) hHeld ?_
    case hy => (intro w hSw; (try dsimp only at hSw); obtain ⟨_, _, _⟩ := hSw; go_simp; all_goals (with_reducible rfl))
    try simp only [Act.put, List.setIfInBounds_toArray, List.set_cons_zero, List.set_cons_succ]
    refine wpAnyH_take (i := 10) (oi := { dst := some 31, op := Op.extract (Operand.tmp 21) 1, type := 35, pos := "manifest.go:117", after := #[{ on := 8, ground := Ground.data }, { on := 11, ground := Ground.gcOnly Departure.lateStores }], guard := none }) (v := ?_) rfl (by kernel_rfl) (by kernel_rfl) (by kernel_rfl) (fun _ _ _ h => h) (Or.inl ⟨by rfl, ?hy⟩) hHeld ?_
    case hy => (intro w hSw; (try dsimp only at hSw); obtain ⟨_, _, _⟩ := hSw; go_simp; all_goals (with_reducible rfl))
    try simp only [Act.put, List.setIfInBounds_toArray, List.set_cons_zero, List.set_cons_succ]
    refine wpAnyH_take (i := 11) (oi := { dst := some 3, op := Op.assign (Operand.tmp 30), type := 22, pos := "manifest.go:117", after := #[{ on := 9, ground := Ground.data }, { on := 7, ground := Ground.chain }, { on := 0, ground := Ground.phase }, { on := 1, ground := Ground.phase }, { on := 2, ground := Ground.phase }, { on := 3, ground := Ground.phase }, { on := 4, ground := Ground.phase }, { on := 5, ground := Ground.phase }, { on := 6, ground := Ground.phase }, { on := 7, ground := Ground.phase }, { on := 8, ground := Ground.phase }, { on := 9, ground := Ground.phase }, { on := 10, ground := Ground.textOnly Departure.lateStores }], guard := none }) (v := ?_) rfl (by kernel_rfl) (by kernel_rfl) (by kernel_rfl) (fun _ _ _ h => h) (Or.inl ⟨by rfl, ?hy⟩) hHeld ?_
    case hy => (intro w hSw; (try dsimp only at hSw); obtain ⟨_, _, _⟩ := hSw; go_simp; all_goals (with_reducible rfl))
    try simp only [Act.put, List.setIfInBounds_toArray, List.set_cons_zero, List.set_cons_succ]
    refine wpAnyH_take (i := 12) (oi := { dst := some 4, op := Op.assign (Operand.tmp 31), type := 35, pos := "manifest.go:117", after := #[{ on := 10, ground := Ground.data }, { on := 11, ground := Ground.chain }, { on := 0, ground := Ground.phase }, { on := 1, ground := Ground.phase }, { on := 2, ground := Ground.phase }, { on := 3, ground := Ground.phase }, { on := 4, ground := Ground.phase }, { on := 5, ground := Ground.phase }, { on := 6, ground := Ground.phase }, { on := 7, ground := Ground.phase }, { on := 8, ground := Ground.phase }, { on := 9, ground := Ground.phase }, { on := 10, ground := Ground.phase }, { on := 11, ground := Ground.phase }], guard := none }) (v := ?_) rfl (by kernel_rfl) (by kernel_rfl) (by kernel_rfl) (fun _ _ _ h => h) (Or.inl ⟨by rfl, ?hy⟩) hHeld ?_
    case hy => (intro w hSw; (try dsimp only at hSw); obtain ⟨_, _, _⟩ := hSw; go_simp; all_goals (with_reducible rfl))
    try simp only [Act.put, List.setIfInBounds_toArray, List.set_cons_zero, List.set_cons_succ]
    refine wpAnyH_done (by kernel_rfl) ?_ _
    have HB3 := hid (HB2.out.trans (hHeld.1.mono HB2.out.size))
    have hBD := hHeld.1
    obtain ⟨-, -, e42⟩ := hHeld
    have hC3 : CaseAt wD W.heap.size K N T I (.slice da dl dc) mk mn mt ms mo (.slice ma mm mc) (.slice pa pl pc) (.slice ia il ic) := (hBD.block _ hl2).trans HC2.out
    have HRM := hid (case_man hC3)
    clear hC3
    go_wp2_with (refine wpList_load_mid (by rfl) 27 (.tmp 33) (by rfl) W.heap.size 5 (by rfl) (mcells mk mn mt ms mo (.slice ma mm mc)) _ HRM.out Tryd.underlying27 rfl HIF.out ?_)
    refine (HRA.out wD HB3.out).mono ?_
    rintro e w5 ⟨⟨ja, jc, rfl, hbs5⟩, hb5⟩
    have HB5 := hid (HB3.out.trans (hb5.mono HB3.out.size))
    have cv1 := conv_bs (HBS.out.below hb5)
    have cv2 := conv_bs hbs5
    clear hb5 hbs5 e42
    go_wp2_with fail
    refine (HK.out w5 HB5.out).mono ?_
    rintro e w6 ⟨rfl, hb6⟩
    have HB6 := hid (HB5.out.trans (hb6.mono HB5.out.size))
    go_wp2
    go_ret
    exact ⟨rfl, HB6.out⟩
theorem assembles_walk (W : World) (V : Vars W shaRound shaStart) (R : Rnds W) (v0 : Value) (hv0 : CaseWD W v0) :
    Calls Tryd.prog 3 #[v0] W fun e w' => e = .returned (.bool true) ∧ Below W.heap.size W w' := by
  obtain ⟨K, N, T, I, da, dl, dc, ld, mk, mn, mt, ms, mo, ma, mm, mc, mD, pa, pl, pc, ps, D, ia, il, ic, li, C⟩ := hv0
  obtain rfl := C.eq
  exact assembles_in W V R K N T I da dl dc ld mk mn mt ms mo ma mm mc mD pa pl pc ps D ia il ic C.mo32 C.man C.pieces
end Go.Proofs.YtahnihihfheegaaDoor

namespace Go.Proofs.YtahnihihfheegaaDoor
open Go Go.RowKit
set_option linter.unusedVariables false

theorem case_s {w : World} {b : Nat} {K N T I : Int} {dv : Value} {mk mn mt ms : Int} {mo : List Nat} {mv pv iv : Value} (h : CaseAt w b K N T I dv mk mn mt ms mo mv pv iv) : w.cell? ⟨b, 8, none⟩ = some (.int .i64 ms) := by
  have h1 := case_man h 3 (.int .i64 ms) rfl
  simpa using h1
theorem case_dig {w : World} {b : Nat} {K N T I : Int} {dv : Value} {mk mn mt ms : Int} {mo : List Nat} {mv pv iv : Value} (h : CaseAt w b K N T I dv mk mn mt ms mo mv pv iv) : w.rangeAt b 9 (u8s mo) := fun j u hj => by
  have h1 := case_man h (4 + j) u (by
    unfold mcells
    rw [List.append_assoc, List.getElem?_append_right (by simp), List.getElem?_append_left (by simp; exact (List.getElem?_eq_some_iff.1 hj).1)]
    simpa using hj)
  rwa [show 5 + (4 + j) = 9 + j from by omega] at h1
theorem asm_sound (k n t s : Int) (m : Nat) (od : List Nat) (D : List (List Nat)) (ps : List (Int × Sl)) (Dd : Nat → List Nat) (pn : Nat) (h : asmE k n t s m od D ps Dd pn = 0) :
    s ≤ 8192 ∧ ((asmL k n t s m od D ps Dd pn).length : Int) = s ∧ dig shaRound shaStart (asmL k n t s m od D ps Dd pn) = od ∧ k ≤ (pn : Int) := by
  have hl : asmL k n t s m od D ps Dd pn = objL k s ps Dd := by unfold asmL; rw [if_pos h]
  rw [hl, objL_length]
  unfold asmE at h
  split at h
  case isFalse => exact absurd h (by decide)
  case isTrue hm =>
  have hok := hm
  unfold manB vnB vcB at hok
  simp only [Bool.and_eq_true, decide_eq_true_eq] at hok
  split at h
  case isFalse h1 => exact absurd h h1
  case isTrue h1 =>
  split at h
  case isFalse => exact absurd h (by decide)
  case isTrue h2 => exact ⟨by omega, by omega, h2, (dAll_zero h1).2⟩
theorem reg_sound (k n t s : Int) (m : Nat) (D : List (List Nat)) {ps : List (Int × Sl)} {Dd : Nat → List Nat} {pn : Nat} {w : World} (hd : PDat w ps Dd) (hn : pn = ps.length) (I : Int) (h : regE k n t s m D ps Dd pn I = 0) :
    regI k n t s m D ps Dd pn I = I ∧ cpE k n t s m D I (regL k n t s m D ps Dd pn I) = 0 ∧ (regL k n t s m D ps Dd pn I).length ≤ 800000000 := by
  have hl : regL k n t s m D ps Dd pn I = pieceL k ps Dd I := by unfold regL; rw [if_pos h]
  refine ⟨by unfold regI; rw [if_pos h], ?_⟩
  rw [hl]
  unfold regE at h
  split at h
  case isFalse => exact absurd h (by decide)
  case isTrue hm =>
  have hok := hm
  unfold manB vnB vcB at hok
  simp only [Bool.and_eq_true, decide_eq_true_eq] at hok
  split at h
  case isTrue => exact absurd h (by decide)
  case isFalse hI =>
  split at h
  case isFalse h1 => exact absurd h h1
  case isTrue h1 =>
  split at h
  case isFalse => exact absurd h (by decide)
  case isTrue h2 =>
  obtain ⟨_, hkp, hlen⟩ := rs_right (t := t) hd hn h1
  have hp := plen_le k.toNat s.toNat (by omega)
  have hpl : (pieceL k ps Dd I).length = plen k.toNat s.toNat := by
    rw [← (hlen 0 (by omega)).2]
    unfold pieceL
    exact mixL_length _ _ _ _
  refine ⟨?_, by omega⟩
  unfold cpE
  rw [if_pos hm, if_neg hI, if_neg (by rw [hpl]; simp), if_neg (by simpa using h2)]

set_option maxRecDepth 100000 in
set_option maxHeartbeats 8000000 in
theorem sound_in (W : World) (V : Vars W shaRound shaStart) (K N T I : Int) (da : Option Addr) (dl dc : Nat) (ld : List Nat) (mk mn mt ms : Int) (mo : List Nat) (ma : Option Addr) (mm mc : Nat) (mD : List (List Nat)) (pa : Option Addr) (pl pc : Nat) (ps : List (Int × Sl)) (D : Nat → List Nat) (ia : Option Addr) (il ic : Nat) (ho : mo.length = 32) (hD : Dgs W ma mm mc mD) (hp : Pcn W pa pl pc ps D) :
    Calls Tryd.prog 5 #[.agg (cc K N T I (.slice da dl dc) mk mn mt ms mo (.slice ma mm mc) (.slice pa pl pc) (.slice ia il ic)).toArray] W fun e w' => e = .returned (.bool true) ∧ Below W.heap.size W w' := by
  have HK := hid (fun (wx : World) (b : Below W.heap.size W wx) => known_dg wx (V.below b))
  obtain ⟨w1, hw1⟩ : ∃ y, y = W.alloc (.cells (cc K N T I (.slice da dl dc) mk mn mt ms mo (.slice ma mm mc) (.slice pa pl pc) (.slice ia il ic)).toArray 31) := ⟨_, rfl⟩
  have HB1 := hid (show Below W.heap.size W w1 from by rw [hw1]; exact (Below.refl _ _).alloc (Nat.le_refl _) _)
  have hC : CaseAt w1 W.heap.size K N T I (.slice da dl dc) mk mn mt ms mo (.slice ma mm mc) (.slice pa pl pc) (.slice ia il ic) := by rw [hw1]; exact heap_new _ _
  have HC := hid hC
  have HLG := hid (large_any K N T I da dl dc mk mn mt ms mo ma mm mc pa pl pc ps ia il ic w1 ho (hp.1.below HB1.out))
  have HIFC := hid (show (Tryd.prog.info? 31).map (·.size) = some (cc K N T I (.slice da dl dc) mk mn mt ms mo (.slice ma mm mc) (.slice pa pl pc) (.slice ia il ic)).length from by rw [cc_length _ _ _ _ _ _ _ _ _ _ _ _ _ ho]; kernel_rfl)
  have HIF := hid (show (Tryd.prog.info? 27).map (·.size) = some (mcells mk mn mt ms mo (.slice ma mm mc)).length from by rw [mcells_length _ _ _ _ _ _ ho]; kernel_rfl)
  have HRC := hid (show w1.rangeAt W.heap.size 0 (cc K N T I (.slice da dl dc) mk mn mt ms mo (.slice ma mm mc) (.slice pa pl pc) (.slice ia il ic)) from range_of_heapI hC)
  have hlow : 3 ≤ W.heap.size := V.lt
  have HV := hid V
  have HDD := hid hD
  have HP := hid hp
  have HO := hid ho
  have HN := hid (show pl = ps.length from by obtain ⟨_, _, h, _⟩ := hp.1; simp only [Value.slice.injEq] at h; exact h.2.1)
  obtain ⟨CL, hCL⟩ : ∃ CL, CL = cc K N T I (.slice da dl dc) mk mn mt ms mo (.slice ma mm mc) (.slice pa pl pc) (.slice ia il ic) := ⟨_, rfl⟩
  rw [← hCL] at HLG HIFC HRC hw1 ⊢
  clear hC hCL V hD hp ho
  go_enter Tryd.func5, Tryd.ntmps5
  go_upto_region 1 with fail
  change Code.wp _ _ _ _ (W.alloc (.cells CL.toArray 31))
  rw [← hw1]
  clear hw1
  go_cut [14] (fun v wx => ∃ wy, wy = wx ∧ ∃ r, v = .bool r ∧ Hid (Below w1.heap.size w1 wy) ∧ Hid (LrgF r pl mm ps mk))
  case first =>
    go_wp2_with (refine wpList_load_mid (by rfl) 31 (.tmp 1) (by rfl) W.heap.size 0 (by rfl) CL _ HRC.out Tryd.underlying31 rfl HIFC.out ?_)
    refine HLG.out.mono ?_
    rintro e w2 ⟨hb2, r, rfl, hr⟩
    have HB12 := hid hb2
    have hC2 : CaseAt w2 W.heap.size K N T I (.slice da dl dc) mk mn mt ms mo (.slice ma mm mc) (.slice pa pl pc) (.slice ia il ic) := (hb2.block _ (lt_of_heap HC.out)).trans HC.out
    have e5 := case_k hC2
    have HRM := hid (case_man hC2)
    clear hb2 hC2 HLG HIFC HRC
    cases r with
    | true =>
      have HX := hid (show LrgF true pl mm ps mk from fun h => by cases h)
      clear hr
      go_wp2_with fail
      go_meet
      exact ⟨_, rfl, true, rfl, HB12, HX⟩
    | false =>
      have HX0 := hid (show LrgF false pl mm ps mk from fun _ => ⟨(hr rfl).1, (hr rfl).2.1, (hr rfl).2.2.2.2⟩)
      have HXT := hid (show LrgF true pl mm ps mk from fun h => by cases h)
      clear hr
      by_cases g60 : 60 < mk
      · go_wp2_with fail
        go_meet
        exact ⟨_, rfl, true, by first | rfl | (congr 1; simp; omega), HB12, HXT⟩
      · go_wp2_with fail
        go_meet
        exact ⟨_, rfl, false, by first | rfl | (congr 1; simp; omega), HB12, HX0⟩
  case rest =>
  obtain ⟨w2, hw2, r, rfl, HB12, hrr⟩ := hcut
  subst hw2
  have HB2 := hid (HB1.out.trans (HB12.out.mono HB1.out.size))
  have hC2 : CaseAt w2 W.heap.size K N T I (.slice da dl dc) mk mn mt ms mo (.slice ma mm mc) (.slice pa pl pc) (.slice ia il ic) := (HB12.out.block _ (lt_of_heap HC.out)).trans HC.out
  have HC2 := hid hC2
  clear hC2 HLG HIFC HRC
  cases r with
  | true => as_aux_lemma =>
    clear hrr
    go_wp2_with fail
    refine (HK.out w2 HB2.out).mono ?_
    rintro e w3 ⟨rfl, hb3⟩
    have HB3 := hid (HB2.out.trans (hb3.mono HB2.out.size))
    go_wp2
    go_ret
    exact ⟨rfl, HB3.out⟩
  | false => as_aux_lemma =>
    obtain ⟨hpl, hmm, hsz9⟩ := hrr.out rfl
    clear hrr
    have hl2 := lt_of_heap HC2.out
    obtain ⟨XM, hXM⟩ : ∃ XM, XM = (mcells mk mn mt ms mo (.slice ma mm mc)).toArray := ⟨_, rfl⟩
    have HOW := hid (fun (wx : World) (b : Below W.heap.size W wx) => (own_manN mk mn mt ms mo ma mm mc mD wx HO.out (HDD.out.below b) (by omega)).mono (fun e w' (h : ∃ a' c', e = .returned (.agg (mcells mk mn mt ms mo (.slice a' mm c')).toArray) ∧ Dgs w' a' mm c' mD ∧ (∀ ad, a' = some ad → wx.heap.size ≤ ad.block) ∧ Below wx.heap.size wx w') => h))
    rw [← hXM] at HOW
    have hpd : PDat W ps D := fun i hi => ⟨(HP.out.2.2.2 i hi).2.1, (HP.out.2.2.2 i hi).2.2.1, (HP.out.2.2.2 i hi).2.2.2, by have := hsz9 i hi; rw [← plenL_at ps i hi] at this; omega⟩
    have HPD := hid hpd
    have HMN := hid (fun (wx : World) (b : Below W.heap.size W wx) => mineD_any pa pl pc ps D wx (by omega) (HP.out.1.below b) (fun i hi => ⟨(HPD.out i hi).1.below b, (HPD.out i hi).2.2.1, (HPD.out i hi).2.2.2⟩))
    have HLT := hid (show ∀ i, i < pl → ∀ x ∈ D i, x < 256 from fun i hi => by
      obtain ⟨_, _, _, h, _⟩ := (HPD.out i (by have := HN.out; omega)).1
      exact h)
    have HSZ := hid (show ∀ i, i < pl → plen' ps i ≤ 800000000 from fun i hi => by
      have hi2 : i < ps.length := by have := HN.out; omega
      have := (HPD.out i hi2).2.2.2
      rwa [plen_at] at this)
    have hpc : pl ≤ pc := HP.out.2.1
    have HAS := hid (asm_sound mk mn mt ms mm mo mD ps D pl)
    have HRS := hid (reg_sound mk mn mt ms mm mD HPD.out HN.out I)
    clear hsz9 hpd
    go_wp2_with fail
    refine (newField_any w2).mono ?_
    rintro e w3 ⟨rfl, hF, hb3⟩
    obtain ⟨fb, hfb⟩ : ∃ y, y = w2.heap.size := ⟨_, rfl⟩
    rw [← hfb] at hF
    have hWfb : W.heap.size ≤ fb := by rw [hfb]; exact HB2.out.size
    have hWfb1 : W.heap.size < fb := by omega
    have flt3 := lt_of_heap hF
    have HF3 := hid (show Fld w3 fb from .inl hF)
    have HB3 := hid (HB2.out.trans (hb3.mono HB2.out.size))
    have hC3 : CaseAt w3 W.heap.size K N T I (.slice da dl dc) mk mn mt ms mo (.slice ma mm mc) (.slice pa pl pc) (.slice ia il ic) := (hb3.block _ hl2).trans HC2.out
    have HC3 := hid hC3
    have hl3 := lt_of_heap hC3
    have HKG := hid (show ∀ wx : World, Kept fb w3 wx → Below W.heap.size W wx ∧ (loadVar 27 ⟨W.heap.size, 5, none⟩).run Tryd.prog wx = .ok (.agg XM) wx ∧ wx.cell? ⟨W.heap.size, 42, none⟩ = some (.slice pa pl pc) ∧ wx.cell? ⟨W.heap.size, 3, none⟩ = some (.int .i64 I) from fun wx b => by
      have h : CaseAt wx W.heap.size K N T I (.slice da dl dc) mk mn mt ms mo (.slice ma mm mc) (.slice pa pl pc) (.slice ia il ic) := (b.block _ hl3 (by omega)).trans HC3.out
      refine ⟨HB3.out.trans (b.below HB3.out.size hWfb), ?_, (h.hi HO.out).2.1, h.c.2.2.2.1⟩
      rw [hXM]
      exact run_loadVar_mid (P := Tryd.prog) wx W.heap.size 5 27 (mcells mk mn mt ms mo (.slice ma mm mc)) _ (case_man h) Tryd.underlying27 rfl HIF.out)
    rw [← hfb]
    have HXM := hid hXM
    clear hfb hF hb3 hC3 hXM
    obtain ⟨E, hE⟩ : ∃ E, E = asmE mk mn mt ms mm mo mD ps D pl := ⟨_, rfl⟩
    obtain ⟨L, hL⟩ : ∃ L, L = asmL mk mn mt ms mm mo mD ps D pl := ⟨_, rfl⟩
    rw [← hE, ← hL] at HAS
    have HE := hid hE
    have HL := hid hL
    have HKP := HKG
    clear hE hL
    go_upto_region 4 with fail
    go_cut [4, 5] (fun dv ev wx => ∃ wy, wy = wx ∧ ∃ ra rc, dv = .slice ra L.length rc ∧ ev = .int .i64 E ∧ Hid (Kept fb w3 wy) ∧ Hid (Fld wy fb) ∧ Hid (Bs wy (.slice ra L.length rc) L) ∧ Hid (L.length ≤ rc ∧ (ra = none → rc = 0)))
    case first =>
      refine wp_region_held_drew (S := (fun wx => Below W.heap.size W wx ∧ (loadVar 27 ⟨W.heap.size, 5, none⟩).run Tryd.prog wx = .ok (.agg XM) wx ∧ wx.cell? ⟨W.heap.size, 42, none⟩ = some (.slice pa pl pc) ∧ wx.cell? ⟨W.heap.size, 3, none⟩ = some (.int .i64 I))) (by kernel_rfl) (HKP.out _ (Kept.of_below (b := fb) (bel_drewN (Below.refl w3.heap.size w3) 1))) (fun hHeld => ?_)
      refine wpAnyH_take (i := 0) (oi := { dst := some 18, op := Op.move (Operand.tmp 3), type := 38, pos := "manifest.go:138", after := #[], guard := none }) (v := ?_) rfl (by kernel_rfl) (by kernel_rfl) (by kernel_rfl) (fun _ _ _ h => h) (Or.inl ⟨by rfl, ?hy⟩) hHeld ?_
      case hy => (intro w hSw; (try dsimp only at hSw); obtain ⟨_, _, _, _⟩ := hSw; go_simp; all_goals (with_reducible rfl))
      try simp only [Act.put, List.setIfInBounds_toArray, List.set_cons_zero, List.set_cons_succ]
      refine wpAnyH_take (i := 1) (oi := { dst := some 19, op := Op.fieldAddr 31 (Operand.tmp 1) 5, type := 0, pos := "manifest.go:138", after := #[], guard := none }) (v := ?_) rfl (by kernel_rfl) (by kernel_rfl) (by kernel_rfl) (fun _ _ _ h => h) (Or.inl ⟨by rfl, ?hy⟩) hHeld ?_
      case hy => (intro w hSw; (try dsimp only at hSw); obtain ⟨_, _, _, _⟩ := hSw; go_simp; all_goals (with_reducible rfl))
      try simp only [Act.put, List.setIfInBounds_toArray, List.set_cons_zero, List.set_cons_succ]
      refine wpAnyH_take (i := 2) (oi := { dst := some 20, op := Op.load 27 (Operand.tmp 19), type := 27, pos := "manifest.go:138", after := #[{ on := 1, ground := Ground.data }], guard := none }) (v := .agg XM) rfl (by kernel_rfl) (by kernel_rfl) (by kernel_rfl) (fun _ _ _ h => h) (Or.inl ⟨by rfl, ?hy⟩) hHeld ?_
      case hy => (intro w hSw; exact run_load_opA hSw.2.1)
      try simp only [Act.put, List.setIfInBounds_toArray, List.set_cons_zero, List.set_cons_succ]
      refine wpAnyH_take (i := 4) (oi := { dst := some 22, op := Op.fieldAddr 31 (Operand.tmp 1) 6, type := 0, pos := "manifest.go:138", after := #[], guard := none }) (v := ?_) rfl (by kernel_rfl) (by kernel_rfl) (by kernel_rfl) (fun _ _ _ h => h) (Or.inl ⟨by rfl, ?hy⟩) hHeld ?_
      case hy => (intro w hSw; (try dsimp only at hSw); obtain ⟨_, _, _, _⟩ := hSw; go_simp; all_goals (with_reducible rfl))
      try simp only [Act.put, List.setIfInBounds_toArray, List.set_cons_zero, List.set_cons_succ]
      refine wpAnyH_take (i := 5) (oi := { dst := some 23, op := Op.load 28 (Operand.tmp 22), type := 28, pos := "manifest.go:138", after := #[{ on := 4, ground := Ground.data }], guard := none }) (v := ?_) rfl (by kernel_rfl) (by kernel_rfl) (by kernel_rfl) (fun _ _ _ h => h) (Or.inl ⟨by rfl, ?hy⟩) hHeld ?_
      case hy => (intro w hSw; (try dsimp only at hSw); obtain ⟨_, _, _, _⟩ := hSw; go_simp; all_goals (with_reducible rfl))
      try simp only [Act.put, List.setIfInBounds_toArray, List.set_cons_zero, List.set_cons_succ]
      refine wpAnyH_ready (rs := [3]) (by kernel_rfl) (by simp) ?_
      refine AllReadyH.cons (o := { dst := some 21, op := Op.call { callee := Callee.value (Operand.func 13), args := #[Operand.tmp 20], argTypes := #[27] }, type := 27, pos := "manifest.go:138", after := #[{ on := 2, ground := Ground.data }], guard := none }) rfl (fun K hK => ?_) AllReadyH.nil
      go_simp
      refine (HOW.out _ hHeld.1).mono ?_
      rintro e wx1 ⟨aB, cB, rfl, hdB, hloc, hb1⟩
      have KB1 : Kept fb w3 wx1 := ((Kept.of_below (b := fb) (bel_drewN (Below.refl w3.heap.size w3) 1))).trans (Kept.of_below hb1)
      have hof : ∀ ad, aB = some ad → ad.block ≠ fb := fun ad h => by have h5 := hloc ad h; have h6 := (show fb < w3.drew.heap.size from flt3); omega
      have FF1 := hid (fld_belowA ((show Fld w3.drew fb from HF3.out)) hb1)
      have LF1 := Nat.lt_of_lt_of_le (show fb < w3.drew.heap.size from flt3) hb1.size
      have FD1 := hid hdB
      clear hb1 hdB hloc
      clear hHeld
      go_wp2_with fail
      refine hK.out _ _ (HKP.out _ KB1) (fun hHeld => ?_)
      clear hK K
      try simp only [Act.put, List.setIfInBounds_toArray, List.set_cons_zero, List.set_cons_succ]
      refine wpAnyH_ready (rs := [6]) (by kernel_rfl) (by simp) ?_
      refine AllReadyH.cons (o := { dst := some 24, op := Op.call { callee := Callee.value (Operand.func 14), args := #[Operand.tmp 23], argTypes := #[28] }, type := 28, pos := "manifest.go:138", after := #[{ on := 5, ground := Ground.data }, { on := 3, ground := Ground.chain }], guard := none }) rfl (fun K hK => ?_) AllReadyH.nil
      go_simp
      refine (HMN.out _ hHeld.1).mono ?_
      rintro e wx2 ⟨v, qs, rfl, hmi⟩
      have hb2 := hmi.below
      have KB2 : Kept fb w3 wx2 := (KB1).trans (Kept.of_below hb2)
      obtain ⟨aC, cC, rfl, hcC, hhC⟩ := hmi.held (fb := fb) HLT.out LF1
      have HFN := hid (mine_fns hmi HN.out mk mn mt ms mm mo mD)
      have hpdC := hmi.pdat HLT.out HSZ.out
      have FF2 := hid (fld_belowA (FF1.out) hb2)
      have LF2 := Nat.lt_of_lt_of_le LF1 hb2.size
      have FD2 := hid ((FD1.out).below hb2)
      have FH2 := hid hhC
      have FP2 := hid hpdC
      clear hb2 hmi hhC hpdC
      clear hHeld
      go_wp2_with fail
      refine hK.out _ _ (HKP.out _ KB2) (fun hHeld => ?_)
      clear hK K
      try simp only [Act.put, List.setIfInBounds_toArray, List.set_cons_zero, List.set_cons_succ]
      refine wpAnyH_ready (rs := [7]) (by kernel_rfl) (by simp) ?_
      refine AllReadyH.cons (o := { dst := some 25, op := Op.call { callee := Callee.value (Operand.func 11), args := #[Operand.tmp 18, Operand.tmp 21, Operand.tmp 24], argTypes := #[38, 27, 28] }, type := 36, pos := "manifest.go:138", after := #[{ on := 0, ground := Ground.data }, { on := 3, ground := Ground.data }, { on := 6, ground := Ground.data }, { on := 6, ground := Ground.chain }], guard := none }) rfl (fun K hK => ?_) AllReadyH.nil
      go_simp
      refine (asm_any fb _ (HV.out.below hHeld.1) mk mn mt ms mo aB mm cB mD HO.out (FD2.out) aC pl cC qs D (FP2.out) (by omega) hcC FF2.out (Nat.le_trans hlow hWfb) (FH2.out)).mono ?_
      rw [HFN.out.1, HFN.out.2, ← HE.out, ← HL.out]
      rintro e wx3 ⟨⟨ra, rc, rfl, hbs, hcr, hnr⟩, hfl, hk3⟩
      have HCN := hid (show L.length ≤ rc ∧ (ra = none → rc = 0) from ⟨hcr, hnr⟩)
      have HFL := hid hfl
      have KB3 : Kept fb w3 wx3 := (KB2).trans hk3
      have FS3 := hid hbs
      clear hk3 hbs hcr hnr hfl
      clear hHeld
      go_wp2_with fail
      refine hK.out _ _ (HKP.out _ KB3) (fun hHeld => ?_)
      clear hK K
      try simp only [Act.put, List.setIfInBounds_toArray, List.set_cons_zero, List.set_cons_succ]
      refine wpAnyH_take (i := 8) (oi := { dst := some 17, op := Op.move (Operand.tmp 25), type := 36, pos := "manifest.go:138", after := #[{ on := 7, ground := Ground.data }], guard := none }) (v := ?_) rfl (by kernel_rfl) (by kernel_rfl) (by kernel_rfl) (fun _ _ _ h => h) (Or.inl ⟨by rfl, ?hy⟩) hHeld ?_
      case hy => (intro w hSw; (try dsimp only at hSw); obtain ⟨_, _, _, _⟩ := hSw; go_simp; all_goals (with_reducible rfl))
      try simp only [Act.put, List.setIfInBounds_toArray, List.set_cons_zero, List.set_cons_succ]
      refine wpAnyH_take (i := 9) (oi := { dst := some 26, op := Op.extract (Operand.tmp 17) 0, type := 22, pos := "manifest.go:138", after := #[{ on := 8, ground := Ground.data }], guard := none }) (v := ?_) rfl (by kernel_rfl) (by kernel_rfl) (by kernel_rfl) (fun _ _ _ h => h) (Or.inl ⟨by rfl, ?hy⟩) hHeld ?_
      case hy => (intro w hSw; (try dsimp only at hSw); obtain ⟨_, _, _, _⟩ := hSw; go_simp; all_goals (with_reducible rfl))
      try simp only [Act.put, List.setIfInBounds_toArray, List.set_cons_zero, List.set_cons_succ]
      refine wpAnyH_take (i := 10) (oi := { dst := some 27, op := Op.extract (Operand.tmp 17) 1, type := 35, pos := "manifest.go:138", after := #[{ on := 8, ground := Ground.data }, { on := 11, ground := Ground.gcOnly Departure.lateStores }], guard := none }) (v := ?_) rfl (by kernel_rfl) (by kernel_rfl) (by kernel_rfl) (fun _ _ _ h => h) (Or.inl ⟨by rfl, ?hy⟩) hHeld ?_
      case hy => (intro w hSw; (try dsimp only at hSw); obtain ⟨_, _, _, _⟩ := hSw; go_simp; all_goals (with_reducible rfl))
      try simp only [Act.put, List.setIfInBounds_toArray, List.set_cons_zero, List.set_cons_succ]
      refine wpAnyH_take (i := 11) (oi := { dst := some 4, op := Op.assign (Operand.tmp 26), type := 22, pos := "manifest.go:138", after := #[{ on := 9, ground := Ground.data }, { on := 7, ground := Ground.chain }, { on := 0, ground := Ground.phase }, { on := 1, ground := Ground.phase }, { on := 2, ground := Ground.phase }, { on := 3, ground := Ground.phase }, { on := 4, ground := Ground.phase }, { on := 5, ground := Ground.phase }, { on := 6, ground := Ground.phase }, { on := 7, ground := Ground.phase }, { on := 8, ground := Ground.phase }, { on := 9, ground := Ground.phase }, { on := 10, ground := Ground.textOnly Departure.lateStores }], guard := none }) (v := ?_) rfl (by kernel_rfl) (by kernel_rfl) (by kernel_rfl) (fun _ _ _ h => h) (Or.inl ⟨by rfl, ?hy⟩) hHeld ?_
      case hy => (intro w hSw; (try dsimp only at hSw); obtain ⟨_, _, _, _⟩ := hSw; go_simp; all_goals (with_reducible rfl))
      try simp only [Act.put, List.setIfInBounds_toArray, List.set_cons_zero, List.set_cons_succ]
      refine wpAnyH_take (i := 12) (oi := { dst := some 5, op := Op.assign (Operand.tmp 27), type := 35, pos := "manifest.go:138", after := #[{ on := 10, ground := Ground.data }, { on := 11, ground := Ground.chain }, { on := 0, ground := Ground.phase }, { on := 1, ground := Ground.phase }, { on := 2, ground := Ground.phase }, { on := 3, ground := Ground.phase }, { on := 4, ground := Ground.phase }, { on := 5, ground := Ground.phase }, { on := 6, ground := Ground.phase }, { on := 7, ground := Ground.phase }, { on := 8, ground := Ground.phase }, { on := 9, ground := Ground.phase }, { on := 10, ground := Ground.phase }, { on := 11, ground := Ground.phase }], guard := none }) (v := ?_) rfl (by kernel_rfl) (by kernel_rfl) (by kernel_rfl) (fun _ _ _ h => h) (Or.inl ⟨by rfl, ?hy⟩) hHeld ?_
      case hy => (intro w hSw; (try dsimp only at hSw); obtain ⟨_, _, _, _⟩ := hSw; go_simp; all_goals (with_reducible rfl))
      try simp only [Act.put, List.setIfInBounds_toArray, List.set_cons_zero, List.set_cons_succ]
      have LS := hid (FS3.out)
      have LB := hid (KB3)
      refine wpAnyH_done (by kernel_rfl) ?_ _
      go_wp2_with fail
      go_meet
      exact ⟨_, rfl, _, _, rfl, rfl, LB, HFL, LS, HCN⟩
    case rest =>
    obtain ⟨w5, hw5, ra, rc, rfl, rfl, HK5, HF5, HBS, HCN⟩ := hcut
    subst hw5
    clear HKP HE HL
    obtain ⟨hBW5, -, e42, -⟩ := HKG.out w5 HK5.out
    have HBW5 := hid hBW5
    have hC5 : CaseAt w5 W.heap.size K N T I (.slice da dl dc) mk mn mt ms mo (.slice ma mm mc) (.slice pa pl pc) (.slice ia il ic) := (HK5.out.block _ hl3 (by omega)).trans HC3.out
    have HC5 := hid hC5
    have hl5 := lt_of_heap hC5
    clear hC5
    go_upto_region 5 with fail
    go_cut [54] (fun v wx => ∃ wy, wy = wx ∧ v = .bool false ∧ Hid (Below w5.heap.size w5 wy))
    case first =>
      have hne : Nonempty (Cls fun w' => Below w5.heap.size w5 w') := ⟨⟨w5, Below.refl _ _⟩⟩
      by_cases hE0 : E = 0
      · obtain ⟨hms, hlen, hdg, hkp⟩ := HAS.out hE0
        have hCp : ∀ p : Cls (fun w' => Below w5.heap.size w5 w'), CaseAt p.w W.heap.size K N T I (.slice da dl dc) mk mn mt ms mo (.slice ma mm mc) (.slice pa pl pc) (.slice ia il ic) := fun p => (p.h.block _ hl5).trans HC5.out
        have f8 : ∀ p : Cls (fun w' => Below w5.heap.size w5 w'), p.w.cell? ⟨W.heap.size, 8, none⟩ = some (.int .i64 ms) := fun p => case_s (hCp p)
        have f5 : ∀ p : Cls (fun w' => Below w5.heap.size w5 w'), p.w.cell? ⟨W.heap.size, 5, none⟩ = some (.int .i64 mk) := fun p => case_k (hCp p)
        have f42 : ∀ p : Cls (fun w' => Below w5.heap.size w5 w'), p.w.cell? ⟨W.heap.size, 42, none⟩ = some (.slice pa pl pc) := fun p => ((hCp p).hi HO.out).2.1
        have HRQ := hid (fun (p : Cls fun w' => Below w5.heap.size w5 w') => case_dig (hCp p))
        have hl9 : L.length ≤ 900000000 := by omega
        have HSQ := hid (fun (p : Cls fun w' => Below w5.heap.size w5 w') => SHA256_any ra L.length rc shaRound shaStart L p.w (HV.out.below (HBW5.out.trans (p.h.mono HBW5.out.size))) (HBS.out.below p.h) HCN.out.1 hl9)
        rw [hdg] at HSQ
        have HIFZ := hid (show (Tryd.prog.info? 24).map (·.size) = some (u8s mo).length from by simp only [u8s, List.length_map, HO.out]; kernel_rfl)
        have e1 := fun wx => eql_any mo mo HO.out HO.out wx
        simp only [decide_true] at e1
        have n1 : ((L.length : Int) != ms) = false := by rw [bne_eq_false_iff_eq]; exact hlen
        have n2 : ¬ (pl : Int) < mk := by omega
        subst hE0
        clear hms hlen hdg hkp hCp e42
        refine wp_region_class_lit (G := fun w' => Below w5.heap.size w5 w') (by kernel_rfl) (by kernel_rfl) (bel_drewN (Below.refl _ _) 1) ?_
        iterate 14 (go_big_quiet_step ((go_at_call 18; exact Calls.cls (HSQ.out _))))
        refine wpQuiet_load_clsW (by rfl) 24 (.tmp 41) (by rfl) W.heap.size 9 (by rfl) (u8s mo) _ HRQ.out Tryd.underlying24 rfl HIFZ.out ?_
        rintro _ rfl
        try simp only [Act.put, List.setIfInBounds_toArray, List.set_cons_zero, List.set_cons_succ]
        repeat (go_big_quiet_step ((go_at_call 18; exact Calls.cls (HSQ.out _))))
        refine wpQuiet_nil ?_
        rintro _ ⟨⟨wp, hwp⟩, rfl⟩
        have LB := hid hwp
        go_wp2_with fail
        go_meet
        exact ⟨_, rfl, rfl, LB⟩
      · have n1 : (E == 0) = false := by simpa using hE0
        clear hE0 e42
        refine wp_region_class_lit (G := fun w' => Below w5.heap.size w5 w') (by kernel_rfl) (by kernel_rfl) (bel_drewN (Below.refl _ _) 1) ?_
        repeat (go_big_quiet_step (fail))
        refine wpQuiet_nil ?_
        rintro _ ⟨⟨wp, hwp⟩, rfl⟩
        have LB := hid hwp
        go_wp2_with fail
        go_meet
        exact ⟨_, rfl, rfl, LB⟩
    case rest =>
    obtain ⟨w6, hw6, rfl, HB56⟩ := hcut
    subst hw6
    have HK6 := hid (HK5.out.trans (Kept.of_below HB56.out))
    have HF6 := hid (fld_belowA HF5.out HB56.out)
    have flt6 : fb < w6.heap.size := Nat.lt_of_lt_of_le flt3 HK6.out.size
    have HKP := hid (fun (wx : World) (k : Kept fb w6 wx) => HKG.out wx (HK6.out.trans k))
    clear HBS HCN e42 HAS HC5 hl5 HBW5 hBW5 HF5
    obtain ⟨E, hE⟩ : ∃ E, E = regE mk mn mt ms mm mD ps D pl I := ⟨_, rfl⟩
    obtain ⟨IX, hIX⟩ : ∃ IX, IX = regI mk mn mt ms mm mD ps D pl I := ⟨_, rfl⟩
    obtain ⟨L, hL⟩ : ∃ L, L = regL mk mn mt ms mm mD ps D pl I := ⟨_, rfl⟩
    rw [← hE, ← hIX, ← hL] at HRS
    have HE := hid hE
    have HI := hid hIX
    have HL := hid hL
    clear hE hIX hL
    go_upto_region 7 with fail
    go_cut [6, 5] (fun pv ev wx => ∃ wy, wy = wx ∧ ∃ pb ra rc, pv = .pointer (some ⟨pb, 0, none⟩) ∧ ev = .int .i64 E ∧ Hid (Kept fb w6 wy) ∧ Hid (wy.heap[pb]? = some (.cells #[.int .i64 IX, .slice ra L.length rc] 44 (0, 0))) ∧ Hid (Bs wy (.slice ra L.length rc) L) ∧ Hid (L.length ≤ rc ∧ (ra = none → rc = 0)))
    case first =>
      refine wp_region_held_drew (S := (fun wx => Below W.heap.size W wx ∧ (loadVar 27 ⟨W.heap.size, 5, none⟩).run Tryd.prog wx = .ok (.agg XM) wx ∧ wx.cell? ⟨W.heap.size, 42, none⟩ = some (.slice pa pl pc) ∧ wx.cell? ⟨W.heap.size, 3, none⟩ = some (.int .i64 I))) (by kernel_rfl) (HKP.out _ (Kept.of_below (b := fb) (bel_drewN (Below.refl w6.heap.size w6) 1))) (fun hHeld => ?_)
      refine wpAnyH_take (i := 0) (oi := { dst := some 56, op := Op.move (Operand.tmp 3), type := 38, pos := "manifest.go:142", after := #[], guard := none }) (v := ?_) rfl (by kernel_rfl) (by kernel_rfl) (by kernel_rfl) (fun _ _ _ h => h) (Or.inl ⟨by rfl, ?hy⟩) hHeld ?_
      case hy => (intro w hSw; (try dsimp only at hSw); obtain ⟨_, _, _, _⟩ := hSw; go_simp; all_goals (with_reducible rfl))
      try simp only [Act.put, List.setIfInBounds_toArray, List.set_cons_zero, List.set_cons_succ]
      refine wpAnyH_take (i := 1) (oi := { dst := some 57, op := Op.fieldAddr 31 (Operand.tmp 1) 5, type := 0, pos := "manifest.go:142", after := #[], guard := none }) (v := ?_) rfl (by kernel_rfl) (by kernel_rfl) (by kernel_rfl) (fun _ _ _ h => h) (Or.inl ⟨by rfl, ?hy⟩) hHeld ?_
      case hy => (intro w hSw; (try dsimp only at hSw); obtain ⟨_, _, _, _⟩ := hSw; go_simp; all_goals (with_reducible rfl))
      try simp only [Act.put, List.setIfInBounds_toArray, List.set_cons_zero, List.set_cons_succ]
      refine wpAnyH_take (i := 2) (oi := { dst := some 58, op := Op.load 27 (Operand.tmp 57), type := 27, pos := "manifest.go:142", after := #[{ on := 1, ground := Ground.data }], guard := none }) (v := .agg XM) rfl (by kernel_rfl) (by kernel_rfl) (by kernel_rfl) (fun _ _ _ h => h) (Or.inl ⟨by rfl, ?hy⟩) hHeld ?_
      case hy => (intro w hSw; exact run_load_opA hSw.2.1)
      try simp only [Act.put, List.setIfInBounds_toArray, List.set_cons_zero, List.set_cons_succ]
      refine wpAnyH_take (i := 4) (oi := { dst := some 60, op := Op.fieldAddr 31 (Operand.tmp 1) 6, type := 0, pos := "manifest.go:142", after := #[], guard := none }) (v := ?_) rfl (by kernel_rfl) (by kernel_rfl) (by kernel_rfl) (fun _ _ _ h => h) (Or.inl ⟨by rfl, ?hy⟩) hHeld ?_
      case hy => (intro w hSw; (try dsimp only at hSw); obtain ⟨_, _, _, _⟩ := hSw; go_simp; all_goals (with_reducible rfl))
      try simp only [Act.put, List.setIfInBounds_toArray, List.set_cons_zero, List.set_cons_succ]
      refine wpAnyH_take (i := 5) (oi := { dst := some 61, op := Op.load 28 (Operand.tmp 60), type := 28, pos := "manifest.go:142", after := #[{ on := 4, ground := Ground.data }], guard := none }) (v := ?_) rfl (by kernel_rfl) (by kernel_rfl) (by kernel_rfl) (fun _ _ _ h => h) (Or.inl ⟨by rfl, ?hy⟩) hHeld ?_
      case hy => (intro w hSw; (try dsimp only at hSw); obtain ⟨_, _, _, _⟩ := hSw; go_simp; all_goals (with_reducible rfl))
      try simp only [Act.put, List.setIfInBounds_toArray, List.set_cons_zero, List.set_cons_succ]
      refine wpAnyH_take (i := 7) (oi := { dst := some 63, op := Op.fieldAddr 31 (Operand.tmp 1) 3, type := 0, pos := "manifest.go:142", after := #[], guard := none }) (v := ?_) rfl (by kernel_rfl) (by kernel_rfl) (by kernel_rfl) (fun _ _ _ h => h) (Or.inl ⟨by rfl, ?hy⟩) hHeld ?_
      case hy => (intro w hSw; (try dsimp only at hSw); obtain ⟨_, _, _, _⟩ := hSw; go_simp; all_goals (with_reducible rfl))
      try simp only [Act.put, List.setIfInBounds_toArray, List.set_cons_zero, List.set_cons_succ]
      refine wpAnyH_take (i := 8) (oi := { dst := some 64, op := Op.load 3 (Operand.tmp 63), type := 3, pos := "manifest.go:142", after := #[{ on := 7, ground := Ground.data }], guard := none }) (v := ?_) rfl (by kernel_rfl) (by kernel_rfl) (by kernel_rfl) (fun _ _ _ h => h) (Or.inl ⟨by rfl, ?hy⟩) hHeld ?_
      case hy => (intro w hSw; (try dsimp only at hSw); obtain ⟨_, _, _, _⟩ := hSw; go_simp; all_goals (with_reducible rfl))
      try simp only [Act.put, List.setIfInBounds_toArray, List.set_cons_zero, List.set_cons_succ]
      refine wpAnyH_ready (rs := [3, 13]) (by kernel_rfl) (by simp) ?_
      refine AllReadyH.cons (o := { dst := some 59, op := Op.call { callee := Callee.value (Operand.func 13), args := #[Operand.tmp 58], argTypes := #[27] }, type := 27, pos := "manifest.go:142", after := #[{ on := 2, ground := Ground.data }], guard := none }) rfl (fun K hK => ?_) ?_
      · skip
        go_simp
        refine (HOW.out _ hHeld.1).mono ?_
        rintro e wx1 ⟨aB, cB, rfl, hdB, hloc, hb1⟩
        have KB1 : Kept fb w6 wx1 := ((Kept.of_below (b := fb) (bel_drewN (Below.refl w6.heap.size w6) 1))).trans (Kept.of_below hb1)
        have hof : ∀ ad, aB = some ad → ad.block ≠ fb := fun ad h => by have h5 := hloc ad h; have h6 := (show fb < w6.drew.heap.size from flt6); omega
        have FF1 := hid (fld_belowA ((show Fld w6.drew fb from HF6.out)) hb1)
        have LF1 := Nat.lt_of_lt_of_le (show fb < w6.drew.heap.size from flt6) hb1.size
        have FD1 := hid hdB
        clear hb1 hdB hloc
        clear hHeld
        go_wp2_with fail
        refine hK.out _ _ (HKP.out _ KB1) (fun hHeld => ?_)
        clear hK K
        try simp only [Act.put, List.setIfInBounds_toArray, List.set_cons_zero, List.set_cons_succ]
        refine wpAnyH_ready (rs := [6, 13]) (by kernel_rfl) (by simp) ?_
        refine AllReadyH.cons (o := { dst := some 62, op := Op.call { callee := Callee.value (Operand.func 14), args := #[Operand.tmp 61], argTypes := #[28] }, type := 28, pos := "manifest.go:142", after := #[{ on := 5, ground := Ground.data }, { on := 3, ground := Ground.chain }], guard := none }) rfl (fun K hK => ?_) ?_
        · skip
          go_simp
          refine (HMN.out _ hHeld.1).mono ?_
          rintro e wx2 ⟨v, qs, rfl, hmi⟩
          have hb2 := hmi.below
          have KB2 : Kept fb w6 wx2 := (KB1).trans (Kept.of_below hb2)
          obtain ⟨aC, cC, rfl, hcC, hhC⟩ := hmi.held (fb := fb) HLT.out LF1
          have HFN := hid (rgn_fns hmi HN.out mk mn mt ms mm mD I)
          have hpdC := hmi.pdat HLT.out HSZ.out
          have FF2 := hid (fld_belowA (FF1.out) hb2)
          have LF2 := Nat.lt_of_lt_of_le LF1 hb2.size
          have FD2 := hid ((FD1.out).below hb2)
          have FH2 := hid hhC
          have FP2 := hid hpdC
          clear hb2 hmi hhC hpdC
          clear hHeld
          go_wp2_with fail
          refine hK.out _ _ (HKP.out _ KB2) (fun hHeld => ?_)
          clear hK K
          try simp only [Act.put, List.setIfInBounds_toArray, List.set_cons_zero, List.set_cons_succ]
          refine wpAnyH_ready (rs := [9, 13]) (by kernel_rfl) (by simp) ?_
          refine AllReadyH.cons (o := { dst := some 65, op := Op.call { callee := Callee.value (Operand.func 16), args := #[Operand.tmp 56, Operand.tmp 59, Operand.tmp 62, Operand.tmp 64], argTypes := #[38, 27, 28, 3] }, type := 45, pos := "manifest.go:142", after := #[{ on := 0, ground := Ground.data }, { on := 3, ground := Ground.data }, { on := 6, ground := Ground.data }, { on := 8, ground := Ground.data }, { on := 6, ground := Ground.chain }], guard := none }) rfl (fun K hK => ?_) ?_
          · skip
            go_simp
            refine (rgn_any fb _ (HV.out.below hHeld.1) mk mn mt ms mo aB mm cB mD HO.out (FD2.out) aC pl cC qs D (FP2.out) (by omega) hcC FF2.out (Nat.le_trans hlow hWfb) (FH2.out) hof I).mono ?_
            rw [HFN.out.1, HFN.out.2.1, HFN.out.2.2, ← HE.out, ← HI.out, ← HL.out]
            rintro e wx3 ⟨⟨ra, rc, rfl, hbs, hcr, hnr⟩, hfl, hk3⟩
            have HCN := hid (show L.length ≤ rc ∧ (ra = none → rc = 0) from ⟨hcr, hnr⟩)
            have HFL := hid hfl
            have KB3 : Kept fb w6 wx3 := (KB2).trans hk3
            have FS3 := hid hbs
            clear hk3 hbs hcr hnr hfl
            clear hHeld
            go_wp2_with fail
            refine hK.out _ _ (HKP.out _ KB3) (fun hHeld => ?_)
            clear hK K
            try simp only [Act.put, List.setIfInBounds_toArray, List.set_cons_zero, List.set_cons_succ]
            refine wpAnyH_take (i := 10) (oi := { dst := some 55, op := Op.move (Operand.tmp 65), type := 45, pos := "manifest.go:142", after := #[{ on := 9, ground := Ground.data }], guard := none }) (v := ?_) rfl (by kernel_rfl) (by kernel_rfl) (by kernel_rfl) (fun _ _ _ h => h) (Or.inl ⟨by rfl, ?hy⟩) hHeld ?_
            case hy => (intro w hSw; (try dsimp only at hSw); obtain ⟨_, _, _, _⟩ := hSw; go_simp; all_goals (with_reducible rfl))
            try simp only [Act.put, List.setIfInBounds_toArray, List.set_cons_zero, List.set_cons_succ]
            refine wpAnyH_take (i := 11) (oi := { dst := some 66, op := Op.extract (Operand.tmp 55) 0, type := 44, pos := "manifest.go:142", after := #[{ on := 10, ground := Ground.data }], guard := none }) (v := ?_) rfl (by kernel_rfl) (by kernel_rfl) (by kernel_rfl) (fun _ _ _ h => h) (Or.inl ⟨by rfl, ?hy⟩) hHeld ?_
            case hy => (intro w hSw; (try dsimp only at hSw); obtain ⟨_, _, _, _⟩ := hSw; go_simp; all_goals (with_reducible rfl))
            try simp only [Act.put, List.setIfInBounds_toArray, List.set_cons_zero, List.set_cons_succ]
            refine wpAnyH_take (i := 12) (oi := { dst := some 67, op := Op.extract (Operand.tmp 55) 1, type := 35, pos := "manifest.go:142", after := #[{ on := 10, ground := Ground.data }, { on := 14, ground := Ground.gcOnly Departure.lateStores }], guard := none }) (v := ?_) rfl (by kernel_rfl) (by kernel_rfl) (by kernel_rfl) (fun _ _ _ h => h) (Or.inl ⟨by rfl, ?hy⟩) hHeld ?_
            case hy => (intro w hSw; (try dsimp only at hSw); obtain ⟨_, _, _, _⟩ := hSw; go_simp; all_goals (with_reducible rfl))
            try simp only [Act.put, List.setIfInBounds_toArray, List.set_cons_zero, List.set_cons_succ]
            refine wpAnyH_ready (rs := [13]) (by kernel_rfl) (by simp) ?_
            refine AllReadyH.cons (o := { dst := some 6, op := Op.alloc 44, type := 0, pos := "manifest.go:142", after := #[], guard := none }) rfl (fun K hK => ?_) AllReadyH.nil
            refine step_mkp rfl rfl ?_
            intro pb4 wx4 hg4 hM4 hb4 hl4
            have lo4 : w6.heap.size ≤ pb4 := by rw [hg4]; exact (KB3).size
            have KB4 : Kept fb w6 wx4 := (KB3).trans (Kept.of_below hb4)
            have FS4 := hid ((FS3.out).below hb4)
            have FA4 := hid hM4
            clear hg4 hM4 hb4
            refine hK.out _ _ (HKP.out _ KB4) (fun hHeld => ?_)
            clear hK K
            try simp only [Act.put, List.setIfInBounds_toArray, List.set_cons_zero, List.set_cons_succ]
            refine wpAnyH_ready (rs := [14]) (by kernel_rfl) (by simp) ?_
            refine AllReadyH.cons (o := { dst := none, op := Op.store 44 (Operand.tmp 6) (Operand.tmp 66), type := 0, pos := "manifest.go:142", after := #[{ on := 13, ground := Ground.data }, { on := 11, ground := Ground.data }, { on := 9, ground := Ground.chain }, { on := 0, ground := Ground.phase }, { on := 1, ground := Ground.phase }, { on := 2, ground := Ground.phase }, { on := 3, ground := Ground.phase }, { on := 4, ground := Ground.phase }, { on := 5, ground := Ground.phase }, { on := 6, ground := Ground.phase }, { on := 7, ground := Ground.phase }, { on := 8, ground := Ground.phase }, { on := 9, ground := Ground.phase }, { on := 10, ground := Ground.phase }, { on := 11, ground := Ground.phase }, { on := 12, ground := Ground.textOnly Departure.lateStores }, { on := 13, ground := Ground.phase }], guard := none }) rfl (fun K hK => ?_) AllReadyH.nil
            refine step_store_row rfl 44 (.tmp 6) (.tmp 66) rfl pb4 #[.int .i64 0, .slice none 0 0] #[.int .i64 IX, .slice ra L.length rc] 44 rfl rfl (FA4.out) (by kernel_rfl) rfl (piece_allS _ _ _ _) ?_
            intro wz hz hkz
            have HBZ : Kept fb w6 wz := (KB4).fresh hkz lo4
            have LS := hid (bs_keptP (FS4.out) (FA4.out) hkz)
            have LZ := hid hz
            have LB := hid HBZ
            refine hK.out _ _ (HKP.out _ HBZ) (fun hHeld => ?_)
            clear hK K hz hkz HBZ
            try simp only [Act.put]
            refine wpAnyH_take (i := 15) (oi := { dst := some 5, op := Op.assign (Operand.tmp 67), type := 35, pos := "manifest.go:142", after := #[{ on := 12, ground := Ground.data }, { on := 14, ground := Ground.chain }, { on := 0, ground := Ground.phase }, { on := 1, ground := Ground.phase }, { on := 2, ground := Ground.phase }, { on := 3, ground := Ground.phase }, { on := 4, ground := Ground.phase }, { on := 5, ground := Ground.phase }, { on := 6, ground := Ground.phase }, { on := 7, ground := Ground.phase }, { on := 8, ground := Ground.phase }, { on := 9, ground := Ground.phase }, { on := 10, ground := Ground.phase }, { on := 11, ground := Ground.phase }, { on := 12, ground := Ground.phase }, { on := 13, ground := Ground.phase }, { on := 14, ground := Ground.phase }], guard := none }) (v := ?_) rfl (by kernel_rfl) (by kernel_rfl) (by kernel_rfl) (fun _ _ _ h => h) (Or.inl ⟨by rfl, ?hy⟩) hHeld ?_
            case hy => (intro w hSw; (try dsimp only at hSw); obtain ⟨_, _, _, _⟩ := hSw; go_simp; all_goals (with_reducible rfl))
            try simp only [Act.put, List.setIfInBounds_toArray, List.set_cons_zero, List.set_cons_succ]
            refine wpAnyH_done (by kernel_rfl) ?_ _
            go_wp2_with fail
            go_meet
            exact ⟨_, rfl, _, _, _, rfl, rfl, LB, LZ, LS, HCN⟩
          refine AllReadyH.cons (o := { dst := some 6, op := Op.alloc 44, type := 0, pos := "manifest.go:142", after := #[], guard := none }) rfl (fun K hK => ?_) AllReadyH.nil
          refine step_mkp rfl rfl ?_
          intro pb6 wx6 hg6 hM6 hb6 hl6
          have lo6 : w6.heap.size ≤ pb6 := by rw [hg6]; exact (KB2).size
          have KB6 : Kept fb w6 wx6 := (KB2).trans (Kept.of_below hb6)
          have FF6 := hid (fld_belowA (FF2.out) hb6)
          have LF6 := Nat.lt_of_lt_of_le LF2 hb6.size
          have FD6 := hid ((FD2.out).below hb6)
          have FH6 := hid ((FH2.out).step (Kept.of_below hb6))
          have FP6 := hid ((FP2.out).below hb6)
          have FA6 := hid hM6
          have ne6 : pb6 ≠ fb := by have := LF6; omega
          clear hg6 hM6 hb6
          refine hK.out _ _ (HKP.out _ KB6) (fun hHeld => ?_)
          clear hK K
          try simp only [Act.put, List.setIfInBounds_toArray, List.set_cons_zero, List.set_cons_succ]
          refine wpAnyH_ready (rs := [9]) (by kernel_rfl) (by simp) ?_
          refine AllReadyH.cons (o := { dst := some 65, op := Op.call { callee := Callee.value (Operand.func 16), args := #[Operand.tmp 56, Operand.tmp 59, Operand.tmp 62, Operand.tmp 64], argTypes := #[38, 27, 28, 3] }, type := 45, pos := "manifest.go:142", after := #[{ on := 0, ground := Ground.data }, { on := 3, ground := Ground.data }, { on := 6, ground := Ground.data }, { on := 8, ground := Ground.data }, { on := 6, ground := Ground.chain }], guard := none }) rfl (fun K hK => ?_) AllReadyH.nil
          go_simp
          refine (rgn_any fb _ (HV.out.below hHeld.1) mk mn mt ms mo aB mm cB mD HO.out (FD6.out) aC pl cC qs D (FP6.out) (by omega) hcC FF6.out (Nat.le_trans hlow hWfb) (FH6.out) hof I).mono ?_
          rw [HFN.out.1, HFN.out.2.1, HFN.out.2.2, ← HE.out, ← HI.out, ← HL.out]
          rintro e wx7 ⟨⟨ra, rc, rfl, hbs, hcr, hnr⟩, hfl, hk7⟩
          have HCN := hid (show L.length ≤ rc ∧ (ra = none → rc = 0) from ⟨hcr, hnr⟩)
          have HFL := hid hfl
          have KB7 : Kept fb w6 wx7 := (KB6).trans hk7
          have Fpb7 := hid ((hk7.block _ hl6 ne6).trans FA6.out)
          have Lpb7 := Nat.lt_of_lt_of_le hl6 hk7.size
          have FS7 := hid hbs
          clear hk7 hbs hcr hnr hfl
          clear hHeld
          go_wp2_with fail
          refine hK.out _ _ (HKP.out _ KB7) (fun hHeld => ?_)
          clear hK K
          try simp only [Act.put, List.setIfInBounds_toArray, List.set_cons_zero, List.set_cons_succ]
          refine wpAnyH_take (i := 10) (oi := { dst := some 55, op := Op.move (Operand.tmp 65), type := 45, pos := "manifest.go:142", after := #[{ on := 9, ground := Ground.data }], guard := none }) (v := ?_) rfl (by kernel_rfl) (by kernel_rfl) (by kernel_rfl) (fun _ _ _ h => h) (Or.inl ⟨by rfl, ?hy⟩) hHeld ?_
          case hy => (intro w hSw; (try dsimp only at hSw); obtain ⟨_, _, _, _⟩ := hSw; go_simp; all_goals (with_reducible rfl))
          try simp only [Act.put, List.setIfInBounds_toArray, List.set_cons_zero, List.set_cons_succ]
          refine wpAnyH_take (i := 11) (oi := { dst := some 66, op := Op.extract (Operand.tmp 55) 0, type := 44, pos := "manifest.go:142", after := #[{ on := 10, ground := Ground.data }], guard := none }) (v := ?_) rfl (by kernel_rfl) (by kernel_rfl) (by kernel_rfl) (fun _ _ _ h => h) (Or.inl ⟨by rfl, ?hy⟩) hHeld ?_
          case hy => (intro w hSw; (try dsimp only at hSw); obtain ⟨_, _, _, _⟩ := hSw; go_simp; all_goals (with_reducible rfl))
          try simp only [Act.put, List.setIfInBounds_toArray, List.set_cons_zero, List.set_cons_succ]
          refine wpAnyH_take (i := 12) (oi := { dst := some 67, op := Op.extract (Operand.tmp 55) 1, type := 35, pos := "manifest.go:142", after := #[{ on := 10, ground := Ground.data }, { on := 14, ground := Ground.gcOnly Departure.lateStores }], guard := none }) (v := ?_) rfl (by kernel_rfl) (by kernel_rfl) (by kernel_rfl) (fun _ _ _ h => h) (Or.inl ⟨by rfl, ?hy⟩) hHeld ?_
          case hy => (intro w hSw; (try dsimp only at hSw); obtain ⟨_, _, _, _⟩ := hSw; go_simp; all_goals (with_reducible rfl))
          try simp only [Act.put, List.setIfInBounds_toArray, List.set_cons_zero, List.set_cons_succ]
          refine wpAnyH_ready (rs := [14]) (by kernel_rfl) (by simp) ?_
          refine AllReadyH.cons (o := { dst := none, op := Op.store 44 (Operand.tmp 6) (Operand.tmp 66), type := 0, pos := "manifest.go:142", after := #[{ on := 13, ground := Ground.data }, { on := 11, ground := Ground.data }, { on := 9, ground := Ground.chain }, { on := 0, ground := Ground.phase }, { on := 1, ground := Ground.phase }, { on := 2, ground := Ground.phase }, { on := 3, ground := Ground.phase }, { on := 4, ground := Ground.phase }, { on := 5, ground := Ground.phase }, { on := 6, ground := Ground.phase }, { on := 7, ground := Ground.phase }, { on := 8, ground := Ground.phase }, { on := 9, ground := Ground.phase }, { on := 10, ground := Ground.phase }, { on := 11, ground := Ground.phase }, { on := 12, ground := Ground.textOnly Departure.lateStores }, { on := 13, ground := Ground.phase }], guard := none }) rfl (fun K hK => ?_) AllReadyH.nil
          refine step_store_row rfl 44 (.tmp 6) (.tmp 66) rfl pb6 #[.int .i64 0, .slice none 0 0] #[.int .i64 IX, .slice ra L.length rc] 44 rfl rfl (Fpb7.out) (by kernel_rfl) rfl (piece_allS _ _ _ _) ?_
          intro wz hz hkz
          have HBZ : Kept fb w6 wz := (KB7).fresh hkz lo6
          have LS := hid (bs_keptP (FS7.out) (Fpb7.out) hkz)
          have LZ := hid hz
          have LB := hid HBZ
          refine hK.out _ _ (HKP.out _ HBZ) (fun hHeld => ?_)
          clear hK K hz hkz HBZ
          try simp only [Act.put]
          refine wpAnyH_take (i := 15) (oi := { dst := some 5, op := Op.assign (Operand.tmp 67), type := 35, pos := "manifest.go:142", after := #[{ on := 12, ground := Ground.data }, { on := 14, ground := Ground.chain }, { on := 0, ground := Ground.phase }, { on := 1, ground := Ground.phase }, { on := 2, ground := Ground.phase }, { on := 3, ground := Ground.phase }, { on := 4, ground := Ground.phase }, { on := 5, ground := Ground.phase }, { on := 6, ground := Ground.phase }, { on := 7, ground := Ground.phase }, { on := 8, ground := Ground.phase }, { on := 9, ground := Ground.phase }, { on := 10, ground := Ground.phase }, { on := 11, ground := Ground.phase }, { on := 12, ground := Ground.phase }, { on := 13, ground := Ground.phase }, { on := 14, ground := Ground.phase }], guard := none }) (v := ?_) rfl (by kernel_rfl) (by kernel_rfl) (by kernel_rfl) (fun _ _ _ h => h) (Or.inl ⟨by rfl, ?hy⟩) hHeld ?_
          case hy => (intro w hSw; (try dsimp only at hSw); obtain ⟨_, _, _, _⟩ := hSw; go_simp; all_goals (with_reducible rfl))
          try simp only [Act.put, List.setIfInBounds_toArray, List.set_cons_zero, List.set_cons_succ]
          refine wpAnyH_done (by kernel_rfl) ?_ _
          go_wp2_with fail
          go_meet
          exact ⟨_, rfl, _, _, _, rfl, rfl, LB, LZ, LS, HCN⟩
        refine AllReadyH.cons (o := { dst := some 6, op := Op.alloc 44, type := 0, pos := "manifest.go:142", after := #[], guard := none }) rfl (fun K hK => ?_) AllReadyH.nil
        refine step_mkp rfl rfl ?_
        intro pb9 wx9 hg9 hM9 hb9 hl9
        have lo9 : w6.heap.size ≤ pb9 := by rw [hg9]; exact (KB1).size
        have KB9 : Kept fb w6 wx9 := (KB1).trans (Kept.of_below hb9)
        have FF9 := hid (fld_belowA (FF1.out) hb9)
        have LF9 := Nat.lt_of_lt_of_le LF1 hb9.size
        have FD9 := hid ((FD1.out).below hb9)
        have FA9 := hid hM9
        have ne9 : pb9 ≠ fb := by have := LF9; omega
        clear hg9 hM9 hb9
        refine hK.out _ _ (HKP.out _ KB9) (fun hHeld => ?_)
        clear hK K
        try simp only [Act.put, List.setIfInBounds_toArray, List.set_cons_zero, List.set_cons_succ]
        refine wpAnyH_ready (rs := [6]) (by kernel_rfl) (by simp) ?_
        refine AllReadyH.cons (o := { dst := some 62, op := Op.call { callee := Callee.value (Operand.func 14), args := #[Operand.tmp 61], argTypes := #[28] }, type := 28, pos := "manifest.go:142", after := #[{ on := 5, ground := Ground.data }, { on := 3, ground := Ground.chain }], guard := none }) rfl (fun K hK => ?_) AllReadyH.nil
        go_simp
        refine (HMN.out _ hHeld.1).mono ?_
        rintro e wx10 ⟨v, qs, rfl, hmi⟩
        have hb10 := hmi.below
        have KB10 : Kept fb w6 wx10 := (KB9).trans (Kept.of_below hb10)
        obtain ⟨aC, cC, rfl, hcC, hhC⟩ := hmi.held (fb := fb) HLT.out LF9
        have HFN := hid (rgn_fns hmi HN.out mk mn mt ms mm mD I)
        have hpdC := hmi.pdat HLT.out HSZ.out
        have FF10 := hid (fld_belowA (FF9.out) hb10)
        have LF10 := Nat.lt_of_lt_of_le LF9 hb10.size
        have FD10 := hid ((FD9.out).below hb10)
        have Fpb10 := hid ((hb10.block _ hl9).trans FA9.out)
        have Lpb10 := Nat.lt_of_lt_of_le hl9 hb10.size
        have FH10 := hid hhC
        have FP10 := hid hpdC
        clear hb10 hmi hhC hpdC
        clear hHeld
        go_wp2_with fail
        refine hK.out _ _ (HKP.out _ KB10) (fun hHeld => ?_)
        clear hK K
        try simp only [Act.put, List.setIfInBounds_toArray, List.set_cons_zero, List.set_cons_succ]
        refine wpAnyH_ready (rs := [9]) (by kernel_rfl) (by simp) ?_
        refine AllReadyH.cons (o := { dst := some 65, op := Op.call { callee := Callee.value (Operand.func 16), args := #[Operand.tmp 56, Operand.tmp 59, Operand.tmp 62, Operand.tmp 64], argTypes := #[38, 27, 28, 3] }, type := 45, pos := "manifest.go:142", after := #[{ on := 0, ground := Ground.data }, { on := 3, ground := Ground.data }, { on := 6, ground := Ground.data }, { on := 8, ground := Ground.data }, { on := 6, ground := Ground.chain }], guard := none }) rfl (fun K hK => ?_) AllReadyH.nil
        go_simp
        refine (rgn_any fb _ (HV.out.below hHeld.1) mk mn mt ms mo aB mm cB mD HO.out (FD10.out) aC pl cC qs D (FP10.out) (by omega) hcC FF10.out (Nat.le_trans hlow hWfb) (FH10.out) hof I).mono ?_
        rw [HFN.out.1, HFN.out.2.1, HFN.out.2.2, ← HE.out, ← HI.out, ← HL.out]
        rintro e wx11 ⟨⟨ra, rc, rfl, hbs, hcr, hnr⟩, hfl, hk11⟩
        have HCN := hid (show L.length ≤ rc ∧ (ra = none → rc = 0) from ⟨hcr, hnr⟩)
        have HFL := hid hfl
        have KB11 : Kept fb w6 wx11 := (KB10).trans hk11
        have Fpb11 := hid ((hk11.block _ Lpb10 ne9).trans Fpb10.out)
        have Lpb11 := Nat.lt_of_lt_of_le Lpb10 hk11.size
        have FS11 := hid hbs
        clear hk11 hbs hcr hnr hfl
        clear hHeld
        go_wp2_with fail
        refine hK.out _ _ (HKP.out _ KB11) (fun hHeld => ?_)
        clear hK K
        try simp only [Act.put, List.setIfInBounds_toArray, List.set_cons_zero, List.set_cons_succ]
        refine wpAnyH_take (i := 10) (oi := { dst := some 55, op := Op.move (Operand.tmp 65), type := 45, pos := "manifest.go:142", after := #[{ on := 9, ground := Ground.data }], guard := none }) (v := ?_) rfl (by kernel_rfl) (by kernel_rfl) (by kernel_rfl) (fun _ _ _ h => h) (Or.inl ⟨by rfl, ?hy⟩) hHeld ?_
        case hy => (intro w hSw; (try dsimp only at hSw); obtain ⟨_, _, _, _⟩ := hSw; go_simp; all_goals (with_reducible rfl))
        try simp only [Act.put, List.setIfInBounds_toArray, List.set_cons_zero, List.set_cons_succ]
        refine wpAnyH_take (i := 11) (oi := { dst := some 66, op := Op.extract (Operand.tmp 55) 0, type := 44, pos := "manifest.go:142", after := #[{ on := 10, ground := Ground.data }], guard := none }) (v := ?_) rfl (by kernel_rfl) (by kernel_rfl) (by kernel_rfl) (fun _ _ _ h => h) (Or.inl ⟨by rfl, ?hy⟩) hHeld ?_
        case hy => (intro w hSw; (try dsimp only at hSw); obtain ⟨_, _, _, _⟩ := hSw; go_simp; all_goals (with_reducible rfl))
        try simp only [Act.put, List.setIfInBounds_toArray, List.set_cons_zero, List.set_cons_succ]
        refine wpAnyH_take (i := 12) (oi := { dst := some 67, op := Op.extract (Operand.tmp 55) 1, type := 35, pos := "manifest.go:142", after := #[{ on := 10, ground := Ground.data }, { on := 14, ground := Ground.gcOnly Departure.lateStores }], guard := none }) (v := ?_) rfl (by kernel_rfl) (by kernel_rfl) (by kernel_rfl) (fun _ _ _ h => h) (Or.inl ⟨by rfl, ?hy⟩) hHeld ?_
        case hy => (intro w hSw; (try dsimp only at hSw); obtain ⟨_, _, _, _⟩ := hSw; go_simp; all_goals (with_reducible rfl))
        try simp only [Act.put, List.setIfInBounds_toArray, List.set_cons_zero, List.set_cons_succ]
        refine wpAnyH_ready (rs := [14]) (by kernel_rfl) (by simp) ?_
        refine AllReadyH.cons (o := { dst := none, op := Op.store 44 (Operand.tmp 6) (Operand.tmp 66), type := 0, pos := "manifest.go:142", after := #[{ on := 13, ground := Ground.data }, { on := 11, ground := Ground.data }, { on := 9, ground := Ground.chain }, { on := 0, ground := Ground.phase }, { on := 1, ground := Ground.phase }, { on := 2, ground := Ground.phase }, { on := 3, ground := Ground.phase }, { on := 4, ground := Ground.phase }, { on := 5, ground := Ground.phase }, { on := 6, ground := Ground.phase }, { on := 7, ground := Ground.phase }, { on := 8, ground := Ground.phase }, { on := 9, ground := Ground.phase }, { on := 10, ground := Ground.phase }, { on := 11, ground := Ground.phase }, { on := 12, ground := Ground.textOnly Departure.lateStores }, { on := 13, ground := Ground.phase }], guard := none }) rfl (fun K hK => ?_) AllReadyH.nil
        refine step_store_row rfl 44 (.tmp 6) (.tmp 66) rfl pb9 #[.int .i64 0, .slice none 0 0] #[.int .i64 IX, .slice ra L.length rc] 44 rfl rfl (Fpb11.out) (by kernel_rfl) rfl (piece_allS _ _ _ _) ?_
        intro wz hz hkz
        have HBZ : Kept fb w6 wz := (KB11).fresh hkz lo9
        have LS := hid (bs_keptP (FS11.out) (Fpb11.out) hkz)
        have LZ := hid hz
        have LB := hid HBZ
        refine hK.out _ _ (HKP.out _ HBZ) (fun hHeld => ?_)
        clear hK K hz hkz HBZ
        try simp only [Act.put]
        refine wpAnyH_take (i := 15) (oi := { dst := some 5, op := Op.assign (Operand.tmp 67), type := 35, pos := "manifest.go:142", after := #[{ on := 12, ground := Ground.data }, { on := 14, ground := Ground.chain }, { on := 0, ground := Ground.phase }, { on := 1, ground := Ground.phase }, { on := 2, ground := Ground.phase }, { on := 3, ground := Ground.phase }, { on := 4, ground := Ground.phase }, { on := 5, ground := Ground.phase }, { on := 6, ground := Ground.phase }, { on := 7, ground := Ground.phase }, { on := 8, ground := Ground.phase }, { on := 9, ground := Ground.phase }, { on := 10, ground := Ground.phase }, { on := 11, ground := Ground.phase }, { on := 12, ground := Ground.phase }, { on := 13, ground := Ground.phase }, { on := 14, ground := Ground.phase }], guard := none }) (v := ?_) rfl (by kernel_rfl) (by kernel_rfl) (by kernel_rfl) (fun _ _ _ h => h) (Or.inl ⟨by rfl, ?hy⟩) hHeld ?_
        case hy => (intro w hSw; (try dsimp only at hSw); obtain ⟨_, _, _, _⟩ := hSw; go_simp; all_goals (with_reducible rfl))
        try simp only [Act.put, List.setIfInBounds_toArray, List.set_cons_zero, List.set_cons_succ]
        refine wpAnyH_done (by kernel_rfl) ?_ _
        go_wp2_with fail
        go_meet
        exact ⟨_, rfl, _, _, _, rfl, rfl, LB, LZ, LS, HCN⟩
      refine AllReadyH.cons (o := { dst := some 6, op := Op.alloc 44, type := 0, pos := "manifest.go:142", after := #[], guard := none }) rfl (fun K hK => ?_) AllReadyH.nil
      refine step_mkp rfl rfl ?_
      intro pb13 wx13 hg13 hM13 hb13 hl13
      have lo13 : w6.heap.size ≤ pb13 := by rw [hg13]; exact ((Kept.of_below (b := fb) (bel_drewN (Below.refl w6.heap.size w6) 1))).size
      have KB13 : Kept fb w6 wx13 := ((Kept.of_below (b := fb) (bel_drewN (Below.refl w6.heap.size w6) 1))).trans (Kept.of_below hb13)
      have FF13 := hid (fld_belowA ((show Fld w6.drew fb from HF6.out)) hb13)
      have LF13 := Nat.lt_of_lt_of_le (show fb < w6.drew.heap.size from flt6) hb13.size
      have FA13 := hid hM13
      have ne13 : pb13 ≠ fb := by have := LF13; omega
      clear hg13 hM13 hb13
      refine hK.out _ _ (HKP.out _ KB13) (fun hHeld => ?_)
      clear hK K
      try simp only [Act.put, List.setIfInBounds_toArray, List.set_cons_zero, List.set_cons_succ]
      refine wpAnyH_ready (rs := [3]) (by kernel_rfl) (by simp) ?_
      refine AllReadyH.cons (o := { dst := some 59, op := Op.call { callee := Callee.value (Operand.func 13), args := #[Operand.tmp 58], argTypes := #[27] }, type := 27, pos := "manifest.go:142", after := #[{ on := 2, ground := Ground.data }], guard := none }) rfl (fun K hK => ?_) AllReadyH.nil
      go_simp
      refine (HOW.out _ hHeld.1).mono ?_
      rintro e wx14 ⟨aB, cB, rfl, hdB, hloc, hb14⟩
      have KB14 : Kept fb w6 wx14 := (KB13).trans (Kept.of_below hb14)
      have hof : ∀ ad, aB = some ad → ad.block ≠ fb := fun ad h => by have h5 := hloc ad h; have h6 := LF13; omega
      have FF14 := hid (fld_belowA (FF13.out) hb14)
      have LF14 := Nat.lt_of_lt_of_le LF13 hb14.size
      have Fpb14 := hid ((hb14.block _ hl13).trans FA13.out)
      have Lpb14 := Nat.lt_of_lt_of_le hl13 hb14.size
      have FD14 := hid hdB
      clear hb14 hdB hloc
      clear hHeld
      go_wp2_with fail
      refine hK.out _ _ (HKP.out _ KB14) (fun hHeld => ?_)
      clear hK K
      try simp only [Act.put, List.setIfInBounds_toArray, List.set_cons_zero, List.set_cons_succ]
      refine wpAnyH_ready (rs := [6]) (by kernel_rfl) (by simp) ?_
      refine AllReadyH.cons (o := { dst := some 62, op := Op.call { callee := Callee.value (Operand.func 14), args := #[Operand.tmp 61], argTypes := #[28] }, type := 28, pos := "manifest.go:142", after := #[{ on := 5, ground := Ground.data }, { on := 3, ground := Ground.chain }], guard := none }) rfl (fun K hK => ?_) AllReadyH.nil
      go_simp
      refine (HMN.out _ hHeld.1).mono ?_
      rintro e wx15 ⟨v, qs, rfl, hmi⟩
      have hb15 := hmi.below
      have KB15 : Kept fb w6 wx15 := (KB14).trans (Kept.of_below hb15)
      obtain ⟨aC, cC, rfl, hcC, hhC⟩ := hmi.held (fb := fb) HLT.out LF14
      have HFN := hid (rgn_fns hmi HN.out mk mn mt ms mm mD I)
      have hpdC := hmi.pdat HLT.out HSZ.out
      have FF15 := hid (fld_belowA (FF14.out) hb15)
      have LF15 := Nat.lt_of_lt_of_le LF14 hb15.size
      have Fpb15 := hid ((hb15.block _ Lpb14).trans Fpb14.out)
      have Lpb15 := Nat.lt_of_lt_of_le Lpb14 hb15.size
      have FD15 := hid ((FD14.out).below hb15)
      have FH15 := hid hhC
      have FP15 := hid hpdC
      clear hb15 hmi hhC hpdC
      clear hHeld
      go_wp2_with fail
      refine hK.out _ _ (HKP.out _ KB15) (fun hHeld => ?_)
      clear hK K
      try simp only [Act.put, List.setIfInBounds_toArray, List.set_cons_zero, List.set_cons_succ]
      refine wpAnyH_ready (rs := [9]) (by kernel_rfl) (by simp) ?_
      refine AllReadyH.cons (o := { dst := some 65, op := Op.call { callee := Callee.value (Operand.func 16), args := #[Operand.tmp 56, Operand.tmp 59, Operand.tmp 62, Operand.tmp 64], argTypes := #[38, 27, 28, 3] }, type := 45, pos := "manifest.go:142", after := #[{ on := 0, ground := Ground.data }, { on := 3, ground := Ground.data }, { on := 6, ground := Ground.data }, { on := 8, ground := Ground.data }, { on := 6, ground := Ground.chain }], guard := none }) rfl (fun K hK => ?_) AllReadyH.nil
      go_simp
      refine (rgn_any fb _ (HV.out.below hHeld.1) mk mn mt ms mo aB mm cB mD HO.out (FD15.out) aC pl cC qs D (FP15.out) (by omega) hcC FF15.out (Nat.le_trans hlow hWfb) (FH15.out) hof I).mono ?_
      rw [HFN.out.1, HFN.out.2.1, HFN.out.2.2, ← HE.out, ← HI.out, ← HL.out]
      rintro e wx16 ⟨⟨ra, rc, rfl, hbs, hcr, hnr⟩, hfl, hk16⟩
      have HCN := hid (show L.length ≤ rc ∧ (ra = none → rc = 0) from ⟨hcr, hnr⟩)
      have HFL := hid hfl
      have KB16 : Kept fb w6 wx16 := (KB15).trans hk16
      have Fpb16 := hid ((hk16.block _ Lpb15 ne13).trans Fpb15.out)
      have Lpb16 := Nat.lt_of_lt_of_le Lpb15 hk16.size
      have FS16 := hid hbs
      clear hk16 hbs hcr hnr hfl
      clear hHeld
      go_wp2_with fail
      refine hK.out _ _ (HKP.out _ KB16) (fun hHeld => ?_)
      clear hK K
      try simp only [Act.put, List.setIfInBounds_toArray, List.set_cons_zero, List.set_cons_succ]
      refine wpAnyH_take (i := 10) (oi := { dst := some 55, op := Op.move (Operand.tmp 65), type := 45, pos := "manifest.go:142", after := #[{ on := 9, ground := Ground.data }], guard := none }) (v := ?_) rfl (by kernel_rfl) (by kernel_rfl) (by kernel_rfl) (fun _ _ _ h => h) (Or.inl ⟨by rfl, ?hy⟩) hHeld ?_
      case hy => (intro w hSw; (try dsimp only at hSw); obtain ⟨_, _, _, _⟩ := hSw; go_simp; all_goals (with_reducible rfl))
      try simp only [Act.put, List.setIfInBounds_toArray, List.set_cons_zero, List.set_cons_succ]
      refine wpAnyH_take (i := 11) (oi := { dst := some 66, op := Op.extract (Operand.tmp 55) 0, type := 44, pos := "manifest.go:142", after := #[{ on := 10, ground := Ground.data }], guard := none }) (v := ?_) rfl (by kernel_rfl) (by kernel_rfl) (by kernel_rfl) (fun _ _ _ h => h) (Or.inl ⟨by rfl, ?hy⟩) hHeld ?_
      case hy => (intro w hSw; (try dsimp only at hSw); obtain ⟨_, _, _, _⟩ := hSw; go_simp; all_goals (with_reducible rfl))
      try simp only [Act.put, List.setIfInBounds_toArray, List.set_cons_zero, List.set_cons_succ]
      refine wpAnyH_take (i := 12) (oi := { dst := some 67, op := Op.extract (Operand.tmp 55) 1, type := 35, pos := "manifest.go:142", after := #[{ on := 10, ground := Ground.data }, { on := 14, ground := Ground.gcOnly Departure.lateStores }], guard := none }) (v := ?_) rfl (by kernel_rfl) (by kernel_rfl) (by kernel_rfl) (fun _ _ _ h => h) (Or.inl ⟨by rfl, ?hy⟩) hHeld ?_
      case hy => (intro w hSw; (try dsimp only at hSw); obtain ⟨_, _, _, _⟩ := hSw; go_simp; all_goals (with_reducible rfl))
      try simp only [Act.put, List.setIfInBounds_toArray, List.set_cons_zero, List.set_cons_succ]
      refine wpAnyH_ready (rs := [14]) (by kernel_rfl) (by simp) ?_
      refine AllReadyH.cons (o := { dst := none, op := Op.store 44 (Operand.tmp 6) (Operand.tmp 66), type := 0, pos := "manifest.go:142", after := #[{ on := 13, ground := Ground.data }, { on := 11, ground := Ground.data }, { on := 9, ground := Ground.chain }, { on := 0, ground := Ground.phase }, { on := 1, ground := Ground.phase }, { on := 2, ground := Ground.phase }, { on := 3, ground := Ground.phase }, { on := 4, ground := Ground.phase }, { on := 5, ground := Ground.phase }, { on := 6, ground := Ground.phase }, { on := 7, ground := Ground.phase }, { on := 8, ground := Ground.phase }, { on := 9, ground := Ground.phase }, { on := 10, ground := Ground.phase }, { on := 11, ground := Ground.phase }, { on := 12, ground := Ground.textOnly Departure.lateStores }, { on := 13, ground := Ground.phase }], guard := none }) rfl (fun K hK => ?_) AllReadyH.nil
      refine step_store_row rfl 44 (.tmp 6) (.tmp 66) rfl pb13 #[.int .i64 0, .slice none 0 0] #[.int .i64 IX, .slice ra L.length rc] 44 rfl rfl (Fpb16.out) (by kernel_rfl) rfl (piece_allS _ _ _ _) ?_
      intro wz hz hkz
      have HBZ : Kept fb w6 wz := (KB16).fresh hkz lo13
      have LS := hid (bs_keptP (FS16.out) (Fpb16.out) hkz)
      have LZ := hid hz
      have LB := hid HBZ
      refine hK.out _ _ (HKP.out _ HBZ) (fun hHeld => ?_)
      clear hK K hz hkz HBZ
      try simp only [Act.put]
      refine wpAnyH_take (i := 15) (oi := { dst := some 5, op := Op.assign (Operand.tmp 67), type := 35, pos := "manifest.go:142", after := #[{ on := 12, ground := Ground.data }, { on := 14, ground := Ground.chain }, { on := 0, ground := Ground.phase }, { on := 1, ground := Ground.phase }, { on := 2, ground := Ground.phase }, { on := 3, ground := Ground.phase }, { on := 4, ground := Ground.phase }, { on := 5, ground := Ground.phase }, { on := 6, ground := Ground.phase }, { on := 7, ground := Ground.phase }, { on := 8, ground := Ground.phase }, { on := 9, ground := Ground.phase }, { on := 10, ground := Ground.phase }, { on := 11, ground := Ground.phase }, { on := 12, ground := Ground.phase }, { on := 13, ground := Ground.phase }, { on := 14, ground := Ground.phase }], guard := none }) (v := ?_) rfl (by kernel_rfl) (by kernel_rfl) (by kernel_rfl) (fun _ _ _ h => h) (Or.inl ⟨by rfl, ?hy⟩) hHeld ?_
      case hy => (intro w hSw; (try dsimp only at hSw); obtain ⟨_, _, _, _⟩ := hSw; go_simp; all_goals (with_reducible rfl))
      try simp only [Act.put, List.setIfInBounds_toArray, List.set_cons_zero, List.set_cons_succ]
      refine wpAnyH_done (by kernel_rfl) ?_ _
      go_wp2_with fail
      go_meet
      exact ⟨_, rfl, _, _, _, rfl, rfl, LB, LZ, LS, HCN⟩
    case rest =>
    obtain ⟨w7, hw7, pb, ra, rc, rfl, rfl, HK67, HPB, HBS, HCN⟩ := hcut
    subst hw7
    clear HKP HE HI HL
    have HK7 := hid (HK6.out.trans HK67.out)
    have hHG := HKG.out w7 HK7.out
    have HB7 := hid hHG.1
    have hC7 : CaseAt w7 W.heap.size K N T I (.slice da dl dc) mk mn mt ms mo (.slice ma mm mc) (.slice pa pl pc) (.slice ia il ic) := (HK7.out.block _ hl3 (by omega)).trans HC3.out
    have HC7 := hid hC7
    have hl7 := lt_of_heap hC7
    have hpb7 := lt_of_heap HPB.out
    have HIP := hid (show ∀ u v : Value, (Tryd.prog.info? 44).map (·.size) = some [u, v].length from fun u v => by kernel_rfl)
    have HKP8 := hid (show ∀ wx : World, Below w7.heap.size w7 wx → Below w7.heap.size w7 wx ∧ (loadVar 27 ⟨W.heap.size, 5, none⟩).run Tryd.prog wx = .ok (.agg XM) wx ∧ wx.cell? ⟨pb, 0, none⟩ = some (.int .i64 IX) ∧ wx.cell? ⟨W.heap.size, 3, none⟩ = some (.int .i64 I) ∧ (loadVar 44 ⟨pb, 0, none⟩).run Tryd.prog wx = .ok (.agg #[.int .i64 IX, .slice ra L.length rc]) wx from fun wx b => by
      have h : CaseAt wx W.heap.size K N T I (.slice da dl dc) mk mn mt ms mo (.slice ma mm mc) (.slice pa pl pc) (.slice ia il ic) := (b.block _ hl7).trans HC7.out
      have hq := (b.block _ hpb7).trans HPB.out
      refine ⟨b, ?_, by rw [cell_of_heap hq]; rfl, h.c.2.2.2.1, ?_⟩
      · rw [HXM.out]
        exact run_loadVar_mid (P := Tryd.prog) wx W.heap.size 5 27 (mcells mk mn mt ms mo (.slice ma mm mc)) _ (case_man h) Tryd.underlying27 rfl HIF.out
      · exact run_loadVar_mid (P := Tryd.prog) wx pb 0 44 [.int .i64 IX, .slice ra L.length rc] _ (range_of_heapO hq) Tryd.underlying44 rfl (HIP.out _ _))
    clear hC7 hHG
    go_upto_region 8 with fail
    go_cut [84] (fun v wx => ∃ wy, wy = wx ∧ v = .bool false ∧ Hid (Below w7.heap.size w7 wy))
    case first =>
      by_cases hE0 : E = 0
      · obtain ⟨hix, hcp, hlen⟩ := HRS.out hE0
        have HCP := hid (fun (wx : World) (b : Below w7.heap.size w7 wx) (a' : Option Addr) (c' : Nat) (hd : Dgs wx a' mm c' mD) => (chp_any wx (HV.out.below (HB7.out.trans (b.mono HB7.out.size))) mk mn mt ms mo a' mm c' mD HO.out hd IX ra L.length rc L (HBS.out.below b) HCN.out.1 HCN.out.2 hlen))
        rw [hix] at HCP
        rw [hcp] at HCP
        rw [← hix] at HCP
        have n1 : (IX != I) = false := by rw [hix]; simp
        subst hE0
        clear hcp hix hlen
        refine wp_region_held_drew (S := (fun wx => Below w7.heap.size w7 wx ∧ (loadVar 27 ⟨W.heap.size, 5, none⟩).run Tryd.prog wx = .ok (.agg XM) wx ∧ wx.cell? ⟨pb, 0, none⟩ = some (.int .i64 IX) ∧ wx.cell? ⟨W.heap.size, 3, none⟩ = some (.int .i64 I) ∧ (loadVar 44 ⟨pb, 0, none⟩).run Tryd.prog wx = .ok (.agg #[.int .i64 IX, .slice ra L.length rc]) wx)) (by kernel_rfl) (HKP8.out _ (bel_drewN (Below.refl _ _) 1)) (fun hHeld => ?_)
        refine wpAnyH_take (i := 0) (oi := { dst := some 68, op := Op.move (Operand.tmp 5), type := 35, pos := "manifest.go:143", after := #[], guard := none }) (v := ?_) rfl (by kernel_rfl) (by kernel_rfl) (by kernel_rfl) (fun _ _ _ h => h) (Or.inl ⟨by rfl, ?hy⟩) hHeld ?_
        case hy => (intro w hSw; (try dsimp only at hSw); obtain ⟨_, _, _, _, _⟩ := hSw; go_simp; all_goals (with_reducible rfl))
        try simp only [Act.put, List.setIfInBounds_toArray, List.set_cons_zero, List.set_cons_succ]
        refine wpAnyH_take (i := 1) (oi := { dst := some 69, op := Op.binOp BinOp.eql 35 (Operand.tmp 68) (Operand.const (Value.int IntKind.i64 0)) 35, type := 4, pos := "manifest.go:143", after := #[{ on := 0, ground := Ground.data }], guard := none }) (v := ?_) rfl (by kernel_rfl) (by kernel_rfl) (by kernel_rfl) (fun _ _ _ h => h) (Or.inl ⟨by rfl, ?hy⟩) hHeld ?_
        case hy => (intro w hSw; (try dsimp only at hSw); obtain ⟨_, _, _, _, _⟩ := hSw; go_simp; all_goals (with_reducible rfl))
        try simp only [Act.put, List.setIfInBounds_toArray, List.set_cons_zero, List.set_cons_succ]
        refine wpAnyH_take (i := 2) (oi := { dst := some 70, op := Op.move (Operand.tmp 69), type := 4, pos := "manifest.go:143", after := #[{ on := 1, ground := Ground.data }], guard := none }) (v := ?_) rfl (by kernel_rfl) (by kernel_rfl) (by kernel_rfl) (fun _ _ _ h => h) (Or.inl ⟨by rfl, ?hy⟩) hHeld ?_
        case hy => (intro w hSw; (try dsimp only at hSw); obtain ⟨_, _, _, _, _⟩ := hSw; go_simp; all_goals (with_reducible rfl))
        try simp only [Act.put, List.setIfInBounds_toArray, List.set_cons_zero, List.set_cons_succ]
        refine wpAnyH_take (i := 3) (oi := { dst := some 71, op := Op.fieldAddr 44 (Operand.tmp 6) 0, type := 0, pos := "manifest.go:143", after := #[{ on := 2, ground := Ground.guard }], guard := some (2, true) }) (v := ?_) rfl (by kernel_rfl) (by kernel_rfl) (by kernel_rfl) (fun _ _ _ h => h) (Or.inl ⟨by rfl, ?hy⟩) hHeld ?_
        case hy => (intro w hSw; (try dsimp only at hSw); obtain ⟨_, _, _, _, _⟩ := hSw; go_simp; all_goals (with_reducible rfl))
        try simp only [Act.put, List.setIfInBounds_toArray, List.set_cons_zero, List.set_cons_succ]
        refine wpAnyH_take (i := 4) (oi := { dst := some 72, op := Op.load 3 (Operand.tmp 71), type := 3, pos := "manifest.go:143", after := #[{ on := 3, ground := Ground.data }, { on := 2, ground := Ground.guard }], guard := some (2, true) }) (v := ?_) rfl (by kernel_rfl) (by kernel_rfl) (by kernel_rfl) (fun _ _ _ h => h) (Or.inl ⟨by rfl, ?hy⟩) hHeld ?_
        case hy => (intro w hSw; (try dsimp only at hSw); obtain ⟨_, _, _, _, _⟩ := hSw; go_simp; all_goals (with_reducible rfl))
        try simp only [Act.put, List.setIfInBounds_toArray, List.set_cons_zero, List.set_cons_succ]
        refine wpAnyH_take (i := 5) (oi := { dst := some 73, op := Op.fieldAddr 31 (Operand.tmp 1) 3, type := 0, pos := "manifest.go:143", after := #[{ on := 2, ground := Ground.guard }], guard := some (2, true) }) (v := ?_) rfl (by kernel_rfl) (by kernel_rfl) (by kernel_rfl) (fun _ _ _ h => h) (Or.inl ⟨by rfl, ?hy⟩) hHeld ?_
        case hy => (intro w hSw; (try dsimp only at hSw); obtain ⟨_, _, _, _, _⟩ := hSw; go_simp; all_goals (with_reducible rfl))
        try simp only [Act.put, List.setIfInBounds_toArray, List.set_cons_zero, List.set_cons_succ]
        refine wpAnyH_take (i := 6) (oi := { dst := some 74, op := Op.load 3 (Operand.tmp 73), type := 3, pos := "manifest.go:143", after := #[{ on := 5, ground := Ground.data }, { on := 2, ground := Ground.guard }], guard := some (2, true) }) (v := ?_) rfl (by kernel_rfl) (by kernel_rfl) (by kernel_rfl) (fun _ _ _ h => h) (Or.inl ⟨by rfl, ?hy⟩) hHeld ?_
        case hy => (intro w hSw; (try dsimp only at hSw); obtain ⟨_, _, _, _, _⟩ := hSw; go_simp; all_goals (with_reducible rfl))
        try simp only [Act.put, List.setIfInBounds_toArray, List.set_cons_zero, List.set_cons_succ]
        refine wpAnyH_take (i := 7) (oi := { dst := some 75, op := Op.binOp BinOp.neq 3 (Operand.tmp 72) (Operand.tmp 74) 3, type := 4, pos := "manifest.go:143", after := #[{ on := 4, ground := Ground.data }, { on := 6, ground := Ground.data }, { on := 2, ground := Ground.guard }], guard := some (2, true) }) (v := ?_) rfl (by kernel_rfl) (by kernel_rfl) (by kernel_rfl) (fun _ _ _ h => h) (Or.inl ⟨by rfl, ?hy⟩) hHeld ?_
        case hy => (intro w hSw; (try dsimp only at hSw); obtain ⟨_, _, _, _, _⟩ := hSw; go_simp; all_goals (with_reducible rfl))
        try simp only [Act.put, List.setIfInBounds_toArray, List.set_cons_zero, List.set_cons_succ]
        refine wpAnyH_take (i := 8) (oi := { dst := some 76, op := Op.move (Operand.tmp 75), type := 4, pos := "manifest.go:143", after := #[{ on := 7, ground := Ground.data }, { on := 2, ground := Ground.chain }, { on := 2, ground := Ground.guard }], guard := some (2, true) }) (v := ?_) rfl (by kernel_rfl) (by kernel_rfl) (by kernel_rfl) (fun _ _ _ h => h) (Or.inl ⟨by rfl, ?hy⟩) hHeld ?_
        case hy => (intro w hSw; (try dsimp only at hSw); obtain ⟨_, _, _, _, _⟩ := hSw; go_simp; all_goals (with_reducible rfl))
        try simp only [Act.put, List.setIfInBounds_toArray, List.set_cons_zero, List.set_cons_succ]
        refine wpAnyH_take (i := 9) (oi := { dst := some 77, op := Op.fieldAddr 31 (Operand.tmp 1) 5, type := 0, pos := "manifest.go:143", after := #[{ on := 8, ground := Ground.guard }], guard := some (8, false) }) (v := ?_) rfl (by kernel_rfl) (by kernel_rfl) (by kernel_rfl) (fun _ _ _ h => h) (Or.inl ⟨by rfl, ?hy⟩) hHeld ?_
        case hy => (intro w hSw; (try dsimp only at hSw); obtain ⟨_, _, _, _, _⟩ := hSw; go_simp; all_goals (with_reducible rfl))
        try simp only [Act.put, List.setIfInBounds_toArray, List.set_cons_zero, List.set_cons_succ]
        refine wpAnyH_take (i := 10) (oi := { dst := some 78, op := Op.load 27 (Operand.tmp 77), type := 27, pos := "manifest.go:143", after := #[{ on := 9, ground := Ground.data }, { on := 8, ground := Ground.guard }], guard := some (8, false) }) (v := .agg XM) rfl (by kernel_rfl) (by kernel_rfl) (by kernel_rfl) (fun _ _ _ h => h) (Or.inl ⟨by rfl, ?hy⟩) hHeld ?_
        case hy => (intro w hSw; exact run_load_opA hSw.2.1)
        try simp only [Act.put, List.setIfInBounds_toArray, List.set_cons_zero, List.set_cons_succ]
        refine wpAnyH_take (i := 12) (oi := { dst := some 80, op := Op.load 44 (Operand.tmp 6), type := 44, pos := "manifest.go:143", after := #[{ on := 8, ground := Ground.guard }], guard := some (8, false) }) (v := .agg #[.int .i64 IX, .slice ra L.length rc]) rfl (by kernel_rfl) (by kernel_rfl) (by kernel_rfl) (fun _ _ _ h => h) (Or.inl ⟨by rfl, ?hy⟩) hHeld ?_
        case hy => (intro w hSw; exact run_load_opA hSw.2.2.2.2)
        try simp only [Act.put, List.setIfInBounds_toArray, List.set_cons_zero, List.set_cons_succ]
        refine wpAnyH_ready (rs := [11]) (by kernel_rfl) (by simp) ?_
        refine AllReadyH.cons (o := { dst := some 79, op := Op.call { callee := Callee.value (Operand.func 13), args := #[Operand.tmp 78], argTypes := #[27] }, type := 27, pos := "manifest.go:143", after := #[{ on := 10, ground := Ground.data }, { on := 8, ground := Ground.chain }, { on := 8, ground := Ground.guard }], guard := some (8, false) }) rfl (fun K hK => ?_) AllReadyH.nil
        go_simp
        refine (HOW.out _ (HB7.out.trans (hHeld.1.mono HB7.out.size))).mono ?_
        rintro e wA ⟨aA, cA, rfl, hdA, -, hb⟩
        have hbA := hHeld.1.trans (hb.mono hHeld.1.size)
        have HDA := hid hdA
        clear hdA hb
        have hB := hHeld.1
        clear hHeld
        go_wp2_with fail
        refine hK.out _ _ (HKP8.out _ hbA) (fun hHeld => ?_)
        clear hK K hbA hB
        try simp only [Act.put, List.setIfInBounds_toArray, List.set_cons_zero, List.set_cons_succ]
        refine wpAnyH_ready (rs := [13]) (by kernel_rfl) (by simp) ?_
        refine AllReadyH.cons (o := { dst := some 81, op := Op.call { callee := Callee.value (Operand.func 19), args := #[Operand.tmp 79, Operand.tmp 80], argTypes := #[27, 44] }, type := 35, pos := "manifest.go:143", after := #[{ on := 11, ground := Ground.data }, { on := 12, ground := Ground.data }, { on := 11, ground := Ground.chain }, { on := 8, ground := Ground.guard }], guard := some (8, false) }) rfl (fun K hK => ?_) AllReadyH.nil
        go_simp
        refine (HCP.out _ hHeld.1 aA cA HDA.out).mono ?_
        rintro e wB ⟨rfl, hb⟩
        have hbA := hHeld.1.trans (hb.mono hHeld.1.size)
        clear hb
        have hB := hHeld.1
        clear hHeld
        go_wp2_with fail
        refine hK.out _ _ (HKP8.out _ hbA) (fun hHeld => ?_)
        clear hK K hbA hB
        try simp only [Act.put, List.setIfInBounds_toArray, List.set_cons_zero, List.set_cons_succ]
        refine wpAnyH_take (i := 14) (oi := { dst := some 82, op := Op.binOp BinOp.neq 35 (Operand.tmp 81) (Operand.const (Value.int IntKind.i64 0)) 35, type := 4, pos := "manifest.go:143", after := #[{ on := 13, ground := Ground.data }, { on := 8, ground := Ground.guard }], guard := some (8, false) }) (v := ?_) rfl (by kernel_rfl) (by kernel_rfl) (by kernel_rfl) (fun _ _ _ h => h) (Or.inl ⟨by rfl, ?hy⟩) hHeld ?_
        case hy => (intro w hSw; (try dsimp only at hSw); obtain ⟨_, _, _, _, _⟩ := hSw; go_simp; all_goals (with_reducible rfl))
        try simp only [Act.put, List.setIfInBounds_toArray, List.set_cons_zero, List.set_cons_succ]
        refine wpAnyH_take (i := 15) (oi := { dst := some 83, op := Op.pick (Operand.tmp 76) (Operand.const (Value.bool true)) (Operand.tmp 82), type := 4, pos := "manifest.go:143", after := #[{ on := 8, ground := Ground.data }, { on := 14, ground := Ground.data }, { on := 2, ground := Ground.guard }], guard := some (2, true) }) (v := ?_) rfl (by kernel_rfl) (by kernel_rfl) (by kernel_rfl) (fun _ _ _ h => h) (Or.inl ⟨by rfl, ?hy⟩) hHeld ?_
        case hy => (intro w hSw; (try dsimp only at hSw); obtain ⟨_, _, _, _, _⟩ := hSw; go_simp; all_goals (with_reducible rfl))
        try simp only [Act.put, List.setIfInBounds_toArray, List.set_cons_zero, List.set_cons_succ]
        refine wpAnyH_take (i := 16) (oi := { dst := some 84, op := Op.pick (Operand.tmp 70) (Operand.tmp 83) (Operand.const (Value.bool false)), type := 4, pos := "manifest.go:143", after := #[{ on := 2, ground := Ground.data }, { on := 15, ground := Ground.data }], guard := none }) (v := ?_) rfl (by kernel_rfl) (by kernel_rfl) (by kernel_rfl) (fun _ _ _ h => h) (Or.inl ⟨by rfl, ?hy⟩) hHeld ?_
        case hy => (intro w hSw; (try dsimp only at hSw); obtain ⟨_, _, _, _, _⟩ := hSw; go_simp; all_goals (with_reducible rfl))
        try simp only [Act.put, List.setIfInBounds_toArray, List.set_cons_zero, List.set_cons_succ]
        refine wpAnyH_done (by kernel_rfl) ?_ _
        have LB := hid hHeld.1
        go_wp2_with fail
        go_meet
        exact ⟨_, rfl, rfl, LB⟩
      · have n1 : (E == 0) = false := by simpa using hE0
        have hne : Nonempty (Cls fun w' => Below w7.heap.size w7 w') := ⟨⟨w7, Below.refl _ _⟩⟩
        clear hE0
        refine wp_region_class_lit (G := fun w' => Below w7.heap.size w7 w') (by kernel_rfl) (by kernel_rfl) (bel_drewN (Below.refl _ _) 1) ?_
        repeat (go_big_quiet_step (fail))
        refine wpQuiet_nil ?_
        rintro _ ⟨⟨wp, hwp⟩, rfl⟩
        have LB := hid hwp
        go_wp2_with fail
        go_meet
        exact ⟨_, rfl, rfl, LB⟩
    case rest =>
    obtain ⟨w8, hw8, rfl, HB78⟩ := hcut
    subst hw8
    have HB8 := hid (HB7.out.trans (HB78.out.mono HB7.out.size))
    go_wp2_with fail
    refine (HK.out w8 HB8.out).mono ?_
    rintro e w9 ⟨rfl, hb9⟩
    have HB9 := hid (HB8.out.trans (hb9.mono HB8.out.size))
    go_wp2
    go_ret
    exact ⟨rfl, HB9.out⟩
theorem sound_walk (W : World) (V : Vars W shaRound shaStart) (v0 : Value) (hv0 : CaseWD W v0) :
    Calls Tryd.prog 5 #[v0] W fun e w' => e = .returned (.bool true) ∧ Below W.heap.size W w' := by
  obtain ⟨K, N, T, I, da, dl, dc, ld, mk, mn, mt, ms, mo, ma, mm, mc, mD, pa, pl, pc, ps, D, ia, il, ic, li, C⟩ := hv0
  obtain rfl := C.eq
  exact sound_in W V K N T I da dl dc ld mk mn mt ms mo ma mm mc mD pa pl pc ps D ia il ic C.mo32 C.man C.pieces
end Go.Proofs.YtahnihihfheegaaDoor

namespace Go.Proofs.YtahnihihfheegaaDoor.digestSound
open Go.ChangeShapes Go.WideShapes Go.ChangeAt Go.RowKit Go.WideMaps Go.WideElems
open Go.ChangeMaps (open_string shut_string)
set_option linter.unusedVariables false

set_option maxRecDepth 100000 in
theorem lifted (os : Os) (started : os.Started) (H : Type) (enc : TypeId × Value → H) :
    ReturnsInHanded {} Tryd.checked os 5 .any (fun w args => (Rows.digestSoundSpec.pre enc Tryd.prog Tryd.f5 [] false w args ∧ laidMetH Tryd.prog laidA w) ∧ sizedMet enc Tryd.prog Tryd.f5 (OpenSpec.ofChange Rows.digestSoundSpec) false w args)
      (Rows.digestSoundSpec.post enc Tryd.prog Tryd.f5 false true false false) := by
  refine returnsInHanded_of_change_and (C := Tryd.checked) (X := fun w _ => laidMetH Tryd.prog laidA w) (fun _ _ _ hh h => h.of_heap hh) ownD started (by kernel_rfl) Tryd.func5
    (ChangeSpec.witness_shaped (enc := enc) (C := Tryd.checked) (os := os) (X := fun w _ => laidMetH Tryd.prog laidA w) false (World.doorLaid Tryd.prog 24 os) #[.agg cz] 8 rfl (World.shaped_of_RefB (by kernel_rfl) (by kernel_rfl)) (by kernel_rfl) (by kernel_rfl) (by kernel_rfl) (door_metA os _)) ?_
  intro W base args ds gs before hval0 hW _ _ hL _
  have hval : ∀ (j : Nat) t v, Tryd.f5.params[j]? = some t → args[j]? = some v → Value.okWide Tryd.prog W .any base t v := hval0
  have hW' := hW
  obtain ⟨p, q, hA0, hV, rfl, hfz, hnd⟩ := hW
  have hA : DataW.TrodAll enc Tryd.prog W 0 (fun _ => true) true Tryd.f5.params.toList args.toList ds p := hA0
  rw [Tryd.params5] at hA hval
  obtain ⟨v0, vs0, d0, ds0, p0, q0, hargs, rfl, rfl, h0, r0⟩ := trodAll_cons hA
  obtain ⟨rfl, rfl, rfl⟩ := trodAll_nil r0
  obtain rfl : args = #[v0] := by cases args; simp_all
  obtain ⟨rfl, rfl⟩ := trodVars_none hV
  have k0 := h0
  have lt0 : ∀ x ∈ p0, x.block < W.heap.size := by obtain ⟨m, hm⟩ := k0; exact DataW.trod_lt m _ _ _ hm
  have C0 := open_caseD (hval 0 31 v0 rfl rfl) h0
  clear hA0 hval0
  refine (sound_walk W (vars_of_laid hL) v0 C0).mono fun e W' ⟨he, bel⟩ => ?_
  subst he
  exact ⟨_, rfl, _, _, _, [], _, [], hW', trodAll_mk1 (shut_bool Tryd.underlying4 _), (trodAll_cons_mk (Below.trod Facts.laidOut (by kernel_rfl) (of_decide_eq_true (by kernel_rfl)) k0 bel lt0) trodAll_mk0), rfl, bel.frame _, fun h => by cases h⟩

set_option maxHeartbeats 4000000 in
set_option maxRecDepth 1000000 in
theorem closed : joinedFacts Tryd.pinned.checked.prog 5 Tryd.f5 Rows.digestSoundSpec Rows.digestSoundRow = true := by
  unfold joinedFacts
  refine (Facts.and2 (Facts.and2 (Facts.and2 (Facts.and2 (Facts.and2 (Facts.and2 (Facts.and2 (Facts.and2 (Facts.and2 (Facts.and2 (Facts.and2 (Facts.and2 (Facts.and2 (Facts.and2 (Facts.and2 (Facts.and2 (Facts.and2 (Facts.and2 (Facts.and2 (Facts.and2 (Facts.and2 (Facts.and2 (Facts.and2 (Facts.and2 (Facts.and2 (Facts.and2 (Facts.and2 (Facts.and2 (Facts.and2 (Facts.and2 (Facts.and2 ?_ Facts.laidOut) Facts.mapsR) ?_) ?_) ?_) Facts.stops) ?_) Facts.knobs) ?_) ?_) ?_) ?_) ?_) ?_) ?_) ?_) ?_) ?_) ?_) ?_) ?_) Facts.keys) ?_) Facts.heard) Facts.enter) ?_) ?_) ?_) ?_) ?_) ?_)
  all_goals (as_aux_lemma => kernel_rfl)

theorem over : Rows.digestSoundRow.holds Tryd.pinned (OpenSpec.ofChange Rows.digestSoundSpec) :=
  OpenClaim.holds_of_wide 5 Tryd.f5 rfl rfl rfl rfl rfl rfl rfl ⟨rfl, rfl, rfl, rfl, rfl⟩ rfl rfl rfl rfl rfl (by as_aux_lemma => kernel_rfl) Tryd.func5 closed
    (of_decide_eq_true (by as_aux_lemma => kernel_rfl)) (by unfold Func.isWrapper; first | (rw [if_pos (by decide +kernel)]; kernel_rfl) | (rw [if_neg (by decide +kernel)]; exact ⟨rfl, rfl⟩))
    (fun os started H enc _ => lifted os started H enc)
end Go.Proofs.YtahnihihfheegaaDoor.digestSound
namespace Go.Proofs.YtahnihihfheegaaDoor
open Go
set_option maxHeartbeats 4000000 in
set_option maxRecDepth 1000000 in
theorem digestSound_holds : Rows.DigestSoundCardSaid :=
  Claim7.holds_tied_plain_at .later [] [.data, .data] true (true, "48bf63a4ac8f49fd2bf19fc74a41542f9b69bd07c9d5103313011b9f93b68b52") false
    digestSound.over (fun _ h => by cases h) (by as_aux_lemma => kernel_rfl) (fun _ h => by cases h) digestSound_row_tie rfl ⟨rfl, rfl⟩ (by as_aux_lemma => kernel_rfl) rfl
    (fun f fn hf hfn => by
      obtain rfl : f = 5 := Option.some.inj ((show Tryd.prog.funcNamed "stolon/stolonlaw02.DigestSound" = some 5 by as_aux_lemma => kernel_rfl).symm.trans hf) |>.symm
      obtain rfl : fn = Tryd.f5 := (Option.some.inj (Tryd.func5.symm.trans hfn)).symm
      exact ⟨by as_aux_lemma => kernel_rfl, fun j t ht => by
        rw [Tryd.params5] at ht
        rcases j with _ | j
        · obtain rfl : t = 31 := by simpa using ht.symm
          exact (show Tryd.prog.wantsStandIn 31 = false by as_aux_lemma => kernel_rfl)
        · simp at ht⟩)
    (by as_aux_lemma => kernel_rfl)
#print axioms digestSound_holds
end Go.Proofs.YtahnihihfheegaaDoor
