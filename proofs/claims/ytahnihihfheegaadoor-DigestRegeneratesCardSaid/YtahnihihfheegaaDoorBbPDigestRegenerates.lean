/-
  DigestRegenerates: for every input the call returns true, and each argument reads behind it as before; the listed variables hold what the program's text lays (tied). No other condition.
-/
import Derived.Test.YtahnihihfheegaaDoorBb15
import Derived.Test.YtahnihihfheegaaDoorBb16
import Derived.Test.YtahnihihfheegaaDoorBb13
import Derived.Deep.DeepCutAuto
import Derived.Test.YtahnihihfheegaaDoorBb17
import Derived.Test.YtahnihihfheegaaDoorBb9
import Derived.Test.YtahnihihfheegaaDoorCards
import Derived.Test.YtahnihihfheegaaDoorTie
import Derived.ShutString
import Derived.ChangeOld
import Derived.Below
namespace Go.Proofs.YtahnihihfheegaaDoor
open Go Go.RowKit
set_option linter.unusedVariables false

/-- a load, as an operation -/
theorem run_load_opA {P : Program} {ev : Operand → Value} {o : Oper} {ty : TypeId} {x : Operand} {w : World} {v : Value} {ad : Addr} (h : (loadVar ty ad).run P w = .ok v w) (ho : o.op = .load ty x := by rfl) (hx : ev x = .pointer (some ad) := by rfl) :
    (execOp ev o).run P w = .ok (.value v) w := by
  unfold execOp
  simp only [ho, hx, Instr.loadAt, Instr.sureAddr, Sem.run_bind, Sem.run_pure, Result.andThen_ok, h]
/-- the manifest within a case -/
theorem case_man {w : World} {b : Nat} {K N T I : Int} {dv : Value} {mk mn mt ms : Int} {mo : List Nat} {mv pv iv : Value} (h : CaseAt w b K N T I dv mk mn mt ms mo mv pv iv) : w.rangeAt b 5 (mcells mk mn mt ms mo mv) := fun j u hj => by
  have h1 := range_of_heapI h (5 + j) u (by
    unfold cc
    rw [List.append_assoc, List.getElem?_append_right (by simp), List.getElem?_append_left (by simp; exact (List.getElem?_eq_some_iff.1 hj).1)]
    simpa using hj)
  rwa [Nat.zero_add] at h1
theorem case_k {w : World} {b : Nat} {K N T I : Int} {dv : Value} {mk mn mt ms : Int} {mo : List Nat} {mv pv iv : Value} (h : CaseAt w b K N T I dv mk mn mt ms mo mv pv iv) : w.cell? ⟨b, 5, none⟩ = some (.int .i64 mk) := by
  have h1 := case_man h 0 (.int .i64 mk) rfl
  simpa using h1

/-- where large says no -/
def LrgF (r : Bool) (pl mm : Nat) (ps : List (Int × Sl)) (mk : Int) : Prop := r = false → pl ≤ 60 ∧ mm ≤ 400 ∧ ∀ j, j < ps.length → plenL ps j ≤ 9000

set_option maxRecDepth 100000 in
set_option maxHeartbeats 8000000 in
theorem assembles_in (W : World) (V : Vars W shaRound shaStart) (R : Rnds W) (K N T I : Int) (da : Option Addr) (dl dc : Nat) (ld : List Nat) (mk mn mt ms : Int) (mo : List Nat) (ma : Option Addr) (mm mc : Nat) (mD : List (List Nat)) (pa : Option Addr) (pl pc : Nat) (ps : List (Int × Sl)) (D : Nat → List Nat) (ia : Option Addr) (il ic : Nat) (ho : mo.length = 32) (hD : Dgs W ma mm mc mD) (hp : Pcn W pa pl pc ps D) :
    Calls Tryd.prog 3 #[.agg (cc K N T I (.slice da dl dc) mk mn mt ms mo (.slice ma mm mc) (.slice pa pl pc) (.slice ia il ic)).toArray] W fun e w' => e = .returned (.bool true) ∧ Below W.heap.size W w' := by
  have HK := hid (fun (wx : World) (b : Below W.heap.size W wx) => known_dg wx (V.below b))
  obtain ⟨w1, hw1⟩ : ∃ y, y = W.alloc (.cells (cc K N T I (.slice da dl dc) mk mn mt ms mo (.slice ma mm mc) (.slice pa pl pc) (.slice ia il ic)).toArray 31) := ⟨_, rfl⟩
  have HB1 := hid (show Below W.heap.size W w1 from by rw [hw1]; exact (Below.refl _ _).alloc (Nat.le_refl _) _)
  have hC : CaseAt w1 W.heap.size K N T I (.slice da dl dc) mk mn mt ms mo (.slice ma mm mc) (.slice pa pl pc) (.slice ia il ic) := by rw [hw1]; exact heap_new _ _
  have HC := hid hC
  have HLG := hid (large_any K N T I da dl dc mk mn mt ms mo ma mm mc pa pl pc ps ia il ic w1 ho (hp.1.below HB1.out))
  have HIFC := hid (show (Tryd.prog.info? 31).map (·.size) = some (cc K N T I (.slice da dl dc) mk mn mt ms mo (.slice ma mm mc) (.slice pa pl pc) (.slice ia il ic)).length from by rw [cc_length _ _ _ _ _ _ _ _ _ _ _ _ _ ho]; kernel_rfl)
  have HIF := hid (show (Tryd.prog.info? 27).map (·.size) = some (mcells mk mn mt ms mo (.slice ma mm mc)).length from by rw [mcells_length _ _ _ _ _ _ ho]; kernel_rfl)
  have HRC := hid (show w1.rangeAt W.heap.size 0 (cc K N T I (.slice da dl dc) mk mn mt ms mo (.slice ma mm mc) (.slice pa pl pc) (.slice ia il ic)) from range_of_heapI hC)
  have HVL := hid (fun wx => valid_any mk mn mt ms mo ma mm mc ho wx)
  have hlow : 3 ≤ W.heap.size := V.lt
  have HV := hid V
  have HR := hid R
  have HDD := hid hD
  have HP := hid hp
  have HO := hid ho
  have HN := hid (show pl = ps.length from by obtain ⟨_, _, h, _⟩ := hp.1; simp only [Value.slice.injEq] at h; exact h.2.1)
  obtain ⟨CL, hCL⟩ : ∃ CL, CL = cc K N T I (.slice da dl dc) mk mn mt ms mo (.slice ma mm mc) (.slice pa pl pc) (.slice ia il ic) := ⟨_, rfl⟩
  rw [← hCL] at HLG HIFC HRC hw1 ⊢
  clear hC hCL V R hD hp ho
  go_enter Tryd.func3, Tryd.ntmps3
  go_upto_region 1 with fail
  change Code.wp _ _ _ _ (W.alloc (.cells CL.toArray 31))
  rw [← hw1]
  clear hw1
  go_cut [19] (fun v wx => ∃ wy, wy = wx ∧ ∃ r, v = .bool r ∧ Hid (Below w1.heap.size w1 wy) ∧ Hid (LrgF r pl mm ps mk))
  case first =>
    go_wp2_with (refine wpList_load_mid (by rfl) 31 (.tmp 1) (by rfl) W.heap.size 0 (by rfl) CL _ HRC.out Tryd.underlying31 rfl HIFC.out ?_)
    refine HLG.out.mono ?_
    rintro e w2 ⟨hb2, r, rfl, hr⟩
    have HB12 := hid hb2
    have hC2 : CaseAt w2 W.heap.size K N T I (.slice da dl dc) mk mn mt ms mo (.slice ma mm mc) (.slice pa pl pc) (.slice ia il ic) := (hb2.block _ (lt_of_heap HC.out)).trans HC.out
    have e5 := case_k hC2
    have HRM := hid (case_man hC2)
    clear hb2 hC2 HLG HIFC HRC
    cases r with
    | true =>
      have HX := hid (show LrgF true pl mm ps mk from fun h => by cases h)
      clear hr
      go_wp2_with fail
      go_meet
      exact ⟨_, rfl, true, rfl, HB12, HX⟩
    | false =>
      have HX0 := hid (show LrgF false pl mm ps mk from fun _ => ⟨(hr rfl).1, (hr rfl).2.1, (hr rfl).2.2.2.2⟩)
      have HXT := hid (show LrgF true pl mm ps mk from fun h => by cases h)
      clear hr
      by_cases g60 : 60 < mk
      · cases hvv : manB mk mn mt ms mm with
        | true =>
          rw [hvv] at HVL
          clear hvv
          go_wp2_with (refine wpList_load_wantA (by rfl) 27 (.tmp 15) (by rfl) W.heap.size 5 (by rfl) (mcells mk mn mt ms mo (.slice ma mm mc)) _ HRM.out Tryd.underlying27 rfl HIF.out ?_)
          refine (HVL.out w2).mono ?_
          rintro e w3 ⟨rfl, hb3⟩
          have HB13 := hid (HB12.out.trans (hb3.mono HB12.out.size))
          clear hb3
          go_wp2_with fail
          go_meet
          exact ⟨_, rfl, true, rfl, HB13, HXT⟩
        | false =>
          rw [hvv] at HVL
          clear hvv
          go_wp2_with (refine wpList_load_wantA (by rfl) 27 (.tmp 15) (by rfl) W.heap.size 5 (by rfl) (mcells mk mn mt ms mo (.slice ma mm mc)) _ HRM.out Tryd.underlying27 rfl HIF.out ?_)
          refine (HVL.out w2).mono ?_
          rintro e w3 ⟨rfl, hb3⟩
          have HB13 := hid (HB12.out.trans (hb3.mono HB12.out.size))
          clear hb3
          go_wp2_with fail
          go_meet
          exact ⟨_, rfl, false, rfl, HB13, HX0⟩
      · go_wp2_with fail
        go_meet
        exact ⟨_, rfl, false, rfl, HB12, HX0⟩
  case rest =>
  obtain ⟨w2, hw2, r, rfl, HB12, hrr⟩ := hcut
  subst hw2
  have HB2 := hid (HB1.out.trans (HB12.out.mono HB1.out.size))
  have hC2 : CaseAt w2 W.heap.size K N T I (.slice da dl dc) mk mn mt ms mo (.slice ma mm mc) (.slice pa pl pc) (.slice ia il ic) := (HB12.out.block _ (lt_of_heap HC.out)).trans HC.out
  have HC2 := hid hC2
  clear hC2 HLG HIFC HRC
  cases r with
  | true => as_aux_lemma =>
    clear hrr
    go_wp2_with fail
    refine (HK.out w2 HB2.out).mono ?_
    rintro e w3 ⟨rfl, hb3⟩
    have HB3 := hid (HB2.out.trans (hb3.mono HB2.out.size))
    go_wp2
    go_ret
    exact ⟨rfl, HB3.out⟩
  | false => as_aux_lemma =>
    obtain ⟨hpl, hmm, hsz9⟩ := hrr.out rfl
    clear hrr
    have hl2 := lt_of_heap HC2.out
    obtain ⟨XM, hXM⟩ : ∃ XM, XM = (mcells mk mn mt ms mo (.slice ma mm mc)).toArray := ⟨_, rfl⟩
    have HKP := hid (show ∀ wx : World, Below w2.heap.size w2 wx → Below w2.heap.size w2 wx ∧ (loadVar 27 ⟨W.heap.size, 5, none⟩).run Tryd.prog wx = .ok (.agg XM) wx ∧ wx.cell? ⟨W.heap.size, 42, none⟩ = some (.slice pa pl pc) from fun wx b => by
      have h : CaseAt wx W.heap.size K N T I (.slice da dl dc) mk mn mt ms mo (.slice ma mm mc) (.slice pa pl pc) (.slice ia il ic) := (b.block _ hl2).trans HC2.out
      refine ⟨b, ?_, (h.hi HO.out).2.1⟩
      rw [hXM]
      exact run_loadVar_mid (P := Tryd.prog) wx W.heap.size 5 27 (mcells mk mn mt ms mo (.slice ma mm mc)) _ (case_man h) Tryd.underlying27 rfl HIF.out)
    have HOW := hid (fun (wx : World) (b : Below w2.heap.size w2 wx) => (own_man mk mn mt ms mo ma mm mc mD wx HO.out (HDD.out.below (HB2.out.trans (b.mono HB2.out.size))) (by omega)).mono (fun e w' (h : ∃ a' c', e = .returned (.agg (mcells mk mn mt ms mo (.slice a' mm c')).toArray) ∧ Dgs w' a' mm c' mD ∧ Below wx.heap.size wx w') => h))
    rw [← hXM] at HOW
    have hpd : PDat W ps D := fun i hi => ⟨(HP.out.2.2.2 i hi).2.1, (HP.out.2.2.2 i hi).2.2.1, (HP.out.2.2.2 i hi).2.2.2, by have := hsz9 i hi; rw [← plenL_at ps i hi] at this; omega⟩
    have HPD := hid hpd
    have HMN := hid (fun (wx : World) (b : Below w2.heap.size w2 wx) => mineD_any pa pl pc ps D wx (by omega) (HP.out.1.below (HB2.out.trans (b.mono HB2.out.size))) (fun i hi => ⟨(HPD.out i hi).1.below (HB2.out.trans (b.mono HB2.out.size)), (HPD.out i hi).2.2.1, (HPD.out i hi).2.2.2⟩))
    have HLT := hid (show ∀ i, i < pl → ∀ x ∈ D i, x < 256 from fun i hi => by
      obtain ⟨_, _, _, h, _⟩ := (HPD.out i (by have := HN.out; omega)).1
      exact h)
    have HSZ := hid (show ∀ i, i < pl → plen' ps i ≤ 800000000 from fun i hi => by
      have hi2 : i < ps.length := by have := HN.out; omega
      have := (HPD.out i hi2).2.2.2
      rwa [plen_at] at this)
    have hpc : pl ≤ pc := HP.out.2.1
    have HRA := hid (fun (wx : World) (b : Below W.heap.size W wx) => rasm_any wx (HR.out.below b) mk mn mt ms mo ma mm mc mD HO.out (HDD.out.below b) pa pl pc ps D (HP.out.1.below b) (HPD.out.below b) (by omega) hpc)
    obtain ⟨E, hE⟩ : ∃ E, E = asmE mk mn mt ms mm mo mD ps D pl := ⟨_, rfl⟩
    obtain ⟨L, hL⟩ : ∃ L, L = asmL mk mn mt ms mm mo mD ps D pl := ⟨_, rfl⟩
    rw [← hE, ← hL] at HRA
    have HE := hid hE
    have HL := hid hL
    clear hE hL hsz9 hpd
    have HXM := hid hXM
    clear hXM
    go_upto_region 3 with fail
    refine wp_region_held_drew (S := fun wx => Below w2.heap.size w2 wx ∧ (loadVar 27 ⟨W.heap.size, 5, none⟩).run Tryd.prog wx = .ok (.agg XM) wx ∧ wx.cell? ⟨W.heap.size, 42, none⟩ = some (.slice pa pl pc)) (by kernel_rfl) (HKP.out _ (bel_drewN (Below.refl _ _) 1)) (fun hHeld => ?_)
    refine wpAnyH_take (i := 1) (oi := { dst := some 23, op := Op.fieldAddr 31 (Operand.tmp 1) 5, type := 0, pos := "manifest.go:117", after := #[], guard := none }) (v := ?_) rfl (by kernel_rfl) (by kernel_rfl) (by kernel_rfl) (fun _ _ _ h => h) (Or.inl ⟨by rfl, ?hy⟩) hHeld ?_
    case hy => (intro w hSw; (try dsimp only at hSw); obtain ⟨_, _, _⟩ := hSw; go_simp; all_goals (with_reducible rfl))
    try simp only [Act.put, List.setIfInBounds_toArray, List.set_cons_zero, List.set_cons_succ]
    refine wpAnyH_take (i := 2) (oi := { dst := some 24, op := Op.load 27 (Operand.tmp 23), type := 27, pos := "manifest.go:117", after := #[{ on := 1, ground := Ground.data }], guard := none }) (v := .agg XM) rfl (by kernel_rfl) (by kernel_rfl) (by kernel_rfl) (fun _ _ _ h => h) (Or.inl ⟨by rfl, ?hy⟩) hHeld ?_
    case hy => (intro w hSw; exact run_load_opA hSw.2.1)
    try simp only [Act.put, List.setIfInBounds_toArray, List.set_cons_zero, List.set_cons_succ]
    refine wpAnyH_take (i := 4) (oi := { dst := some 26, op := Op.fieldAddr 31 (Operand.tmp 1) 6, type := 0, pos := "manifest.go:117", after := #[], guard := none }) (v := ?_) rfl (by kernel_rfl) (by kernel_rfl) (by kernel_rfl) (fun _ _ _ h => h) (Or.inl ⟨by rfl, ?hy⟩) hHeld ?_
    case hy => (intro w hSw; (try dsimp only at hSw); obtain ⟨_, _, _⟩ := hSw; go_simp; all_goals (with_reducible rfl))
    try simp only [Act.put, List.setIfInBounds_toArray, List.set_cons_zero, List.set_cons_succ]
    refine wpAnyH_take (i := 5) (oi := { dst := some 27, op := Op.load 28 (Operand.tmp 26), type := 28, pos := "manifest.go:117", after := #[{ on := 4, ground := Ground.data }], guard := none }) (v := ?_) rfl (by kernel_rfl) (by kernel_rfl) (by kernel_rfl) (fun _ _ _ h => h) (Or.inl ⟨by rfl, ?hy⟩) hHeld ?_
    case hy => (intro w hSw; (try dsimp only at hSw); obtain ⟨_, _, _⟩ := hSw; go_simp; all_goals (with_reducible rfl))
    try simp only [Act.put, List.setIfInBounds_toArray, List.set_cons_zero, List.set_cons_succ]
    refine wpAnyH_ready (rs := [0]) (by kernel_rfl) (by simp) ?_
    refine AllReadyH.cons (o := { dst := some 22, op := Op.call { callee := Callee.value (Operand.func 12), args := #[], argTypes := #[] }, type := 38, pos := "manifest.go:117", after := #[], guard := none }) rfl (fun K hK => ?_) AllReadyH.nil
    go_simp
    refine (newField_any (w2.drewN 1)).mono ?_
    rintro e wA ⟨rfl, hF, hb⟩
    have hbA := hHeld.1.trans (hb.mono hHeld.1.size)
    obtain ⟨fb, hfb⟩ : ∃ y, y = (w2.drewN 1).heap.size := ⟨_, rfl⟩
    rw [← hfb] at hF
    have flo : w2.heap.size ≤ fb := by rw [hfb]; exact hHeld.1.size
    have HF := hid hF
    have flt := lt_of_heap hF
    rw [← hfb]
    clear hfb hF hb
    have hB := hHeld.1
    clear hHeld
    go_wp2_with fail
    refine hK.out _ _ (HKP.out _ hbA) (fun hHeld => ?_)
    clear hK K hbA hB
    try simp only [Act.put, List.setIfInBounds_toArray, List.set_cons_zero, List.set_cons_succ]
    refine wpAnyH_ready (rs := [3]) (by kernel_rfl) (by simp) ?_
    refine AllReadyH.cons (o := { dst := some 25, op := Op.call { callee := Callee.value (Operand.func 13), args := #[Operand.tmp 24], argTypes := #[27] }, type := 27, pos := "manifest.go:117", after := #[{ on := 2, ground := Ground.data }, { on := 0, ground := Ground.chain }], guard := none }) rfl (fun K hK => ?_) AllReadyH.nil
    go_simp
    refine (HOW.out _ hHeld.1).mono ?_
    rintro e wB ⟨aB, cB, rfl, hdB, hb⟩
    have hbA := hHeld.1.trans (hb.mono hHeld.1.size)
    have HDB := hid hdB
    have HFB := hid ((hb.block _ flt).trans HF.out)
    have fltB := Nat.lt_of_lt_of_le flt hb.size
    clear hdB hb
    have hB := hHeld.1
    clear hHeld
    go_wp2_with fail
    refine hK.out _ _ (HKP.out _ hbA) (fun hHeld => ?_)
    clear hK K hbA hB
    try simp only [Act.put, List.setIfInBounds_toArray, List.set_cons_zero, List.set_cons_succ]
    refine wpAnyH_ready (rs := [6]) (by kernel_rfl) (by simp) ?_
    refine AllReadyH.cons (o := { dst := some 28, op := Op.call { callee := Callee.value (Operand.func 14), args := #[Operand.tmp 27], argTypes := #[28] }, type := 28, pos := "manifest.go:117", after := #[{ on := 5, ground := Ground.data }, { on := 3, ground := Ground.chain }], guard := none }) rfl (fun K hK => ?_) AllReadyH.nil
    go_simp
    refine (HMN.out _ hHeld.1).mono ?_
    rintro e wC ⟨v, qs, rfl, hmi⟩
    have hb := hmi.below
    have hbA := hHeld.1.trans (hb.mono hHeld.1.size)
    obtain ⟨aC, cC, rfl, hcC, hhC⟩ := hmi.held (fb := fb) HLT.out fltB
    have hfn := mine_fns hmi HN.out mk mn mt ms mm mo mD
    have hpdC := hmi.pdat HLT.out HSZ.out
    have HHC := hid hhC
    have HFN := hid hfn
    have HPC := hid hpdC
    have HDC := hid (HDB.out.below hb)
    have HFC := hid ((hb.block _ fltB).trans HFB.out)
    clear hmi hb hhC hfn hpdC
    have hB := hHeld.1
    clear hHeld
    go_wp2_with fail
    refine hK.out _ _ (HKP.out _ hbA) (fun hHeld => ?_)
    clear hK K hbA hB
    try simp only [Act.put, List.setIfInBounds_toArray, List.set_cons_zero, List.set_cons_succ]
    refine wpAnyH_ready (rs := [7]) (by kernel_rfl) (by simp) ?_
    refine AllReadyH.cons (o := { dst := some 29, op := Op.call { callee := Callee.value (Operand.func 11), args := #[Operand.tmp 22, Operand.tmp 25, Operand.tmp 28], argTypes := #[38, 27, 28] }, type := 36, pos := "manifest.go:117", after := #[{ on := 0, ground := Ground.data }, { on := 3, ground := Ground.data }, { on := 6, ground := Ground.data }, { on := 6, ground := Ground.chain }], guard := none }) rfl (fun K hK => ?_) AllReadyH.nil
    go_simp
    refine (asm_any fb _ (HV.out.below (HB2.out.trans (hHeld.1.mono HB2.out.size))) mk mn mt ms mo aB mm cB mD HO.out HDC.out aC pl cC qs D HPC.out (by omega) hcC (.inl HFC.out) (Nat.le_trans hlow (Nat.le_trans HB2.out.size flo)) HHC.out).mono ?_
    rw [HFN.out.1, HFN.out.2, ← HE.out, ← HL.out]
    rintro e wD ⟨⟨ra, rc, rfl, hbs, hcr, hnr⟩, hfl, hk⟩
    have hbA := hHeld.1.trans (hk.below hHeld.1.size flo)
    have HBS := hid hbs
    clear hbs hcr hnr hfl hk
    have hB := hHeld.1
    clear hHeld
    go_wp2_with fail
    refine hK.out _ _ (HKP.out _ hbA) (fun hHeld => ?_)
    clear hK K hbA hB
    try simp only [Act.put, List.setIfInBounds_toArray, List.set_cons_zero, List.set_cons_succ]
    refine wpAnyH_take (i := 8) (oi := { dst := some 21, op := Op.move (Operand.tmp 29), type := 36, pos := "manifest.go:117", after := #[{ on := 7, ground := Ground.data }], guard := none }) (v := ?_) rfl (by kernel_rfl) (by kernel_rfl) (by kernel_rfl) (fun _ _ _ h => h) (Or.inl ⟨by rfl, ?hy⟩) hHeld ?_
    case hy => (intro w hSw; (try dsimp only at hSw); obtain ⟨_, _, _⟩ := hSw; go_simp; all_goals (with_reducible rfl))
    try simp only [Act.put, List.setIfInBounds_toArray, List.set_cons_zero, List.set_cons_succ]
    refine wpAnyH_take (i := 9) (oi := { dst := some 30, op := Op.extract (Operand.tmp 21) 0, type := 22, pos := "manifest.go:117", after := #[{ on := 8, ground := Ground.data }], guard := none }) (v := ?_) rfl (by kernel_rfl) (by kernel_rfl) (by kernel_rfl) (fun _ _ _ h => h) (Or.inl ⟨by rfl, ?hy⟩) hHeld ?_
    case hy => (intro w hSw; (try dsimp only at hSw); obtain ⟨_, _, _⟩ := hSw; go_simp; all_goals (with_reducible rfl))
    try simp only [Act.put, List.setIfInBounds_toArray, List.set_cons_zero, List.set_cons_succ]
    refine wpAnyH_take (i := 10) (oi := { dst := some 31, op := Op.extract (Operand.tmp 21) 1, type := 35, pos := "manifest.go:117", after := #[{ on := 8, ground := Ground.data }, { on := 11, ground := Ground.gcOnly Departure.lateStores }], guard := none }) (v := ?_) rfl (by kernel_rfl) (by kernel_rfl) (by kernel_rfl) (fun _ _ _ h => h) (Or.inl ⟨by rfl, ?hy⟩) hHeld ?_
    case hy => (intro w hSw; (try dsimp only at hSw); obtain ⟨_, _, _⟩ := hSw; go_simp; all_goals (with_reducible rfl))
    try simp only [Act.put, List.setIfInBounds_toArray, List.set_cons_zero, List.set_cons_succ]
    refine wpAnyH_take (i := 11) (oi := { dst := some 3, op := Op.assign (Operand.tmp 30), type := 22, pos := "manifest.go:117", after := #[{ on := 9, ground := Ground.data }, { on := 7, ground := Ground.chain }, { on := 0, ground := Ground.phase }, { on := 1, ground := Ground.phase }, { on := 2, ground := Ground.phase }, { on := 3, ground := Ground.phase }, { on := 4, ground := Ground.phase }, { on := 5, ground := Ground.phase }, { on := 6, ground := Ground.phase }, { on := 7, ground := Ground.phase }, { on := 8, ground := Ground.phase }, { on := 9, ground := Ground.phase }, { on := 10, ground := Ground.textOnly Departure.lateStores }], guard := none }) (v := ?_) rfl (by kernel_rfl) (by kernel_rfl) (by kernel_rfl) (fun _ _ _ h => h) (Or.inl ⟨by rfl, ?hy⟩) hHeld ?_
    case hy => (intro w hSw; (try dsimp only at hSw); obtain ⟨_, _, _⟩ := hSw; go_simp; all_goals (with_reducible rfl))
    try simp only [Act.put, List.setIfInBounds_toArray, List.set_cons_zero, List.set_cons_succ]
    refine wpAnyH_take (i := 12) (oi := { dst := some 4, op := Op.assign (Operand.tmp 31), type := 35, pos := "manifest.go:117", after := #[{ on := 10, ground := Ground.data }, { on := 11, ground := Ground.chain }, { on := 0, ground := Ground.phase }, { on := 1, ground := Ground.phase }, { on := 2, ground := Ground.phase }, { on := 3, ground := Ground.phase }, { on := 4, ground := Ground.phase }, { on := 5, ground := Ground.phase }, { on := 6, ground := Ground.phase }, { on := 7, ground := Ground.phase }, { on := 8, ground := Ground.phase }, { on := 9, ground := Ground.phase }, { on := 10, ground := Ground.phase }, { on := 11, ground := Ground.phase }], guard := none }) (v := ?_) rfl (by kernel_rfl) (by kernel_rfl) (by kernel_rfl) (fun _ _ _ h => h) (Or.inl ⟨by rfl, ?hy⟩) hHeld ?_
    case hy => (intro w hSw; (try dsimp only at hSw); obtain ⟨_, _, _⟩ := hSw; go_simp; all_goals (with_reducible rfl))
    try simp only [Act.put, List.setIfInBounds_toArray, List.set_cons_zero, List.set_cons_succ]
    refine wpAnyH_done (by kernel_rfl) ?_ _
    have HB3 := hid (HB2.out.trans (hHeld.1.mono HB2.out.size))
    have hBD := hHeld.1
    obtain ⟨-, -, e42⟩ := hHeld
    have hC3 : CaseAt wD W.heap.size K N T I (.slice da dl dc) mk mn mt ms mo (.slice ma mm mc) (.slice pa pl pc) (.slice ia il ic) := (hBD.block _ hl2).trans HC2.out
    have HRM := hid (case_man hC3)
    clear hC3
    go_wp2_with (refine wpList_load_mid (by rfl) 27 (.tmp 33) (by rfl) W.heap.size 5 (by rfl) (mcells mk mn mt ms mo (.slice ma mm mc)) _ HRM.out Tryd.underlying27 rfl HIF.out ?_)
    refine (HRA.out wD HB3.out).mono ?_
    rintro e w5 ⟨⟨ja, jc, rfl, hbs5⟩, hb5⟩
    have HB5 := hid (HB3.out.trans (hb5.mono HB3.out.size))
    have cv1 := conv_bs (HBS.out.below hb5)
    have cv2 := conv_bs hbs5
    clear hb5 hbs5 e42
    go_wp2_with fail
    refine (HK.out w5 HB5.out).mono ?_
    rintro e w6 ⟨rfl, hb6⟩
    have HB6 := hid (HB5.out.trans (hb6.mono HB5.out.size))
    go_wp2
    go_ret
    exact ⟨rfl, HB6.out⟩
theorem assembles_walk (W : World) (V : Vars W shaRound shaStart) (R : Rnds W) (v0 : Value) (hv0 : CaseWD W v0) :
    Calls Tryd.prog 3 #[v0] W fun e w' => e = .returned (.bool true) ∧ Below W.heap.size W w' := by
  obtain ⟨K, N, T, I, da, dl, dc, ld, mk, mn, mt, ms, mo, ma, mm, mc, mD, pa, pl, pc, ps, D, ia, il, ic, li, C⟩ := hv0
  obtain rfl := C.eq
  exact assembles_in W V R K N T I da dl dc ld mk mn mt ms mo ma mm mc mD pa pl pc ps D ia il ic C.mo32 C.man C.pieces
end Go.Proofs.YtahnihihfheegaaDoor

namespace Go.Proofs.YtahnihihfheegaaDoor
open Go Go.RowKit
set_option linter.unusedVariables false

set_option maxRecDepth 100000 in
set_option maxHeartbeats 8000000 in
theorem regenerates_in (W : World) (V : Vars W shaRound shaStart) (R : Rnds W) (K N T I : Int) (da : Option Addr) (dl dc : Nat) (ld : List Nat) (mk mn mt ms : Int) (mo : List Nat) (ma : Option Addr) (mm mc : Nat) (mD : List (List Nat)) (pa : Option Addr) (pl pc : Nat) (ps : List (Int × Sl)) (D : Nat → List Nat) (ia : Option Addr) (il ic : Nat) (ho : mo.length = 32) (hD : Dgs W ma mm mc mD) (hp : Pcn W pa pl pc ps D) :
    Calls Tryd.prog 4 #[.agg (cc K N T I (.slice da dl dc) mk mn mt ms mo (.slice ma mm mc) (.slice pa pl pc) (.slice ia il ic)).toArray] W fun e w' => e = .returned (.bool true) ∧ Below W.heap.size W w' := by
  have HK := hid (fun (wx : World) (b : Below W.heap.size W wx) => known_dg wx (V.below b))
  obtain ⟨w1, hw1⟩ : ∃ y, y = W.alloc (.cells (cc K N T I (.slice da dl dc) mk mn mt ms mo (.slice ma mm mc) (.slice pa pl pc) (.slice ia il ic)).toArray 31) := ⟨_, rfl⟩
  have HB1 := hid (show Below W.heap.size W w1 from by rw [hw1]; exact (Below.refl _ _).alloc (Nat.le_refl _) _)
  have hC : CaseAt w1 W.heap.size K N T I (.slice da dl dc) mk mn mt ms mo (.slice ma mm mc) (.slice pa pl pc) (.slice ia il ic) := by rw [hw1]; exact heap_new _ _
  have HC := hid hC
  have HLG := hid (large_any K N T I da dl dc mk mn mt ms mo ma mm mc pa pl pc ps ia il ic w1 ho (hp.1.below HB1.out))
  have HIFC := hid (show (Tryd.prog.info? 31).map (·.size) = some (cc K N T I (.slice da dl dc) mk mn mt ms mo (.slice ma mm mc) (.slice pa pl pc) (.slice ia il ic)).length from by rw [cc_length _ _ _ _ _ _ _ _ _ _ _ _ _ ho]; kernel_rfl)
  have HIF := hid (show (Tryd.prog.info? 27).map (·.size) = some (mcells mk mn mt ms mo (.slice ma mm mc)).length from by rw [mcells_length _ _ _ _ _ _ ho]; kernel_rfl)
  have HRC := hid (show w1.rangeAt W.heap.size 0 (cc K N T I (.slice da dl dc) mk mn mt ms mo (.slice ma mm mc) (.slice pa pl pc) (.slice ia il ic)) from range_of_heapI hC)
  have HVL := hid (fun wx => valid_any mk mn mt ms mo ma mm mc ho wx)
  have hlow : 3 ≤ W.heap.size := V.lt
  have HV := hid V
  have HR := hid R
  have HDD := hid hD
  have HP := hid hp
  have HO := hid ho
  have HN := hid (show pl = ps.length from by obtain ⟨_, _, h, _⟩ := hp.1; simp only [Value.slice.injEq] at h; exact h.2.1)
  obtain ⟨CL, hCL⟩ : ∃ CL, CL = cc K N T I (.slice da dl dc) mk mn mt ms mo (.slice ma mm mc) (.slice pa pl pc) (.slice ia il ic) := ⟨_, rfl⟩
  rw [← hCL] at HLG HIFC HRC hw1 ⊢
  clear hC hCL V R hD hp ho
  go_enter Tryd.func4, Tryd.ntmps4
  go_upto_region 1 with fail
  change Code.wp _ _ _ _ (W.alloc (.cells CL.toArray 31))
  rw [← hw1]
  clear hw1
  go_cut [19] (fun v wx => ∃ wy, wy = wx ∧ ∃ r, v = .bool r ∧ Hid (Below w1.heap.size w1 wy) ∧ Hid (LrgF r pl mm ps mk))
  case first =>
    go_wp2_with (refine wpList_load_mid (by rfl) 31 (.tmp 1) (by rfl) W.heap.size 0 (by rfl) CL _ HRC.out Tryd.underlying31 rfl HIFC.out ?_)
    refine HLG.out.mono ?_
    rintro e w2 ⟨hb2, r, rfl, hr⟩
    have HB12 := hid hb2
    have hC2 : CaseAt w2 W.heap.size K N T I (.slice da dl dc) mk mn mt ms mo (.slice ma mm mc) (.slice pa pl pc) (.slice ia il ic) := (hb2.block _ (lt_of_heap HC.out)).trans HC.out
    have e5 := case_k hC2
    have HRM := hid (case_man hC2)
    clear hb2 hC2 HLG HIFC HRC
    cases r with
    | true =>
      have HX := hid (show LrgF true pl mm ps mk from fun h => by cases h)
      clear hr
      go_wp2_with fail
      go_meet
      exact ⟨_, rfl, true, rfl, HB12, HX⟩
    | false =>
      have HX0 := hid (show LrgF false pl mm ps mk from fun _ => ⟨(hr rfl).1, (hr rfl).2.1, (hr rfl).2.2.2.2⟩)
      have HXT := hid (show LrgF true pl mm ps mk from fun h => by cases h)
      clear hr
      by_cases g60 : 60 < mk
      · cases hvv : manB mk mn mt ms mm with
        | true =>
          rw [hvv] at HVL
          clear hvv
          go_wp2_with (refine wpList_load_wantA (by rfl) 27 (.tmp 15) (by rfl) W.heap.size 5 (by rfl) (mcells mk mn mt ms mo (.slice ma mm mc)) _ HRM.out Tryd.underlying27 rfl HIF.out ?_)
          refine (HVL.out w2).mono ?_
          rintro e w3 ⟨rfl, hb3⟩
          have HB13 := hid (HB12.out.trans (hb3.mono HB12.out.size))
          clear hb3
          go_wp2_with fail
          go_meet
          exact ⟨_, rfl, true, rfl, HB13, HXT⟩
        | false =>
          rw [hvv] at HVL
          clear hvv
          go_wp2_with (refine wpList_load_wantA (by rfl) 27 (.tmp 15) (by rfl) W.heap.size 5 (by rfl) (mcells mk mn mt ms mo (.slice ma mm mc)) _ HRM.out Tryd.underlying27 rfl HIF.out ?_)
          refine (HVL.out w2).mono ?_
          rintro e w3 ⟨rfl, hb3⟩
          have HB13 := hid (HB12.out.trans (hb3.mono HB12.out.size))
          clear hb3
          go_wp2_with fail
          go_meet
          exact ⟨_, rfl, false, rfl, HB13, HX0⟩
      · go_wp2_with fail
        go_meet
        exact ⟨_, rfl, false, rfl, HB12, HX0⟩
  case rest =>
  obtain ⟨w2, hw2, r, rfl, HB12, hrr⟩ := hcut
  subst hw2
  have HB2 := hid (HB1.out.trans (HB12.out.mono HB1.out.size))
  have hC2 : CaseAt w2 W.heap.size K N T I (.slice da dl dc) mk mn mt ms mo (.slice ma mm mc) (.slice pa pl pc) (.slice ia il ic) := (HB12.out.block _ (lt_of_heap HC.out)).trans HC.out
  have HC2 := hid hC2
  clear hC2 HLG HIFC HRC
  cases r with
  | true => as_aux_lemma =>
    clear hrr
    go_wp2_with fail
    refine (HK.out w2 HB2.out).mono ?_
    rintro e w3 ⟨rfl, hb3⟩
    have HB3 := hid (HB2.out.trans (hb3.mono HB2.out.size))
    go_wp2
    go_ret
    exact ⟨rfl, HB3.out⟩
  | false => as_aux_lemma =>
    obtain ⟨hpl, hmm, hsz9⟩ := hrr.out rfl
    clear hrr
    have hl2 := lt_of_heap HC2.out
    obtain ⟨XM, hXM⟩ : ∃ XM, XM = (mcells mk mn mt ms mo (.slice ma mm mc)).toArray := ⟨_, rfl⟩
    have HKP := hid (show ∀ wx : World, Below w2.heap.size w2 wx → Below w2.heap.size w2 wx ∧ (loadVar 27 ⟨W.heap.size, 5, none⟩).run Tryd.prog wx = .ok (.agg XM) wx ∧ wx.cell? ⟨W.heap.size, 42, none⟩ = some (.slice pa pl pc) ∧ wx.cell? ⟨W.heap.size, 3, none⟩ = some (.int .i64 I) from fun wx b => by
      have h : CaseAt wx W.heap.size K N T I (.slice da dl dc) mk mn mt ms mo (.slice ma mm mc) (.slice pa pl pc) (.slice ia il ic) := (b.block _ hl2).trans HC2.out
      refine ⟨b, ?_, (h.hi HO.out).2.1, h.c.2.2.2.1⟩
      rw [hXM]
      exact run_loadVar_mid (P := Tryd.prog) wx W.heap.size 5 27 (mcells mk mn mt ms mo (.slice ma mm mc)) _ (case_man h) Tryd.underlying27 rfl HIF.out)
    have HOW := hid (fun (wx : World) (b : Below w2.heap.size w2 wx) => (own_manN mk mn mt ms mo ma mm mc mD wx HO.out (HDD.out.below (HB2.out.trans (b.mono HB2.out.size))) (by omega)).mono (fun e w' (h : ∃ a' c', e = .returned (.agg (mcells mk mn mt ms mo (.slice a' mm c')).toArray) ∧ Dgs w' a' mm c' mD ∧ (∀ ad, a' = some ad → wx.heap.size ≤ ad.block) ∧ Below wx.heap.size wx w') => h))
    rw [← hXM] at HOW
    have hpd : PDat W ps D := fun i hi => ⟨(HP.out.2.2.2 i hi).2.1, (HP.out.2.2.2 i hi).2.2.1, (HP.out.2.2.2 i hi).2.2.2, by have := hsz9 i hi; rw [← plenL_at ps i hi] at this; omega⟩
    have HPD := hid hpd
    have HMN := hid (fun (wx : World) (b : Below w2.heap.size w2 wx) => mineD_any pa pl pc ps D wx (by omega) (HP.out.1.below (HB2.out.trans (b.mono HB2.out.size))) (fun i hi => ⟨(HPD.out i hi).1.below (HB2.out.trans (b.mono HB2.out.size)), (HPD.out i hi).2.2.1, (HPD.out i hi).2.2.2⟩))
    have HLT := hid (show ∀ i, i < pl → ∀ x ∈ D i, x < 256 from fun i hi => by
      obtain ⟨_, _, _, h, _⟩ := (HPD.out i (by have := HN.out; omega)).1
      exact h)
    have HSZ := hid (show ∀ i, i < pl → plen' ps i ≤ 800000000 from fun i hi => by
      have hi2 : i < ps.length := by have := HN.out; omega
      have := (HPD.out i hi2).2.2.2
      rwa [plen_at] at this)
    have hpc : pl ≤ pc := HP.out.2.1
    have HRA := hid (fun (wx : World) (b : Below W.heap.size W wx) => rrg_any wx (HR.out.below b) mk mn mt ms mo ma mm mc mD HO.out (HDD.out.below b) pa pl pc ps D (HP.out.1.below b) (HPD.out.below b) (by omega) hpc I)
    obtain ⟨E, hE⟩ : ∃ E, E = regE mk mn mt ms mm mD ps D pl I := ⟨_, rfl⟩
    obtain ⟨IX, hIX⟩ : ∃ IX, IX = regI mk mn mt ms mm mD ps D pl I := ⟨_, rfl⟩
    obtain ⟨L, hL⟩ : ∃ L, L = regL mk mn mt ms mm mD ps D pl I := ⟨_, rfl⟩
    rw [← hE, ← hIX, ← hL] at HRA
    have HE := hid hE
    have HI := hid hIX
    have HL := hid hL
    clear hE hIX hL hsz9 hpd
    have HXM := hid hXM
    clear hXM
    go_upto_region 3 with fail
    go_cut [3, 4] (fun pv ev wx => ∃ wy, wy = wx ∧ ∃ pb ra rc, pv = .pointer (some ⟨pb, 0, none⟩) ∧ ev = .int .i64 E ∧ Hid (Below w2.heap.size w2 wy) ∧ Hid (wy.heap[pb]? = some (.cells #[.int .i64 IX, .slice ra L.length rc] 44 (0, 0))) ∧ Hid (Bs wy (.slice ra L.length rc) L))
    case first =>
      refine wp_region_held_drew (S := fun wx => Below w2.heap.size w2 wx ∧ (loadVar 27 ⟨W.heap.size, 5, none⟩).run Tryd.prog wx = .ok (.agg XM) wx ∧ wx.cell? ⟨W.heap.size, 42, none⟩ = some (.slice pa pl pc) ∧ wx.cell? ⟨W.heap.size, 3, none⟩ = some (.int .i64 I)) (by kernel_rfl) (HKP.out _ (bel_drewN (Below.refl _ _) 1)) (fun hHeld => ?_)
      refine wpAnyH_take (i := 1) (oi := { dst := some 23, op := Op.fieldAddr 31 (Operand.tmp 1) 5, type := 0, pos := "manifest.go:127", after := #[], guard := none }) (v := ?_) rfl (by kernel_rfl) (by kernel_rfl) (by kernel_rfl) (fun _ _ _ h => h) (Or.inl ⟨by rfl, ?hy⟩) hHeld ?_
      case hy => (intro w hSw; (try dsimp only at hSw); obtain ⟨_, _, _, _⟩ := hSw; go_simp; all_goals (with_reducible rfl))
      try simp only [Act.put, List.setIfInBounds_toArray, List.set_cons_zero, List.set_cons_succ]
      refine wpAnyH_take (i := 2) (oi := { dst := some 24, op := Op.load 27 (Operand.tmp 23), type := 27, pos := "manifest.go:127", after := #[{ on := 1, ground := Ground.data }], guard := none }) (v := .agg XM) rfl (by kernel_rfl) (by kernel_rfl) (by kernel_rfl) (fun _ _ _ h => h) (Or.inl ⟨by rfl, ?hy⟩) hHeld ?_
      case hy => (intro w hSw; exact run_load_opA hSw.2.1)
      try simp only [Act.put, List.setIfInBounds_toArray, List.set_cons_zero, List.set_cons_succ]
      refine wpAnyH_take (i := 4) (oi := { dst := some 26, op := Op.fieldAddr 31 (Operand.tmp 1) 6, type := 0, pos := "manifest.go:127", after := #[], guard := none }) (v := ?_) rfl (by kernel_rfl) (by kernel_rfl) (by kernel_rfl) (fun _ _ _ h => h) (Or.inl ⟨by rfl, ?hy⟩) hHeld ?_
      case hy => (intro w hSw; (try dsimp only at hSw); obtain ⟨_, _, _, _⟩ := hSw; go_simp; all_goals (with_reducible rfl))
      try simp only [Act.put, List.setIfInBounds_toArray, List.set_cons_zero, List.set_cons_succ]
      refine wpAnyH_take (i := 5) (oi := { dst := some 27, op := Op.load 28 (Operand.tmp 26), type := 28, pos := "manifest.go:127", after := #[{ on := 4, ground := Ground.data }], guard := none }) (v := ?_) rfl (by kernel_rfl) (by kernel_rfl) (by kernel_rfl) (fun _ _ _ h => h) (Or.inl ⟨by rfl, ?hy⟩) hHeld ?_
      case hy => (intro w hSw; (try dsimp only at hSw); obtain ⟨_, _, _, _⟩ := hSw; go_simp; all_goals (with_reducible rfl))
      try simp only [Act.put, List.setIfInBounds_toArray, List.set_cons_zero, List.set_cons_succ]
      refine wpAnyH_take (i := 7) (oi := { dst := some 29, op := Op.fieldAddr 31 (Operand.tmp 1) 3, type := 0, pos := "manifest.go:127", after := #[], guard := none }) (v := ?_) rfl (by kernel_rfl) (by kernel_rfl) (by kernel_rfl) (fun _ _ _ h => h) (Or.inl ⟨by rfl, ?hy⟩) hHeld ?_
      case hy => (intro w hSw; (try dsimp only at hSw); obtain ⟨_, _, _, _⟩ := hSw; go_simp; all_goals (with_reducible rfl))
      try simp only [Act.put, List.setIfInBounds_toArray, List.set_cons_zero, List.set_cons_succ]
      refine wpAnyH_take (i := 8) (oi := { dst := some 30, op := Op.load 3 (Operand.tmp 29), type := 3, pos := "manifest.go:127", after := #[{ on := 7, ground := Ground.data }], guard := none }) (v := ?_) rfl (by kernel_rfl) (by kernel_rfl) (by kernel_rfl) (fun _ _ _ h => h) (Or.inl ⟨by rfl, ?hy⟩) hHeld ?_
      case hy => (intro w hSw; (try dsimp only at hSw); obtain ⟨_, _, _, _⟩ := hSw; go_simp; all_goals (with_reducible rfl))
      try simp only [Act.put, List.setIfInBounds_toArray, List.set_cons_zero, List.set_cons_succ]
      refine wpAnyH_ready (rs := [0, 13]) (by kernel_rfl) (by simp) ?_
      refine AllReadyH.cons (o := { dst := some 22, op := Op.call { callee := Callee.value (Operand.func 12), args := #[], argTypes := #[] }, type := 38, pos := "manifest.go:127", after := #[], guard := none }) rfl (fun K hK => ?_) ?_
      · skip
        go_simp
        refine (newField_any (w2.drewN 1)).mono ?_
        rintro e wx1 ⟨rfl, hF1, hb1⟩
        obtain ⟨fb1, hfb1⟩ : ∃ y, y = (w2.drewN 1).heap.size := ⟨_, rfl⟩
        rw [← hfb1] at hF1
        have flo1 : w2.heap.size ≤ fb1 := by rw [hfb1]; exact ((bel_drewN (Below.refl w2.heap.size w2) 1)).size
        have flt1 := lt_of_heap hF1
        have KB1 : Below w2.heap.size w2 wx1 := ((bel_drewN (Below.refl w2.heap.size w2) 1)).trans (hb1.mono ((bel_drewN (Below.refl w2.heap.size w2) 1)).size)
        have FF1 := hid hF1
        rw [← hfb1]
        clear hfb1 hF1 hb1
        clear hHeld
        go_wp2_with fail
        refine hK.out _ _ (HKP.out _ KB1) (fun hHeld => ?_)
        clear hK K
        try simp only [Act.put, List.setIfInBounds_toArray, List.set_cons_zero, List.set_cons_succ]
        refine wpAnyH_ready (rs := [3, 13]) (by kernel_rfl) (by simp) ?_
        refine AllReadyH.cons (o := { dst := some 25, op := Op.call { callee := Callee.value (Operand.func 13), args := #[Operand.tmp 24], argTypes := #[27] }, type := 27, pos := "manifest.go:127", after := #[{ on := 2, ground := Ground.data }, { on := 0, ground := Ground.chain }], guard := none }) rfl (fun K hK => ?_) ?_
        · skip
          go_simp
          refine (HOW.out _ hHeld.1).mono ?_
          rintro e wx2 ⟨aB, cB, rfl, hdB, hloc, hb2⟩
          have KB2 : Below w2.heap.size w2 wx2 := (KB1).trans (hb2.mono (KB1).size)
          have hof : ∀ ad, aB = some ad → ad.block ≠ fb1 := fun ad h => by have h5 := hloc ad h; have h6 := flt1; omega
          have FF2 := hid ((hb2.block _ flt1).trans FF1.out)
          have LF2 := Nat.lt_of_lt_of_le flt1 hb2.size
          have FD2 := hid hdB
          clear hb2 hdB hloc
          clear hHeld
          go_wp2_with fail
          refine hK.out _ _ (HKP.out _ KB2) (fun hHeld => ?_)
          clear hK K
          try simp only [Act.put, List.setIfInBounds_toArray, List.set_cons_zero, List.set_cons_succ]
          refine wpAnyH_ready (rs := [6, 13]) (by kernel_rfl) (by simp) ?_
          refine AllReadyH.cons (o := { dst := some 28, op := Op.call { callee := Callee.value (Operand.func 14), args := #[Operand.tmp 27], argTypes := #[28] }, type := 28, pos := "manifest.go:127", after := #[{ on := 5, ground := Ground.data }, { on := 3, ground := Ground.chain }], guard := none }) rfl (fun K hK => ?_) ?_
          · skip
            go_simp
            refine (HMN.out _ hHeld.1).mono ?_
            rintro e wx3 ⟨v, qs, rfl, hmi⟩
            have hb3 := hmi.below
            have KB3 : Below w2.heap.size w2 wx3 := (KB2).trans (hb3.mono (KB2).size)
            obtain ⟨aC, cC, rfl, hcC, hhC⟩ := hmi.held (fb := fb1) HLT.out LF2
            have HFN := hid (rgn_fns hmi HN.out mk mn mt ms mm mD I)
            have hpdC := hmi.pdat HLT.out HSZ.out
            have FF3 := hid ((hb3.block _ LF2).trans FF2.out)
            have LF3 := Nat.lt_of_lt_of_le LF2 hb3.size
            have FD3 := hid ((FD2.out).below hb3)
            have FH3 := hid hhC
            have FP3 := hid hpdC
            clear hb3 hmi hhC hpdC
            clear hHeld
            go_wp2_with fail
            refine hK.out _ _ (HKP.out _ KB3) (fun hHeld => ?_)
            clear hK K
            try simp only [Act.put, List.setIfInBounds_toArray, List.set_cons_zero, List.set_cons_succ]
            refine wpAnyH_ready (rs := [9, 13]) (by kernel_rfl) (by simp) ?_
            refine AllReadyH.cons (o := { dst := some 31, op := Op.call { callee := Callee.value (Operand.func 16), args := #[Operand.tmp 22, Operand.tmp 25, Operand.tmp 28, Operand.tmp 30], argTypes := #[38, 27, 28, 3] }, type := 45, pos := "manifest.go:127", after := #[{ on := 0, ground := Ground.data }, { on := 3, ground := Ground.data }, { on := 6, ground := Ground.data }, { on := 8, ground := Ground.data }, { on := 6, ground := Ground.chain }], guard := none }) rfl (fun K hK => ?_) ?_
            · skip
              go_simp
              refine (rgn_any fb1 _ (HV.out.below (HB2.out.trans (hHeld.1.mono HB2.out.size))) mk mn mt ms mo aB mm cB mD HO.out (FD3.out) aC pl cC qs D (FP3.out) (by omega) hcC (.inl FF3.out) (Nat.le_trans hlow (Nat.le_trans HB2.out.size flo1)) (FH3.out) hof I).mono ?_
              rw [HFN.out.1, HFN.out.2.1, HFN.out.2.2, ← HE.out, ← HI.out, ← HL.out]
              rintro e wx4 ⟨⟨ra, rc, rfl, hbs, hcr, hnr⟩, hfl, hk4⟩
              have KB4 : Below w2.heap.size w2 wx4 := (KB3).trans (hk4.below (KB3).size flo1)
              have FS4 := hid hbs
              clear hk4 hbs hcr hnr hfl
              clear hHeld
              go_wp2_with fail
              refine hK.out _ _ (HKP.out _ KB4) (fun hHeld => ?_)
              clear hK K
              try simp only [Act.put, List.setIfInBounds_toArray, List.set_cons_zero, List.set_cons_succ]
              refine wpAnyH_take (i := 10) (oi := { dst := some 21, op := Op.move (Operand.tmp 31), type := 45, pos := "manifest.go:127", after := #[{ on := 9, ground := Ground.data }], guard := none }) (v := ?_) rfl (by kernel_rfl) (by kernel_rfl) (by kernel_rfl) (fun _ _ _ h => h) (Or.inl ⟨by rfl, ?hy⟩) hHeld ?_
              case hy => (intro w hSw; (try dsimp only at hSw); obtain ⟨_, _, _, _⟩ := hSw; go_simp; all_goals (with_reducible rfl))
              try simp only [Act.put, List.setIfInBounds_toArray, List.set_cons_zero, List.set_cons_succ]
              refine wpAnyH_take (i := 11) (oi := { dst := some 32, op := Op.extract (Operand.tmp 21) 0, type := 44, pos := "manifest.go:127", after := #[{ on := 10, ground := Ground.data }], guard := none }) (v := ?_) rfl (by kernel_rfl) (by kernel_rfl) (by kernel_rfl) (fun _ _ _ h => h) (Or.inl ⟨by rfl, ?hy⟩) hHeld ?_
              case hy => (intro w hSw; (try dsimp only at hSw); obtain ⟨_, _, _, _⟩ := hSw; go_simp; all_goals (with_reducible rfl))
              try simp only [Act.put, List.setIfInBounds_toArray, List.set_cons_zero, List.set_cons_succ]
              refine wpAnyH_take (i := 12) (oi := { dst := some 33, op := Op.extract (Operand.tmp 21) 1, type := 35, pos := "manifest.go:127", after := #[{ on := 10, ground := Ground.data }, { on := 14, ground := Ground.gcOnly Departure.lateStores }], guard := none }) (v := ?_) rfl (by kernel_rfl) (by kernel_rfl) (by kernel_rfl) (fun _ _ _ h => h) (Or.inl ⟨by rfl, ?hy⟩) hHeld ?_
              case hy => (intro w hSw; (try dsimp only at hSw); obtain ⟨_, _, _, _⟩ := hSw; go_simp; all_goals (with_reducible rfl))
              try simp only [Act.put, List.setIfInBounds_toArray, List.set_cons_zero, List.set_cons_succ]
              refine wpAnyH_ready (rs := [13]) (by kernel_rfl) (by simp) ?_
              refine AllReadyH.cons (o := { dst := some 3, op := Op.alloc 44, type := 0, pos := "manifest.go:127", after := #[], guard := none }) rfl (fun K hK => ?_) AllReadyH.nil
              refine step_mkp rfl rfl ?_
              intro pb5 wx5 hg5 hM5 hb5 hl5
              have KB5 : Below w2.heap.size w2 wx5 := (KB4).trans (hb5.mono (KB4).size)
              have lo5 : w2.heap.size ≤ pb5 := by rw [hg5]; exact (KB4).size
              have FS5 := hid ((FS4.out).below hb5)
              have FA5 := hid hM5
              clear hg5 hM5 hb5
              refine hK.out _ _ (HKP.out _ KB5) (fun hHeld => ?_)
              clear hK K
              try simp only [Act.put, List.setIfInBounds_toArray, List.set_cons_zero, List.set_cons_succ]
              refine wpAnyH_ready (rs := [14]) (by kernel_rfl) (by simp) ?_
              refine AllReadyH.cons (o := { dst := none, op := Op.store 44 (Operand.tmp 3) (Operand.tmp 32), type := 0, pos := "manifest.go:127", after := #[{ on := 13, ground := Ground.data }, { on := 11, ground := Ground.data }, { on := 9, ground := Ground.chain }, { on := 0, ground := Ground.phase }, { on := 1, ground := Ground.phase }, { on := 2, ground := Ground.phase }, { on := 3, ground := Ground.phase }, { on := 4, ground := Ground.phase }, { on := 5, ground := Ground.phase }, { on := 6, ground := Ground.phase }, { on := 7, ground := Ground.phase }, { on := 8, ground := Ground.phase }, { on := 9, ground := Ground.phase }, { on := 10, ground := Ground.phase }, { on := 11, ground := Ground.phase }, { on := 12, ground := Ground.textOnly Departure.lateStores }, { on := 13, ground := Ground.phase }], guard := none }) rfl (fun K hK => ?_) AllReadyH.nil
              refine step_store_row rfl 44 (.tmp 3) (.tmp 32) rfl pb5 #[.int .i64 0, .slice none 0 0] #[.int .i64 IX, .slice ra L.length rc] 44 rfl rfl (FA5.out) (by kernel_rfl) rfl (piece_allS _ _ _ _) ?_
              intro wz hz hkz
              have HBZ : Below w2.heap.size w2 wz := (KB5).trans (hkz.below (KB5).size lo5)
              have LS := hid (bs_keptP (FS5.out) (FA5.out) hkz)
              have LZ := hid hz
              have LB := hid HBZ
              refine hK.out _ _ (HKP.out _ HBZ) (fun hHeld => ?_)
              clear hK K hz hkz HBZ
              try simp only [Act.put]
              refine wpAnyH_take (i := 15) (oi := { dst := some 4, op := Op.assign (Operand.tmp 33), type := 35, pos := "manifest.go:127", after := #[{ on := 12, ground := Ground.data }, { on := 14, ground := Ground.chain }, { on := 0, ground := Ground.phase }, { on := 1, ground := Ground.phase }, { on := 2, ground := Ground.phase }, { on := 3, ground := Ground.phase }, { on := 4, ground := Ground.phase }, { on := 5, ground := Ground.phase }, { on := 6, ground := Ground.phase }, { on := 7, ground := Ground.phase }, { on := 8, ground := Ground.phase }, { on := 9, ground := Ground.phase }, { on := 10, ground := Ground.phase }, { on := 11, ground := Ground.phase }, { on := 12, ground := Ground.phase }, { on := 13, ground := Ground.phase }, { on := 14, ground := Ground.phase }], guard := none }) (v := ?_) rfl (by kernel_rfl) (by kernel_rfl) (by kernel_rfl) (fun _ _ _ h => h) (Or.inl ⟨by rfl, ?hy⟩) hHeld ?_
              case hy => (intro w hSw; (try dsimp only at hSw); obtain ⟨_, _, _, _⟩ := hSw; go_simp; all_goals (with_reducible rfl))
              try simp only [Act.put, List.setIfInBounds_toArray, List.set_cons_zero, List.set_cons_succ]
              refine wpAnyH_done (by kernel_rfl) ?_ _
              go_wp2_with fail
              go_meet
              exact ⟨_, rfl, _, _, _, rfl, rfl, LB, LZ, LS⟩
            refine AllReadyH.cons (o := { dst := some 3, op := Op.alloc 44, type := 0, pos := "manifest.go:127", after := #[], guard := none }) rfl (fun K hK => ?_) AllReadyH.nil
            refine step_mkp rfl rfl ?_
            intro pb7 wx7 hg7 hM7 hb7 hl7
            have KB7 : Below w2.heap.size w2 wx7 := (KB3).trans (hb7.mono (KB3).size)
            have lo7 : w2.heap.size ≤ pb7 := by rw [hg7]; exact (KB3).size
            have FF7 := hid ((hb7.block _ LF3).trans FF3.out)
            have LF7 := Nat.lt_of_lt_of_le LF3 hb7.size
            have FD7 := hid ((FD3.out).below hb7)
            have FH7 := hid ((FH3.out).step (Kept.of_below hb7))
            have FP7 := hid ((FP3.out).below hb7)
            have FA7 := hid hM7
            have ne7 : pb7 ≠ fb1 := by have := LF7; omega
            clear hg7 hM7 hb7
            refine hK.out _ _ (HKP.out _ KB7) (fun hHeld => ?_)
            clear hK K
            try simp only [Act.put, List.setIfInBounds_toArray, List.set_cons_zero, List.set_cons_succ]
            refine wpAnyH_ready (rs := [9]) (by kernel_rfl) (by simp) ?_
            refine AllReadyH.cons (o := { dst := some 31, op := Op.call { callee := Callee.value (Operand.func 16), args := #[Operand.tmp 22, Operand.tmp 25, Operand.tmp 28, Operand.tmp 30], argTypes := #[38, 27, 28, 3] }, type := 45, pos := "manifest.go:127", after := #[{ on := 0, ground := Ground.data }, { on := 3, ground := Ground.data }, { on := 6, ground := Ground.data }, { on := 8, ground := Ground.data }, { on := 6, ground := Ground.chain }], guard := none }) rfl (fun K hK => ?_) AllReadyH.nil
            go_simp
            refine (rgn_any fb1 _ (HV.out.below (HB2.out.trans (hHeld.1.mono HB2.out.size))) mk mn mt ms mo aB mm cB mD HO.out (FD7.out) aC pl cC qs D (FP7.out) (by omega) hcC (.inl FF7.out) (Nat.le_trans hlow (Nat.le_trans HB2.out.size flo1)) (FH7.out) hof I).mono ?_
            rw [HFN.out.1, HFN.out.2.1, HFN.out.2.2, ← HE.out, ← HI.out, ← HL.out]
            rintro e wx8 ⟨⟨ra, rc, rfl, hbs, hcr, hnr⟩, hfl, hk8⟩
            have KB8 : Below w2.heap.size w2 wx8 := (KB7).trans (hk8.below (KB7).size flo1)
            have Fpb8 := hid ((hk8.block _ hl7 ne7).trans FA7.out)
            have Lpb8 := Nat.lt_of_lt_of_le hl7 hk8.size
            have FS8 := hid hbs
            clear hk8 hbs hcr hnr hfl
            clear hHeld
            go_wp2_with fail
            refine hK.out _ _ (HKP.out _ KB8) (fun hHeld => ?_)
            clear hK K
            try simp only [Act.put, List.setIfInBounds_toArray, List.set_cons_zero, List.set_cons_succ]
            refine wpAnyH_take (i := 10) (oi := { dst := some 21, op := Op.move (Operand.tmp 31), type := 45, pos := "manifest.go:127", after := #[{ on := 9, ground := Ground.data }], guard := none }) (v := ?_) rfl (by kernel_rfl) (by kernel_rfl) (by kernel_rfl) (fun _ _ _ h => h) (Or.inl ⟨by rfl, ?hy⟩) hHeld ?_
            case hy => (intro w hSw; (try dsimp only at hSw); obtain ⟨_, _, _, _⟩ := hSw; go_simp; all_goals (with_reducible rfl))
            try simp only [Act.put, List.setIfInBounds_toArray, List.set_cons_zero, List.set_cons_succ]
            refine wpAnyH_take (i := 11) (oi := { dst := some 32, op := Op.extract (Operand.tmp 21) 0, type := 44, pos := "manifest.go:127", after := #[{ on := 10, ground := Ground.data }], guard := none }) (v := ?_) rfl (by kernel_rfl) (by kernel_rfl) (by kernel_rfl) (fun _ _ _ h => h) (Or.inl ⟨by rfl, ?hy⟩) hHeld ?_
            case hy => (intro w hSw; (try dsimp only at hSw); obtain ⟨_, _, _, _⟩ := hSw; go_simp; all_goals (with_reducible rfl))
            try simp only [Act.put, List.setIfInBounds_toArray, List.set_cons_zero, List.set_cons_succ]
            refine wpAnyH_take (i := 12) (oi := { dst := some 33, op := Op.extract (Operand.tmp 21) 1, type := 35, pos := "manifest.go:127", after := #[{ on := 10, ground := Ground.data }, { on := 14, ground := Ground.gcOnly Departure.lateStores }], guard := none }) (v := ?_) rfl (by kernel_rfl) (by kernel_rfl) (by kernel_rfl) (fun _ _ _ h => h) (Or.inl ⟨by rfl, ?hy⟩) hHeld ?_
            case hy => (intro w hSw; (try dsimp only at hSw); obtain ⟨_, _, _, _⟩ := hSw; go_simp; all_goals (with_reducible rfl))
            try simp only [Act.put, List.setIfInBounds_toArray, List.set_cons_zero, List.set_cons_succ]
            refine wpAnyH_ready (rs := [14]) (by kernel_rfl) (by simp) ?_
            refine AllReadyH.cons (o := { dst := none, op := Op.store 44 (Operand.tmp 3) (Operand.tmp 32), type := 0, pos := "manifest.go:127", after := #[{ on := 13, ground := Ground.data }, { on := 11, ground := Ground.data }, { on := 9, ground := Ground.chain }, { on := 0, ground := Ground.phase }, { on := 1, ground := Ground.phase }, { on := 2, ground := Ground.phase }, { on := 3, ground := Ground.phase }, { on := 4, ground := Ground.phase }, { on := 5, ground := Ground.phase }, { on := 6, ground := Ground.phase }, { on := 7, ground := Ground.phase }, { on := 8, ground := Ground.phase }, { on := 9, ground := Ground.phase }, { on := 10, ground := Ground.phase }, { on := 11, ground := Ground.phase }, { on := 12, ground := Ground.textOnly Departure.lateStores }, { on := 13, ground := Ground.phase }], guard := none }) rfl (fun K hK => ?_) AllReadyH.nil
            refine step_store_row rfl 44 (.tmp 3) (.tmp 32) rfl pb7 #[.int .i64 0, .slice none 0 0] #[.int .i64 IX, .slice ra L.length rc] 44 rfl rfl (Fpb8.out) (by kernel_rfl) rfl (piece_allS _ _ _ _) ?_
            intro wz hz hkz
            have HBZ : Below w2.heap.size w2 wz := (KB8).trans (hkz.below (KB8).size lo7)
            have LS := hid (bs_keptP (FS8.out) (Fpb8.out) hkz)
            have LZ := hid hz
            have LB := hid HBZ
            refine hK.out _ _ (HKP.out _ HBZ) (fun hHeld => ?_)
            clear hK K hz hkz HBZ
            try simp only [Act.put]
            refine wpAnyH_take (i := 15) (oi := { dst := some 4, op := Op.assign (Operand.tmp 33), type := 35, pos := "manifest.go:127", after := #[{ on := 12, ground := Ground.data }, { on := 14, ground := Ground.chain }, { on := 0, ground := Ground.phase }, { on := 1, ground := Ground.phase }, { on := 2, ground := Ground.phase }, { on := 3, ground := Ground.phase }, { on := 4, ground := Ground.phase }, { on := 5, ground := Ground.phase }, { on := 6, ground := Ground.phase }, { on := 7, ground := Ground.phase }, { on := 8, ground := Ground.phase }, { on := 9, ground := Ground.phase }, { on := 10, ground := Ground.phase }, { on := 11, ground := Ground.phase }, { on := 12, ground := Ground.phase }, { on := 13, ground := Ground.phase }, { on := 14, ground := Ground.phase }], guard := none }) (v := ?_) rfl (by kernel_rfl) (by kernel_rfl) (by kernel_rfl) (fun _ _ _ h => h) (Or.inl ⟨by rfl, ?hy⟩) hHeld ?_
            case hy => (intro w hSw; (try dsimp only at hSw); obtain ⟨_, _, _, _⟩ := hSw; go_simp; all_goals (with_reducible rfl))
            try simp only [Act.put, List.setIfInBounds_toArray, List.set_cons_zero, List.set_cons_succ]
            refine wpAnyH_done (by kernel_rfl) ?_ _
            go_wp2_with fail
            go_meet
            exact ⟨_, rfl, _, _, _, rfl, rfl, LB, LZ, LS⟩
          refine AllReadyH.cons (o := { dst := some 3, op := Op.alloc 44, type := 0, pos := "manifest.go:127", after := #[], guard := none }) rfl (fun K hK => ?_) AllReadyH.nil
          refine step_mkp rfl rfl ?_
          intro pb10 wx10 hg10 hM10 hb10 hl10
          have KB10 : Below w2.heap.size w2 wx10 := (KB2).trans (hb10.mono (KB2).size)
          have lo10 : w2.heap.size ≤ pb10 := by rw [hg10]; exact (KB2).size
          have FF10 := hid ((hb10.block _ LF2).trans FF2.out)
          have LF10 := Nat.lt_of_lt_of_le LF2 hb10.size
          have FD10 := hid ((FD2.out).below hb10)
          have FA10 := hid hM10
          have ne10 : pb10 ≠ fb1 := by have := LF10; omega
          clear hg10 hM10 hb10
          refine hK.out _ _ (HKP.out _ KB10) (fun hHeld => ?_)
          clear hK K
          try simp only [Act.put, List.setIfInBounds_toArray, List.set_cons_zero, List.set_cons_succ]
          refine wpAnyH_ready (rs := [6]) (by kernel_rfl) (by simp) ?_
          refine AllReadyH.cons (o := { dst := some 28, op := Op.call { callee := Callee.value (Operand.func 14), args := #[Operand.tmp 27], argTypes := #[28] }, type := 28, pos := "manifest.go:127", after := #[{ on := 5, ground := Ground.data }, { on := 3, ground := Ground.chain }], guard := none }) rfl (fun K hK => ?_) AllReadyH.nil
          go_simp
          refine (HMN.out _ hHeld.1).mono ?_
          rintro e wx11 ⟨v, qs, rfl, hmi⟩
          have hb11 := hmi.below
          have KB11 : Below w2.heap.size w2 wx11 := (KB10).trans (hb11.mono (KB10).size)
          obtain ⟨aC, cC, rfl, hcC, hhC⟩ := hmi.held (fb := fb1) HLT.out LF10
          have HFN := hid (rgn_fns hmi HN.out mk mn mt ms mm mD I)
          have hpdC := hmi.pdat HLT.out HSZ.out
          have FF11 := hid ((hb11.block _ LF10).trans FF10.out)
          have LF11 := Nat.lt_of_lt_of_le LF10 hb11.size
          have FD11 := hid ((FD10.out).below hb11)
          have Fpb11 := hid ((hb11.block _ hl10).trans FA10.out)
          have Lpb11 := Nat.lt_of_lt_of_le hl10 hb11.size
          have FH11 := hid hhC
          have FP11 := hid hpdC
          clear hb11 hmi hhC hpdC
          clear hHeld
          go_wp2_with fail
          refine hK.out _ _ (HKP.out _ KB11) (fun hHeld => ?_)
          clear hK K
          try simp only [Act.put, List.setIfInBounds_toArray, List.set_cons_zero, List.set_cons_succ]
          refine wpAnyH_ready (rs := [9]) (by kernel_rfl) (by simp) ?_
          refine AllReadyH.cons (o := { dst := some 31, op := Op.call { callee := Callee.value (Operand.func 16), args := #[Operand.tmp 22, Operand.tmp 25, Operand.tmp 28, Operand.tmp 30], argTypes := #[38, 27, 28, 3] }, type := 45, pos := "manifest.go:127", after := #[{ on := 0, ground := Ground.data }, { on := 3, ground := Ground.data }, { on := 6, ground := Ground.data }, { on := 8, ground := Ground.data }, { on := 6, ground := Ground.chain }], guard := none }) rfl (fun K hK => ?_) AllReadyH.nil
          go_simp
          refine (rgn_any fb1 _ (HV.out.below (HB2.out.trans (hHeld.1.mono HB2.out.size))) mk mn mt ms mo aB mm cB mD HO.out (FD11.out) aC pl cC qs D (FP11.out) (by omega) hcC (.inl FF11.out) (Nat.le_trans hlow (Nat.le_trans HB2.out.size flo1)) (FH11.out) hof I).mono ?_
          rw [HFN.out.1, HFN.out.2.1, HFN.out.2.2, ← HE.out, ← HI.out, ← HL.out]
          rintro e wx12 ⟨⟨ra, rc, rfl, hbs, hcr, hnr⟩, hfl, hk12⟩
          have KB12 : Below w2.heap.size w2 wx12 := (KB11).trans (hk12.below (KB11).size flo1)
          have Fpb12 := hid ((hk12.block _ Lpb11 ne10).trans Fpb11.out)
          have Lpb12 := Nat.lt_of_lt_of_le Lpb11 hk12.size
          have FS12 := hid hbs
          clear hk12 hbs hcr hnr hfl
          clear hHeld
          go_wp2_with fail
          refine hK.out _ _ (HKP.out _ KB12) (fun hHeld => ?_)
          clear hK K
          try simp only [Act.put, List.setIfInBounds_toArray, List.set_cons_zero, List.set_cons_succ]
          refine wpAnyH_take (i := 10) (oi := { dst := some 21, op := Op.move (Operand.tmp 31), type := 45, pos := "manifest.go:127", after := #[{ on := 9, ground := Ground.data }], guard := none }) (v := ?_) rfl (by kernel_rfl) (by kernel_rfl) (by kernel_rfl) (fun _ _ _ h => h) (Or.inl ⟨by rfl, ?hy⟩) hHeld ?_
          case hy => (intro w hSw; (try dsimp only at hSw); obtain ⟨_, _, _, _⟩ := hSw; go_simp; all_goals (with_reducible rfl))
          try simp only [Act.put, List.setIfInBounds_toArray, List.set_cons_zero, List.set_cons_succ]
          refine wpAnyH_take (i := 11) (oi := { dst := some 32, op := Op.extract (Operand.tmp 21) 0, type := 44, pos := "manifest.go:127", after := #[{ on := 10, ground := Ground.data }], guard := none }) (v := ?_) rfl (by kernel_rfl) (by kernel_rfl) (by kernel_rfl) (fun _ _ _ h => h) (Or.inl ⟨by rfl, ?hy⟩) hHeld ?_
          case hy => (intro w hSw; (try dsimp only at hSw); obtain ⟨_, _, _, _⟩ := hSw; go_simp; all_goals (with_reducible rfl))
          try simp only [Act.put, List.setIfInBounds_toArray, List.set_cons_zero, List.set_cons_succ]
          refine wpAnyH_take (i := 12) (oi := { dst := some 33, op := Op.extract (Operand.tmp 21) 1, type := 35, pos := "manifest.go:127", after := #[{ on := 10, ground := Ground.data }, { on := 14, ground := Ground.gcOnly Departure.lateStores }], guard := none }) (v := ?_) rfl (by kernel_rfl) (by kernel_rfl) (by kernel_rfl) (fun _ _ _ h => h) (Or.inl ⟨by rfl, ?hy⟩) hHeld ?_
          case hy => (intro w hSw; (try dsimp only at hSw); obtain ⟨_, _, _, _⟩ := hSw; go_simp; all_goals (with_reducible rfl))
          try simp only [Act.put, List.setIfInBounds_toArray, List.set_cons_zero, List.set_cons_succ]
          refine wpAnyH_ready (rs := [14]) (by kernel_rfl) (by simp) ?_
          refine AllReadyH.cons (o := { dst := none, op := Op.store 44 (Operand.tmp 3) (Operand.tmp 32), type := 0, pos := "manifest.go:127", after := #[{ on := 13, ground := Ground.data }, { on := 11, ground := Ground.data }, { on := 9, ground := Ground.chain }, { on := 0, ground := Ground.phase }, { on := 1, ground := Ground.phase }, { on := 2, ground := Ground.phase }, { on := 3, ground := Ground.phase }, { on := 4, ground := Ground.phase }, { on := 5, ground := Ground.phase }, { on := 6, ground := Ground.phase }, { on := 7, ground := Ground.phase }, { on := 8, ground := Ground.phase }, { on := 9, ground := Ground.phase }, { on := 10, ground := Ground.phase }, { on := 11, ground := Ground.phase }, { on := 12, ground := Ground.textOnly Departure.lateStores }, { on := 13, ground := Ground.phase }], guard := none }) rfl (fun K hK => ?_) AllReadyH.nil
          refine step_store_row rfl 44 (.tmp 3) (.tmp 32) rfl pb10 #[.int .i64 0, .slice none 0 0] #[.int .i64 IX, .slice ra L.length rc] 44 rfl rfl (Fpb12.out) (by kernel_rfl) rfl (piece_allS _ _ _ _) ?_
          intro wz hz hkz
          have HBZ : Below w2.heap.size w2 wz := (KB12).trans (hkz.below (KB12).size lo10)
          have LS := hid (bs_keptP (FS12.out) (Fpb12.out) hkz)
          have LZ := hid hz
          have LB := hid HBZ
          refine hK.out _ _ (HKP.out _ HBZ) (fun hHeld => ?_)
          clear hK K hz hkz HBZ
          try simp only [Act.put]
          refine wpAnyH_take (i := 15) (oi := { dst := some 4, op := Op.assign (Operand.tmp 33), type := 35, pos := "manifest.go:127", after := #[{ on := 12, ground := Ground.data }, { on := 14, ground := Ground.chain }, { on := 0, ground := Ground.phase }, { on := 1, ground := Ground.phase }, { on := 2, ground := Ground.phase }, { on := 3, ground := Ground.phase }, { on := 4, ground := Ground.phase }, { on := 5, ground := Ground.phase }, { on := 6, ground := Ground.phase }, { on := 7, ground := Ground.phase }, { on := 8, ground := Ground.phase }, { on := 9, ground := Ground.phase }, { on := 10, ground := Ground.phase }, { on := 11, ground := Ground.phase }, { on := 12, ground := Ground.phase }, { on := 13, ground := Ground.phase }, { on := 14, ground := Ground.phase }], guard := none }) (v := ?_) rfl (by kernel_rfl) (by kernel_rfl) (by kernel_rfl) (fun _ _ _ h => h) (Or.inl ⟨by rfl, ?hy⟩) hHeld ?_
          case hy => (intro w hSw; (try dsimp only at hSw); obtain ⟨_, _, _, _⟩ := hSw; go_simp; all_goals (with_reducible rfl))
          try simp only [Act.put, List.setIfInBounds_toArray, List.set_cons_zero, List.set_cons_succ]
          refine wpAnyH_done (by kernel_rfl) ?_ _
          go_wp2_with fail
          go_meet
          exact ⟨_, rfl, _, _, _, rfl, rfl, LB, LZ, LS⟩
        refine AllReadyH.cons (o := { dst := some 3, op := Op.alloc 44, type := 0, pos := "manifest.go:127", after := #[], guard := none }) rfl (fun K hK => ?_) AllReadyH.nil
        refine step_mkp rfl rfl ?_
        intro pb14 wx14 hg14 hM14 hb14 hl14
        have KB14 : Below w2.heap.size w2 wx14 := (KB1).trans (hb14.mono (KB1).size)
        have lo14 : w2.heap.size ≤ pb14 := by rw [hg14]; exact (KB1).size
        have FF14 := hid ((hb14.block _ flt1).trans FF1.out)
        have LF14 := Nat.lt_of_lt_of_le flt1 hb14.size
        have FA14 := hid hM14
        have ne14 : pb14 ≠ fb1 := by have := LF14; omega
        clear hg14 hM14 hb14
        refine hK.out _ _ (HKP.out _ KB14) (fun hHeld => ?_)
        clear hK K
        try simp only [Act.put, List.setIfInBounds_toArray, List.set_cons_zero, List.set_cons_succ]
        refine wpAnyH_ready (rs := [3]) (by kernel_rfl) (by simp) ?_
        refine AllReadyH.cons (o := { dst := some 25, op := Op.call { callee := Callee.value (Operand.func 13), args := #[Operand.tmp 24], argTypes := #[27] }, type := 27, pos := "manifest.go:127", after := #[{ on := 2, ground := Ground.data }, { on := 0, ground := Ground.chain }], guard := none }) rfl (fun K hK => ?_) AllReadyH.nil
        go_simp
        refine (HOW.out _ hHeld.1).mono ?_
        rintro e wx15 ⟨aB, cB, rfl, hdB, hloc, hb15⟩
        have KB15 : Below w2.heap.size w2 wx15 := (KB14).trans (hb15.mono (KB14).size)
        have hof : ∀ ad, aB = some ad → ad.block ≠ fb1 := fun ad h => by have h5 := hloc ad h; have h6 := LF14; omega
        have FF15 := hid ((hb15.block _ LF14).trans FF14.out)
        have LF15 := Nat.lt_of_lt_of_le LF14 hb15.size
        have Fpb15 := hid ((hb15.block _ hl14).trans FA14.out)
        have Lpb15 := Nat.lt_of_lt_of_le hl14 hb15.size
        have FD15 := hid hdB
        clear hb15 hdB hloc
        clear hHeld
        go_wp2_with fail
        refine hK.out _ _ (HKP.out _ KB15) (fun hHeld => ?_)
        clear hK K
        try simp only [Act.put, List.setIfInBounds_toArray, List.set_cons_zero, List.set_cons_succ]
        refine wpAnyH_ready (rs := [6]) (by kernel_rfl) (by simp) ?_
        refine AllReadyH.cons (o := { dst := some 28, op := Op.call { callee := Callee.value (Operand.func 14), args := #[Operand.tmp 27], argTypes := #[28] }, type := 28, pos := "manifest.go:127", after := #[{ on := 5, ground := Ground.data }, { on := 3, ground := Ground.chain }], guard := none }) rfl (fun K hK => ?_) AllReadyH.nil
        go_simp
        refine (HMN.out _ hHeld.1).mono ?_
        rintro e wx16 ⟨v, qs, rfl, hmi⟩
        have hb16 := hmi.below
        have KB16 : Below w2.heap.size w2 wx16 := (KB15).trans (hb16.mono (KB15).size)
        obtain ⟨aC, cC, rfl, hcC, hhC⟩ := hmi.held (fb := fb1) HLT.out LF15
        have HFN := hid (rgn_fns hmi HN.out mk mn mt ms mm mD I)
        have hpdC := hmi.pdat HLT.out HSZ.out
        have FF16 := hid ((hb16.block _ LF15).trans FF15.out)
        have LF16 := Nat.lt_of_lt_of_le LF15 hb16.size
        have Fpb16 := hid ((hb16.block _ Lpb15).trans Fpb15.out)
        have Lpb16 := Nat.lt_of_lt_of_le Lpb15 hb16.size
        have FD16 := hid ((FD15.out).below hb16)
        have FH16 := hid hhC
        have FP16 := hid hpdC
        clear hb16 hmi hhC hpdC
        clear hHeld
        go_wp2_with fail
        refine hK.out _ _ (HKP.out _ KB16) (fun hHeld => ?_)
        clear hK K
        try simp only [Act.put, List.setIfInBounds_toArray, List.set_cons_zero, List.set_cons_succ]
        refine wpAnyH_ready (rs := [9]) (by kernel_rfl) (by simp) ?_
        refine AllReadyH.cons (o := { dst := some 31, op := Op.call { callee := Callee.value (Operand.func 16), args := #[Operand.tmp 22, Operand.tmp 25, Operand.tmp 28, Operand.tmp 30], argTypes := #[38, 27, 28, 3] }, type := 45, pos := "manifest.go:127", after := #[{ on := 0, ground := Ground.data }, { on := 3, ground := Ground.data }, { on := 6, ground := Ground.data }, { on := 8, ground := Ground.data }, { on := 6, ground := Ground.chain }], guard := none }) rfl (fun K hK => ?_) AllReadyH.nil
        go_simp
        refine (rgn_any fb1 _ (HV.out.below (HB2.out.trans (hHeld.1.mono HB2.out.size))) mk mn mt ms mo aB mm cB mD HO.out (FD16.out) aC pl cC qs D (FP16.out) (by omega) hcC (.inl FF16.out) (Nat.le_trans hlow (Nat.le_trans HB2.out.size flo1)) (FH16.out) hof I).mono ?_
        rw [HFN.out.1, HFN.out.2.1, HFN.out.2.2, ← HE.out, ← HI.out, ← HL.out]
        rintro e wx17 ⟨⟨ra, rc, rfl, hbs, hcr, hnr⟩, hfl, hk17⟩
        have KB17 : Below w2.heap.size w2 wx17 := (KB16).trans (hk17.below (KB16).size flo1)
        have Fpb17 := hid ((hk17.block _ Lpb16 ne14).trans Fpb16.out)
        have Lpb17 := Nat.lt_of_lt_of_le Lpb16 hk17.size
        have FS17 := hid hbs
        clear hk17 hbs hcr hnr hfl
        clear hHeld
        go_wp2_with fail
        refine hK.out _ _ (HKP.out _ KB17) (fun hHeld => ?_)
        clear hK K
        try simp only [Act.put, List.setIfInBounds_toArray, List.set_cons_zero, List.set_cons_succ]
        refine wpAnyH_take (i := 10) (oi := { dst := some 21, op := Op.move (Operand.tmp 31), type := 45, pos := "manifest.go:127", after := #[{ on := 9, ground := Ground.data }], guard := none }) (v := ?_) rfl (by kernel_rfl) (by kernel_rfl) (by kernel_rfl) (fun _ _ _ h => h) (Or.inl ⟨by rfl, ?hy⟩) hHeld ?_
        case hy => (intro w hSw; (try dsimp only at hSw); obtain ⟨_, _, _, _⟩ := hSw; go_simp; all_goals (with_reducible rfl))
        try simp only [Act.put, List.setIfInBounds_toArray, List.set_cons_zero, List.set_cons_succ]
        refine wpAnyH_take (i := 11) (oi := { dst := some 32, op := Op.extract (Operand.tmp 21) 0, type := 44, pos := "manifest.go:127", after := #[{ on := 10, ground := Ground.data }], guard := none }) (v := ?_) rfl (by kernel_rfl) (by kernel_rfl) (by kernel_rfl) (fun _ _ _ h => h) (Or.inl ⟨by rfl, ?hy⟩) hHeld ?_
        case hy => (intro w hSw; (try dsimp only at hSw); obtain ⟨_, _, _, _⟩ := hSw; go_simp; all_goals (with_reducible rfl))
        try simp only [Act.put, List.setIfInBounds_toArray, List.set_cons_zero, List.set_cons_succ]
        refine wpAnyH_take (i := 12) (oi := { dst := some 33, op := Op.extract (Operand.tmp 21) 1, type := 35, pos := "manifest.go:127", after := #[{ on := 10, ground := Ground.data }, { on := 14, ground := Ground.gcOnly Departure.lateStores }], guard := none }) (v := ?_) rfl (by kernel_rfl) (by kernel_rfl) (by kernel_rfl) (fun _ _ _ h => h) (Or.inl ⟨by rfl, ?hy⟩) hHeld ?_
        case hy => (intro w hSw; (try dsimp only at hSw); obtain ⟨_, _, _, _⟩ := hSw; go_simp; all_goals (with_reducible rfl))
        try simp only [Act.put, List.setIfInBounds_toArray, List.set_cons_zero, List.set_cons_succ]
        refine wpAnyH_ready (rs := [14]) (by kernel_rfl) (by simp) ?_
        refine AllReadyH.cons (o := { dst := none, op := Op.store 44 (Operand.tmp 3) (Operand.tmp 32), type := 0, pos := "manifest.go:127", after := #[{ on := 13, ground := Ground.data }, { on := 11, ground := Ground.data }, { on := 9, ground := Ground.chain }, { on := 0, ground := Ground.phase }, { on := 1, ground := Ground.phase }, { on := 2, ground := Ground.phase }, { on := 3, ground := Ground.phase }, { on := 4, ground := Ground.phase }, { on := 5, ground := Ground.phase }, { on := 6, ground := Ground.phase }, { on := 7, ground := Ground.phase }, { on := 8, ground := Ground.phase }, { on := 9, ground := Ground.phase }, { on := 10, ground := Ground.phase }, { on := 11, ground := Ground.phase }, { on := 12, ground := Ground.textOnly Departure.lateStores }, { on := 13, ground := Ground.phase }], guard := none }) rfl (fun K hK => ?_) AllReadyH.nil
        refine step_store_row rfl 44 (.tmp 3) (.tmp 32) rfl pb14 #[.int .i64 0, .slice none 0 0] #[.int .i64 IX, .slice ra L.length rc] 44 rfl rfl (Fpb17.out) (by kernel_rfl) rfl (piece_allS _ _ _ _) ?_
        intro wz hz hkz
        have HBZ : Below w2.heap.size w2 wz := (KB17).trans (hkz.below (KB17).size lo14)
        have LS := hid (bs_keptP (FS17.out) (Fpb17.out) hkz)
        have LZ := hid hz
        have LB := hid HBZ
        refine hK.out _ _ (HKP.out _ HBZ) (fun hHeld => ?_)
        clear hK K hz hkz HBZ
        try simp only [Act.put]
        refine wpAnyH_take (i := 15) (oi := { dst := some 4, op := Op.assign (Operand.tmp 33), type := 35, pos := "manifest.go:127", after := #[{ on := 12, ground := Ground.data }, { on := 14, ground := Ground.chain }, { on := 0, ground := Ground.phase }, { on := 1, ground := Ground.phase }, { on := 2, ground := Ground.phase }, { on := 3, ground := Ground.phase }, { on := 4, ground := Ground.phase }, { on := 5, ground := Ground.phase }, { on := 6, ground := Ground.phase }, { on := 7, ground := Ground.phase }, { on := 8, ground := Ground.phase }, { on := 9, ground := Ground.phase }, { on := 10, ground := Ground.phase }, { on := 11, ground := Ground.phase }, { on := 12, ground := Ground.phase }, { on := 13, ground := Ground.phase }, { on := 14, ground := Ground.phase }], guard := none }) (v := ?_) rfl (by kernel_rfl) (by kernel_rfl) (by kernel_rfl) (fun _ _ _ h => h) (Or.inl ⟨by rfl, ?hy⟩) hHeld ?_
        case hy => (intro w hSw; (try dsimp only at hSw); obtain ⟨_, _, _, _⟩ := hSw; go_simp; all_goals (with_reducible rfl))
        try simp only [Act.put, List.setIfInBounds_toArray, List.set_cons_zero, List.set_cons_succ]
        refine wpAnyH_done (by kernel_rfl) ?_ _
        go_wp2_with fail
        go_meet
        exact ⟨_, rfl, _, _, _, rfl, rfl, LB, LZ, LS⟩
      refine AllReadyH.cons (o := { dst := some 3, op := Op.alloc 44, type := 0, pos := "manifest.go:127", after := #[], guard := none }) rfl (fun K hK => ?_) AllReadyH.nil
      refine step_mkp rfl rfl ?_
      intro pb19 wx19 hg19 hM19 hb19 hl19
      have KB19 : Below w2.heap.size w2 wx19 := ((bel_drewN (Below.refl w2.heap.size w2) 1)).trans (hb19.mono ((bel_drewN (Below.refl w2.heap.size w2) 1)).size)
      have lo19 : w2.heap.size ≤ pb19 := by rw [hg19]; exact ((bel_drewN (Below.refl w2.heap.size w2) 1)).size
      have FA19 := hid hM19
      clear hg19 hM19 hb19
      refine hK.out _ _ (HKP.out _ KB19) (fun hHeld => ?_)
      clear hK K
      try simp only [Act.put, List.setIfInBounds_toArray, List.set_cons_zero, List.set_cons_succ]
      refine wpAnyH_ready (rs := [0]) (by kernel_rfl) (by simp) ?_
      refine AllReadyH.cons (o := { dst := some 22, op := Op.call { callee := Callee.value (Operand.func 12), args := #[], argTypes := #[] }, type := 38, pos := "manifest.go:127", after := #[], guard := none }) rfl (fun K hK => ?_) AllReadyH.nil
      go_simp
      refine (newField_any wx19).mono ?_
      rintro e wx20 ⟨rfl, hF20, hb20⟩
      obtain ⟨fb20, hfb20⟩ : ∃ y, y = wx19.heap.size := ⟨_, rfl⟩
      rw [← hfb20] at hF20
      have flo20 : w2.heap.size ≤ fb20 := by rw [hfb20]; exact (KB19).size
      have flt20 := lt_of_heap hF20
      have KB20 : Below w2.heap.size w2 wx20 := (KB19).trans (hb20.mono (KB19).size)
      have ne20 : pb19 ≠ fb20 := by have := hl19; omega
      have Fpb20 := hid ((hb20.block _ hl19).trans FA19.out)
      have Lpb20 := Nat.lt_of_lt_of_le hl19 hb20.size
      have FF20 := hid hF20
      rw [← hfb20]
      clear hfb20 hF20 hb20
      clear hHeld
      go_wp2_with fail
      refine hK.out _ _ (HKP.out _ KB20) (fun hHeld => ?_)
      clear hK K
      try simp only [Act.put, List.setIfInBounds_toArray, List.set_cons_zero, List.set_cons_succ]
      refine wpAnyH_ready (rs := [3]) (by kernel_rfl) (by simp) ?_
      refine AllReadyH.cons (o := { dst := some 25, op := Op.call { callee := Callee.value (Operand.func 13), args := #[Operand.tmp 24], argTypes := #[27] }, type := 27, pos := "manifest.go:127", after := #[{ on := 2, ground := Ground.data }, { on := 0, ground := Ground.chain }], guard := none }) rfl (fun K hK => ?_) AllReadyH.nil
      go_simp
      refine (HOW.out _ hHeld.1).mono ?_
      rintro e wx21 ⟨aB, cB, rfl, hdB, hloc, hb21⟩
      have KB21 : Below w2.heap.size w2 wx21 := (KB20).trans (hb21.mono (KB20).size)
      have hof : ∀ ad, aB = some ad → ad.block ≠ fb20 := fun ad h => by have h5 := hloc ad h; have h6 := flt20; omega
      have Fpb21 := hid ((hb21.block _ Lpb20).trans Fpb20.out)
      have Lpb21 := Nat.lt_of_lt_of_le Lpb20 hb21.size
      have FF21 := hid ((hb21.block _ flt20).trans FF20.out)
      have LF21 := Nat.lt_of_lt_of_le flt20 hb21.size
      have FD21 := hid hdB
      clear hb21 hdB hloc
      clear hHeld
      go_wp2_with fail
      refine hK.out _ _ (HKP.out _ KB21) (fun hHeld => ?_)
      clear hK K
      try simp only [Act.put, List.setIfInBounds_toArray, List.set_cons_zero, List.set_cons_succ]
      refine wpAnyH_ready (rs := [6]) (by kernel_rfl) (by simp) ?_
      refine AllReadyH.cons (o := { dst := some 28, op := Op.call { callee := Callee.value (Operand.func 14), args := #[Operand.tmp 27], argTypes := #[28] }, type := 28, pos := "manifest.go:127", after := #[{ on := 5, ground := Ground.data }, { on := 3, ground := Ground.chain }], guard := none }) rfl (fun K hK => ?_) AllReadyH.nil
      go_simp
      refine (HMN.out _ hHeld.1).mono ?_
      rintro e wx22 ⟨v, qs, rfl, hmi⟩
      have hb22 := hmi.below
      have KB22 : Below w2.heap.size w2 wx22 := (KB21).trans (hb22.mono (KB21).size)
      obtain ⟨aC, cC, rfl, hcC, hhC⟩ := hmi.held (fb := fb20) HLT.out LF21
      have HFN := hid (rgn_fns hmi HN.out mk mn mt ms mm mD I)
      have hpdC := hmi.pdat HLT.out HSZ.out
      have Fpb22 := hid ((hb22.block _ Lpb21).trans Fpb21.out)
      have Lpb22 := Nat.lt_of_lt_of_le Lpb21 hb22.size
      have FF22 := hid ((hb22.block _ LF21).trans FF21.out)
      have LF22 := Nat.lt_of_lt_of_le LF21 hb22.size
      have FD22 := hid ((FD21.out).below hb22)
      have FH22 := hid hhC
      have FP22 := hid hpdC
      clear hb22 hmi hhC hpdC
      clear hHeld
      go_wp2_with fail
      refine hK.out _ _ (HKP.out _ KB22) (fun hHeld => ?_)
      clear hK K
      try simp only [Act.put, List.setIfInBounds_toArray, List.set_cons_zero, List.set_cons_succ]
      refine wpAnyH_ready (rs := [9]) (by kernel_rfl) (by simp) ?_
      refine AllReadyH.cons (o := { dst := some 31, op := Op.call { callee := Callee.value (Operand.func 16), args := #[Operand.tmp 22, Operand.tmp 25, Operand.tmp 28, Operand.tmp 30], argTypes := #[38, 27, 28, 3] }, type := 45, pos := "manifest.go:127", after := #[{ on := 0, ground := Ground.data }, { on := 3, ground := Ground.data }, { on := 6, ground := Ground.data }, { on := 8, ground := Ground.data }, { on := 6, ground := Ground.chain }], guard := none }) rfl (fun K hK => ?_) AllReadyH.nil
      go_simp
      refine (rgn_any fb20 _ (HV.out.below (HB2.out.trans (hHeld.1.mono HB2.out.size))) mk mn mt ms mo aB mm cB mD HO.out (FD22.out) aC pl cC qs D (FP22.out) (by omega) hcC (.inl FF22.out) (Nat.le_trans hlow (Nat.le_trans HB2.out.size flo20)) (FH22.out) hof I).mono ?_
      rw [HFN.out.1, HFN.out.2.1, HFN.out.2.2, ← HE.out, ← HI.out, ← HL.out]
      rintro e wx23 ⟨⟨ra, rc, rfl, hbs, hcr, hnr⟩, hfl, hk23⟩
      have KB23 : Below w2.heap.size w2 wx23 := (KB22).trans (hk23.below (KB22).size flo20)
      have Fpb23 := hid ((hk23.block _ Lpb22 ne20).trans Fpb22.out)
      have Lpb23 := Nat.lt_of_lt_of_le Lpb22 hk23.size
      have FS23 := hid hbs
      clear hk23 hbs hcr hnr hfl
      clear hHeld
      go_wp2_with fail
      refine hK.out _ _ (HKP.out _ KB23) (fun hHeld => ?_)
      clear hK K
      try simp only [Act.put, List.setIfInBounds_toArray, List.set_cons_zero, List.set_cons_succ]
      refine wpAnyH_take (i := 10) (oi := { dst := some 21, op := Op.move (Operand.tmp 31), type := 45, pos := "manifest.go:127", after := #[{ on := 9, ground := Ground.data }], guard := none }) (v := ?_) rfl (by kernel_rfl) (by kernel_rfl) (by kernel_rfl) (fun _ _ _ h => h) (Or.inl ⟨by rfl, ?hy⟩) hHeld ?_
      case hy => (intro w hSw; (try dsimp only at hSw); obtain ⟨_, _, _, _⟩ := hSw; go_simp; all_goals (with_reducible rfl))
      try simp only [Act.put, List.setIfInBounds_toArray, List.set_cons_zero, List.set_cons_succ]
      refine wpAnyH_take (i := 11) (oi := { dst := some 32, op := Op.extract (Operand.tmp 21) 0, type := 44, pos := "manifest.go:127", after := #[{ on := 10, ground := Ground.data }], guard := none }) (v := ?_) rfl (by kernel_rfl) (by kernel_rfl) (by kernel_rfl) (fun _ _ _ h => h) (Or.inl ⟨by rfl, ?hy⟩) hHeld ?_
      case hy => (intro w hSw; (try dsimp only at hSw); obtain ⟨_, _, _, _⟩ := hSw; go_simp; all_goals (with_reducible rfl))
      try simp only [Act.put, List.setIfInBounds_toArray, List.set_cons_zero, List.set_cons_succ]
      refine wpAnyH_take (i := 12) (oi := { dst := some 33, op := Op.extract (Operand.tmp 21) 1, type := 35, pos := "manifest.go:127", after := #[{ on := 10, ground := Ground.data }, { on := 14, ground := Ground.gcOnly Departure.lateStores }], guard := none }) (v := ?_) rfl (by kernel_rfl) (by kernel_rfl) (by kernel_rfl) (fun _ _ _ h => h) (Or.inl ⟨by rfl, ?hy⟩) hHeld ?_
      case hy => (intro w hSw; (try dsimp only at hSw); obtain ⟨_, _, _, _⟩ := hSw; go_simp; all_goals (with_reducible rfl))
      try simp only [Act.put, List.setIfInBounds_toArray, List.set_cons_zero, List.set_cons_succ]
      refine wpAnyH_ready (rs := [14]) (by kernel_rfl) (by simp) ?_
      refine AllReadyH.cons (o := { dst := none, op := Op.store 44 (Operand.tmp 3) (Operand.tmp 32), type := 0, pos := "manifest.go:127", after := #[{ on := 13, ground := Ground.data }, { on := 11, ground := Ground.data }, { on := 9, ground := Ground.chain }, { on := 0, ground := Ground.phase }, { on := 1, ground := Ground.phase }, { on := 2, ground := Ground.phase }, { on := 3, ground := Ground.phase }, { on := 4, ground := Ground.phase }, { on := 5, ground := Ground.phase }, { on := 6, ground := Ground.phase }, { on := 7, ground := Ground.phase }, { on := 8, ground := Ground.phase }, { on := 9, ground := Ground.phase }, { on := 10, ground := Ground.phase }, { on := 11, ground := Ground.phase }, { on := 12, ground := Ground.textOnly Departure.lateStores }, { on := 13, ground := Ground.phase }], guard := none }) rfl (fun K hK => ?_) AllReadyH.nil
      refine step_store_row rfl 44 (.tmp 3) (.tmp 32) rfl pb19 #[.int .i64 0, .slice none 0 0] #[.int .i64 IX, .slice ra L.length rc] 44 rfl rfl (Fpb23.out) (by kernel_rfl) rfl (piece_allS _ _ _ _) ?_
      intro wz hz hkz
      have HBZ : Below w2.heap.size w2 wz := (KB23).trans (hkz.below (KB23).size lo19)
      have LS := hid (bs_keptP (FS23.out) (Fpb23.out) hkz)
      have LZ := hid hz
      have LB := hid HBZ
      refine hK.out _ _ (HKP.out _ HBZ) (fun hHeld => ?_)
      clear hK K hz hkz HBZ
      try simp only [Act.put]
      refine wpAnyH_take (i := 15) (oi := { dst := some 4, op := Op.assign (Operand.tmp 33), type := 35, pos := "manifest.go:127", after := #[{ on := 12, ground := Ground.data }, { on := 14, ground := Ground.chain }, { on := 0, ground := Ground.phase }, { on := 1, ground := Ground.phase }, { on := 2, ground := Ground.phase }, { on := 3, ground := Ground.phase }, { on := 4, ground := Ground.phase }, { on := 5, ground := Ground.phase }, { on := 6, ground := Ground.phase }, { on := 7, ground := Ground.phase }, { on := 8, ground := Ground.phase }, { on := 9, ground := Ground.phase }, { on := 10, ground := Ground.phase }, { on := 11, ground := Ground.phase }, { on := 12, ground := Ground.phase }, { on := 13, ground := Ground.phase }, { on := 14, ground := Ground.phase }], guard := none }) (v := ?_) rfl (by kernel_rfl) (by kernel_rfl) (by kernel_rfl) (fun _ _ _ h => h) (Or.inl ⟨by rfl, ?hy⟩) hHeld ?_
      case hy => (intro w hSw; (try dsimp only at hSw); obtain ⟨_, _, _, _⟩ := hSw; go_simp; all_goals (with_reducible rfl))
      try simp only [Act.put, List.setIfInBounds_toArray, List.set_cons_zero, List.set_cons_succ]
      refine wpAnyH_done (by kernel_rfl) ?_ _
      go_wp2_with fail
      go_meet
      exact ⟨_, rfl, _, _, _, rfl, rfl, LB, LZ, LS⟩
    case rest =>
    obtain ⟨wD, hwD, pb, ra, rc, rfl, rfl, HBD, HPB, HBS⟩ := hcut
    subst hwD
    as_aux_lemma =>
    have HB3 := hid (HB2.out.trans (HBD.out.mono HB2.out.size))
    have hC3 : CaseAt wD W.heap.size K N T I (.slice da dl dc) mk mn mt ms mo (.slice ma mm mc) (.slice pa pl pc) (.slice ia il ic) := (HBD.out.block _ hl2).trans HC2.out
    have HRM := hid (case_man hC3)
    have e42 := (hC3.hi HO.out).2.1
    have e3 := hC3.c.2.2.2.1
    clear hC3
    go_wp2_with (refine wpList_load_mid (by rfl) 27 (.tmp 35) (by rfl) W.heap.size 5 (by rfl) (mcells mk mn mt ms mo (.slice ma mm mc)) _ HRM.out Tryd.underlying27 rfl HIF.out ?_)
    refine (HRA.out wD HB3.out).mono ?_
    rintro e w5 ⟨⟨ja, jc, rfl, hbs5, -, -⟩, hb5⟩
    obtain ⟨w6, hw6⟩ : ∃ y, y = w5.alloc (.cells #[.int .i64 IX, .slice ja L.length jc] 44) := ⟨_, rfl⟩
    have hb56 : Below w5.heap.size w5 w6 := by rw [hw6]; exact (Below.refl _ _).alloc (Nat.le_refl _) _
    have hQ6 : w6.heap[w5.heap.size]? = some (.cells #[.int .i64 IX, .slice ja L.length jc] 44 (0, 0)) := by rw [hw6]; exact heap_new _ _
    have hP6 := (hb56.block _ (Nat.lt_of_lt_of_le (lt_of_heap HPB.out) hb5.size)).trans ((hb5.block _ (lt_of_heap HPB.out)).trans HPB.out)
    have HB6 := hid ((HB3.out.trans (hb5.mono HB3.out.size)).trans (hb56.mono (HB3.out.trans (hb5.mono HB3.out.size)).size))
    obtain ⟨g0, g1, -, -⟩ := piece_freeA hQ6
    obtain ⟨d0, d1, -, -⟩ := piece_freeA hP6
    have cv1 := conv_bs ((HBS.out.below hb5).below hb56)
    have cv2 := conv_bs (hbs5.below hb56)
    clear hb5 hbs5 e42 e3 hQ6 hP6 hb56
    go_upto_region 5 with fail
    change Code.wp _ _ _ _ (w5.alloc (.cells #[.int .i64 IX, .slice ja L.length jc] 44))
    rw [← hw6]
    clear hw6
    go_wp2_with fail
    refine (HK.out w6 HB6.out).mono ?_
    rintro e w7 ⟨rfl, hb7⟩
    have HB7 := hid (HB6.out.trans (hb7.mono HB6.out.size))
    go_wp2
    go_ret
    exact ⟨rfl, HB7.out⟩
theorem regenerates_walk (W : World) (V : Vars W shaRound shaStart) (R : Rnds W) (v0 : Value) (hv0 : CaseWD W v0) :
    Calls Tryd.prog 4 #[v0] W fun e w' => e = .returned (.bool true) ∧ Below W.heap.size W w' := by
  obtain ⟨K, N, T, I, da, dl, dc, ld, mk, mn, mt, ms, mo, ma, mm, mc, mD, pa, pl, pc, ps, D, ia, il, ic, li, C⟩ := hv0
  obtain rfl := C.eq
  exact regenerates_in W V R K N T I da dl dc ld mk mn mt ms mo ma mm mc mD pa pl pc ps D ia il ic C.mo32 C.man C.pieces
end Go.Proofs.YtahnihihfheegaaDoor

namespace Go.Proofs.YtahnihihfheegaaDoor.digestRegenerates
open Go.ChangeShapes Go.WideShapes Go.ChangeAt Go.RowKit Go.WideMaps Go.WideElems
open Go.ChangeMaps (open_string shut_string)
set_option linter.unusedVariables false

set_option maxRecDepth 100000 in
theorem lifted (os : Os) (started : os.Started) (H : Type) (enc : TypeId × Value → H) :
    ReturnsInHanded {} Tryd.checked os 4 .any (fun w args => (Rows.digestRegeneratesSpec.pre enc Tryd.prog Tryd.f4 [] false w args ∧ laidMetH Tryd.prog laidB w) ∧ sizedMet enc Tryd.prog Tryd.f4 (OpenSpec.ofChange Rows.digestRegeneratesSpec) false w args)
      (Rows.digestRegeneratesSpec.post enc Tryd.prog Tryd.f4 false true false false) := by
  refine returnsInHanded_of_change_and (C := Tryd.checked) (X := fun w _ => laidMetH Tryd.prog laidB w) (fun _ _ _ hh h => h.of_heap hh) ownD started (by kernel_rfl) Tryd.func4
    (ChangeSpec.witness_shaped (enc := enc) (C := Tryd.checked) (os := os) (X := fun w _ => laidMetH Tryd.prog laidB w) false (World.doorLaid Tryd.prog 24 os) #[.agg cz] 8 rfl (World.shaped_of_RefB (by kernel_rfl) (by kernel_rfl)) (by kernel_rfl) (by kernel_rfl) (by kernel_rfl) (door_metB os _)) ?_
  intro W base args ds gs before hval0 hW _ _ hL _
  have hval : ∀ (j : Nat) t v, Tryd.f4.params[j]? = some t → args[j]? = some v → Value.okWide Tryd.prog W .any base t v := hval0
  have hW' := hW
  obtain ⟨p, q, hA0, hV, rfl, hfz, hnd⟩ := hW
  have hA : DataW.TrodAll enc Tryd.prog W 0 (fun _ => true) true Tryd.f4.params.toList args.toList ds p := hA0
  rw [Tryd.params4] at hA hval
  obtain ⟨v0, vs0, d0, ds0, p0, q0, hargs, rfl, rfl, h0, r0⟩ := trodAll_cons hA
  obtain ⟨rfl, rfl, rfl⟩ := trodAll_nil r0
  obtain rfl : args = #[v0] := by cases args; simp_all
  obtain ⟨rfl, rfl⟩ := trodVars_none hV
  have k0 := h0
  have lt0 : ∀ x ∈ p0, x.block < W.heap.size := by obtain ⟨m, hm⟩ := k0; exact DataW.trod_lt m _ _ _ hm
  have C0 := open_caseD (hval 0 31 v0 rfl rfl) h0
  clear hA0 hval0
  refine (regenerates_walk W (vars_of_laidB hL) (rnds_of_laidB hL) v0 C0).mono fun e W' ⟨he, bel⟩ => ?_
  subst he
  exact ⟨_, rfl, _, _, _, [], _, [], hW', trodAll_mk1 (shut_bool Tryd.underlying4 _), (trodAll_cons_mk (Below.trod Facts.laidOut (by kernel_rfl) (of_decide_eq_true (by kernel_rfl)) k0 bel lt0) trodAll_mk0), rfl, bel.frame _, fun h => by cases h⟩

set_option maxHeartbeats 4000000 in
set_option maxRecDepth 1000000 in
theorem closed : joinedFacts Tryd.pinned.checked.prog 4 Tryd.f4 Rows.digestRegeneratesSpec Rows.digestRegeneratesRow = true := by
  unfold joinedFacts
  refine (Facts.and2 (Facts.and2 (Facts.and2 (Facts.and2 (Facts.and2 (Facts.and2 (Facts.and2 (Facts.and2 (Facts.and2 (Facts.and2 (Facts.and2 (Facts.and2 (Facts.and2 (Facts.and2 (Facts.and2 (Facts.and2 (Facts.and2 (Facts.and2 (Facts.and2 (Facts.and2 (Facts.and2 (Facts.and2 (Facts.and2 (Facts.and2 (Facts.and2 (Facts.and2 (Facts.and2 (Facts.and2 (Facts.and2 (Facts.and2 (Facts.and2 ?_ Facts.laidOut) Facts.mapsR) ?_) ?_) ?_) Facts.stops) ?_) Facts.knobs) ?_) ?_) ?_) ?_) ?_) ?_) ?_) ?_) ?_) ?_) ?_) ?_) ?_) Facts.keys) ?_) Facts.heard) Facts.enter) ?_) ?_) ?_) ?_) ?_) ?_)
  all_goals (as_aux_lemma => kernel_rfl)

theorem over : Rows.digestRegeneratesRow.holds Tryd.pinned (OpenSpec.ofChange Rows.digestRegeneratesSpec) :=
  OpenClaim.holds_of_wide 4 Tryd.f4 rfl rfl rfl rfl rfl rfl rfl ⟨rfl, rfl, rfl, rfl, rfl⟩ rfl rfl rfl rfl rfl (by as_aux_lemma => kernel_rfl) Tryd.func4 closed
    (of_decide_eq_true (by as_aux_lemma => kernel_rfl)) (by unfold Func.isWrapper; first | (rw [if_pos (by decide +kernel)]; kernel_rfl) | (rw [if_neg (by decide +kernel)]; exact ⟨rfl, rfl⟩))
    (fun os started H enc _ => lifted os started H enc)
end Go.Proofs.YtahnihihfheegaaDoor.digestRegenerates
namespace Go.Proofs.YtahnihihfheegaaDoor
open Go
set_option maxHeartbeats 4000000 in
set_option maxRecDepth 1000000 in
theorem digestRegenerates_holds : Rows.DigestRegeneratesCardSaid :=
  Claim7.holds_tied_plain_at .later [] [.data, .data, .data] true (true, "48bf63a4ac8f49fd2bf19fc74a41542f9b69bd07c9d5103313011b9f93b68b52") false
    digestRegenerates.over (fun _ h => by cases h) (by as_aux_lemma => kernel_rfl) (fun _ h => by cases h) digestRegenerates_row_tie rfl ⟨rfl, rfl⟩ (by as_aux_lemma => kernel_rfl) rfl
    (fun f fn hf hfn => by
      obtain rfl : f = 4 := Option.some.inj ((show Tryd.prog.funcNamed "stolon/stolonlaw02.DigestRegenerates" = some 4 by as_aux_lemma => kernel_rfl).symm.trans hf) |>.symm
      obtain rfl : fn = Tryd.f4 := (Option.some.inj (Tryd.func4.symm.trans hfn)).symm
      exact ⟨by as_aux_lemma => kernel_rfl, fun j t ht => by
        rw [Tryd.params4] at ht
        rcases j with _ | j
        · obtain rfl : t = 31 := by simpa using ht.symm
          exact (show Tryd.prog.wantsStandIn 31 = false by as_aux_lemma => kernel_rfl)
        · simp at ht⟩)
    (by as_aux_lemma => kernel_rfl)
#print axioms digestRegenerates_holds
end Go.Proofs.YtahnihihfheegaaDoor
