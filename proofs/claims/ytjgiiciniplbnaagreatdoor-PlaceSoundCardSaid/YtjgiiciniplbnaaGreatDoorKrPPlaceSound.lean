/-
  PlaceSound: for every input the call returns true, and each argument reads behind it as before; the listed variables hold what the program's text lays (tied). No other condition.
-/
import Derived.Test.YtjgiiciniplbnaaGreatDoorKr3
import Derived.Deep.DeepCutAuto
import Derived.Test.YtjgiiciniplbnaaGreatDoorKa3
import Derived.Test.YtjgiiciniplbnaaGreatDoorKa1
import Derived.ChangeKeysEq
import Derived.OpenShut
import Derived.WideShapes
import Derived.Test.YtjgiiciniplbnaaGreatDoorCards
import Derived.Test.YtjgiiciniplbnaaGreatDoorTie
import Derived.ShutString
import Derived.ChangeOld
import Derived.Below
namespace Go.Proofs.YtjgiiciniplbnaaGreatDoor
open Go Go.RowKit Go.Lib Go.Sort
set_option linter.unusedVariables false

theorem fld_at {w w' : World} {fb : Nat} (h : Fld w fb) (k : fb < w.heap.size → w'.heap[fb]? = w.heap[fb]?) : Fld w' fb := h.elim (fun h => .inl ((k (lt_of_heap h)).trans h)) (fun h => .inr ((k (lt_of_heap h)).trans h))
/-- the loop's state -/
def SoI (w w1 wr : World) (gb fb B : Nat) (obj : List Nat) (i : Nat) : Prop := ∃ g : Gs, GsAt g gb fb B obj wr ∧ g.Good obj ∧ g.ps.length ≤ i ∧ Fld wr fb ∧ Below w1.heap.size w1 wr
theorem OfQ.at36 (q : OfQ) (h : q.od.length = 32) : q.cells[36]? = some (.slice q.ma q.mm q.mc) := by
  unfold OfQ.cells ocells
  rw [List.getElem?_append_left (by rw [mcells_length _ _ _ _ _ _ h]; omega)]
  unfold mcells
  rw [List.getElem?_append_right (by simp [u8s, h])]
  simp [u8s, h]
theorem OfQ.atM (q : OfQ) (h : q.od.length = 32) (j : Nat) (hj : j < 37) : q.cells[j]? = (mcells q.k q.n q.t q.s q.od (.slice q.ma q.mm q.mc))[j]? := by
  unfold OfQ.cells ocells
  rw [List.getElem?_append_left (by rw [mcells_length _ _ _ _ _ _ h]; omega)]
theorem OfQ.atP (q : OfQ) (h : q.od.length = 32) (j : Nat) : q.cells[37 + j]? = ([.int .i64 q.x, .slice q.pa q.pn q.pc, .int .i64 q.i] : List Value)[j]? := by
  unfold OfQ.cells ocells
  rw [List.getElem?_append_right (by rw [mcells_length _ _ _ _ _ _ h]; omega), mcells_length _ _ _ _ _ _ h]
  congr 1
  omega
set_option maxRecDepth 100000 in
set_option maxHeartbeats 16000000 in
theorem so_walk (w : World) (V : Vars w shaRound shaStart) (obj : List Nat) (ho : obj.length = 32) (hb : ∀ y ∈ obj, y < 256) (oa : Option Addr) (on oc : Nat) (q : Nat → OfQ) (hO : Ofs w oa on q) :
    Calls Tryz.prog 14 #[.agg (u8s obj).toArray, .slice oa on oc] w fun e w' => e = .returned (.bool true) ∧ Below w.heap.size w w' := by
  obtain ⟨w1, hw1⟩ : ∃ y, y = w.alloc (.cells (u8s obj).toArray 23) := ⟨_, rfl⟩
  obtain ⟨b, hbe⟩ : ∃ y, y = w.heap.size := ⟨_, rfl⟩
  have hb1 : Below w.heap.size w w1 := by rw [hw1]; exact (Below.refl _ _).alloc (Nat.le_refl _) _
  have HR0 := hid (show OwnD w1 b obj from by rw [hw1, hbe]; exact heap_new _ _)
  have HRD := hid (show ∀ wx : World, Below w1.heap.size w1 wx → wx.rangeAt b 0 (u8s obj) from fun wx h => range_own ((h.block _ (lt_of_heap HR0.out)).trans HR0.out))
  have HIF := hid (infoD obj ho)
  have HB1 := hid hb1
  have HV := hid (V.below hb1)
  have HOF := hid (hO.belowW hb1)
  have HBB := hid hbe
  have HW1 := hid hw1
  have HO := hid ho
  have hlow : 3 ≤ w.heap.size := V.lt
  have HLO := hid hlow
  have HEND := hid (fun (wx : World) (h : Below w1.heap.size w1 wx) => (known_pl wx (HV.out.below h)).mono fun e w' (q : e = .returned (.bool true) ∧ Below wx.heap.size wx w') => (⟨q.1, HB1.out.trans ((h.trans (q.2.mono h.size)).mono HB1.out.size)⟩ : e = .returned (.bool true) ∧ Below w.heap.size w w'))
  clear V hw1 hbe hb1 hO ho hb hlow
  go_enter Tryz.func14, Tryz.ntmps14
  go_upto_region 1 with fail
  change Code.wp _ _ _ _ (w.alloc (.cells (u8s obj).toArray 23))
  rw [← HW1.out, ← HBB.out]
  clear HW1
  rcases Nat.lt_or_ge 20 on with hs0 | hs0
  · have hs0' : (20 : Int) < (on : Int) := by omega
    go_wp2_with fail
    refine (HEND.out _ (Below.refl _ _)).mono ?_
    rintro e w4 ⟨rfl, hb4⟩
    go_wp2_with fail
    go_ret
    exact ⟨rfl, hb4⟩
  have hs0' : ¬ (20 : Int) < (on : Int) := by omega
  go_wp2_with fail
  refine (newField_any w1).mono ?_
  rintro e w2 ⟨rfl, hF, hb2⟩
  obtain ⟨fb, hfb⟩ : ∃ y, y = w1.heap.size := ⟨_, rfl⟩
  rw [← hfb] at hF ⊢
  have HFL2 := hid (show Fld w2 fb from .inl hF)
  have HB2 := hid hb2
  have hfl : fb < w2.heap.size := lt_of_heap hF
  have HFB := hid hfb
  have HFLT := hid hfl
  clear hF hb2 hfb hfl
  go_wp2_with (refine wpList_load_mid (by rfl) 23 (.tmp 2) (by rfl) b 0 (by rfl) (u8s obj) _ (HRD.out _ HB2.out) Tryz.underlying23 rfl HIF.out ?_)
  refine (NewGather_any obj HO.out w2).mono ?_
  rintro e w3 ⟨rfl, hG, hb3⟩
  obtain ⟨gb, hgb⟩ : ∃ y, y = w2.heap.size + 1 := ⟨_, rfl⟩
  rw [← hgb] at hG ⊢
  obtain ⟨B, hBe⟩ : ∃ y, y = w3.heap.size := ⟨_, rfl⟩
  have HGB := hid (show w1.heap.size < gb from by have := HB2.out.size; omega)
  have HST := hid (show SoI w w1 w3 gb fb B obj 0 from ⟨Gs.empty, by rw [hBe]; exact GsAt.new HO.out (by have := HFLT.out; omega) (Nat.lt_of_lt_of_le HFLT.out hb3.size) hG, fun h => absurd rfl h, Nat.le_refl _, fld_belowA HFL2.out hb3, HB2.out.trans (hb3.mono HB2.out.size)⟩)
  have HS0 := hid hs0
  clear hG hb3 hgb hBe hs0 hs0' HFL2 HB2
  go_wp2_with fail
  go_loopw [7] (fun iv wx => ∃ i : Nat, i ≤ on ∧ iv = .int .i64 i ∧ Hid (SoI w w1 wx gb fb B obj i)) (fun iv _ => on - (intOf iv).toNat)
  case atStart => exact ⟨0, by omega, rfl, HST⟩
  case round =>
    obtain ⟨i, hi, rfl, HI⟩ := hrel
    obtain ⟨wq, rfl⟩ : ∃ y, y = wr := ⟨wr, rfl⟩
    rcases Nat.lt_or_ge i on with hin | hin
    case inr =>
      have hin' : ¬ (i : Int) < (on : Int) := by omega
      obtain ⟨g, _, _, _, _, hbel⟩ := HI.out
      have HBL := hid hbel
      clear hbel
      go_wp2_with fail
      refine (HEND.out _ HBL.out).mono ?_
      rintro e w4 ⟨rfl, hb4⟩
      go_wp2_with fail
      go_ret
      exact ⟨rfl, hb4⟩
    case inl => as_aux_lemma =>
      have hin' : (i : Int) < (on : Int) := by omega
      obtain ⟨ob, oo, rfl, hob, hoc⟩ := HOF.out (by omega)
      have HCELL := hid (show ∀ wx : World, Below w1.heap.size w1 wx → ∀ j, j < 40 → wx.cell? ⟨ob, oo + i * 40 + j, none⟩ = (q i).cells[j]? from fun wx h j hj => (h.cell hob).trans ((hoc i hin).2 j hj))
      have HIN := hid (hoc i hin).1
      clear hob hoc
      obtain ⟨g, hgs, hgo, hgl, hfl, hbel⟩ := HI.out
      obtain ⟨Q, hQ⟩ : ∃ y, y = q i := ⟨_, rfl⟩
      rw [← hQ] at HCELL HIN
      obtain ⟨R, hR⟩ : ∃ y, y = oo + i * 40 := ⟨_, rfl⟩
      have HQM := hid (show ∀ wx : World, Below w1.heap.size w1 wx → wx.rangeAt ob R (mcells Q.k Q.n Q.t Q.s Q.od (.slice Q.ma Q.mm Q.mc)) from fun wx h j v hj => by
        have hl : j < 37 := by have := (List.getElem?_eq_some_iff.1 hj).1; rw [mcells_length _ _ _ _ _ _ HIN.out.ho] at this; exact this
        rw [hR, HCELL.out wx h j (by omega), Q.atM HIN.out.ho j hl]
        exact hj)
      have HQC := hid (show ∀ wx : World, Below w1.heap.size w1 wx → wx.cell? ⟨ob, R + 36, none⟩ = some (.slice Q.ma Q.mm Q.mc) ∧ wx.cell? ⟨ob, R + 37, none⟩ = some (.int .i64 Q.x) ∧ wx.cell? ⟨ob, R + 37 + 1, none⟩ = some (.slice Q.pa Q.pn Q.pc) ∧ wx.cell? ⟨ob, R + 39, none⟩ = some (.int .i64 Q.i) from fun wx h => by
        rw [hR]
        refine ⟨(HCELL.out wx h 36 (by omega)).trans (Q.at36 HIN.out.ho), (HCELL.out wx h 37 (by omega)).trans (Q.atP HIN.out.ho 0), ?_, (HCELL.out wx h 39 (by omega)).trans (Q.atP HIN.out.ho 2)⟩
        rw [Nat.add_assoc (oo + i * 40)]
        exact (HCELL.out wx h 38 (by omega)).trans (Q.atP HIN.out.ho 1))
      have HR := hid hR
      have HGS := hid hgs
      have HGO := hid hgo
      have HFL := hid hfl
      have HBL := hid hbel
      have HBL0 := hid hbel
      have HGL := hid (show g.ps.length ≤ 20 from by have := HS0.out; omega)
      have HGLi := hid hgl
      obtain ⟨c36, c37, c38, c39⟩ := HQC.out wq HBL.out
      rw [hR] at c36 c37 c38 c39
      have HC39 := hid (show ∀ wx : World, Below w1.heap.size w1 wx → wx.cell? ⟨ob, oo + i * 40 + 39, none⟩ = some (.int .i64 Q.i) from fun wx h => (HCELL.out wx h 39 (by omega)).trans (Q.atP HIN.out.ho 2))
      clear hgs hgo hgl hfl hbel HI hQ HCELL hR
      rcases Nat.lt_or_ge 60 Q.mm with hm0 | hm0
      · have hm0' : (60 : Int) < (Q.mm : Int) := by omega
        go_wp2_with fail
        refine (HEND.out _ HBL.out).mono ?_
        rintro e w4 ⟨rfl, hb4⟩
        go_wp2_with fail
        go_ret
        exact ⟨rfl, hb4⟩
      have hm0' : ¬ (60 : Int) < (Q.mm : Int) := by omega
      rcases Nat.lt_or_ge 2000 Q.pn with hp0 | hp0
      · have hp0' : (2000 : Int) < (Q.pn : Int) := by omega
        go_wp2_with fail
        refine (HEND.out _ HBL.out).mono ?_
        rintro e w4 ⟨rfl, hb4⟩
        go_wp2_with fail
        go_ret
        exact ⟨rfl, hb4⟩
      have hp0' : ¬ (2000 : Int) < (Q.pn : Int) := by omega
      obtain ⟨M, hMe⟩ : ∃ y, y = (mcells Q.k Q.n Q.t Q.s Q.od (.slice Q.ma Q.mm Q.mc)).toArray := ⟨_, rfl⟩
      have HKP := hid (show ∀ wx : World, Below w1.heap.size w1 wx → (loadVar 62 ⟨ob, oo + i * 40, none⟩).run Tryz.prog wx = .ok (.agg M) wx ∧ (loadVar 68 ⟨ob, oo + i * 40 + 37, none⟩).run Tryz.prog wx = .ok (.agg #[.int .i64 Q.x, .slice Q.pa Q.pn Q.pc]) wx from fun wx h => by
        obtain ⟨_, d37, d38, _⟩ := HQC.out wx h
        rw [hMe, ← HR.out]
        refine ⟨run_loadVar_mid (P := Tryz.prog) wx ob R 62 _ _ (HQM.out wx h) Tryz.underlying62 rfl (by rw [mcells_length _ _ _ _ _ _ HIN.out.ho]; kernel_rfl), run_loadVar_mid (P := Tryz.prog) wx ob (R + 37) 68 [.int .i64 Q.x, .slice Q.pa Q.pn Q.pc] _ (fun j v hj => ?_) Tryz.underlying68 rfl (by show _ = some 2; kernel_rfl)⟩
        match j, hj with
        | 0, hj => exact d37.trans (by simpa using hj)
        | 1, hj => exact d38.trans (by simpa using hj))
      have HOW := hid (fun (wx : World) (hx : Below wq.heap.size wq wx) => own_pl Q.k Q.n Q.t Q.s Q.od Q.ma Q.mm Q.mc Q.D Q.x Q.pa Q.pn Q.pc Q.l wx HIN.out.ho ((HIN.out.hd.below HBL0.out).below hx) (by omega) ((HIN.out.hl.1.below HBL0.out).below hx) HIN.out.hl.2.2 (by omega))
      rw [← hMe] at HOW
      clear hMe HQC HQM HR
      go_upto_region 10 with fail
      clear c36 c37 c38 c39 hm0' hp0'
      go_cut [] (fun wx => Hid (SoI w w1 wx gb fb B obj (i + 1)))
      case first =>
        as_aux_lemma =>
        refine wp_region_held_drew (S := (fun wx : World => (loadVar 62 ⟨ob, oo + i * 40, none⟩).run Tryz.prog wx = .ok (.agg M) wx ∧ (loadVar 68 ⟨ob, oo + i * 40 + 37, none⟩).run Tryz.prog wx = .ok (.agg #[.int .i64 Q.x, .slice Q.pa Q.pn Q.pc]) wx)) (by kernel_rfl) (HKP.out _ (bel_drewN HBL.out 1)) (fun hHeld => ?_)
        refine wpAnyH_take (i := 0) (oi := { dst := some 48, op := Op.move (Operand.tmp 6), type := 58, pos := "plain.go:280", after := #[], guard := none }) (v := ?_) rfl (by kernel_rfl) (by kernel_rfl) (by kernel_rfl) (fun _ _ _ h => h) (Or.inl ⟨by rfl, ?hy⟩) hHeld ?_
        case hy => (intro w hSw; (try dsimp only at hSw); obtain ⟨_, _⟩ := hSw; go_simp; all_goals (with_reducible rfl))
        try simp only [Act.put, List.setIfInBounds_toArray, List.set_cons_zero, List.set_cons_succ]
        refine wpAnyH_take (i := 1) (oi := { dst := some 49, op := Op.move (Operand.tmp 1), type := 55, pos := "plain.go:280", after := #[], guard := none }) (v := ?_) rfl (by kernel_rfl) (by kernel_rfl) (by kernel_rfl) (fun _ _ _ h => h) (Or.inl ⟨by rfl, ?hy⟩) hHeld ?_
        case hy => (intro w hSw; (try dsimp only at hSw); obtain ⟨_, _⟩ := hSw; go_simp; all_goals (with_reducible rfl))
        try simp only [Act.put, List.setIfInBounds_toArray, List.set_cons_zero, List.set_cons_succ]
        refine wpAnyH_take (i := 2) (oi := { dst := some 50, op := Op.move (Operand.tmp 7), type := 3, pos := "plain.go:280", after := #[], guard := none }) (v := ?_) rfl (by kernel_rfl) (by kernel_rfl) (by kernel_rfl) (fun _ _ _ h => h) (Or.inl ⟨by rfl, ?hy⟩) hHeld ?_
        case hy => (intro w hSw; (try dsimp only at hSw); obtain ⟨_, _⟩ := hSw; go_simp; all_goals (with_reducible rfl))
        try simp only [Act.put, List.setIfInBounds_toArray, List.set_cons_zero, List.set_cons_succ]
        refine wpAnyH_take (i := 3) (oi := { dst := some 51, op := Op.indexAddr 55 (Operand.tmp 49) (Operand.tmp 50), type := 0, pos := "plain.go:280", after := #[{ on := 1, ground := Ground.data }, { on := 2, ground := Ground.data }], guard := none }) (v := ?_) rfl (by kernel_rfl) (by kernel_rfl) (by kernel_rfl) (fun _ _ _ h => h) (Or.inl ⟨by rfl, ?hy⟩) hHeld ?_
        case hy => (intro w hSw; (try dsimp only at hSw); obtain ⟨_, _⟩ := hSw; go_simp; all_goals (with_reducible rfl))
        try simp only [Act.put, List.setIfInBounds_toArray, List.set_cons_zero, List.set_cons_succ]
        refine wpAnyH_take (i := 4) (oi := { dst := some 52, op := Op.fieldAddr 70 (Operand.tmp 51) 0, type := 0, pos := "plain.go:280", after := #[{ on := 3, ground := Ground.data }], guard := none }) (v := ?_) rfl (by kernel_rfl) (by kernel_rfl) (by kernel_rfl) (fun _ _ _ h => h) (Or.inl ⟨by rfl, ?hy⟩) hHeld ?_
        case hy => (intro w hSw; (try dsimp only at hSw); obtain ⟨_, _⟩ := hSw; go_simp; all_goals (with_reducible rfl))
        try simp only [Act.put, List.setIfInBounds_toArray, List.set_cons_zero, List.set_cons_succ]
        refine wpAnyH_take (i := 5) (oi := { dst := some 53, op := Op.load 62 (Operand.tmp 52), type := 62, pos := "plain.go:280", after := #[{ on := 4, ground := Ground.data }], guard := none }) (v := .agg M) rfl (by kernel_rfl) (by kernel_rfl) (by kernel_rfl) (fun _ _ _ h => h) (Or.inl ⟨by rfl, ?hy⟩) hHeld ?_
        case hy => (intro w hSw; exact run_load_opP hSw.1)
        try simp only [Act.put, List.setIfInBounds_toArray, List.set_cons_zero, List.set_cons_succ]
        refine wpAnyH_take (i := 6) (oi := { dst := some 54, op := Op.move (Operand.tmp 1), type := 55, pos := "plain.go:280", after := #[], guard := none }) (v := ?_) rfl (by kernel_rfl) (by kernel_rfl) (by kernel_rfl) (fun _ _ _ h => h) (Or.inl ⟨by rfl, ?hy⟩) hHeld ?_
        case hy => (intro w hSw; (try dsimp only at hSw); obtain ⟨_, _⟩ := hSw; go_simp; all_goals (with_reducible rfl))
        try simp only [Act.put, List.setIfInBounds_toArray, List.set_cons_zero, List.set_cons_succ]
        refine wpAnyH_take (i := 7) (oi := { dst := some 55, op := Op.move (Operand.tmp 7), type := 3, pos := "plain.go:280", after := #[], guard := none }) (v := ?_) rfl (by kernel_rfl) (by kernel_rfl) (by kernel_rfl) (fun _ _ _ h => h) (Or.inl ⟨by rfl, ?hy⟩) hHeld ?_
        case hy => (intro w hSw; (try dsimp only at hSw); obtain ⟨_, _⟩ := hSw; go_simp; all_goals (with_reducible rfl))
        try simp only [Act.put, List.setIfInBounds_toArray, List.set_cons_zero, List.set_cons_succ]
        refine wpAnyH_take (i := 8) (oi := { dst := some 56, op := Op.indexAddr 55 (Operand.tmp 54) (Operand.tmp 55), type := 0, pos := "plain.go:280", after := #[{ on := 6, ground := Ground.data }, { on := 7, ground := Ground.data }], guard := none }) (v := ?_) rfl (by kernel_rfl) (by kernel_rfl) (by kernel_rfl) (fun _ _ _ h => h) (Or.inl ⟨by rfl, ?hy⟩) hHeld ?_
        case hy => (intro w hSw; (try dsimp only at hSw); obtain ⟨_, _⟩ := hSw; go_simp; all_goals (with_reducible rfl))
        try simp only [Act.put, List.setIfInBounds_toArray, List.set_cons_zero, List.set_cons_succ]
        refine wpAnyH_take (i := 9) (oi := { dst := some 57, op := Op.fieldAddr 70 (Operand.tmp 56) 1, type := 0, pos := "plain.go:280", after := #[{ on := 8, ground := Ground.data }], guard := none }) (v := ?_) rfl (by kernel_rfl) (by kernel_rfl) (by kernel_rfl) (fun _ _ _ h => h) (Or.inl ⟨by rfl, ?hy⟩) hHeld ?_
        case hy => (intro w hSw; (try dsimp only at hSw); obtain ⟨_, _⟩ := hSw; go_simp; all_goals (with_reducible rfl))
        try simp only [Act.put, List.setIfInBounds_toArray, List.set_cons_zero, List.set_cons_succ]
        refine wpAnyH_take (i := 10) (oi := { dst := some 58, op := Op.load 68 (Operand.tmp 57), type := 68, pos := "plain.go:280", after := #[{ on := 9, ground := Ground.data }], guard := none }) (v := .agg #[.int .i64 Q.x, .slice Q.pa Q.pn Q.pc]) rfl (by kernel_rfl) (by kernel_rfl) (by kernel_rfl) (fun _ _ _ h => h) (Or.inl ⟨by rfl, ?hy⟩) hHeld ?_
        case hy => (intro w hSw; exact run_load_opP hSw.2)
        try simp only [Act.put, List.setIfInBounds_toArray, List.set_cons_zero, List.set_cons_succ]
        refine wpAnyH_ready (rs := [11]) (by kernel_rfl) (by simp) ?_
        refine AllReadyH.cons (o := { dst := some 59, op := Op.call { callee := Callee.value (Operand.func 43), args := #[Operand.tmp 53, Operand.tmp 58], argTypes := #[62, 68] }, type := 71, pos := "plain.go:280", after := #[{ on := 5, ground := Ground.data }, { on := 10, ground := Ground.data }], guard := none }) rfl (fun K hK => ?_) AllReadyH.nil
        go_simp
        refine (HOW.out _ (bel_drewN (Below.refl wq.heap.size wq) 1)).mono ?_
        rintro e w4 ⟨a3, c3, pa3, pc3, rfl, hd4, -, hp4, hc4, hn4, hl4, hb4⟩
        have HB4 := hid ((bel_drewN (Below.refl wq.heap.size wq) 1).trans hb4)
        have HD4 := hid hd4
        have HP4 := hid hp4
        have HC4 := hid hc4
        have HN4 := hid hn4
        have HL4 := hid hl4
        clear hd4 hp4 hc4 hn4 hl4 hb4
        clear hHeld
        go_wp2_with fail
        refine hK.out _ _ (HKP.out _ (HBL.out.trans (HB4.out.mono HBL.out.size))) (fun hHeld => ?_)
        clear hK K
        try simp only [Act.put, List.setIfInBounds_toArray, List.set_cons_zero, List.set_cons_succ]
        refine wpAnyH_take (i := 12) (oi := { dst := some 60, op := Op.extract (Operand.tmp 59) 0, type := 62, pos := "plain.go:280", after := #[{ on := 11, ground := Ground.data }], guard := none }) (v := ?_) rfl (by kernel_rfl) (by kernel_rfl) (by kernel_rfl) (fun _ _ _ h => h) (Or.inl ⟨by rfl, ?hy⟩) hHeld ?_
        case hy => (intro w hSw; (try dsimp only at hSw); obtain ⟨_, _⟩ := hSw; go_simp; all_goals (with_reducible rfl))
        try simp only [Act.put, List.setIfInBounds_toArray, List.set_cons_zero, List.set_cons_succ]
        refine wpAnyH_take (i := 13) (oi := { dst := some 61, op := Op.extract (Operand.tmp 59) 1, type := 68, pos := "plain.go:280", after := #[{ on := 11, ground := Ground.data }], guard := none }) (v := ?_) rfl (by kernel_rfl) (by kernel_rfl) (by kernel_rfl) (fun _ _ _ h => h) (Or.inl ⟨by rfl, ?hy⟩) hHeld ?_
        case hy => (intro w hSw; (try dsimp only at hSw); obtain ⟨_, _⟩ := hSw; go_simp; all_goals (with_reducible rfl))
        try simp only [Act.put, List.setIfInBounds_toArray, List.set_cons_zero, List.set_cons_succ]
        refine wpAnyH_ready (rs := [14]) (by kernel_rfl) (by simp) ?_
        refine AllReadyH.cons (o := { dst := some 62, op := Op.call { callee := Callee.value (Operand.func 44), args := #[Operand.tmp 48, Operand.tmp 60, Operand.tmp 61], argTypes := #[58, 62, 68] }, type := 73, pos := "plain.go:280", after := #[{ on := 0, ground := Ground.data }, { on := 12, ground := Ground.data }, { on := 13, ground := Ground.data }, { on := 11, ground := Ground.chain }], guard := none }) rfl (fun K hK => ?_) AllReadyH.nil
        go_simp
        refine (Gs_offer g gb fb B obj w4 (HGS.out.below HB4.out) HGO.out ((HV.out.below HBL.out).below HB4.out) (by have := HGL.out; omega) Q.k Q.n Q.t Q.s Q.od HIN.out.ho HIN.out.hb a3 Q.mm c3 Q.D HD4.out (by omega) Q.x HIN.out.hx pa3 Q.pn pc3 Q.l HP4.out HC4.out HN4.out (by omega) (by
          have h1 := HL4.out
          have h2 := lt_of_heap HGS.out.gth
          cases pa3 with
          | none => trivial
          | some ad => show ad.block ≠ gb; have h3 := h1 ad rfl; have h4 : (wq.drewN 1).heap.size = wq.heap.size := rfl; omega)).mono ?_
        rintro e w5 ⟨E5, g5, rfl, hg5, hgo5, hk5, hl5⟩
        have HK5 := hid (show Below w1.heap.size w4 w5 from hk5.below (Nat.le_trans HBL.out.size HB4.out.size) (by have := HGB.out; omega) (fun j hj => by have h1 := (HGS.out.below HB4.out).own j hj; have h2 := HGS.out.gB; have h3 := HGB.out; omega))
        have HB5 := hid ((HBL.out.trans (HB4.out.mono HBL.out.size)).trans HK5.out)
        have HS5 := hid (show SoI w w1 w5 gb fb B obj (i + 1) from ⟨g5, hg5, hgo5, by have := HGLi.out; omega, fld_at (fld_belowA HFL.out HB4.out) (fun hl => hk5.block fb hl (fun e => HGS.out.ne e.symm) (fun e => by have h1 := (HGS.out.below HB4.out).own fb e; have h2 := HGS.out.fB; omega)), HB5.out⟩)
        clear hg5 hgo5 hk5 hl5
        clear hHeld
        go_wp2_with fail
        refine hK.out _ _ (HKP.out _ HB5.out) (fun hHeld => ?_)
        clear hK K
        try simp only [Act.put, List.setIfInBounds_toArray, List.set_cons_zero, List.set_cons_succ]
        refine wpAnyH_done (by kernel_rfl) ?_ _
        go_wp2
        go_meet
        exact HS5
      case rest =>
      as_aux_lemma =>
      obtain ⟨w5, rfl⟩ : ∃ y, y = wc := ⟨wc, rfl⟩
      obtain ⟨g5, hg5, hgo5, hl5, hf5, hb5⟩ := hcut.out
      have HGS5 := hid hg5
      have HGO5 := hid hgo5
      have HGL5 := hid (show g5.ps.length ≤ 21 from by have := HS0.out; omega)
      have HGLi5 := hid hl5
      have HF5 := hid hf5
      have HB5 := hid hb5
      clear hg5 hgo5 hl5 hf5 hb5 hcut HGS HGO HFL HBL HBL0 HGL HGLi HKP HOW
      go_wp2_with fail
      refine (Gs_man g5 gb fb B obj w5 HGS5.out HGO5.out).mono ?_
      rintro e w6 ⟨k, n, t, s, od, ma, mm, mc, D, ok, rfl, hod, hD, hmm, hob, hml, hb6, hok, hne⟩
      have HB6 := hid hb6
      have HM3 := hid (mcells_length k n t s od (.slice ma mm mc) hod)
      have HON := hid (mcells_one k n t s od ma mm mc)
      have HI3 := hid (show (Tryz.prog.info? 62).map (·.size) = some (mcells k n t s od (.slice ma mm mc)).toArray.size from by rw [List.size_toArray, HM3.out]; kernel_rfl)
      have HSZ := hid (show mz.size = (mcells k n t s od (.slice ma mm mc)).toArray.size from by rw [mz_sizeO, List.size_toArray, HM3.out])
      have HID := hid (fun (wx : World) (h : Below w6.heap.size w6 wx) => id_any k n t s od ma mm mc D hod hob wx ((HV.out.below (HB5.out.trans (hb6.mono HB5.out.size))).below h) (hD.below h))
      have HOD := hid hod
      have HD6 := hid hD
      have HMM := hid hmm
      have HOB := hid hob
      have HML := hid hml
      have HOK := hid hok
      have HNE := hid hne
      obtain ⟨idv, hidv⟩ : ∃ y, y = idV k n t s mm od D := ⟨_, rfl⟩
      have HIL := hid (show idv.length = 32 from by rw [hidv]; exact idV_length _ _ _ _ _ _ _)
      rw [← hidv] at HID HOK
      obtain ⟨eid, heid⟩ : ∃ y, y = manE k n t s mm := ⟨_, rfl⟩
      rw [← heid] at HID HOK
      obtain ⟨M6, hM6⟩ : ∃ y, y = mcells k n t s od (.slice ma mm mc) := ⟨_, rfl⟩
      rw [← hM6] at HON HI3 HSZ HID HM3 ⊢
      have HIM := hid (show (Tryz.prog.info? 62).map (·.size) = some M6.length from by rw [HM3.out]; kernel_rfl)
      have HME := hid hM6
      have HIFI := hid (show (Tryz.prog.info? 23).map (·.size) = some (u8s idv).length from by rw [show (u8s idv).length = 32 from by simp [u8s, HIL.out]]; kernel_rfl)
      have HIFI2 := hid (show (Tryz.prog.info? 23).map (·.size) = some (u8s idv).toArray.size from by rw [show (u8s idv).toArray.size = 32 from by simp [u8s, HIL.out]]; kernel_rfl)
      have HONI := hid (show (u8s idv).toArray.all (·.oneCell') = true from all_oneCell_toArray (u8s_oneC _))
      have HSZI := hid (show ((u8s (List.replicate 32 0)).toArray : Array Value).size = (u8s idv).toArray.size from by simp [u8s, HIL.out])
      clear hod hD hmm hob hml hb6 hok hne hM6 hidv heid
      go_upto_region 12 with (refine wpList_store_row (by rfl) 62 (.tmp 8) (.tmp 66) (by rfl) w6.heap.size _ M6.toArray 62 (by rfl) (by rfl) (heap_new _ _) HI3.out HSZ.out HON.out ?_
                              intro w7 hw7 hk7)
      have HB7 := hid (show Below w6.heap.size w6 w7 from ((Below.refl w6.heap.size w6).alloc (Nat.le_refl _) (.cells mz 62)).trans (hk7.below (by simp) (Nat.le_refl _)))
      have HMW7 := hid hw7
      have HMR7 := hid (range_of_heap hw7)
      have HSM := hid (lt_of_heap hw7)
      clear hw7 hk7
      go_wp2_with (refine wpList_load_mid (by rfl) 62 (.tmp 8) (by rfl) w6.heap.size 0 (by rfl) M6 _ HMR7.out Tryz.underlying62 rfl HIM.out ?_)
      refine (HID.out w7 HB7.out).mono ?_
      rintro e w8 ⟨rfl, hb8⟩
      have HB8 := hid hb8
      clear hb8
      go_upto_region 13 with (refine wpList_store_row (by rfl) 23 (.tmp 10) (.tmp 71) (by rfl) w8.heap.size (u8s (List.replicate 32 0)).toArray (u8s idv).toArray 23 (by rfl) (by rfl) (heap_new w8 _) HIFI2.out HSZI.out HONI.out ?_
                              intro w9 hw9 hk9)
      have HB9 := hid (show Below w7.heap.size w7 w9 from HB8.out.trans (((Below.refl w8.heap.size w8).alloc (Nat.le_refl _) (.cells (u8s (List.replicate 32 0)).toArray 23)).trans (hk9.below (by simp) (Nat.le_refl _)) |>.mono HB8.out.size))
      have HDR9 := hid (range_of_heap hw9)
      have HMW9 := hid ((HB9.out.block _ (lt_of_heap HMW7.out)).trans HMW7.out)
      have HB59 := hid (show Below w5.heap.size w5 w9 from (HB6.out.trans (HB7.out.mono HB6.out.size)).trans (HB9.out.mono (Nat.le_trans HB6.out.size HB7.out.size)))
      have HB19 := hid (HB5.out.trans (HB59.out.mono HB5.out.size))
      clear hw9 hk9
      obtain ⟨wp, hwp⟩ : ∃ y, y = w9 := ⟨_, rfl⟩
      rw [← hwp] at HB9 HDR9 HMW9 HB59 HB19 ⊢
      clear hwp
      go_cut [78] (fun v wx => v = .bool false ∧ Hid (wx = wp))
      case first =>
        as_aux_lemma =>
        cases ok with
        | false =>
          go_wp2_with fail
          go_meet
          exact ⟨rfl, hid rfl⟩
        | true =>
          have e1 := eql_any idv obj HIL.out HO.out wp
          rw [decide_eq_true (HOK.out rfl).2.1] at e1
          go_wp2_with (first
            | (refine wpList_load_wantA (by rfl) 23 (.tmp 10) (by rfl) w8.heap.size 0 (by rfl) (u8s idv) _ HDR9.out Tryz.underlying23 rfl HIFI.out ?_)
            | (refine wpList_load_wantA (by rfl) 23 (.tmp 2) (by rfl) b 0 (by rfl) (u8s obj) _ (HRD.out _ HB19.out) Tryz.underlying23 rfl HIF.out ?_))
          go_meet
          exact ⟨rfl, hid rfl⟩
      case rest =>
      as_aux_lemma =>
      obtain ⟨rfl, hwc⟩ := hcut
      rw [hwc.out]
      clear hwc
      go_wp2_with fail
      refine (Gs_data g5 gb fb B obj wp (HGS5.out.below HB59.out) ((HV.out.below HB5.out).below HB59.out) (fld_belowA HF5.out HB59.out) (by rw [HFB.out]; exact Nat.le_trans HLO.out HB1.out.size) (by have := HGL5.out; omega)).mono ?_
      rintro e w10 ⟨E, L, ⟨ra, rc, rfl, hbl, hlr, hnr⟩, hf10, hk10, hE⟩
      have HBL10 := hid hbl
      have HLR10 := hid hlr
      have HNR10 := hid hnr
      have HF10 := hid hf10
      have HK10 := hid hk10
      have HE10 := hid hE
      clear hbl hlr hnr hf10 hk10 hE
      go_upto_region 16 with fail
      have HV10 := hid (((HV.out.below HB5.out).below HB59.out).kept HK10.out (show 3 ≤ fb from by rw [HFB.out]; exact Nat.le_trans HLO.out HB1.out.size))
      have HGS10 := hid ((HGS5.out.below HB59.out).kept HK10.out)
      have HMB := hid (show w6.heap.size ≠ fb from by have h1 := HGS5.out.fB; have h2 := HGS5.out.bw; have h3 := HB6.out.size; omega)
      have HMW10 := hid ((HK10.out.block _ (lt_of_heap HMW9.out) HMB.out).trans HMW9.out)
      have HB110 := hid (show Below w1.heap.size w1 w10 from HB19.out.trans (HK10.out.below HB19.out.size (by rw [HFB.out]; exact Nat.le_refl _)))
      obtain ⟨mb, hmb⟩ : ∃ y, y = w6.heap.size := ⟨_, rfl⟩
      rw [← hmb] at HMW10 HMB ⊢
      clear hmb
      have HMF := hid (show ∀ wx : World, Below w10.heap.size w10 wx → (loadVar 23 ⟨mb, 4, none⟩).run Tryz.prog wx = .ok (.agg (u8s od).toArray) wx ∧ wx.cell? ⟨mb, 3, none⟩ = some (.int .i64 s) ∧ wx.cell? ⟨mb, 0, none⟩ = some (.int .i64 k) from fun wx h => by
        have hb := (h.block _ (lt_of_heap HMW10.out)).trans HMW10.out
        rw [HME.out] at hb
        have hr := range_of_heap hb
        have hc : ∀ j v, (mcells k n t s od (.slice ma mm mc))[j]? = some v → wx.cell? ⟨mb, j, none⟩ = some v := fun j v hj => by have := hr j v hj; rwa [Nat.zero_add] at this
        refine ⟨run_loadVar_mid (P := Tryz.prog) wx mb 4 23 (u8s od) _ (fun j v hj => hc (4 + j) v ?_) Tryz.underlying23 rfl (infoD od HOD.out), hc 3 _ rfl, hc 0 _ rfl⟩
        unfold mcells
        rw [List.append_assoc, List.getElem?_append_right (by simp), List.getElem?_append_left (by simp; exact (List.getElem?_eq_some_iff.1 hj).1)]
        simpa using hj)
      go_cut [112] (fun v wx => v = .bool false ∧ Hid (Below w10.heap.size w10 wx))
      case first =>
        as_aux_lemma =>
        by_cases hE0 : E = 0
        · obtain ⟨hps, hs8, hlen, hdg, hkp⟩ := HE10.out hE0
          obtain ⟨rfl, ek, en, et, es, eo, em, eD⟩ := HNE.out hps
          rw [← es] at hs8 hlen
          rw [← eo] at hdg
          rw [← ek] at hkp
          have HSQ := hid (fun (wx : World) (h : Below w10.heap.size w10 wx) => SHA256_any ra L.length rc shaRound shaStart L wx (HV10.out.below h) (HBL10.out.below h) HLR10.out (by omega))
          rw [hdg] at HSQ
          have HIX := hid (fun (wx : World) (h : Below w10.heap.size w10 wx) => Gs_indices g5 gb fb B obj wx (HGS10.out.below h) (by have := HGL5.out; omega))
          have e1 := fun wx => eql_any od od HOD.out HOD.out wx
          simp only [decide_true] at e1
          have n1 : ((L.length : Int) != s) = false := by rw [bne_eq_false_iff_eq]; exact hlen
          have n2 : ¬ (g5.ps.length : Int) < k := by omega
          subst hE0
          clear hps hs8 hlen hdg hkp ek en et es eo em eD
          refine wp_region_held_drew (S := (fun wx : World => (loadVar 23 ⟨mb, 4, none⟩).run Tryz.prog wx = .ok (.agg (u8s od).toArray) wx ∧ wx.cell? ⟨mb, 3, none⟩ = some (.int .i64 s) ∧ wx.cell? ⟨mb, 0, none⟩ = some (.int .i64 k))) (by kernel_rfl) (HMF.out _ (bel_drewN (Below.refl w10.heap.size w10) 1)) (fun hHeld => ?_)
          refine wpAnyH_take (i := 0) (oi := { dst := some 85, op := Op.move (Operand.tmp 13), type := 73, pos := "plain.go:286", after := #[], guard := none }) (v := ?_) rfl (by kernel_rfl) (by kernel_rfl) (by kernel_rfl) (fun _ _ _ h => h) (Or.inl ⟨by rfl, ?hy⟩) hHeld ?_
          case hy => (intro w hSw; (try dsimp only at hSw); obtain ⟨_, _, _⟩ := hSw; go_simp; all_goals (with_reducible rfl))
          try simp only [Act.put, List.setIfInBounds_toArray, List.set_cons_zero, List.set_cons_succ]
          refine wpAnyH_take (i := 1) (oi := { dst := some 86, op := Op.binOp BinOp.eql 73 (Operand.tmp 85) (Operand.const (Value.int IntKind.i64 0)) 73, type := 4, pos := "plain.go:286", after := #[{ on := 0, ground := Ground.data }], guard := none }) (v := ?_) rfl (by kernel_rfl) (by kernel_rfl) (by kernel_rfl) (fun _ _ _ h => h) (Or.inl ⟨by rfl, ?hy⟩) hHeld ?_
          case hy => (intro w hSw; (try dsimp only at hSw); obtain ⟨_, _, _⟩ := hSw; go_simp; all_goals (with_reducible rfl))
          try simp only [Act.put, List.setIfInBounds_toArray, List.set_cons_zero, List.set_cons_succ]
          refine wpAnyH_take (i := 2) (oi := { dst := some 87, op := Op.move (Operand.tmp 86), type := 4, pos := "plain.go:286", after := #[{ on := 1, ground := Ground.data }], guard := none }) (v := ?_) rfl (by kernel_rfl) (by kernel_rfl) (by kernel_rfl) (fun _ _ _ h => h) (Or.inl ⟨by rfl, ?hy⟩) hHeld ?_
          case hy => (intro w hSw; (try dsimp only at hSw); obtain ⟨_, _, _⟩ := hSw; go_simp; all_goals (with_reducible rfl))
          try simp only [Act.put, List.setIfInBounds_toArray, List.set_cons_zero, List.set_cons_succ]
          refine wpAnyH_take (i := 3) (oi := { dst := some 88, op := Op.move (Operand.tmp 9), type := 4, pos := "plain.go:286", after := #[{ on := 2, ground := Ground.guard }], guard := some (2, true) }) (v := ?_) rfl (by kernel_rfl) (by kernel_rfl) (by kernel_rfl) (fun _ _ _ h => h) (Or.inl ⟨by rfl, ?hy⟩) hHeld ?_
          case hy => (intro w hSw; (try dsimp only at hSw); obtain ⟨_, _, _⟩ := hSw; go_simp; all_goals (with_reducible rfl))
          try simp only [Act.put, List.setIfInBounds_toArray, List.set_cons_zero, List.set_cons_succ]
          refine wpAnyH_take (i := 4) (oi := { dst := some 89, op := Op.unOp UnOp.not 4 (Operand.tmp 88), type := 4, pos := "plain.go:286", after := #[{ on := 3, ground := Ground.data }, { on := 2, ground := Ground.guard }], guard := some (2, true) }) (v := ?_) rfl (by kernel_rfl) (by kernel_rfl) (by kernel_rfl) (fun _ _ _ h => h) (Or.inl ⟨by rfl, ?hy⟩) hHeld ?_
          case hy => (intro w hSw; (try dsimp only at hSw); obtain ⟨_, _, _⟩ := hSw; go_simp; all_goals (with_reducible rfl))
          try simp only [Act.put, List.setIfInBounds_toArray, List.set_cons_zero, List.set_cons_succ]
          refine wpAnyH_take (i := 5) (oi := { dst := some 90, op := Op.move (Operand.tmp 89), type := 4, pos := "plain.go:286", after := #[{ on := 4, ground := Ground.data }, { on := 2, ground := Ground.chain }, { on := 2, ground := Ground.guard }], guard := some (2, true) }) (v := ?_) rfl (by kernel_rfl) (by kernel_rfl) (by kernel_rfl) (fun _ _ _ h => h) (Or.inl ⟨by rfl, ?hy⟩) hHeld ?_
          case hy => (intro w hSw; (try dsimp only at hSw); obtain ⟨_, _, _⟩ := hSw; go_simp; all_goals (with_reducible rfl))
          try simp only [Act.put, List.setIfInBounds_toArray, List.set_cons_zero, List.set_cons_succ]
          refine wpAnyH_take (i := 6) (oi := { dst := some 91, op := Op.move (Operand.tmp 12), type := 66, pos := "plain.go:286", after := #[{ on := 5, ground := Ground.guard }], guard := some (5, false) }) (v := ?_) rfl (by kernel_rfl) (by kernel_rfl) (by kernel_rfl) (fun _ _ _ h => h) (Or.inl ⟨by rfl, ?hy⟩) hHeld ?_
          case hy => (intro w hSw; (try dsimp only at hSw); obtain ⟨_, _, _⟩ := hSw; go_simp; all_goals (with_reducible rfl))
          try simp only [Act.put, List.setIfInBounds_toArray, List.set_cons_zero, List.set_cons_succ]
          refine wpAnyH_take (i := 8) (oi := { dst := some 93, op := Op.fieldAddr 62 (Operand.tmp 8) 4, type := 0, pos := "plain.go:286", after := #[{ on := 5, ground := Ground.guard }], guard := some (5, false) }) (v := ?_) rfl (by kernel_rfl) (by kernel_rfl) (by kernel_rfl) (fun _ _ _ h => h) (Or.inl ⟨by rfl, ?hy⟩) hHeld ?_
          case hy => (intro w hSw; (try dsimp only at hSw); obtain ⟨_, _, _⟩ := hSw; go_simp; all_goals (with_reducible rfl))
          try simp only [Act.put, List.setIfInBounds_toArray, List.set_cons_zero, List.set_cons_succ]
          refine wpAnyH_take (i := 9) (oi := { dst := some 94, op := Op.load 23 (Operand.tmp 93), type := 23, pos := "plain.go:286", after := #[{ on := 8, ground := Ground.data }, { on := 5, ground := Ground.guard }], guard := some (5, false) }) (v := .agg (u8s od).toArray) rfl (by kernel_rfl) (by kernel_rfl) (by kernel_rfl) (fun _ _ _ h => h) (Or.inl ⟨by rfl, ?hy⟩) hHeld ?_
          case hy => (intro w hSw; exact run_load_opP hSw.1)
          try simp only [Act.put, List.setIfInBounds_toArray, List.set_cons_zero, List.set_cons_succ]
          refine wpAnyH_ready (rs := [7]) (by kernel_rfl) (by simp) ?_
          refine AllReadyH.cons (o := { dst := some 92, op := Op.call { callee := Callee.value (Operand.func 60), args := #[Operand.tmp 91], argTypes := #[66] }, type := 23, pos := "plain.go:286", after := #[{ on := 6, ground := Ground.data }, { on := 5, ground := Ground.chain }, { on := 5, ground := Ground.guard }], guard := some (5, false) }) rfl (fun K hK => ?_) AllReadyH.nil
          go_simp
          refine (HSQ.out _ (bel_drewN (Below.refl w10.heap.size w10) 1)).mono ?_
          rintro e w11 ⟨rfl, hb11⟩
          have HB11 := hid ((bel_drewN (Below.refl w10.heap.size w10) 1).trans hb11)
          clear hb11
          clear hHeld
          go_wp2_with fail
          refine hK.out _ _ (HMF.out _ HB11.out) (fun hHeld => ?_)
          clear hK K
          try simp only [Act.put, List.setIfInBounds_toArray, List.set_cons_zero, List.set_cons_succ]
          refine wpAnyH_take (i := 10) (oi := { dst := some 95, op := Op.binOp BinOp.neq 23 (Operand.tmp 92) (Operand.tmp 94) 23, type := 4, pos := "plain.go:286", after := #[{ on := 7, ground := Ground.data }, { on := 9, ground := Ground.data }, { on := 5, ground := Ground.guard }], guard := some (5, false) }) (v := ?_) rfl (by kernel_rfl) (by kernel_rfl) (by kernel_rfl) (fun _ _ _ h => h) (Or.inl ⟨by rfl, ?hy⟩) hHeld ?_
          case hy => (intro w hSw; (try dsimp only at hSw); obtain ⟨_, _, _⟩ := hSw; go_simp; all_goals (with_reducible rfl))
          try simp only [Act.put, List.setIfInBounds_toArray, List.set_cons_zero, List.set_cons_succ]
          refine wpAnyH_take (i := 11) (oi := { dst := some 96, op := Op.pick (Operand.tmp 90) (Operand.const (Value.bool true)) (Operand.tmp 95), type := 4, pos := "plain.go:286", after := #[{ on := 5, ground := Ground.data }, { on := 10, ground := Ground.data }, { on := 2, ground := Ground.guard }], guard := some (2, true) }) (v := ?_) rfl (by kernel_rfl) (by kernel_rfl) (by kernel_rfl) (fun _ _ _ h => h) (Or.inl ⟨by rfl, ?hy⟩) hHeld ?_
          case hy => (intro w hSw; (try dsimp only at hSw); obtain ⟨_, _, _⟩ := hSw; go_simp; all_goals (with_reducible rfl))
          try simp only [Act.put, List.setIfInBounds_toArray, List.set_cons_zero, List.set_cons_succ]
          refine wpAnyH_take (i := 12) (oi := { dst := some 97, op := Op.move (Operand.tmp 96), type := 4, pos := "plain.go:286", after := #[{ on := 11, ground := Ground.data }, { on := 7, ground := Ground.chain }, { on := 2, ground := Ground.guard }], guard := some (2, true) }) (v := ?_) rfl (by kernel_rfl) (by kernel_rfl) (by kernel_rfl) (fun _ _ _ h => h) (Or.inl ⟨by rfl, ?hy⟩) hHeld ?_
          case hy => (intro w hSw; (try dsimp only at hSw); obtain ⟨_, _, _⟩ := hSw; go_simp; all_goals (with_reducible rfl))
          try simp only [Act.put, List.setIfInBounds_toArray, List.set_cons_zero, List.set_cons_succ]
          refine wpAnyH_take (i := 13) (oi := { dst := some 98, op := Op.move (Operand.tmp 12), type := 66, pos := "plain.go:286", after := #[{ on := 12, ground := Ground.guard }], guard := some (12, false) }) (v := ?_) rfl (by kernel_rfl) (by kernel_rfl) (by kernel_rfl) (fun _ _ _ h => h) (Or.inl ⟨by rfl, ?hy⟩) hHeld ?_
          case hy => (intro w hSw; (try dsimp only at hSw); obtain ⟨_, _, _⟩ := hSw; go_simp; all_goals (with_reducible rfl))
          try simp only [Act.put, List.setIfInBounds_toArray, List.set_cons_zero, List.set_cons_succ]
          refine wpAnyH_take (i := 14) (oi := { dst := some 99, op := Op.call { callee := Callee.builtin Builtin.len, args := #[Operand.tmp 98], argTypes := #[66] }, type := 3, pos := "plain.go:286", after := #[{ on := 13, ground := Ground.data }, { on := 12, ground := Ground.guard }], guard := some (12, false) }) (v := ?_) rfl (by kernel_rfl) (by kernel_rfl) (by kernel_rfl) (fun _ _ _ h => h) (Or.inl ⟨by rfl, ?hy⟩) hHeld ?_
          case hy => (intro w hSw; (try dsimp only at hSw); obtain ⟨_, _, _⟩ := hSw; go_simp; all_goals (with_reducible rfl))
          try simp only [Act.put, List.setIfInBounds_toArray, List.set_cons_zero, List.set_cons_succ]
          refine wpAnyH_take (i := 15) (oi := { dst := some 100, op := Op.fieldAddr 62 (Operand.tmp 8) 3, type := 0, pos := "plain.go:286", after := #[{ on := 12, ground := Ground.guard }], guard := some (12, false) }) (v := ?_) rfl (by kernel_rfl) (by kernel_rfl) (by kernel_rfl) (fun _ _ _ h => h) (Or.inl ⟨by rfl, ?hy⟩) hHeld ?_
          case hy => (intro w hSw; (try dsimp only at hSw); obtain ⟨_, _, _⟩ := hSw; go_simp; all_goals (with_reducible rfl))
          try simp only [Act.put, List.setIfInBounds_toArray, List.set_cons_zero, List.set_cons_succ]
          refine wpAnyH_take (i := 16) (oi := { dst := some 101, op := Op.load 3 (Operand.tmp 100), type := 3, pos := "plain.go:286", after := #[{ on := 15, ground := Ground.data }, { on := 12, ground := Ground.guard }], guard := some (12, false) }) (v := ?_) rfl (by kernel_rfl) (by kernel_rfl) (by kernel_rfl) (fun _ _ _ h => h) (Or.inl ⟨by rfl, ?hy⟩) hHeld ?_
          case hy => (intro w hSw; (try dsimp only at hSw); obtain ⟨_, _, _⟩ := hSw; go_simp; all_goals (with_reducible rfl))
          try simp only [Act.put, List.setIfInBounds_toArray, List.set_cons_zero, List.set_cons_succ]
          refine wpAnyH_take (i := 17) (oi := { dst := some 102, op := Op.binOp BinOp.neq 3 (Operand.tmp 99) (Operand.tmp 101) 3, type := 4, pos := "plain.go:286", after := #[{ on := 14, ground := Ground.data }, { on := 16, ground := Ground.data }, { on := 12, ground := Ground.guard }], guard := some (12, false) }) (v := ?_) rfl (by kernel_rfl) (by kernel_rfl) (by kernel_rfl) (fun _ _ _ h => h) (Or.inl ⟨by rfl, ?hy⟩) hHeld ?_
          case hy => (intro w hSw; (try dsimp only at hSw); obtain ⟨_, _, _⟩ := hSw; go_simp; all_goals (with_reducible rfl))
          try simp only [Act.put, List.setIfInBounds_toArray, List.set_cons_zero, List.set_cons_succ]
          refine wpAnyH_take (i := 18) (oi := { dst := some 103, op := Op.pick (Operand.tmp 97) (Operand.const (Value.bool true)) (Operand.tmp 102), type := 4, pos := "plain.go:286", after := #[{ on := 12, ground := Ground.data }, { on := 17, ground := Ground.data }, { on := 2, ground := Ground.guard }], guard := some (2, true) }) (v := ?_) rfl (by kernel_rfl) (by kernel_rfl) (by kernel_rfl) (fun _ _ _ h => h) (Or.inl ⟨by rfl, ?hy⟩) hHeld ?_
          case hy => (intro w hSw; (try dsimp only at hSw); obtain ⟨_, _, _⟩ := hSw; go_simp; all_goals (with_reducible rfl))
          try simp only [Act.put, List.setIfInBounds_toArray, List.set_cons_zero, List.set_cons_succ]
          refine wpAnyH_take (i := 19) (oi := { dst := some 104, op := Op.move (Operand.tmp 103), type := 4, pos := "plain.go:286", after := #[{ on := 18, ground := Ground.data }, { on := 12, ground := Ground.chain }, { on := 2, ground := Ground.guard }], guard := some (2, true) }) (v := ?_) rfl (by kernel_rfl) (by kernel_rfl) (by kernel_rfl) (fun _ _ _ h => h) (Or.inl ⟨by rfl, ?hy⟩) hHeld ?_
          case hy => (intro w hSw; (try dsimp only at hSw); obtain ⟨_, _, _⟩ := hSw; go_simp; all_goals (with_reducible rfl))
          try simp only [Act.put, List.setIfInBounds_toArray, List.set_cons_zero, List.set_cons_succ]
          refine wpAnyH_take (i := 20) (oi := { dst := some 105, op := Op.move (Operand.tmp 6), type := 58, pos := "plain.go:286", after := #[{ on := 19, ground := Ground.guard }], guard := some (19, false) }) (v := ?_) rfl (by kernel_rfl) (by kernel_rfl) (by kernel_rfl) (fun _ _ _ h => h) (Or.inl ⟨by rfl, ?hy⟩) hHeld ?_
          case hy => (intro w hSw; (try dsimp only at hSw); obtain ⟨_, _, _⟩ := hSw; go_simp; all_goals (with_reducible rfl))
          try simp only [Act.put, List.setIfInBounds_toArray, List.set_cons_zero, List.set_cons_succ]
          refine wpAnyH_take (i := 23) (oi := { dst := some 108, op := Op.fieldAddr 62 (Operand.tmp 8) 0, type := 0, pos := "plain.go:286", after := #[{ on := 19, ground := Ground.guard }], guard := some (19, false) }) (v := ?_) rfl (by kernel_rfl) (by kernel_rfl) (by kernel_rfl) (fun _ _ _ h => h) (Or.inl ⟨by rfl, ?hy⟩) hHeld ?_
          case hy => (intro w hSw; (try dsimp only at hSw); obtain ⟨_, _, _⟩ := hSw; go_simp; all_goals (with_reducible rfl))
          try simp only [Act.put, List.setIfInBounds_toArray, List.set_cons_zero, List.set_cons_succ]
          refine wpAnyH_take (i := 24) (oi := { dst := some 109, op := Op.load 3 (Operand.tmp 108), type := 3, pos := "plain.go:286", after := #[{ on := 23, ground := Ground.data }, { on := 19, ground := Ground.guard }], guard := some (19, false) }) (v := ?_) rfl (by kernel_rfl) (by kernel_rfl) (by kernel_rfl) (fun _ _ _ h => h) (Or.inl ⟨by rfl, ?hy⟩) hHeld ?_
          case hy => (intro w hSw; (try dsimp only at hSw); obtain ⟨_, _, _⟩ := hSw; go_simp; all_goals (with_reducible rfl))
          try simp only [Act.put, List.setIfInBounds_toArray, List.set_cons_zero, List.set_cons_succ]
          refine wpAnyH_ready (rs := [21]) (by kernel_rfl) (by simp) ?_
          refine AllReadyH.cons (o := { dst := some 106, op := Op.call { callee := Callee.value (Operand.func 50), args := #[Operand.tmp 105], argTypes := #[58] }, type := 27, pos := "plain.go:286", after := #[{ on := 20, ground := Ground.data }, { on := 19, ground := Ground.chain }, { on := 19, ground := Ground.guard }], guard := some (19, false) }) rfl (fun K hK => ?_) AllReadyH.nil
          go_simp
          refine (HIX.out w11 HB11.out).mono ?_
          rintro e w12 ⟨ib, rfl, -, hb12⟩
          have HB12 := hid (HB11.out.trans (hb12.mono HB11.out.size))
          clear hb12
          clear hHeld
          go_wp2_with fail
          refine hK.out _ _ (HMF.out _ HB12.out) (fun hHeld => ?_)
          clear hK K
          try simp only [Act.put, List.setIfInBounds_toArray, List.set_cons_zero, List.set_cons_succ]
          refine wpAnyH_take (i := 22) (oi := { dst := some 107, op := Op.call { callee := Callee.builtin Builtin.len, args := #[Operand.tmp 106], argTypes := #[27] }, type := 3, pos := "plain.go:286", after := #[{ on := 21, ground := Ground.data }, { on := 19, ground := Ground.guard }], guard := some (19, false) }) (v := ?_) rfl (by kernel_rfl) (by kernel_rfl) (by kernel_rfl) (fun _ _ _ h => h) (Or.inl ⟨by rfl, ?hy⟩) hHeld ?_
          case hy => (intro w hSw; (try dsimp only at hSw); obtain ⟨_, _, _⟩ := hSw; go_simp; all_goals (with_reducible rfl))
          try simp only [Act.put, List.setIfInBounds_toArray, List.set_cons_zero, List.set_cons_succ]
          refine wpAnyH_take (i := 25) (oi := { dst := some 110, op := Op.binOp BinOp.lss 3 (Operand.tmp 107) (Operand.tmp 109) 3, type := 4, pos := "plain.go:286", after := #[{ on := 22, ground := Ground.data }, { on := 24, ground := Ground.data }, { on := 19, ground := Ground.guard }], guard := some (19, false) }) (v := ?_) rfl (by kernel_rfl) (by kernel_rfl) (by kernel_rfl) (fun _ _ _ h => h) (Or.inl ⟨by rfl, ?hy⟩) hHeld ?_
          case hy => (intro w hSw; (try dsimp only at hSw); obtain ⟨_, _, _⟩ := hSw; go_simp; all_goals (with_reducible rfl))
          try simp only [Act.put, List.setIfInBounds_toArray, List.set_cons_zero, List.set_cons_succ]
          refine wpAnyH_take (i := 26) (oi := { dst := some 111, op := Op.pick (Operand.tmp 104) (Operand.const (Value.bool true)) (Operand.tmp 110), type := 4, pos := "plain.go:286", after := #[{ on := 19, ground := Ground.data }, { on := 25, ground := Ground.data }, { on := 2, ground := Ground.guard }], guard := some (2, true) }) (v := ?_) rfl (by kernel_rfl) (by kernel_rfl) (by kernel_rfl) (fun _ _ _ h => h) (Or.inl ⟨by rfl, ?hy⟩) hHeld ?_
          case hy => (intro w hSw; (try dsimp only at hSw); obtain ⟨_, _, _⟩ := hSw; go_simp; all_goals (with_reducible rfl))
          try simp only [Act.put, List.setIfInBounds_toArray, List.set_cons_zero, List.set_cons_succ]
          refine wpAnyH_take (i := 27) (oi := { dst := some 112, op := Op.pick (Operand.tmp 87) (Operand.tmp 111) (Operand.const (Value.bool false)), type := 4, pos := "plain.go:286", after := #[{ on := 2, ground := Ground.data }, { on := 26, ground := Ground.data }], guard := none }) (v := ?_) rfl (by kernel_rfl) (by kernel_rfl) (by kernel_rfl) (fun _ _ _ h => h) (Or.inl ⟨by rfl, ?hy⟩) hHeld ?_
          case hy => (intro w hSw; (try dsimp only at hSw); obtain ⟨_, _, _⟩ := hSw; go_simp; all_goals (with_reducible rfl))
          try simp only [Act.put, List.setIfInBounds_toArray, List.set_cons_zero, List.set_cons_succ]
          refine wpAnyH_done (by kernel_rfl) ?_ _
          go_wp2
          go_meet
          exact ⟨congrArg Value.bool (decide_eq_false (by omega)), HB12⟩
        · have n1 : (E == 0) = false := by simpa using hE0
          clear hE0
          refine wp_region_held_drew (S := (fun wx : World => (loadVar 23 ⟨mb, 4, none⟩).run Tryz.prog wx = .ok (.agg (u8s od).toArray) wx ∧ wx.cell? ⟨mb, 3, none⟩ = some (.int .i64 s) ∧ wx.cell? ⟨mb, 0, none⟩ = some (.int .i64 k))) (by kernel_rfl) (HMF.out _ (bel_drewN (Below.refl w10.heap.size w10) 1)) (fun hHeld => ?_)
          refine wpAnyH_take (i := 0) (oi := { dst := some 85, op := Op.move (Operand.tmp 13), type := 73, pos := "plain.go:286", after := #[], guard := none }) (v := ?_) rfl (by kernel_rfl) (by kernel_rfl) (by kernel_rfl) (fun _ _ _ h => h) (Or.inl ⟨by rfl, ?hy⟩) hHeld ?_
          case hy => (intro w hSw; (try dsimp only at hSw); obtain ⟨_, _, _⟩ := hSw; go_simp; all_goals (with_reducible rfl))
          try simp only [Act.put, List.setIfInBounds_toArray, List.set_cons_zero, List.set_cons_succ]
          refine wpAnyH_take (i := 1) (oi := { dst := some 86, op := Op.binOp BinOp.eql 73 (Operand.tmp 85) (Operand.const (Value.int IntKind.i64 0)) 73, type := 4, pos := "plain.go:286", after := #[{ on := 0, ground := Ground.data }], guard := none }) (v := ?_) rfl (by kernel_rfl) (by kernel_rfl) (by kernel_rfl) (fun _ _ _ h => h) (Or.inl ⟨by rfl, ?hy⟩) hHeld ?_
          case hy => (intro w hSw; (try dsimp only at hSw); obtain ⟨_, _, _⟩ := hSw; go_simp; all_goals (with_reducible rfl))
          try simp only [Act.put, List.setIfInBounds_toArray, List.set_cons_zero, List.set_cons_succ]
          refine wpAnyH_take (i := 2) (oi := { dst := some 87, op := Op.move (Operand.tmp 86), type := 4, pos := "plain.go:286", after := #[{ on := 1, ground := Ground.data }], guard := none }) (v := ?_) rfl (by kernel_rfl) (by kernel_rfl) (by kernel_rfl) (fun _ _ _ h => h) (Or.inl ⟨by rfl, ?hy⟩) hHeld ?_
          case hy => (intro w hSw; (try dsimp only at hSw); obtain ⟨_, _, _⟩ := hSw; go_simp; all_goals (with_reducible rfl))
          try simp only [Act.put, List.setIfInBounds_toArray, List.set_cons_zero, List.set_cons_succ]
          refine wpAnyH_take (i := 3) (oi := { dst := some 88, op := Op.move (Operand.tmp 9), type := 4, pos := "plain.go:286", after := #[{ on := 2, ground := Ground.guard }], guard := some (2, true) }) (v := undef) rfl (by kernel_rfl) (by kernel_rfl) (by kernel_rfl) (fun _ _ _ h => h) (Or.inr ⟨by rfl, rfl⟩) hHeld ?_
          try simp only [Act.put, List.setIfInBounds_toArray, List.set_cons_zero, List.set_cons_succ]
          refine wpAnyH_take (i := 4) (oi := { dst := some 89, op := Op.unOp UnOp.not 4 (Operand.tmp 88), type := 4, pos := "plain.go:286", after := #[{ on := 3, ground := Ground.data }, { on := 2, ground := Ground.guard }], guard := some (2, true) }) (v := undef) rfl (by kernel_rfl) (by kernel_rfl) (by kernel_rfl) (fun _ _ _ h => h) (Or.inr ⟨by rfl, rfl⟩) hHeld ?_
          try simp only [Act.put, List.setIfInBounds_toArray, List.set_cons_zero, List.set_cons_succ]
          refine wpAnyH_take (i := 5) (oi := { dst := some 90, op := Op.move (Operand.tmp 89), type := 4, pos := "plain.go:286", after := #[{ on := 4, ground := Ground.data }, { on := 2, ground := Ground.chain }, { on := 2, ground := Ground.guard }], guard := some (2, true) }) (v := undef) rfl (by kernel_rfl) (by kernel_rfl) (by kernel_rfl) (fun _ _ _ h => h) (Or.inr ⟨by rfl, rfl⟩) hHeld ?_
          try simp only [Act.put, List.setIfInBounds_toArray, List.set_cons_zero, List.set_cons_succ]
          refine wpAnyH_take (i := 6) (oi := { dst := some 91, op := Op.move (Operand.tmp 12), type := 66, pos := "plain.go:286", after := #[{ on := 5, ground := Ground.guard }], guard := some (5, false) }) (v := undef) rfl (by kernel_rfl) (by kernel_rfl) (by kernel_rfl) (fun _ _ _ h => h) (Or.inr ⟨by rfl, rfl⟩) hHeld ?_
          try simp only [Act.put, List.setIfInBounds_toArray, List.set_cons_zero, List.set_cons_succ]
          refine wpAnyH_take (i := 7) (oi := { dst := some 92, op := Op.call { callee := Callee.value (Operand.func 60), args := #[Operand.tmp 91], argTypes := #[66] }, type := 23, pos := "plain.go:286", after := #[{ on := 6, ground := Ground.data }, { on := 5, ground := Ground.chain }, { on := 5, ground := Ground.guard }], guard := some (5, false) }) (v := undef) rfl (by kernel_rfl) (by kernel_rfl) (by kernel_rfl) (fun _ _ _ h => h) (Or.inr ⟨by rfl, rfl⟩) hHeld ?_
          try simp only [Act.put, List.setIfInBounds_toArray, List.set_cons_zero, List.set_cons_succ]
          refine wpAnyH_take (i := 8) (oi := { dst := some 93, op := Op.fieldAddr 62 (Operand.tmp 8) 4, type := 0, pos := "plain.go:286", after := #[{ on := 5, ground := Ground.guard }], guard := some (5, false) }) (v := undef) rfl (by kernel_rfl) (by kernel_rfl) (by kernel_rfl) (fun _ _ _ h => h) (Or.inr ⟨by rfl, rfl⟩) hHeld ?_
          try simp only [Act.put, List.setIfInBounds_toArray, List.set_cons_zero, List.set_cons_succ]
          refine wpAnyH_take (i := 9) (oi := { dst := some 94, op := Op.load 23 (Operand.tmp 93), type := 23, pos := "plain.go:286", after := #[{ on := 8, ground := Ground.data }, { on := 5, ground := Ground.guard }], guard := some (5, false) }) (v := undef) rfl (by kernel_rfl) (by kernel_rfl) (by kernel_rfl) (fun _ _ _ h => h) (Or.inr ⟨by rfl, rfl⟩) hHeld ?_
          try simp only [Act.put, List.setIfInBounds_toArray, List.set_cons_zero, List.set_cons_succ]
          refine wpAnyH_take (i := 10) (oi := { dst := some 95, op := Op.binOp BinOp.neq 23 (Operand.tmp 92) (Operand.tmp 94) 23, type := 4, pos := "plain.go:286", after := #[{ on := 7, ground := Ground.data }, { on := 9, ground := Ground.data }, { on := 5, ground := Ground.guard }], guard := some (5, false) }) (v := undef) rfl (by kernel_rfl) (by kernel_rfl) (by kernel_rfl) (fun _ _ _ h => h) (Or.inr ⟨by rfl, rfl⟩) hHeld ?_
          try simp only [Act.put, List.setIfInBounds_toArray, List.set_cons_zero, List.set_cons_succ]
          refine wpAnyH_take (i := 11) (oi := { dst := some 96, op := Op.pick (Operand.tmp 90) (Operand.const (Value.bool true)) (Operand.tmp 95), type := 4, pos := "plain.go:286", after := #[{ on := 5, ground := Ground.data }, { on := 10, ground := Ground.data }, { on := 2, ground := Ground.guard }], guard := some (2, true) }) (v := undef) rfl (by kernel_rfl) (by kernel_rfl) (by kernel_rfl) (fun _ _ _ h => h) (Or.inr ⟨by rfl, rfl⟩) hHeld ?_
          try simp only [Act.put, List.setIfInBounds_toArray, List.set_cons_zero, List.set_cons_succ]
          refine wpAnyH_take (i := 12) (oi := { dst := some 97, op := Op.move (Operand.tmp 96), type := 4, pos := "plain.go:286", after := #[{ on := 11, ground := Ground.data }, { on := 7, ground := Ground.chain }, { on := 2, ground := Ground.guard }], guard := some (2, true) }) (v := undef) rfl (by kernel_rfl) (by kernel_rfl) (by kernel_rfl) (fun _ _ _ h => h) (Or.inr ⟨by rfl, rfl⟩) hHeld ?_
          try simp only [Act.put, List.setIfInBounds_toArray, List.set_cons_zero, List.set_cons_succ]
          refine wpAnyH_take (i := 13) (oi := { dst := some 98, op := Op.move (Operand.tmp 12), type := 66, pos := "plain.go:286", after := #[{ on := 12, ground := Ground.guard }], guard := some (12, false) }) (v := undef) rfl (by kernel_rfl) (by kernel_rfl) (by kernel_rfl) (fun _ _ _ h => h) (Or.inr ⟨by rfl, rfl⟩) hHeld ?_
          try simp only [Act.put, List.setIfInBounds_toArray, List.set_cons_zero, List.set_cons_succ]
          refine wpAnyH_take (i := 14) (oi := { dst := some 99, op := Op.call { callee := Callee.builtin Builtin.len, args := #[Operand.tmp 98], argTypes := #[66] }, type := 3, pos := "plain.go:286", after := #[{ on := 13, ground := Ground.data }, { on := 12, ground := Ground.guard }], guard := some (12, false) }) (v := undef) rfl (by kernel_rfl) (by kernel_rfl) (by kernel_rfl) (fun _ _ _ h => h) (Or.inr ⟨by rfl, rfl⟩) hHeld ?_
          try simp only [Act.put, List.setIfInBounds_toArray, List.set_cons_zero, List.set_cons_succ]
          refine wpAnyH_take (i := 15) (oi := { dst := some 100, op := Op.fieldAddr 62 (Operand.tmp 8) 3, type := 0, pos := "plain.go:286", after := #[{ on := 12, ground := Ground.guard }], guard := some (12, false) }) (v := undef) rfl (by kernel_rfl) (by kernel_rfl) (by kernel_rfl) (fun _ _ _ h => h) (Or.inr ⟨by rfl, rfl⟩) hHeld ?_
          try simp only [Act.put, List.setIfInBounds_toArray, List.set_cons_zero, List.set_cons_succ]
          refine wpAnyH_take (i := 16) (oi := { dst := some 101, op := Op.load 3 (Operand.tmp 100), type := 3, pos := "plain.go:286", after := #[{ on := 15, ground := Ground.data }, { on := 12, ground := Ground.guard }], guard := some (12, false) }) (v := undef) rfl (by kernel_rfl) (by kernel_rfl) (by kernel_rfl) (fun _ _ _ h => h) (Or.inr ⟨by rfl, rfl⟩) hHeld ?_
          try simp only [Act.put, List.setIfInBounds_toArray, List.set_cons_zero, List.set_cons_succ]
          refine wpAnyH_take (i := 17) (oi := { dst := some 102, op := Op.binOp BinOp.neq 3 (Operand.tmp 99) (Operand.tmp 101) 3, type := 4, pos := "plain.go:286", after := #[{ on := 14, ground := Ground.data }, { on := 16, ground := Ground.data }, { on := 12, ground := Ground.guard }], guard := some (12, false) }) (v := undef) rfl (by kernel_rfl) (by kernel_rfl) (by kernel_rfl) (fun _ _ _ h => h) (Or.inr ⟨by rfl, rfl⟩) hHeld ?_
          try simp only [Act.put, List.setIfInBounds_toArray, List.set_cons_zero, List.set_cons_succ]
          refine wpAnyH_take (i := 18) (oi := { dst := some 103, op := Op.pick (Operand.tmp 97) (Operand.const (Value.bool true)) (Operand.tmp 102), type := 4, pos := "plain.go:286", after := #[{ on := 12, ground := Ground.data }, { on := 17, ground := Ground.data }, { on := 2, ground := Ground.guard }], guard := some (2, true) }) (v := undef) rfl (by kernel_rfl) (by kernel_rfl) (by kernel_rfl) (fun _ _ _ h => h) (Or.inr ⟨by rfl, rfl⟩) hHeld ?_
          try simp only [Act.put, List.setIfInBounds_toArray, List.set_cons_zero, List.set_cons_succ]
          refine wpAnyH_take (i := 19) (oi := { dst := some 104, op := Op.move (Operand.tmp 103), type := 4, pos := "plain.go:286", after := #[{ on := 18, ground := Ground.data }, { on := 12, ground := Ground.chain }, { on := 2, ground := Ground.guard }], guard := some (2, true) }) (v := undef) rfl (by kernel_rfl) (by kernel_rfl) (by kernel_rfl) (fun _ _ _ h => h) (Or.inr ⟨by rfl, rfl⟩) hHeld ?_
          try simp only [Act.put, List.setIfInBounds_toArray, List.set_cons_zero, List.set_cons_succ]
          refine wpAnyH_take (i := 20) (oi := { dst := some 105, op := Op.move (Operand.tmp 6), type := 58, pos := "plain.go:286", after := #[{ on := 19, ground := Ground.guard }], guard := some (19, false) }) (v := undef) rfl (by kernel_rfl) (by kernel_rfl) (by kernel_rfl) (fun _ _ _ h => h) (Or.inr ⟨by rfl, rfl⟩) hHeld ?_
          try simp only [Act.put, List.setIfInBounds_toArray, List.set_cons_zero, List.set_cons_succ]
          refine wpAnyH_take (i := 21) (oi := { dst := some 106, op := Op.call { callee := Callee.value (Operand.func 50), args := #[Operand.tmp 105], argTypes := #[58] }, type := 27, pos := "plain.go:286", after := #[{ on := 20, ground := Ground.data }, { on := 19, ground := Ground.chain }, { on := 19, ground := Ground.guard }], guard := some (19, false) }) (v := undef) rfl (by kernel_rfl) (by kernel_rfl) (by kernel_rfl) (fun _ _ _ h => h) (Or.inr ⟨by rfl, rfl⟩) hHeld ?_
          try simp only [Act.put, List.setIfInBounds_toArray, List.set_cons_zero, List.set_cons_succ]
          refine wpAnyH_take (i := 22) (oi := { dst := some 107, op := Op.call { callee := Callee.builtin Builtin.len, args := #[Operand.tmp 106], argTypes := #[27] }, type := 3, pos := "plain.go:286", after := #[{ on := 21, ground := Ground.data }, { on := 19, ground := Ground.guard }], guard := some (19, false) }) (v := undef) rfl (by kernel_rfl) (by kernel_rfl) (by kernel_rfl) (fun _ _ _ h => h) (Or.inr ⟨by rfl, rfl⟩) hHeld ?_
          try simp only [Act.put, List.setIfInBounds_toArray, List.set_cons_zero, List.set_cons_succ]
          refine wpAnyH_take (i := 23) (oi := { dst := some 108, op := Op.fieldAddr 62 (Operand.tmp 8) 0, type := 0, pos := "plain.go:286", after := #[{ on := 19, ground := Ground.guard }], guard := some (19, false) }) (v := undef) rfl (by kernel_rfl) (by kernel_rfl) (by kernel_rfl) (fun _ _ _ h => h) (Or.inr ⟨by rfl, rfl⟩) hHeld ?_
          try simp only [Act.put, List.setIfInBounds_toArray, List.set_cons_zero, List.set_cons_succ]
          refine wpAnyH_take (i := 24) (oi := { dst := some 109, op := Op.load 3 (Operand.tmp 108), type := 3, pos := "plain.go:286", after := #[{ on := 23, ground := Ground.data }, { on := 19, ground := Ground.guard }], guard := some (19, false) }) (v := undef) rfl (by kernel_rfl) (by kernel_rfl) (by kernel_rfl) (fun _ _ _ h => h) (Or.inr ⟨by rfl, rfl⟩) hHeld ?_
          try simp only [Act.put, List.setIfInBounds_toArray, List.set_cons_zero, List.set_cons_succ]
          refine wpAnyH_take (i := 25) (oi := { dst := some 110, op := Op.binOp BinOp.lss 3 (Operand.tmp 107) (Operand.tmp 109) 3, type := 4, pos := "plain.go:286", after := #[{ on := 22, ground := Ground.data }, { on := 24, ground := Ground.data }, { on := 19, ground := Ground.guard }], guard := some (19, false) }) (v := undef) rfl (by kernel_rfl) (by kernel_rfl) (by kernel_rfl) (fun _ _ _ h => h) (Or.inr ⟨by rfl, rfl⟩) hHeld ?_
          try simp only [Act.put, List.setIfInBounds_toArray, List.set_cons_zero, List.set_cons_succ]
          refine wpAnyH_take (i := 26) (oi := { dst := some 111, op := Op.pick (Operand.tmp 104) (Operand.const (Value.bool true)) (Operand.tmp 110), type := 4, pos := "plain.go:286", after := #[{ on := 19, ground := Ground.data }, { on := 25, ground := Ground.data }, { on := 2, ground := Ground.guard }], guard := some (2, true) }) (v := undef) rfl (by kernel_rfl) (by kernel_rfl) (by kernel_rfl) (fun _ _ _ h => h) (Or.inr ⟨by rfl, rfl⟩) hHeld ?_
          try simp only [Act.put, List.setIfInBounds_toArray, List.set_cons_zero, List.set_cons_succ]
          refine wpAnyH_take (i := 27) (oi := { dst := some 112, op := Op.pick (Operand.tmp 87) (Operand.tmp 111) (Operand.const (Value.bool false)), type := 4, pos := "plain.go:286", after := #[{ on := 2, ground := Ground.data }, { on := 26, ground := Ground.data }], guard := none }) (v := ?_) rfl (by kernel_rfl) (by kernel_rfl) (by kernel_rfl) (fun _ _ _ h => h) (Or.inl ⟨by rfl, ?hy⟩) hHeld ?_
          case hy => (intro w hSw; (try dsimp only at hSw); obtain ⟨_, _, _⟩ := hSw; go_simp; all_goals (with_reducible rfl))
          try simp only [Act.put, List.setIfInBounds_toArray, List.set_cons_zero, List.set_cons_succ]
          refine wpAnyH_done (by kernel_rfl) ?_ _
          go_wp2
          go_meet
          exact ⟨rfl, hid (bel_drewN (Below.refl w10.heap.size w10) 1)⟩
      case rest =>
      as_aux_lemma =>
      obtain ⟨rfl, hbc⟩ := hcut
      obtain ⟨w11, rfl⟩ : ∃ y, y = wc := ⟨wc, rfl⟩
      have HB1011 := hid hbc.out
      have HB111 := hid (HB110.out.trans (HB1011.out.mono HB110.out.size))
      have HGS11 := hid (HGS10.out.below HB1011.out)
      have HV11 := hid (HV10.out.below HB1011.out)
      have HF11 := hid (fld_belowA HF10.out HB1011.out)
      have HMW11 := hid ((HB1011.out.block _ (lt_of_heap HMW10.out)).trans HMW10.out)
      have HFW5 := hid (show fb < w5.heap.size from Nat.lt_of_lt_of_le HGS5.out.fB HGS5.out.bw)
      have HD10 := hid (show Dgs w10 ma mm mc D from (HD6.out.below (HB7.out.trans (HB9.out.mono HB7.out.size))).keptQ (fun _ ad e hl => HK10.out.block _ hl (by have h1 := HML.out ad e; have h2 := HFW5.out; omega)))
      have HD11 := hid (HD10.out.below HB1011.out)
      clear hbc HE10 HMF HMW10 HD10 HV10 HGS10 HF10 HBL10 HLR10 HNR10
      have d39 := HC39.out w11 HB111.out
      go_wp2_with fail
      refine (Gs_piece g5 gb fb B obj w11 HGS11.out HGO5.out HV11.out HF11.out (by rw [HFB.out]; exact Nat.le_trans HLO.out HB1.out.size) (by have := HGL5.out; omega) Q.i).mono ?_
      rintro e w12 ⟨E2, PI, PL, ⟨ra2, rc2, rfl, hbl, hlr, hnr⟩, hf12, hk12, hE⟩
      have HBL12 := hid hbl
      have HLR12 := hid hlr
      have HNR12 := hid hnr
      have HF12 := hid hf12
      have HK12 := hid hk12
      have HE12 := hid hE
      clear hbl hlr hnr hf12 hk12 hE d39
      go_upto_region 19 with fail
      obtain ⟨w13, hw13⟩ : ∃ y, y = w12.alloc (.cells #[.int .i64 PI, .slice ra2 PL.length rc2] 68) := ⟨_, rfl⟩
      have HB1213 := hid (show Below w12.heap.size w12 w13 from by rw [hw13]; exact (Below.refl _ _).alloc (Nat.le_refl _) _)
      have HPW13 := hid (show w13.heap[w12.heap.size]? = some (.cells #[.int .i64 PI, .slice ra2 PL.length rc2] 68 (0, 0)) from by rw [hw13]; exact heap_new _ _)
      rw [← hw13]
      clear hw13
      obtain ⟨pb, hpb⟩ : ∃ y, y = w12.heap.size := ⟨_, rfl⟩
      rw [← hpb] at HPW13 ⊢
      clear hpb
      have HB112 := hid (HB111.out.trans (HK12.out.below HB111.out.size (by rw [HFB.out]; exact Nat.le_refl _)))
      have HB113 := hid (HB112.out.trans (HB1213.out.mono HB112.out.size))
      have HMW13 := hid ((HB1213.out.block _ (Nat.lt_of_lt_of_le (lt_of_heap HMW11.out) HK12.out.size)).trans ((HK12.out.block _ (lt_of_heap HMW11.out) HMB.out).trans HMW11.out))
      have HD13 := hid (show Dgs w13 ma mm mc D from (HD11.out.keptQ (fun _ ad e hl => HK12.out.block _ hl (by have h1 := HML.out ad e; have h2 := HFW5.out; omega))).below HB1213.out)
      have HV13 := hid ((HV11.out.kept HK12.out (show 3 ≤ fb from by rw [HFB.out]; exact Nat.le_trans HLO.out HB1.out.size)).below HB1213.out)
      have HGS13 := hid ((HGS11.out.kept HK12.out).below HB1213.out)
      have HF13 := hid (fld_belowA HF12.out HB1213.out)
      have HBL13 := hid (HBL12.out.below HB1213.out)
      have HPF := hid (show ∀ wx : World, Below w13.heap.size w13 wx → wx.cell? ⟨pb, 0, none⟩ = some (.int .i64 PI) ∧ wx.cell? ⟨ob, oo + i * 40 + 39, none⟩ = some (.int .i64 Q.i) ∧ (loadVar 62 ⟨mb, 0, none⟩).run Tryz.prog wx = .ok (.agg M6.toArray) wx ∧ (loadVar 68 ⟨pb, 0, none⟩).run Tryz.prog wx = .ok (.agg #[.int .i64 PI, .slice ra2 PL.length rc2]) wx from fun wx h => by
        have hp := (h.block _ (lt_of_heap HPW13.out)).trans HPW13.out
        have hm := (h.block _ (lt_of_heap HMW13.out)).trans HMW13.out
        refine ⟨?_, HC39.out wx (HB113.out.trans (h.mono HB113.out.size)), run_loadVar_mid (P := Tryz.prog) wx mb 0 62 M6 _ (range_of_heap hm) Tryz.underlying62 rfl HIM.out, run_loadVar_mid (P := Tryz.prog) wx pb 0 68 [.int .i64 PI, .slice ra2 PL.length rc2] _ (range_of_heapI hp) Tryz.underlying68 rfl (by show _ = some 2; kernel_rfl)⟩
        rw [cell_of_heap hp]
        rfl)
      clear HMW11 HD11 HV11 HGS11 HF11 HF12 HBL12 HMW13 HPW13
      go_cut [141] (fun v wx => v = .bool false ∧ Hid (Below w13.heap.size w13 wx))
      case first =>
        as_aux_lemma =>
        by_cases hE0 : E2 = 0
        · obtain ⟨hps, hpi, hcp, hpl⟩ := HE12.out hE0
          obtain ⟨rfl, ek, en, et, es, eo, em, eD⟩ := HNE.out hps
          rw [← ek, ← en, ← et, ← es, ← em, ← eD] at hcp
          have HCP := hid (fun (wx : World) (h : Below w13.heap.size w13 wx) => chp_any wx (HV13.out.below h) k n t s od ma mm mc D HOD.out (HD13.out.below h) Q.i ra2 PL.length rc2 PL (HBL13.out.below h) HLR12.out HNR12.out hpl)
          rw [hcp, ← HME.out] at HCP
          subst hpi
          have n1 : (Q.i != Q.i) = false := by simp
          subst hE0
          clear hps hcp hpl ek en et es eo em eD
          refine wp_region_held_drew (S := (fun wx : World => wx.cell? ⟨pb, 0, none⟩ = some (.int .i64 Q.i) ∧ wx.cell? ⟨ob, oo + i * 40 + 39, none⟩ = some (.int .i64 Q.i) ∧ (loadVar 62 ⟨mb, 0, none⟩).run Tryz.prog wx = .ok (.agg M6.toArray) wx ∧ (loadVar 68 ⟨pb, 0, none⟩).run Tryz.prog wx = .ok (.agg #[.int .i64 Q.i, .slice ra2 PL.length rc2]) wx)) (by kernel_rfl) (HPF.out _ (bel_drewN (Below.refl w13.heap.size w13) 1)) (fun hHeld => ?_)
          refine wpAnyH_take (i := 0) (oi := { dst := some 124, op := Op.move (Operand.tmp 15), type := 73, pos := "plain.go:289", after := #[], guard := none }) (v := ?_) rfl (by kernel_rfl) (by kernel_rfl) (by kernel_rfl) (fun _ _ _ h => h) (Or.inl ⟨by rfl, ?hy⟩) hHeld ?_
          case hy => (intro w hSw; (try dsimp only at hSw); obtain ⟨_, _, _, _⟩ := hSw; go_simp; all_goals (with_reducible rfl))
          try simp only [Act.put, List.setIfInBounds_toArray, List.set_cons_zero, List.set_cons_succ]
          refine wpAnyH_take (i := 1) (oi := { dst := some 125, op := Op.binOp BinOp.eql 73 (Operand.tmp 124) (Operand.const (Value.int IntKind.i64 0)) 73, type := 4, pos := "plain.go:289", after := #[{ on := 0, ground := Ground.data }], guard := none }) (v := ?_) rfl (by kernel_rfl) (by kernel_rfl) (by kernel_rfl) (fun _ _ _ h => h) (Or.inl ⟨by rfl, ?hy⟩) hHeld ?_
          case hy => (intro w hSw; (try dsimp only at hSw); obtain ⟨_, _, _, _⟩ := hSw; go_simp; all_goals (with_reducible rfl))
          try simp only [Act.put, List.setIfInBounds_toArray, List.set_cons_zero, List.set_cons_succ]
          refine wpAnyH_take (i := 2) (oi := { dst := some 126, op := Op.move (Operand.tmp 125), type := 4, pos := "plain.go:289", after := #[{ on := 1, ground := Ground.data }], guard := none }) (v := ?_) rfl (by kernel_rfl) (by kernel_rfl) (by kernel_rfl) (fun _ _ _ h => h) (Or.inl ⟨by rfl, ?hy⟩) hHeld ?_
          case hy => (intro w hSw; (try dsimp only at hSw); obtain ⟨_, _, _, _⟩ := hSw; go_simp; all_goals (with_reducible rfl))
          try simp only [Act.put, List.setIfInBounds_toArray, List.set_cons_zero, List.set_cons_succ]
          refine wpAnyH_take (i := 3) (oi := { dst := some 127, op := Op.fieldAddr 68 (Operand.tmp 14) 0, type := 0, pos := "plain.go:289", after := #[{ on := 2, ground := Ground.guard }], guard := some (2, true) }) (v := ?_) rfl (by kernel_rfl) (by kernel_rfl) (by kernel_rfl) (fun _ _ _ h => h) (Or.inl ⟨by rfl, ?hy⟩) hHeld ?_
          case hy => (intro w hSw; (try dsimp only at hSw); obtain ⟨_, _, _, _⟩ := hSw; go_simp; all_goals (with_reducible rfl))
          try simp only [Act.put, List.setIfInBounds_toArray, List.set_cons_zero, List.set_cons_succ]
          refine wpAnyH_take (i := 4) (oi := { dst := some 128, op := Op.load 3 (Operand.tmp 127), type := 3, pos := "plain.go:289", after := #[{ on := 3, ground := Ground.data }, { on := 2, ground := Ground.guard }], guard := some (2, true) }) (v := ?_) rfl (by kernel_rfl) (by kernel_rfl) (by kernel_rfl) (fun _ _ _ h => h) (Or.inl ⟨by rfl, ?hy⟩) hHeld ?_
          case hy => (intro w hSw; (try dsimp only at hSw); obtain ⟨_, _, _, _⟩ := hSw; go_simp; all_goals (with_reducible rfl))
          try simp only [Act.put, List.setIfInBounds_toArray, List.set_cons_zero, List.set_cons_succ]
          refine wpAnyH_take (i := 5) (oi := { dst := some 129, op := Op.move (Operand.tmp 1), type := 55, pos := "plain.go:289", after := #[{ on := 2, ground := Ground.guard }], guard := some (2, true) }) (v := ?_) rfl (by kernel_rfl) (by kernel_rfl) (by kernel_rfl) (fun _ _ _ h => h) (Or.inl ⟨by rfl, ?hy⟩) hHeld ?_
          case hy => (intro w hSw; (try dsimp only at hSw); obtain ⟨_, _, _, _⟩ := hSw; go_simp; all_goals (with_reducible rfl))
          try simp only [Act.put, List.setIfInBounds_toArray, List.set_cons_zero, List.set_cons_succ]
          refine wpAnyH_take (i := 6) (oi := { dst := some 130, op := Op.move (Operand.tmp 7), type := 3, pos := "plain.go:289", after := #[{ on := 2, ground := Ground.guard }], guard := some (2, true) }) (v := ?_) rfl (by kernel_rfl) (by kernel_rfl) (by kernel_rfl) (fun _ _ _ h => h) (Or.inl ⟨by rfl, ?hy⟩) hHeld ?_
          case hy => (intro w hSw; (try dsimp only at hSw); obtain ⟨_, _, _, _⟩ := hSw; go_simp; all_goals (with_reducible rfl))
          try simp only [Act.put, List.setIfInBounds_toArray, List.set_cons_zero, List.set_cons_succ]
          refine wpAnyH_take (i := 7) (oi := { dst := some 131, op := Op.indexAddr 55 (Operand.tmp 129) (Operand.tmp 130), type := 0, pos := "plain.go:289", after := #[{ on := 5, ground := Ground.data }, { on := 6, ground := Ground.data }, { on := 2, ground := Ground.guard }], guard := some (2, true) }) (v := ?_) rfl (by kernel_rfl) (by kernel_rfl) (by kernel_rfl) (fun _ _ _ h => h) (Or.inl ⟨by rfl, ?hy⟩) hHeld ?_
          case hy => (intro w hSw; (try dsimp only at hSw); obtain ⟨_, _, _, _⟩ := hSw; go_simp; all_goals (with_reducible rfl))
          try simp only [Act.put, List.setIfInBounds_toArray, List.set_cons_zero, List.set_cons_succ]
          refine wpAnyH_take (i := 8) (oi := { dst := some 132, op := Op.fieldAddr 70 (Operand.tmp 131) 2, type := 0, pos := "plain.go:289", after := #[{ on := 7, ground := Ground.data }, { on := 2, ground := Ground.guard }], guard := some (2, true) }) (v := ?_) rfl (by kernel_rfl) (by kernel_rfl) (by kernel_rfl) (fun _ _ _ h => h) (Or.inl ⟨by rfl, ?hy⟩) hHeld ?_
          case hy => (intro w hSw; (try dsimp only at hSw); obtain ⟨_, _, _, _⟩ := hSw; go_simp; all_goals (with_reducible rfl))
          try simp only [Act.put, List.setIfInBounds_toArray, List.set_cons_zero, List.set_cons_succ]
          refine wpAnyH_take (i := 9) (oi := { dst := some 133, op := Op.load 3 (Operand.tmp 132), type := 3, pos := "plain.go:289", after := #[{ on := 8, ground := Ground.data }, { on := 2, ground := Ground.guard }], guard := some (2, true) }) (v := ?_) rfl (by kernel_rfl) (by kernel_rfl) (by kernel_rfl) (fun _ _ _ h => h) (Or.inl ⟨by rfl, ?hy⟩) hHeld ?_
          case hy => (intro w hSw; (try dsimp only at hSw); obtain ⟨_, _, _, _⟩ := hSw; go_simp; all_goals (with_reducible rfl))
          try simp only [Act.put, List.setIfInBounds_toArray, List.set_cons_zero, List.set_cons_succ]
          refine wpAnyH_take (i := 10) (oi := { dst := some 134, op := Op.binOp BinOp.neq 3 (Operand.tmp 128) (Operand.tmp 133) 3, type := 4, pos := "plain.go:289", after := #[{ on := 4, ground := Ground.data }, { on := 9, ground := Ground.data }, { on := 2, ground := Ground.guard }], guard := some (2, true) }) (v := ?_) rfl (by kernel_rfl) (by kernel_rfl) (by kernel_rfl) (fun _ _ _ h => h) (Or.inl ⟨by rfl, ?hy⟩) hHeld ?_
          case hy => (intro w hSw; (try dsimp only at hSw); obtain ⟨_, _, _, _⟩ := hSw; go_simp; all_goals (with_reducible rfl))
          try simp only [Act.put, List.setIfInBounds_toArray, List.set_cons_zero, List.set_cons_succ]
          refine wpAnyH_take (i := 11) (oi := { dst := some 135, op := Op.move (Operand.tmp 134), type := 4, pos := "plain.go:289", after := #[{ on := 10, ground := Ground.data }, { on := 2, ground := Ground.chain }, { on := 2, ground := Ground.guard }], guard := some (2, true) }) (v := ?_) rfl (by kernel_rfl) (by kernel_rfl) (by kernel_rfl) (fun _ _ _ h => h) (Or.inl ⟨by rfl, ?hy⟩) hHeld ?_
          case hy => (intro w hSw; (try dsimp only at hSw); obtain ⟨_, _, _, _⟩ := hSw; go_simp; all_goals (with_reducible rfl))
          try simp only [Act.put, List.setIfInBounds_toArray, List.set_cons_zero, List.set_cons_succ]
          refine wpAnyH_take (i := 12) (oi := { dst := some 136, op := Op.load 62 (Operand.tmp 8), type := 62, pos := "plain.go:289", after := #[{ on := 11, ground := Ground.guard }], guard := some (11, false) }) (v := .agg M6.toArray) rfl (by kernel_rfl) (by kernel_rfl) (by kernel_rfl) (fun _ _ _ h => h) (Or.inl ⟨by rfl, ?hy⟩) hHeld ?_
          case hy => (intro w hSw; exact run_load_opP hSw.2.2.1)
          try simp only [Act.put, List.setIfInBounds_toArray, List.set_cons_zero, List.set_cons_succ]
          refine wpAnyH_take (i := 13) (oi := { dst := some 137, op := Op.load 68 (Operand.tmp 14), type := 68, pos := "plain.go:289", after := #[{ on := 11, ground := Ground.guard }], guard := some (11, false) }) (v := .agg #[.int .i64 Q.i, .slice ra2 PL.length rc2]) rfl (by kernel_rfl) (by kernel_rfl) (by kernel_rfl) (fun _ _ _ h => h) (Or.inl ⟨by rfl, ?hy⟩) hHeld ?_
          case hy => (intro w hSw; exact run_load_opP hSw.2.2.2)
          try simp only [Act.put, List.setIfInBounds_toArray, List.set_cons_zero, List.set_cons_succ]
          refine wpAnyH_ready (rs := [14]) (by kernel_rfl) (by simp) ?_
          refine AllReadyH.cons (o := { dst := some 138, op := Op.call { callee := Callee.value (Operand.func 61), args := #[Operand.tmp 136, Operand.tmp 137], argTypes := #[62, 68] }, type := 73, pos := "plain.go:289", after := #[{ on := 12, ground := Ground.data }, { on := 13, ground := Ground.data }, { on := 11, ground := Ground.chain }, { on := 11, ground := Ground.guard }], guard := some (11, false) }) rfl (fun K hK => ?_) AllReadyH.nil
          go_simp
          refine (HCP.out _ (bel_drewN (Below.refl w13.heap.size w13) 1)).mono ?_
          rintro e w14 ⟨rfl, hb14⟩
          have HB14 := hid ((bel_drewN (Below.refl w13.heap.size w13) 1).trans hb14)
          clear hb14
          clear hHeld
          go_wp2_with fail
          refine hK.out _ _ (HPF.out _ HB14.out) (fun hHeld => ?_)
          clear hK K
          try simp only [Act.put, List.setIfInBounds_toArray, List.set_cons_zero, List.set_cons_succ]
          refine wpAnyH_take (i := 15) (oi := { dst := some 139, op := Op.binOp BinOp.neq 73 (Operand.tmp 138) (Operand.const (Value.int IntKind.i64 0)) 73, type := 4, pos := "plain.go:289", after := #[{ on := 14, ground := Ground.data }, { on := 11, ground := Ground.guard }], guard := some (11, false) }) (v := ?_) rfl (by kernel_rfl) (by kernel_rfl) (by kernel_rfl) (fun _ _ _ h => h) (Or.inl ⟨by rfl, ?hy⟩) hHeld ?_
          case hy => (intro w hSw; (try dsimp only at hSw); obtain ⟨_, _, _, _⟩ := hSw; go_simp; all_goals (with_reducible rfl))
          try simp only [Act.put, List.setIfInBounds_toArray, List.set_cons_zero, List.set_cons_succ]
          refine wpAnyH_take (i := 16) (oi := { dst := some 140, op := Op.pick (Operand.tmp 135) (Operand.const (Value.bool true)) (Operand.tmp 139), type := 4, pos := "plain.go:289", after := #[{ on := 11, ground := Ground.data }, { on := 15, ground := Ground.data }, { on := 2, ground := Ground.guard }], guard := some (2, true) }) (v := ?_) rfl (by kernel_rfl) (by kernel_rfl) (by kernel_rfl) (fun _ _ _ h => h) (Or.inl ⟨by rfl, ?hy⟩) hHeld ?_
          case hy => (intro w hSw; (try dsimp only at hSw); obtain ⟨_, _, _, _⟩ := hSw; go_simp; all_goals (with_reducible rfl))
          try simp only [Act.put, List.setIfInBounds_toArray, List.set_cons_zero, List.set_cons_succ]
          refine wpAnyH_take (i := 17) (oi := { dst := some 141, op := Op.pick (Operand.tmp 126) (Operand.tmp 140) (Operand.const (Value.bool false)), type := 4, pos := "plain.go:289", after := #[{ on := 2, ground := Ground.data }, { on := 16, ground := Ground.data }], guard := none }) (v := ?_) rfl (by kernel_rfl) (by kernel_rfl) (by kernel_rfl) (fun _ _ _ h => h) (Or.inl ⟨by rfl, ?hy⟩) hHeld ?_
          case hy => (intro w hSw; (try dsimp only at hSw); obtain ⟨_, _, _, _⟩ := hSw; go_simp; all_goals (with_reducible rfl))
          try simp only [Act.put, List.setIfInBounds_toArray, List.set_cons_zero, List.set_cons_succ]
          refine wpAnyH_done (by kernel_rfl) ?_ _
          go_wp2
          go_meet
          exact ⟨rfl, HB14⟩
        · have n1 : (E2 == 0) = false := by simpa using hE0
          clear hE0
          refine wp_region_held_drew (S := (fun wx : World => wx.cell? ⟨pb, 0, none⟩ = some (.int .i64 PI) ∧ wx.cell? ⟨ob, oo + i * 40 + 39, none⟩ = some (.int .i64 Q.i) ∧ (loadVar 62 ⟨mb, 0, none⟩).run Tryz.prog wx = .ok (.agg M6.toArray) wx ∧ (loadVar 68 ⟨pb, 0, none⟩).run Tryz.prog wx = .ok (.agg #[.int .i64 PI, .slice ra2 PL.length rc2]) wx)) (by kernel_rfl) (HPF.out _ (bel_drewN (Below.refl w13.heap.size w13) 1)) (fun hHeld => ?_)
          refine wpAnyH_take (i := 0) (oi := { dst := some 124, op := Op.move (Operand.tmp 15), type := 73, pos := "plain.go:289", after := #[], guard := none }) (v := ?_) rfl (by kernel_rfl) (by kernel_rfl) (by kernel_rfl) (fun _ _ _ h => h) (Or.inl ⟨by rfl, ?hy⟩) hHeld ?_
          case hy => (intro w hSw; (try dsimp only at hSw); obtain ⟨_, _, _, _⟩ := hSw; go_simp; all_goals (with_reducible rfl))
          try simp only [Act.put, List.setIfInBounds_toArray, List.set_cons_zero, List.set_cons_succ]
          refine wpAnyH_take (i := 1) (oi := { dst := some 125, op := Op.binOp BinOp.eql 73 (Operand.tmp 124) (Operand.const (Value.int IntKind.i64 0)) 73, type := 4, pos := "plain.go:289", after := #[{ on := 0, ground := Ground.data }], guard := none }) (v := ?_) rfl (by kernel_rfl) (by kernel_rfl) (by kernel_rfl) (fun _ _ _ h => h) (Or.inl ⟨by rfl, ?hy⟩) hHeld ?_
          case hy => (intro w hSw; (try dsimp only at hSw); obtain ⟨_, _, _, _⟩ := hSw; go_simp; all_goals (with_reducible rfl))
          try simp only [Act.put, List.setIfInBounds_toArray, List.set_cons_zero, List.set_cons_succ]
          refine wpAnyH_take (i := 2) (oi := { dst := some 126, op := Op.move (Operand.tmp 125), type := 4, pos := "plain.go:289", after := #[{ on := 1, ground := Ground.data }], guard := none }) (v := ?_) rfl (by kernel_rfl) (by kernel_rfl) (by kernel_rfl) (fun _ _ _ h => h) (Or.inl ⟨by rfl, ?hy⟩) hHeld ?_
          case hy => (intro w hSw; (try dsimp only at hSw); obtain ⟨_, _, _, _⟩ := hSw; go_simp; all_goals (with_reducible rfl))
          try simp only [Act.put, List.setIfInBounds_toArray, List.set_cons_zero, List.set_cons_succ]
          refine wpAnyH_take (i := 3) (oi := { dst := some 127, op := Op.fieldAddr 68 (Operand.tmp 14) 0, type := 0, pos := "plain.go:289", after := #[{ on := 2, ground := Ground.guard }], guard := some (2, true) }) (v := undef) rfl (by kernel_rfl) (by kernel_rfl) (by kernel_rfl) (fun _ _ _ h => h) (Or.inr ⟨by rfl, rfl⟩) hHeld ?_
          try simp only [Act.put, List.setIfInBounds_toArray, List.set_cons_zero, List.set_cons_succ]
          refine wpAnyH_take (i := 4) (oi := { dst := some 128, op := Op.load 3 (Operand.tmp 127), type := 3, pos := "plain.go:289", after := #[{ on := 3, ground := Ground.data }, { on := 2, ground := Ground.guard }], guard := some (2, true) }) (v := undef) rfl (by kernel_rfl) (by kernel_rfl) (by kernel_rfl) (fun _ _ _ h => h) (Or.inr ⟨by rfl, rfl⟩) hHeld ?_
          try simp only [Act.put, List.setIfInBounds_toArray, List.set_cons_zero, List.set_cons_succ]
          refine wpAnyH_take (i := 5) (oi := { dst := some 129, op := Op.move (Operand.tmp 1), type := 55, pos := "plain.go:289", after := #[{ on := 2, ground := Ground.guard }], guard := some (2, true) }) (v := undef) rfl (by kernel_rfl) (by kernel_rfl) (by kernel_rfl) (fun _ _ _ h => h) (Or.inr ⟨by rfl, rfl⟩) hHeld ?_
          try simp only [Act.put, List.setIfInBounds_toArray, List.set_cons_zero, List.set_cons_succ]
          refine wpAnyH_take (i := 6) (oi := { dst := some 130, op := Op.move (Operand.tmp 7), type := 3, pos := "plain.go:289", after := #[{ on := 2, ground := Ground.guard }], guard := some (2, true) }) (v := undef) rfl (by kernel_rfl) (by kernel_rfl) (by kernel_rfl) (fun _ _ _ h => h) (Or.inr ⟨by rfl, rfl⟩) hHeld ?_
          try simp only [Act.put, List.setIfInBounds_toArray, List.set_cons_zero, List.set_cons_succ]
          refine wpAnyH_take (i := 7) (oi := { dst := some 131, op := Op.indexAddr 55 (Operand.tmp 129) (Operand.tmp 130), type := 0, pos := "plain.go:289", after := #[{ on := 5, ground := Ground.data }, { on := 6, ground := Ground.data }, { on := 2, ground := Ground.guard }], guard := some (2, true) }) (v := undef) rfl (by kernel_rfl) (by kernel_rfl) (by kernel_rfl) (fun _ _ _ h => h) (Or.inr ⟨by rfl, rfl⟩) hHeld ?_
          try simp only [Act.put, List.setIfInBounds_toArray, List.set_cons_zero, List.set_cons_succ]
          refine wpAnyH_take (i := 8) (oi := { dst := some 132, op := Op.fieldAddr 70 (Operand.tmp 131) 2, type := 0, pos := "plain.go:289", after := #[{ on := 7, ground := Ground.data }, { on := 2, ground := Ground.guard }], guard := some (2, true) }) (v := undef) rfl (by kernel_rfl) (by kernel_rfl) (by kernel_rfl) (fun _ _ _ h => h) (Or.inr ⟨by rfl, rfl⟩) hHeld ?_
          try simp only [Act.put, List.setIfInBounds_toArray, List.set_cons_zero, List.set_cons_succ]
          refine wpAnyH_take (i := 9) (oi := { dst := some 133, op := Op.load 3 (Operand.tmp 132), type := 3, pos := "plain.go:289", after := #[{ on := 8, ground := Ground.data }, { on := 2, ground := Ground.guard }], guard := some (2, true) }) (v := undef) rfl (by kernel_rfl) (by kernel_rfl) (by kernel_rfl) (fun _ _ _ h => h) (Or.inr ⟨by rfl, rfl⟩) hHeld ?_
          try simp only [Act.put, List.setIfInBounds_toArray, List.set_cons_zero, List.set_cons_succ]
          refine wpAnyH_take (i := 10) (oi := { dst := some 134, op := Op.binOp BinOp.neq 3 (Operand.tmp 128) (Operand.tmp 133) 3, type := 4, pos := "plain.go:289", after := #[{ on := 4, ground := Ground.data }, { on := 9, ground := Ground.data }, { on := 2, ground := Ground.guard }], guard := some (2, true) }) (v := undef) rfl (by kernel_rfl) (by kernel_rfl) (by kernel_rfl) (fun _ _ _ h => h) (Or.inr ⟨by rfl, rfl⟩) hHeld ?_
          try simp only [Act.put, List.setIfInBounds_toArray, List.set_cons_zero, List.set_cons_succ]
          refine wpAnyH_take (i := 11) (oi := { dst := some 135, op := Op.move (Operand.tmp 134), type := 4, pos := "plain.go:289", after := #[{ on := 10, ground := Ground.data }, { on := 2, ground := Ground.chain }, { on := 2, ground := Ground.guard }], guard := some (2, true) }) (v := undef) rfl (by kernel_rfl) (by kernel_rfl) (by kernel_rfl) (fun _ _ _ h => h) (Or.inr ⟨by rfl, rfl⟩) hHeld ?_
          try simp only [Act.put, List.setIfInBounds_toArray, List.set_cons_zero, List.set_cons_succ]
          refine wpAnyH_take (i := 12) (oi := { dst := some 136, op := Op.load 62 (Operand.tmp 8), type := 62, pos := "plain.go:289", after := #[{ on := 11, ground := Ground.guard }], guard := some (11, false) }) (v := undef) rfl (by kernel_rfl) (by kernel_rfl) (by kernel_rfl) (fun _ _ _ h => h) (Or.inr ⟨by rfl, rfl⟩) hHeld ?_
          try simp only [Act.put, List.setIfInBounds_toArray, List.set_cons_zero, List.set_cons_succ]
          refine wpAnyH_take (i := 13) (oi := { dst := some 137, op := Op.load 68 (Operand.tmp 14), type := 68, pos := "plain.go:289", after := #[{ on := 11, ground := Ground.guard }], guard := some (11, false) }) (v := undef) rfl (by kernel_rfl) (by kernel_rfl) (by kernel_rfl) (fun _ _ _ h => h) (Or.inr ⟨by rfl, rfl⟩) hHeld ?_
          try simp only [Act.put, List.setIfInBounds_toArray, List.set_cons_zero, List.set_cons_succ]
          refine wpAnyH_take (i := 14) (oi := { dst := some 138, op := Op.call { callee := Callee.value (Operand.func 61), args := #[Operand.tmp 136, Operand.tmp 137], argTypes := #[62, 68] }, type := 73, pos := "plain.go:289", after := #[{ on := 12, ground := Ground.data }, { on := 13, ground := Ground.data }, { on := 11, ground := Ground.chain }, { on := 11, ground := Ground.guard }], guard := some (11, false) }) (v := undef) rfl (by kernel_rfl) (by kernel_rfl) (by kernel_rfl) (fun _ _ _ h => h) (Or.inr ⟨by rfl, rfl⟩) hHeld ?_
          try simp only [Act.put, List.setIfInBounds_toArray, List.set_cons_zero, List.set_cons_succ]
          refine wpAnyH_take (i := 15) (oi := { dst := some 139, op := Op.binOp BinOp.neq 73 (Operand.tmp 138) (Operand.const (Value.int IntKind.i64 0)) 73, type := 4, pos := "plain.go:289", after := #[{ on := 14, ground := Ground.data }, { on := 11, ground := Ground.guard }], guard := some (11, false) }) (v := undef) rfl (by kernel_rfl) (by kernel_rfl) (by kernel_rfl) (fun _ _ _ h => h) (Or.inr ⟨by rfl, rfl⟩) hHeld ?_
          try simp only [Act.put, List.setIfInBounds_toArray, List.set_cons_zero, List.set_cons_succ]
          refine wpAnyH_take (i := 16) (oi := { dst := some 140, op := Op.pick (Operand.tmp 135) (Operand.const (Value.bool true)) (Operand.tmp 139), type := 4, pos := "plain.go:289", after := #[{ on := 11, ground := Ground.data }, { on := 15, ground := Ground.data }, { on := 2, ground := Ground.guard }], guard := some (2, true) }) (v := undef) rfl (by kernel_rfl) (by kernel_rfl) (by kernel_rfl) (fun _ _ _ h => h) (Or.inr ⟨by rfl, rfl⟩) hHeld ?_
          try simp only [Act.put, List.setIfInBounds_toArray, List.set_cons_zero, List.set_cons_succ]
          refine wpAnyH_take (i := 17) (oi := { dst := some 141, op := Op.pick (Operand.tmp 126) (Operand.tmp 140) (Operand.const (Value.bool false)), type := 4, pos := "plain.go:289", after := #[{ on := 2, ground := Ground.data }, { on := 16, ground := Ground.data }], guard := none }) (v := ?_) rfl (by kernel_rfl) (by kernel_rfl) (by kernel_rfl) (fun _ _ _ h => h) (Or.inl ⟨by rfl, ?hy⟩) hHeld ?_
          case hy => (intro w hSw; (try dsimp only at hSw); obtain ⟨_, _, _, _⟩ := hSw; go_simp; all_goals (with_reducible rfl))
          try simp only [Act.put, List.setIfInBounds_toArray, List.set_cons_zero, List.set_cons_succ]
          refine wpAnyH_done (by kernel_rfl) ?_ _
          go_wp2
          go_meet
          exact ⟨rfl, hid (bel_drewN (Below.refl w13.heap.size w13) 1)⟩
      case rest =>
      as_aux_lemma =>
      obtain ⟨rfl, hbd⟩ := hcut
      obtain ⟨w14, rfl⟩ : ∃ y, y = wc := ⟨wc, rfl⟩
      have HS14 := hid (show SoI w w1 w14 gb fb B obj (i + 1) from ⟨g5, HGS13.out.below hbd.out, HGO5.out, HGLi5.out, fld_belowA HF13.out hbd.out, HB113.out.trans (hbd.out.mono HB113.out.size)⟩)
      clear hbd
      have hon := HS0.out
      go_wp2
      exact ⟨⟨i + 1, by omega, by go_num, HS14⟩, by simp [intOf]; omega⟩
theorem so_walkG (w : World) (V : Vars w shaRound shaStart) (obj : List Nat) (ho : obj.length = 32) (hb : ∀ i, obj.getD i 0 < 256) (oa : Option Addr) (on oc : Nat) (q : Nat → OfQ) (hO : Ofs w oa on q) :
    Calls Tryz.prog 14 #[.agg (u8s obj).toArray, .slice oa on oc] w fun e w' => e = .returned (.bool true) ∧ Below w.heap.size w w' :=
  so_walk w V obj ho (fun y hy => by
    obtain ⟨i, hi, rfl⟩ := List.getElem_of_mem hy
    have h := hb i
    rwa [List.getD_eq_getElem?_getD, List.getElem?_eq_getElem hi] at h) oa on oc q hO
end Go.Proofs.YtjgiiciniplbnaaGreatDoor

namespace Go.Proofs.YtjgiiciniplbnaaGreatDoor
open Go Go.RowKit
set_option linter.unusedVariables false

def cellN (v : Option Value) : Nat := match v with | some (.int _ n) => n.toNat | _ => 0
theorem cellN_int (k : IntKind) (n : Nat) : cellN (some (.int k (n : Int))) = n := rfl
theorem open_arr32 {P : Program} {t e : TypeId} (ht : P.underlying t = some (.array 32 e)) (he : P.underlying e = some (.int .u8)) (hc : P.cellsOf t = 32) (hc1 : P.cellsOf e = 1)
    {H : Type} {enc : TypeId × Value → H} {W : World} {r : Reach} {base b0 : Nat} {spare : Nat → Bool} {held : Bool} {v : Value} {d : DataW H} {ps : List MemPlace}
    (hval : Value.okWide P W r b0 t v) (h : DataW.Trod enc P W base spare held t v d ps) :
    ∃ l : List Nat, v = .agg (u8s l).toArray ∧ l.length = 32 ∧ ∀ i, l.getD i 0 < 256 := by
  simp only [Value.okWide, ht] at hval
  obtain ⟨cs, rfl, hsz, _⟩ := hval
  rw [hc] at hsz
  obtain ⟨fuel, hf⟩ := h
  obtain ⟨xs, m, _, _, _, hxl, hall⟩ := DataW.trod_array ht hf
  have each : ∀ i, i < 32 → ∃ n : Nat, cs[i]? = some (.int .u8 (n : Int)) ∧ n < 256 := fun i hi => by
    have h1 := hall i hi
    rw [hc1, List.getElem?_eq_getElem (show i < xs.length by omega)] at h1
    obtain ⟨n, h2, _, hw⟩ := DataW.trod_int he h1
    have h3 := getElem?_of_chunk (xs := cs) h2
    have h4 := bounds_u8 hw
    exact ⟨n.toNat, by rw [Nat.mul_one] at h3; rw [h3, Int.toNat_of_nonneg h4.1], by omega⟩
  have hat : ∀ i, i < 32 → ((List.range 32).map fun i => cellN cs[i]?)[i]? = some (cellN cs[i]?) := fun i hi => by
    rw [List.getElem?_map, List.getElem?_range hi]
    rfl
  have hlen : ((List.range 32).map fun i => cellN cs[i]?).length = 32 := by rw [List.length_map, List.length_range]
  generalize (List.range 32).map (fun i => cellN cs[i]?) = l at *
  refine ⟨l, ?_, hlen, fun i => ?_⟩
  · congr 1
    apply Array.ext_getElem?
    intro i
    by_cases hi : i < 32
    · obtain ⟨n, h1, h2⟩ := each i hi
      have h3 := hat i hi
      rw [h1, cellN_int] at h3
      rw [h1, List.getElem?_toArray]
      unfold u8s
      rw [List.getElem?_map, h3]
      rfl
    · rw [Array.getElem?_eq_none (by omega), List.getElem?_toArray, List.getElem?_eq_none (by unfold u8s; rw [List.length_map]; omega)]
  · rw [List.getD_eq_getElem?_getD]
    by_cases hi : i < 32
    · obtain ⟨n, h1, h2⟩ := each i hi
      have h3 := hat i hi
      rw [h1, cellN_int] at h3
      rw [h3]
      exact h2
    · rw [List.getElem?_eq_none (by omega)]
      exact Nat.succ_pos _
set_option maxRecDepth 100000 in
theorem open_dig {H : Type} {enc : TypeId × Value → H} {W : World} {base b0 : Nat} {spare : Nat → Bool} {held : Bool} {v : Value} {d : DataW H} {ps : List MemPlace}
    (hval : Value.okWide Tryz.prog W .any b0 23 v) (h : DataW.Trod enc Tryz.prog W base spare held 23 v d ps) :
    ∃ l : List Nat, v = .agg (u8s l).toArray ∧ l.length = 32 ∧ ∀ i, l.getD i 0 < 256 :=
  open_arr32 (P := Tryz.prog) (t := 23) (e := 5) Tryz.underlying23 Tryz.underlying5 (by kernel_rfl) (by kernel_rfl) (W := W) (r := .any) (b0 := b0) (v := v) (enc := enc) (base := base) (spare := spare) (held := held) (d := d) (ps := ps) hval h
end Go.Proofs.YtjgiiciniplbnaaGreatDoor

namespace Go.Proofs.YtjgiiciniplbnaaGreatDoor.placeSound
open Go.ChangeShapes Go.WideShapes Go.ChangeAt Go.RowKit Go.WideMaps Go.WideElems
open Go.ChangeMaps (open_string shut_string)
set_option linter.unusedVariables false

set_option maxRecDepth 100000 in
theorem lifted (os : Os) (started : os.Started) (H : Type) (enc : TypeId × Value → H) :
    ReturnsInHanded {} Tryz.checked os 14 .any (fun w args => (Rows.placeSoundSpec.pre enc Tryz.prog Tryz.f14 [] false w args ∧ laidMetH Tryz.prog laidA w) ∧ sizedMet enc Tryz.prog Tryz.f14 (OpenSpec.ofChange Rows.placeSoundSpec) false w args)
      (Rows.placeSoundSpec.post enc Tryz.prog Tryz.f14 false true false false) := by
  refine returnsInHanded_of_change_and (C := Tryz.checked) (X := fun w _ => laidMetH Tryz.prog laidA w) (fun _ _ _ hh h => h.of_heap hh) ownD started (by kernel_rfl) Tryz.func14
    (ChangeSpec.witness_shaped (enc := enc) (C := Tryz.checked) (os := os) (X := fun w _ => laidMetH Tryz.prog laidA w) false (World.doorLaid Tryz.prog 24 os) #[.agg (u8s (List.replicate 32 0)).toArray, .slice none 0 0] 8 rfl (World.shaped_of_RefB (by kernel_rfl) (by kernel_rfl)) (by kernel_rfl) (by kernel_rfl) (by kernel_rfl) (door_metA os _)) ?_
  intro W base args ds gs before hval0 hW _ _ hL _
  have hval : ∀ (j : Nat) t v, Tryz.f14.params[j]? = some t → args[j]? = some v → Value.okWide Tryz.prog W .any base t v := hval0
  have hW' := hW
  obtain ⟨p, q, hA0, hV, rfl, hfz, hnd⟩ := hW
  have hA : DataW.TrodAll enc Tryz.prog W 0 (fun _ => true) true Tryz.f14.params.toList args.toList ds p := hA0
  rw [Tryz.params14] at hA hval
  obtain ⟨v0, vs0, d0, ds0, p0, q0, hargs, rfl, rfl, h0, r0⟩ := trodAll_cons hA
  obtain ⟨v1, vs1, d1, ds1, p1, q1, rfl, rfl, rfl, h1, r1⟩ := trodAll_cons r0
  obtain ⟨rfl, rfl, rfl⟩ := trodAll_nil r1
  obtain rfl : args = #[v0, v1] := by cases args; simp_all
  obtain ⟨rfl, rfl⟩ := trodVars_none hV
  have k0 := h0
  have lt0 : ∀ x ∈ p0, x.block < W.heap.size := by obtain ⟨m, hm⟩ := k0; exact DataW.trod_lt m _ _ _ hm
  obtain ⟨l0, rfl, hl0, hb0⟩ := open_dig (hval 0 23 v0 rfl rfl) h0
  obtain ⟨a1, len1, cap1, rfl⟩ := okWide_slice Tryz.underlying55 (hval 1 55 v1 rfl rfl)
  have k1 := h1
  have lt1 : ∀ x ∈ p1, x.block < W.heap.size := by obtain ⟨m, hm⟩ := k1; exact DataW.trod_lt m _ _ _ hm
  obtain ⟨q1q, c1⟩ : ∃ q, Ofs W a1 len1 q := by
    obtain ⟨fuel, hf⟩ := h1
    obtain ⟨a', n', c', q, hcs, hx⟩ := open_offers hf
    simp [Value.cells] at hcs
    obtain ⟨rfl, rfl, rfl⟩ := hcs
    exact ⟨q, hx⟩
  clear hA0 hval0
  refine (so_walkG W (vars_of_laid hL) l0 hl0 hb0 a1 len1 cap1 q1q c1).mono fun e W' ⟨he, bel⟩ => ?_
  subst he
  exact ⟨_, rfl, _, _, _, [], _, [], hW', trodAll_mk1 (shut_bool Tryz.underlying4 _), (trodAll_cons_mk (Below.trod Facts.laidOut (by kernel_rfl) (of_decide_eq_true (by kernel_rfl)) k0 bel lt0) (trodAll_cons_mk (Below.trod Facts.laidOut (by kernel_rfl) (of_decide_eq_true (by kernel_rfl)) k1 bel lt1) trodAll_mk0)), rfl, bel.frame _, fun h => by cases h⟩

set_option maxHeartbeats 4000000 in
set_option maxRecDepth 1000000 in
theorem closed : joinedFacts Tryz.pinned.checked.prog 14 Tryz.f14 Rows.placeSoundSpec Rows.placeSoundRow = true := by
  unfold joinedFacts
  refine (Facts.and2 (Facts.and2 (Facts.and2 (Facts.and2 (Facts.and2 (Facts.and2 (Facts.and2 (Facts.and2 (Facts.and2 (Facts.and2 (Facts.and2 (Facts.and2 (Facts.and2 (Facts.and2 (Facts.and2 (Facts.and2 (Facts.and2 (Facts.and2 (Facts.and2 (Facts.and2 (Facts.and2 (Facts.and2 (Facts.and2 (Facts.and2 (Facts.and2 (Facts.and2 (Facts.and2 (Facts.and2 (Facts.and2 (Facts.and2 (Facts.and2 ?_ Facts.laidOut) Facts.mapsR) ?_) ?_) ?_) Facts.stops) ?_) Facts.knobs) ?_) ?_) ?_) ?_) ?_) ?_) ?_) ?_) ?_) ?_) ?_) ?_) ?_) Facts.keys) ?_) Facts.heard) Facts.enter) ?_) ?_) ?_) ?_) ?_) ?_)
  all_goals (as_aux_lemma => kernel_rfl)

theorem over : Rows.placeSoundRow.holds Tryz.pinned (OpenSpec.ofChange Rows.placeSoundSpec) :=
  OpenClaim.holds_of_wide 14 Tryz.f14 rfl rfl rfl rfl rfl rfl rfl ⟨rfl, rfl, rfl, rfl, rfl⟩ rfl rfl rfl rfl rfl (by as_aux_lemma => kernel_rfl) Tryz.func14 closed
    (of_decide_eq_true (by as_aux_lemma => kernel_rfl)) (by unfold Func.isWrapper; first | (rw [if_pos (by decide +kernel)]; kernel_rfl) | (rw [if_neg (by decide +kernel)]; exact ⟨rfl, rfl⟩))
    (fun os started H enc _ => lifted os started H enc)
end Go.Proofs.YtjgiiciniplbnaaGreatDoor.placeSound
namespace Go.Proofs.YtjgiiciniplbnaaGreatDoor
open Go
set_option maxHeartbeats 4000000 in
set_option maxRecDepth 1000000 in
theorem placeSound_holds : Rows.PlaceSoundCardSaid :=
  Claim7.holds_tied_plain_at .later [] [.data, .data] true (true, "4a085e94ccebdf24e9b63843c722f4a968f2e6f610b760c9b6f284c344973c54") false
    placeSound.over (fun _ h => by cases h) (by as_aux_lemma => kernel_rfl) (fun _ h => by cases h) placeSound_row_tie rfl ⟨rfl, rfl⟩ (by as_aux_lemma => kernel_rfl) rfl
    (fun f fn hf hfn => by
      obtain rfl : f = 14 := Option.some.inj ((show Tryz.prog.funcNamed "stolon/stolonlaw07.PlaceSound" = some 14 by as_aux_lemma => kernel_rfl).symm.trans hf) |>.symm
      obtain rfl : fn = Tryz.f14 := (Option.some.inj (Tryz.func14.symm.trans hfn)).symm
      exact ⟨by as_aux_lemma => kernel_rfl, fun j t ht => by
        rw [Tryz.params14] at ht
        rcases j with _ | _ | j
        · obtain rfl : t = 23 := by simpa using ht.symm
          exact (show Tryz.prog.wantsStandIn 23 = false by as_aux_lemma => kernel_rfl)
        · obtain rfl : t = 55 := by simpa using ht.symm
          exact (show Tryz.prog.wantsStandIn 55 = false by as_aux_lemma => kernel_rfl)
        · simp at ht⟩)
    (by as_aux_lemma => kernel_rfl)
#print axioms placeSound_holds
end Go.Proofs.YtjgiiciniplbnaaGreatDoor
