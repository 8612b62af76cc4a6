/-
  DigestEncodes.
-/
import Derived.Test.YtdjnjmekdjcbaaaDoorRid
import Derived.Test.YtdjnjmekdjcbaaaDoorOwMn
import Derived.Test.YtdjnjmekdjcbaaaDoorKnw
import Derived.Deep.RegionHeld3
import Derived.Deep.DeepCutAuto
namespace Go.Proofs.YtdjnjmekdjcbaaaDoor
open Go Go.RowKit
set_option linter.unusedVariables false

theorem wpList_load_wantE {P : Program} {ops : Array Oper} {rest : List Oper} {op : Oper} {a : Act} {w : World} {Q : Exit → Act → World → Prop} (hw : Region.wanted op (yielded ops a.tmps) = true) (ty : TypeId) (x : Operand) (ho : op.op = .load ty x)
    (b o : Nat) (hx : a.eval x = .pointer (some ⟨b, o, none⟩)) (cs : List Value) (d : TypeDesc) (hc : w.rangeAt b o cs)
    (hu : P.underlying ty = some d) (hd : d.isRow = true) (hi : (P.info? ty).map (·.size) = some cs.length)
    (h : wpList P ops Q rest (a.put op.dst (.agg cs.toArray)) w) : wpList P ops Q (op :: rest) a w :=
  BigFrame.wpList_want hw fun _ hK => wp_load_mid ty x ho b o hx cs d hc hu hd hi (hK _ _ h)
/-- a load, as an operation -/
theorem run_load_op {P : Program} {ev : Operand → Value} {o : Oper} {ty : TypeId} {x : Operand} {w : World} {v : Value} {ad : Addr} (h : (loadVar ty ad).run P w = .ok v w) (ho : o.op = .load ty x := by rfl) (hx : ev x = .pointer (some ad) := by rfl) :
    (execOp ev o).run P w = .ok (.value v) w := by
  unfold execOp
  simp only [ho, hx, Instr.loadAt, Instr.sureAddr, Sem.run_bind, Sem.run_pure, Result.andThen_ok, h]
/-- what an encoding answers -/
def EncTo (w : World) (L : Nat) (l : List Nat) (E : Int) (e : Ending) (w' : World) : Prop := ∃ a c, e = .returned (.tuple #[.slice a L c, .int .i64 E]) ∧ Bs w' (.slice a L c) l ∧ Below w.heap.size w w'
/-- what an id answers -/
def IdTo (w : World) (X : List Nat) (E : Int) (e : Ending) (w' : World) : Prop := e = .returned (.tuple #[.agg (u8s X).toArray, .int .i64 E]) ∧ Below w.heap.size w w'

set_option maxRecDepth 100000 in
set_option maxHeartbeats 4000000 in
theorem enc_good (w : World) (k n t s : Int) (od : List Nat) (a : Option Addr) (m c : Nat) (D : List (List Nat)) (ho : od.length = 32) (hD : Dgs w a m c D) (hm : m ≤ 400) (L : Nat) (l X : List Nat) (hX : X.length = 32) (hv : manB k n t s m = true)
    (HK : ∀ wx, Below w.heap.size w wx → Calls Tryd.prog 10 #[] wx fun e w' => e = .returned (.bool true) ∧ Below wx.heap.size wx w')
    (HEN : ∀ wx a' c', Dgs wx a' m c' D → Calls Tryd.prog 23 #[.agg (mcells k n t s od (.slice a' m c')).toArray] wx (EncTo wx L l 0))
    (HRE : ∀ wx a' c', Dgs wx a' m c' D → Calls Tryd.prog 25 #[.agg (mcells k n t s od (.slice a' m c')).toArray] wx (EncTo wx L l 0))
    (HID : ∀ wx, Below w.heap.size w wx → ∀ a' c', Dgs wx a' m c' D → Calls Tryd.prog 28 #[.agg (mcells k n t s od (.slice a' m c')).toArray] wx (IdTo wx X 0))
    (HRI : ∀ wx, Below w.heap.size w wx → ∀ a' c', Dgs wx a' m c' D → Calls Tryd.prog 29 #[.agg (mcells k n t s od (.slice a' m c')).toArray] wx (IdTo wx X 0)) :
    Calls Tryd.prog 5 #[.agg (mcells k n t s od (.slice a m c)).toArray] w fun e w' => e = .returned (.bool true) ∧ Below w.heap.size w w' := by
  have HK := hid HK
  have HEN := hid HEN
  have HRE := hid HRE
  have HID := hid HID
  have HRI := hid HRI
  obtain ⟨w1, hw1⟩ : ∃ y, y = w.alloc (.cells (mcells k n t s od (.slice a m c)).toArray 55) := ⟨_, rfl⟩
  have HB1 := hid (show Below w.heap.size w w1 from by rw [hw1]; exact (Below.refl _ _).alloc (Nat.le_refl _) _)
  have HM1 := hid (show ManAt w1 w.heap.size k n t s od (.slice a m c) from by rw [hw1]; exact heap_new _ _)
  have HML := hid (mcells_length k n t s od (.slice a m c) ho)
  have HIF := hid (show (Tryd.prog.info? 55).map (·.size) = some (mcells k n t s od (.slice a m c)).length from by rw [HML.out]; kernel_rfl)
  have c36 := (HM1.out.c ho).2.2.2.2
  have hlt1 : w.heap.size < w1.heap.size := lt_of_heap HM1.out
  have hI : ¬ 400 < (m : Int) := by omega
  have hme : manE k n t s m = 0 := by unfold manE; rw [hv]; rfl
  have HOW := hid (fun (wx : World) (b : Below w1.heap.size w1 wx) => own_man k n t s od a m c D wx ho ((hD.below HB1.out).below b) (by omega))
  have HDW := hid (fun (wx : World) (b : Below w1.heap.size w1 wx) => ((hD.below HB1.out).below b : Dgs wx a m c D))
  have HRM := hid (fun (wx : World) (b : Below w1.heap.size w1 wx) => (show wx.rangeAt w.heap.size 0 (mcells k n t s od (.slice a m c)) from range_of_heapO ((b.block _ hlt1).trans HM1.out)))
  have HCH := hid (fun (wx : World) (a' : Option Addr) (c' : Nat) => CheckManifest_any k n t s od a' m c' ho wx)
  have HVA := hid (fun (wx : World) => valid_any k n t s od a m c ho wx)
  rw [hme] at HCH
  rw [hv] at HVA
  have HIFX := hid (show (Tryd.prog.info? 52).map (·.size) = some (u8s X).toArray.size from by rw [List.size_toArray]; simp only [u8s, List.length_map, hX]; kernel_rfl)
  have HIFL := hid (show (Tryd.prog.info? 52).map (·.size) = some (u8s X).length from by simp only [u8s, List.length_map, hX]; kernel_rfl)
  have HSZX := hid (show 32 = (u8s X).toArray.size from by rw [List.size_toArray]; simp only [u8s, List.length_map, hX])
  have HONX := hid (show (u8s X).toArray.all (·.oneCell') = true from all_oneCell_toArray (u8s_oneH X))
  have HEQ := hid (fun wx => eql_sameD X hX wx)
  clear ho hD hv hme hX
  go_enter Tryd.func5, Tryd.ntmps5
  go_upto_region 1 with fail
  change Code.wp _ _ _ _ (w.alloc (.cells (mcells k n t s od (.slice a m c)).toArray 55))
  rw [← hw1]
  clear hw1
  go_wp2_with (refine wpList_load_mid (by rfl) 55 (.tmp 1) (by rfl) w.heap.size 0 (by rfl) (mcells k n t s od (.slice a m c)) _ (HRM.out w1 (Below.refl _ _)) Tryd.underlying55 rfl HIF.out ?_)
  refine (HOW.out w1 (Below.refl _ _)).mono ?_
  rintro e w2 ⟨a2, c2, rfl, hd2, hb2⟩
  have HB2 := hid hb2
  have HD2 := hid hd2
  clear hb2 hd2
  go_wp2_with fail
  refine (HEN.out w2 a2 c2 HD2.out).mono ?_
  rintro e w3 ⟨a3, c3, rfl, hbs3, hb3⟩
  have HB3 := hid (HB2.out.trans (hb3.mono HB2.out.size))
  have HS3 := hid hbs3
  clear hb3 hbs3
  go_wp2_with (refine wpList_load_mid (by rfl) 55 (.tmp 1) (by rfl) w.heap.size 0 (by rfl) (mcells k n t s od (.slice a m c)) _ (HRM.out w3 HB3.out) Tryd.underlying55 rfl HIF.out ?_)
  refine (HRE.out w3 a c (HDW.out w3 HB3.out)).mono ?_
  rintro e w4 ⟨a4, c4, rfl, hbs4, hb4⟩
  have HB4 := hid (HB3.out.trans (hb4.mono HB3.out.size))
  have HS4 := hid hbs4
  have HS34 := hid (HS3.out.below hb4)
  clear hb4 hbs4
  have HC3 := hid (fun (wx : World) (b : Below w4.heap.size w4 wx) => conv_bs (HS34.out.below b))
  have HC4 := hid (fun (wx : World) (b : Below w4.heap.size w4 wx) => conv_bs (HS4.out.below b))
  have HLD := hid (fun (wx : World) (b : Below w4.heap.size w4 wx) => run_loadVar_mid (P := Tryd.prog) wx w.heap.size 0 55 (mcells k n t s od (.slice a m c)) _ (HRM.out wx (HB4.out.trans (b.mono HB4.out.size))) Tryd.underlying55 rfl HIF.out)
  have HOW5 := hid (fun (wx : World) (b : Below w4.heap.size w4 wx) => (HOW.out wx (HB4.out.trans (b.mono HB4.out.size))).mono (fun e w' (h : ∃ a' c', e = .returned (.agg (mcells k n t s od (.slice a' m c')).toArray) ∧ Dgs w' a' m c' D ∧ Below wx.heap.size wx w') => (show ∃ a' c', e = .returned (.agg (mcells k n t s od (.slice a' m c')).toArray) ∧ Below w4.heap.size w4 w' from by obtain ⟨a', c', h1, _, h3⟩ := h; exact ⟨a', c', h1, b.trans (h3.mono b.size)⟩)))
  have HCH5 := hid (fun (wx : World) (a' : Option Addr) (c' : Nat) (b : Below w4.heap.size w4 wx) => (HCH.out wx a' c').mono (fun e w' h => (show e = .returned (.int .i64 0) ∧ Below w4.heap.size w4 w' from ⟨h.1, b.trans (h.2.mono b.size)⟩)))
  have HVA5 := hid (fun (wx : World) (b : Below w4.heap.size w4 wx) => (HVA.out wx).mono (fun e w' h => (show e = .returned (.bool true) ∧ Below w4.heap.size w4 w' from ⟨h.1, b.trans (h.2.mono b.size)⟩)))
  obtain ⟨XM, hXM⟩ : ∃ XM, XM = (mcells k n t s od (.slice a m c)).toArray := ⟨_, rfl⟩
  rw [← hXM] at HLD HOW5 HVA5
  clear hXM
  generalize bstr l = SX at HC3 HC4
  have HKP := hid (show ∀ wx, Below w4.heap.size w4 wx → Below w4.heap.size w4 wx ∧ (loadVar 55 ⟨w.heap.size, 0, none⟩).run Tryd.prog wx = .ok (.agg XM) wx ∧ (convert 27 9 (.slice a3 L c3)).run Tryd.prog wx = .ok (.string SX) wx ∧ (convert 27 9 (.slice a4 L c4)).run Tryd.prog wx = .ok (.string SX) wx from fun wx b => ⟨b, HLD.out wx b, HC3.out wx b, HC4.out wx b⟩)
  clear c36 HS3 HS4 HS34
  go_upto_region 5 with fail
  go_cut [54] (fun v wx => v = .bool false ∧ ∃ wy, wy = wx ∧ Hid (Below w4.heap.size w4 wy))
  case first =>
    refine wp_region_held_drew (S := fun wx => Below w4.heap.size w4 wx ∧ (loadVar 55 ⟨w.heap.size, 0, none⟩).run Tryd.prog wx = .ok (.agg XM) wx ∧ (convert 27 9 (.slice a3 L c3)).run Tryd.prog wx = .ok (.string SX) wx ∧ (convert 27 9 (.slice a4 L c4)).run Tryd.prog wx = .ok (.string SX) wx) (by kernel_rfl) (HKP.out _ (bel_drewN (Below.refl _ _) 1)) (fun hHeld => ?_)
    refine wpAnyH_take (i := 0) (oi := { dst := some 25, op := Op.move (Operand.tmp 4), type := 35, pos := "manifest.go:65", after := #[], guard := none }) (v := ?_) rfl (by kernel_rfl) (by kernel_rfl) (by kernel_rfl) (fun _ _ _ h => h) (Or.inl ⟨by rfl, ?hy⟩) hHeld ?_
    case hy => (intro w hSw; (try dsimp only at hSw); obtain ⟨_, _, _, _⟩ := hSw; go_simp; all_goals (with_reducible rfl))
    try simp only [Act.put, List.setIfInBounds_toArray, List.set_cons_zero, List.set_cons_succ]
    refine wpAnyH_take (i := 1) (oi := { dst := some 26, op := Op.move (Operand.tmp 6), type := 35, pos := "manifest.go:65", after := #[], guard := none }) (v := ?_) rfl (by kernel_rfl) (by kernel_rfl) (by kernel_rfl) (fun _ _ _ h => h) (Or.inl ⟨by rfl, ?hy⟩) hHeld ?_
    case hy => (intro w hSw; (try dsimp only at hSw); obtain ⟨_, _, _, _⟩ := hSw; go_simp; all_goals (with_reducible rfl))
    try simp only [Act.put, List.setIfInBounds_toArray, List.set_cons_zero, List.set_cons_succ]
    refine wpAnyH_take (i := 2) (oi := { dst := some 27, op := Op.binOp BinOp.neq 35 (Operand.tmp 25) (Operand.tmp 26) 35, type := 4, pos := "manifest.go:65", after := #[{ on := 0, ground := Ground.data }, { on := 1, ground := Ground.data }], guard := none }) (v := ?_) rfl (by kernel_rfl) (by kernel_rfl) (by kernel_rfl) (fun _ _ _ h => h) (Or.inl ⟨by rfl, ?hy⟩) hHeld ?_
    case hy => (intro w hSw; (try dsimp only at hSw); obtain ⟨_, _, _, _⟩ := hSw; go_simp; all_goals (with_reducible rfl))
    try simp only [Act.put, List.setIfInBounds_toArray, List.set_cons_zero, List.set_cons_succ]
    refine wpAnyH_take (i := 3) (oi := { dst := some 28, op := Op.move (Operand.tmp 27), type := 4, pos := "manifest.go:65", after := #[{ on := 2, ground := Ground.data }], guard := none }) (v := ?_) rfl (by kernel_rfl) (by kernel_rfl) (by kernel_rfl) (fun _ _ _ h => h) (Or.inl ⟨by rfl, ?hy⟩) hHeld ?_
    case hy => (intro w hSw; (try dsimp only at hSw); obtain ⟨_, _, _, _⟩ := hSw; go_simp; all_goals (with_reducible rfl))
    try simp only [Act.put, List.setIfInBounds_toArray, List.set_cons_zero, List.set_cons_succ]
    refine wpAnyH_take (i := 4) (oi := { dst := some 29, op := Op.move (Operand.tmp 3), type := 27, pos := "manifest.go:65", after := #[{ on := 3, ground := Ground.guard }], guard := some (3, false) }) (v := ?_) rfl (by kernel_rfl) (by kernel_rfl) (by kernel_rfl) (fun _ _ _ h => h) (Or.inl ⟨by rfl, ?hy⟩) hHeld ?_
    case hy => (intro w hSw; (try dsimp only at hSw); obtain ⟨_, _, _, _⟩ := hSw; go_simp; all_goals (with_reducible rfl))
    try simp only [Act.put, List.setIfInBounds_toArray, List.set_cons_zero, List.set_cons_succ]
    refine wpAnyH_take (i := 5) (oi := { dst := some 30, op := Op.convert 27 9 (Operand.tmp 29), type := 9, pos := "manifest.go:65", after := #[{ on := 4, ground := Ground.data }, { on := 3, ground := Ground.guard }], guard := some (3, false) }) (v := ?_) rfl (by kernel_rfl) (by kernel_rfl) (by kernel_rfl) (fun _ _ _ h => h) (Or.inl ⟨by rfl, ?hy⟩) hHeld ?_
    case hy => (intro w hSw; (try dsimp only at hSw); obtain ⟨_, _, _, _⟩ := hSw; go_simp; all_goals (with_reducible rfl))
    try simp only [Act.put, List.setIfInBounds_toArray, List.set_cons_zero, List.set_cons_succ]
    refine wpAnyH_take (i := 6) (oi := { dst := some 31, op := Op.move (Operand.tmp 5), type := 27, pos := "manifest.go:65", after := #[{ on := 3, ground := Ground.guard }], guard := some (3, false) }) (v := ?_) rfl (by kernel_rfl) (by kernel_rfl) (by kernel_rfl) (fun _ _ _ h => h) (Or.inl ⟨by rfl, ?hy⟩) hHeld ?_
    case hy => (intro w hSw; (try dsimp only at hSw); obtain ⟨_, _, _, _⟩ := hSw; go_simp; all_goals (with_reducible rfl))
    try simp only [Act.put, List.setIfInBounds_toArray, List.set_cons_zero, List.set_cons_succ]
    refine wpAnyH_take (i := 7) (oi := { dst := some 32, op := Op.convert 27 9 (Operand.tmp 31), type := 9, pos := "manifest.go:65", after := #[{ on := 6, ground := Ground.data }, { on := 3, ground := Ground.guard }], guard := some (3, false) }) (v := ?_) rfl (by kernel_rfl) (by kernel_rfl) (by kernel_rfl) (fun _ _ _ h => h) (Or.inl ⟨by rfl, ?hy⟩) hHeld ?_
    case hy => (intro w hSw; (try dsimp only at hSw); obtain ⟨_, _, _, _⟩ := hSw; go_simp; all_goals (with_reducible rfl))
    try simp only [Act.put, List.setIfInBounds_toArray, List.set_cons_zero, List.set_cons_succ]
    refine wpAnyH_take (i := 8) (oi := { dst := some 33, op := Op.binOp BinOp.neq 9 (Operand.tmp 30) (Operand.tmp 32) 9, type := 4, pos := "manifest.go:65", after := #[{ on := 5, ground := Ground.data }, { on := 7, ground := Ground.data }, { on := 3, ground := Ground.guard }], guard := some (3, false) }) (v := ?_) rfl (by kernel_rfl) (by kernel_rfl) (by kernel_rfl) (fun _ _ _ h => h) (Or.inl ⟨by rfl, ?hy⟩) hHeld ?_
    case hy => (intro w hSw; (try dsimp only at hSw); obtain ⟨_, _, _, _⟩ := hSw; go_simp; all_goals (with_reducible rfl))
    try simp only [Act.put, List.setIfInBounds_toArray, List.set_cons_zero, List.set_cons_succ]
    refine wpAnyH_take (i := 9) (oi := { dst := some 34, op := Op.pick (Operand.tmp 28) (Operand.const (Value.bool true)) (Operand.tmp 33), type := 4, pos := "manifest.go:65", after := #[{ on := 3, ground := Ground.data }, { on := 8, ground := Ground.data }], guard := none }) (v := ?_) rfl (by kernel_rfl) (by kernel_rfl) (by kernel_rfl) (fun _ _ _ h => h) (Or.inl ⟨by rfl, ?hy⟩) hHeld ?_
    case hy => (intro w hSw; (try dsimp only at hSw); obtain ⟨_, _, _, _⟩ := hSw; go_simp; all_goals (with_reducible rfl))
    try simp only [Act.put, List.setIfInBounds_toArray, List.set_cons_zero, List.set_cons_succ]
    refine wpAnyH_take (i := 10) (oi := { dst := some 35, op := Op.move (Operand.tmp 34), type := 4, pos := "manifest.go:65", after := #[{ on := 9, ground := Ground.data }, { on := 3, ground := Ground.chain }], guard := none }) (v := ?_) rfl (by kernel_rfl) (by kernel_rfl) (by kernel_rfl) (fun _ _ _ h => h) (Or.inl ⟨by rfl, ?hy⟩) hHeld ?_
    case hy => (intro w hSw; (try dsimp only at hSw); obtain ⟨_, _, _, _⟩ := hSw; go_simp; all_goals (with_reducible rfl))
    try simp only [Act.put, List.setIfInBounds_toArray, List.set_cons_zero, List.set_cons_succ]
    refine wpAnyH_take (i := 11) (oi := { dst := some 36, op := Op.load 55 (Operand.tmp 1), type := 55, pos := "manifest.go:65", after := #[{ on := 10, ground := Ground.guard }], guard := some (10, false) }) (v := .agg XM) rfl (by kernel_rfl) (by kernel_rfl) (by kernel_rfl) (fun _ _ _ h => h) (Or.inl ⟨by rfl, ?hy⟩) hHeld ?_
    case hy => (intro w hSw; exact run_load_op hSw.2.1)
    try simp only [Act.put, List.setIfInBounds_toArray, List.set_cons_zero, List.set_cons_succ]
    refine wpAnyH_take (i := 15) (oi := { dst := some 40, op := Op.load 55 (Operand.tmp 1), type := 55, pos := "manifest.go:65", after := #[{ on := 10, ground := Ground.guard }], guard := some (10, false) }) (v := .agg XM) rfl (by kernel_rfl) (by kernel_rfl) (by kernel_rfl) (fun _ _ _ h => h) (Or.inl ⟨by rfl, ?hy⟩) hHeld ?_
    case hy => (intro w hSw; exact run_load_op hSw.2.1)
    try simp only [Act.put, List.setIfInBounds_toArray, List.set_cons_zero, List.set_cons_succ]
    refine wpAnyH_ready (rs := [12]) (by kernel_rfl) (by simp) ?_
    refine AllReadyH.cons (o := { dst := some 37, op := Op.call { callee := Callee.value (Operand.func 24), args := #[Operand.tmp 36], argTypes := #[55] }, type := 55, pos := "manifest.go:65", after := #[{ on := 11, ground := Ground.data }, { on := 10, ground := Ground.chain }, { on := 10, ground := Ground.guard }], guard := some (10, false) }) rfl (fun K hK => ?_) AllReadyH.nil
    go_simp
    (refine (HOW5.out _ hHeld.1).mono ?_; rintro e wA ⟨aA, cA, rfl, hbA⟩)
    have hB := hHeld.1
    clear hHeld
    go_wp2_with fail
    refine hK.out _ _ (HKP.out _ hbA) (fun hHeld => ?_)
    clear hK K hbA hB
    try simp only [Act.put, List.setIfInBounds_toArray, List.set_cons_zero, List.set_cons_succ]
    refine wpAnyH_ready (rs := [13]) (by kernel_rfl) (by simp) ?_
    refine AllReadyH.cons (o := { dst := some 38, op := Op.call { callee := Callee.value (Operand.func 26), args := #[Operand.tmp 37], argTypes := #[55] }, type := 35, pos := "manifest.go:65", after := #[{ on := 12, ground := Ground.data }, { on := 12, ground := Ground.chain }, { on := 10, ground := Ground.guard }], guard := some (10, false) }) rfl (fun K hK => ?_) AllReadyH.nil
    go_simp
    (refine (HCH5.out _ _ _ hHeld.1).mono ?_; rintro e wA ⟨rfl, hbA⟩)
    have hB := hHeld.1
    clear hHeld
    go_wp2_with fail
    refine hK.out _ _ (HKP.out _ hbA) (fun hHeld => ?_)
    clear hK K hbA hB
    try simp only [Act.put, List.setIfInBounds_toArray, List.set_cons_zero, List.set_cons_succ]
    refine wpAnyH_take (i := 14) (oi := { dst := some 39, op := Op.binOp BinOp.eql 35 (Operand.tmp 38) (Operand.const (Value.int IntKind.i64 0)) 35, type := 4, pos := "manifest.go:65", after := #[{ on := 13, ground := Ground.data }, { on := 10, ground := Ground.guard }], guard := some (10, false) }) (v := ?_) rfl (by kernel_rfl) (by kernel_rfl) (by kernel_rfl) (fun _ _ _ h => h) (Or.inl ⟨by rfl, ?hy⟩) hHeld ?_
    case hy => (intro w hSw; (try dsimp only at hSw); obtain ⟨_, _, _, _⟩ := hSw; go_simp; all_goals (with_reducible rfl))
    try simp only [Act.put, List.setIfInBounds_toArray, List.set_cons_zero, List.set_cons_succ]
    refine wpAnyH_ready (rs := [16]) (by kernel_rfl) (by simp) ?_
    refine AllReadyH.cons (o := { dst := some 41, op := Op.call { callee := Callee.value (Operand.func 27), args := #[Operand.tmp 40], argTypes := #[55] }, type := 4, pos := "manifest.go:65", after := #[{ on := 15, ground := Ground.data }, { on := 13, ground := Ground.chain }, { on := 10, ground := Ground.guard }], guard := some (10, false) }) rfl (fun K hK => ?_) AllReadyH.nil
    go_simp
    (refine (HVA5.out _ hHeld.1).mono ?_; rintro e wA ⟨rfl, hbA⟩)
    have hB := hHeld.1
    clear hHeld
    go_wp2_with fail
    refine hK.out _ _ (HKP.out _ hbA) (fun hHeld => ?_)
    clear hK K hbA hB
    try simp only [Act.put, List.setIfInBounds_toArray, List.set_cons_zero, List.set_cons_succ]
    refine wpAnyH_take (i := 17) (oi := { dst := some 42, op := Op.binOp BinOp.neq 4 (Operand.tmp 39) (Operand.tmp 41) 4, type := 4, pos := "manifest.go:65", after := #[{ on := 14, ground := Ground.data }, { on := 16, ground := Ground.data }, { on := 10, ground := Ground.guard }], guard := some (10, false) }) (v := ?_) rfl (by kernel_rfl) (by kernel_rfl) (by kernel_rfl) (fun _ _ _ h => h) (Or.inl ⟨by rfl, ?hy⟩) hHeld ?_
    case hy => (intro w hSw; (try dsimp only at hSw); obtain ⟨_, _, _, _⟩ := hSw; go_simp; all_goals (with_reducible rfl))
    try simp only [Act.put, List.setIfInBounds_toArray, List.set_cons_zero, List.set_cons_succ]
    refine wpAnyH_take (i := 18) (oi := { dst := some 43, op := Op.pick (Operand.tmp 35) (Operand.const (Value.bool true)) (Operand.tmp 42), type := 4, pos := "manifest.go:65", after := #[{ on := 10, ground := Ground.data }, { on := 17, ground := Ground.data }], guard := none }) (v := ?_) rfl (by kernel_rfl) (by kernel_rfl) (by kernel_rfl) (fun _ _ _ h => h) (Or.inl ⟨by rfl, ?hy⟩) hHeld ?_
    case hy => (intro w hSw; (try dsimp only at hSw); obtain ⟨_, _, _, _⟩ := hSw; go_simp; all_goals (with_reducible rfl))
    try simp only [Act.put, List.setIfInBounds_toArray, List.set_cons_zero, List.set_cons_succ]
    refine wpAnyH_take (i := 19) (oi := { dst := some 44, op := Op.move (Operand.tmp 43), type := 4, pos := "manifest.go:65", after := #[{ on := 18, ground := Ground.data }, { on := 16, ground := Ground.chain }], guard := none }) (v := ?_) rfl (by kernel_rfl) (by kernel_rfl) (by kernel_rfl) (fun _ _ _ h => h) (Or.inl ⟨by rfl, ?hy⟩) hHeld ?_
    case hy => (intro w hSw; (try dsimp only at hSw); obtain ⟨_, _, _, _⟩ := hSw; go_simp; all_goals (with_reducible rfl))
    try simp only [Act.put, List.setIfInBounds_toArray, List.set_cons_zero, List.set_cons_succ]
    refine wpAnyH_take (i := 20) (oi := { dst := some 45, op := Op.load 55 (Operand.tmp 1), type := 55, pos := "manifest.go:65", after := #[{ on := 19, ground := Ground.guard }], guard := some (19, false) }) (v := .agg XM) rfl (by kernel_rfl) (by kernel_rfl) (by kernel_rfl) (fun _ _ _ h => h) (Or.inl ⟨by rfl, ?hy⟩) hHeld ?_
    case hy => (intro w hSw; exact run_load_op hSw.2.1)
    try simp only [Act.put, List.setIfInBounds_toArray, List.set_cons_zero, List.set_cons_succ]
    refine wpAnyH_ready (rs := [21]) (by kernel_rfl) (by simp) ?_
    refine AllReadyH.cons (o := { dst := some 46, op := Op.call { callee := Callee.value (Operand.func 27), args := #[Operand.tmp 45], argTypes := #[55] }, type := 4, pos := "manifest.go:65", after := #[{ on := 20, ground := Ground.data }, { on := 19, ground := Ground.chain }, { on := 19, ground := Ground.guard }], guard := some (19, false) }) rfl (fun K hK => ?_) AllReadyH.nil
    go_simp
    (refine (HVA5.out _ hHeld.1).mono ?_; rintro e wA ⟨rfl, hbA⟩)
    have hB := hHeld.1
    clear hHeld
    go_wp2_with fail
    refine hK.out _ _ (HKP.out _ hbA) (fun hHeld => ?_)
    clear hK K hbA hB
    try simp only [Act.put, List.setIfInBounds_toArray, List.set_cons_zero, List.set_cons_succ]
    refine wpAnyH_take (i := 22) (oi := { dst := some 47, op := Op.unOp UnOp.not 4 (Operand.tmp 46), type := 4, pos := "manifest.go:65", after := #[{ on := 21, ground := Ground.data }, { on := 19, ground := Ground.guard }], guard := some (19, false) }) (v := ?_) rfl (by kernel_rfl) (by kernel_rfl) (by kernel_rfl) (fun _ _ _ h => h) (Or.inl ⟨by rfl, ?hy⟩) hHeld ?_
    case hy => (intro w hSw; (try dsimp only at hSw); obtain ⟨_, _, _, _⟩ := hSw; go_simp; all_goals (with_reducible rfl))
    try simp only [Act.put, List.setIfInBounds_toArray, List.set_cons_zero, List.set_cons_succ]
    refine wpAnyH_take (i := 23) (oi := { dst := some 48, op := Op.move (Operand.tmp 47), type := 4, pos := "manifest.go:65", after := #[{ on := 22, ground := Ground.data }, { on := 21, ground := Ground.chain }, { on := 19, ground := Ground.guard }], guard := some (19, false) }) (v := ?_) rfl (by kernel_rfl) (by kernel_rfl) (by kernel_rfl) (fun _ _ _ h => h) (Or.inl ⟨by rfl, ?hy⟩) hHeld ?_
    case hy => (intro w hSw; (try dsimp only at hSw); obtain ⟨_, _, _, _⟩ := hSw; go_simp; all_goals (with_reducible rfl))
    try simp only [Act.put, List.setIfInBounds_toArray, List.set_cons_zero, List.set_cons_succ]
    refine wpAnyH_take (i := 24) (oi := { dst := some 49, op := Op.load 55 (Operand.tmp 1), type := 55, pos := "manifest.go:65", after := #[{ on := 23, ground := Ground.guard }], guard := some (23, true) }) (v := undef) rfl (by kernel_rfl) (by kernel_rfl) (by kernel_rfl) (fun _ _ _ h => h) (Or.inr ⟨by rfl, rfl⟩) hHeld ?_
    try simp only [Act.put, List.setIfInBounds_toArray, List.set_cons_zero, List.set_cons_succ]
    refine wpAnyH_take (i := 25) (oi := { dst := some 50, op := Op.call { callee := Callee.value (Operand.func 24), args := #[Operand.tmp 49], argTypes := #[55] }, type := 55, pos := "manifest.go:65", after := #[{ on := 24, ground := Ground.data }, { on := 23, ground := Ground.chain }, { on := 23, ground := Ground.guard }], guard := some (23, true) }) (v := undef) rfl (by kernel_rfl) (by kernel_rfl) (by kernel_rfl) (fun _ _ _ h => h) (Or.inr ⟨by rfl, rfl⟩) hHeld ?_
    try simp only [Act.put, List.setIfInBounds_toArray, List.set_cons_zero, List.set_cons_succ]
    refine wpAnyH_take (i := 26) (oi := { dst := some 51, op := Op.call { callee := Callee.value (Operand.func 26), args := #[Operand.tmp 50], argTypes := #[55] }, type := 35, pos := "manifest.go:65", after := #[{ on := 25, ground := Ground.data }, { on := 25, ground := Ground.chain }, { on := 23, ground := Ground.guard }], guard := some (23, true) }) (v := undef) rfl (by kernel_rfl) (by kernel_rfl) (by kernel_rfl) (fun _ _ _ h => h) (Or.inr ⟨by rfl, rfl⟩) hHeld ?_
    try simp only [Act.put, List.setIfInBounds_toArray, List.set_cons_zero, List.set_cons_succ]
    refine wpAnyH_take (i := 27) (oi := { dst := some 52, op := Op.binOp BinOp.neq 35 (Operand.tmp 51) (Operand.const (Value.int IntKind.i64 2)) 35, type := 4, pos := "manifest.go:65", after := #[{ on := 26, ground := Ground.data }, { on := 23, ground := Ground.guard }], guard := some (23, true) }) (v := undef) rfl (by kernel_rfl) (by kernel_rfl) (by kernel_rfl) (fun _ _ _ h => h) (Or.inr ⟨by rfl, rfl⟩) hHeld ?_
    try simp only [Act.put, List.setIfInBounds_toArray, List.set_cons_zero, List.set_cons_succ]
    refine wpAnyH_take (i := 28) (oi := { dst := some 53, op := Op.pick (Operand.tmp 48) (Operand.tmp 52) (Operand.const (Value.bool false)), type := 4, pos := "manifest.go:65", after := #[{ on := 23, ground := Ground.data }, { on := 27, ground := Ground.data }, { on := 19, ground := Ground.guard }], guard := some (19, false) }) (v := ?_) rfl (by kernel_rfl) (by kernel_rfl) (by kernel_rfl) (fun _ _ _ h => h) (Or.inl ⟨by rfl, ?hy⟩) hHeld ?_
    case hy => (intro w hSw; (try dsimp only at hSw); obtain ⟨_, _, _, _⟩ := hSw; go_simp; all_goals (with_reducible rfl))
    try simp only [Act.put, List.setIfInBounds_toArray, List.set_cons_zero, List.set_cons_succ]
    refine wpAnyH_take (i := 29) (oi := { dst := some 54, op := Op.pick (Operand.tmp 44) (Operand.const (Value.bool true)) (Operand.tmp 53), type := 4, pos := "manifest.go:65", after := #[{ on := 19, ground := Ground.data }, { on := 28, ground := Ground.data }], guard := none }) (v := ?_) rfl (by kernel_rfl) (by kernel_rfl) (by kernel_rfl) (fun _ _ _ h => h) (Or.inl ⟨by rfl, ?hy⟩) hHeld ?_
    case hy => (intro w hSw; (try dsimp only at hSw); obtain ⟨_, _, _, _⟩ := hSw; go_simp; all_goals (with_reducible rfl))
    try simp only [Act.put, List.setIfInBounds_toArray, List.set_cons_zero, List.set_cons_succ]
    refine wpAnyH_done (by kernel_rfl) ?_ _
    go_wp2_with fail
    go_meet
    exact ⟨rfl, _, rfl, hid hHeld.1⟩
  case rest =>
    obtain ⟨rfl, wx, hwx, hbel⟩ := hcut
    subst hwx
    as_aux_lemma =>
    have HB5 := hid (HB4.out.trans (hbel.out.mono HB4.out.size))
    clear hbel HKP HVA5 HCH5 HOW5 HLD HC3 HC4
    go_wp2_with (refine wpList_load_mid (by rfl) 55 (.tmp 1) (by rfl) w.heap.size 0 (by rfl) (mcells k n t s od (.slice a m c)) _ (HRM.out wx HB5.out) Tryd.underlying55 rfl HIF.out ?_)
    refine (HOW.out wx HB5.out).mono ?_
    rintro e w6 ⟨a6, c6, rfl, hd6, hb6⟩
    have HB6 := hid (HB5.out.trans (hb6.mono HB5.out.size))
    have HD6 := hid hd6
    clear hd6 hb6
    go_wp2_with fail
    refine (HID.out w6 (HB1.out.trans (HB6.out.mono HB1.out.size)) a6 c6 HD6.out).mono ?_
    rintro e w7 ⟨rfl, hb7⟩
    have HB7 := hid (HB6.out.trans (hb7.mono HB6.out.size))
    have hl7 := HB7.out.size
    clear hb7
    go_wp2_with (first
      | (refine wpList_store_row (by rfl) 52 (.tmp 7) (.tmp 59) (by rfl) w7.heap.size _ (u8s X).toArray _ (by rfl) (by rfl) (heap_new _ _) HIFX.out HSZX.out HONX.out ?_
         intro w8 hw8 hk8
         have HB8 := hid (show Below w1.heap.size w1 w8 from HB7.out.trans (((Below.refl _ _).alloc (Nat.le_refl _) _).trans (hk8.below (by simp) (Nat.le_refl _)) |>.mono HB7.out.size))
         have HR8 := hid hw8
         clear hw8 hk8)
      | (refine wpList_load_mid (by rfl) 55 (.tmp 1) (by rfl) w.heap.size 0 (by rfl) (mcells k n t s od (.slice a m c)) _ (HRM.out w8 HB8.out) Tryd.underlying55 rfl HIF.out ?_))
    refine (HRI.out w8 (HB1.out.trans (HB8.out.mono HB1.out.size)) a c (HDW.out w8 HB8.out)).mono ?_
    rintro e w9 ⟨rfl, hb9⟩
    have HB9 := hid (HB8.out.trans (hb9.mono HB8.out.size))
    have hlt8 := lt_of_heap HR8.out
    have hle9 := hb9.size
    have HR9 := hid ((hb9.block _ hlt8).trans HR8.out)
    obtain ⟨q7, hq7⟩ : ∃ q, q = w7.heap.size := ⟨_, rfl⟩
    rw [← hq7] at HR9 hlt8 ⊢
    have hq9 : q7 < w9.heap.size := Nat.lt_of_lt_of_le hlt8 hle9
    clear hb9 HR8 hq7
    go_wp2_with (first
      | (refine wpList_store_row (by rfl) 52 (.tmp 8) (.tmp 64) (by rfl) w9.heap.size _ (u8s X).toArray _ (by rfl) (by rfl) (heap_new _ _) HIFX.out HSZX.out HONX.out ?_
         intro wa hwa hka
         have HBA0 := hid (show Below w9.heap.size w9 wa from ((Below.refl _ _).alloc (Nat.le_refl _) _).trans (hka.below (by simp) (Nat.le_refl _)))
         have HBA := hid (HB9.out.trans (HBA0.out.mono HB9.out.size))
         have HRA := hid (range_of_heapO hwa)
         have HRB := hid (range_of_heapO ((HBA0.out.block _ hq9).trans HR9.out))
         have e1 := fun wy => HEQ.out wy
         clear hwa hka)
      | (refine wpList_load_wantE (by rfl) 52 (.tmp 7) (by rfl) q7 0 (by rfl) (u8s X) _ HRB.out Tryd.underlying52 rfl HIFL.out ?_)
      | (refine wpList_load_wantE (by rfl) 52 (.tmp 8) (by rfl) w9.heap.size 0 (by rfl) (u8s X) _ HRA.out Tryd.underlying52 rfl HIFL.out ?_))
    refine (HK.out wa (HB1.out.trans (HBA.out.mono HB1.out.size))).mono ?_
    rintro e wb ⟨rfl, hbb⟩
    have HBB := hid (HB1.out.trans ((HBA.out.trans (hbb.mono HBA.out.size)).mono HB1.out.size))
    clear hbb
    go_wp2
    go_ret
    exact ⟨rfl, HBB.out⟩


set_option maxRecDepth 100000 in
set_option maxHeartbeats 4000000 in
theorem enc_bad (w : World) (k n t s : Int) (od : List Nat) (a : Option Addr) (m c : Nat) (D : List (List Nat)) (ho : od.length = 32) (hD : Dgs w a m c D) (hm : m ≤ 400) (L : Nat) (l X : List Nat) (hX : X.length = 32) (hv : manB k n t s m = false)
    (HK : ∀ wx, Below w.heap.size w wx → Calls Tryd.prog 10 #[] wx fun e w' => e = .returned (.bool true) ∧ Below wx.heap.size wx w')
    (HEN : ∀ wx a' c', Dgs wx a' m c' D → Calls Tryd.prog 23 #[.agg (mcells k n t s od (.slice a' m c')).toArray] wx (EncTo wx L l 2))
    (HRE : ∀ wx a' c', Dgs wx a' m c' D → Calls Tryd.prog 25 #[.agg (mcells k n t s od (.slice a' m c')).toArray] wx (EncTo wx L l 2))
    (HID : ∀ wx, Below w.heap.size w wx → ∀ a' c', Dgs wx a' m c' D → Calls Tryd.prog 28 #[.agg (mcells k n t s od (.slice a' m c')).toArray] wx (IdTo wx X 2))
    (HRI : ∀ wx, Below w.heap.size w wx → ∀ a' c', Dgs wx a' m c' D → Calls Tryd.prog 29 #[.agg (mcells k n t s od (.slice a' m c')).toArray] wx (IdTo wx X 2)) :
    Calls Tryd.prog 5 #[.agg (mcells k n t s od (.slice a m c)).toArray] w fun e w' => e = .returned (.bool true) ∧ Below w.heap.size w w' := by
  have HK := hid HK
  have HEN := hid HEN
  have HRE := hid HRE
  have HID := hid HID
  have HRI := hid HRI
  obtain ⟨w1, hw1⟩ : ∃ y, y = w.alloc (.cells (mcells k n t s od (.slice a m c)).toArray 55) := ⟨_, rfl⟩
  have HB1 := hid (show Below w.heap.size w w1 from by rw [hw1]; exact (Below.refl _ _).alloc (Nat.le_refl _) _)
  have HM1 := hid (show ManAt w1 w.heap.size k n t s od (.slice a m c) from by rw [hw1]; exact heap_new _ _)
  have HML := hid (mcells_length k n t s od (.slice a m c) ho)
  have HIF := hid (show (Tryd.prog.info? 55).map (·.size) = some (mcells k n t s od (.slice a m c)).length from by rw [HML.out]; kernel_rfl)
  have c36 := (HM1.out.c ho).2.2.2.2
  have hlt1 : w.heap.size < w1.heap.size := lt_of_heap HM1.out
  have hI : ¬ 400 < (m : Int) := by omega
  have hme : manE k n t s m = 2 := by unfold manE; rw [hv]; rfl
  have HOW := hid (fun (wx : World) (b : Below w1.heap.size w1 wx) => own_man k n t s od a m c D wx ho ((hD.below HB1.out).below b) (by omega))
  have HDW := hid (fun (wx : World) (b : Below w1.heap.size w1 wx) => ((hD.below HB1.out).below b : Dgs wx a m c D))
  have HRM := hid (fun (wx : World) (b : Below w1.heap.size w1 wx) => (show wx.rangeAt w.heap.size 0 (mcells k n t s od (.slice a m c)) from range_of_heapO ((b.block _ hlt1).trans HM1.out)))
  have HCH := hid (fun (wx : World) (a' : Option Addr) (c' : Nat) => CheckManifest_any k n t s od a' m c' ho wx)
  have HVA := hid (fun (wx : World) => valid_any k n t s od a m c ho wx)
  rw [hme] at HCH
  rw [hv] at HVA
  have HIFX := hid (show (Tryd.prog.info? 52).map (·.size) = some (u8s X).toArray.size from by rw [List.size_toArray]; simp only [u8s, List.length_map, hX]; kernel_rfl)
  have HIFL := hid (show (Tryd.prog.info? 52).map (·.size) = some (u8s X).length from by simp only [u8s, List.length_map, hX]; kernel_rfl)
  have HSZX := hid (show 32 = (u8s X).toArray.size from by rw [List.size_toArray]; simp only [u8s, List.length_map, hX])
  have HONX := hid (show (u8s X).toArray.all (·.oneCell') = true from all_oneCell_toArray (u8s_oneH X))
  have HEQ := hid (fun wx => eql_sameD X hX wx)
  clear ho hD hv hme hX
  go_enter Tryd.func5, Tryd.ntmps5
  go_upto_region 1 with fail
  change Code.wp _ _ _ _ (w.alloc (.cells (mcells k n t s od (.slice a m c)).toArray 55))
  rw [← hw1]
  clear hw1
  go_wp2_with (refine wpList_load_mid (by rfl) 55 (.tmp 1) (by rfl) w.heap.size 0 (by rfl) (mcells k n t s od (.slice a m c)) _ (HRM.out w1 (Below.refl _ _)) Tryd.underlying55 rfl HIF.out ?_)
  refine (HOW.out w1 (Below.refl _ _)).mono ?_
  rintro e w2 ⟨a2, c2, rfl, hd2, hb2⟩
  have HB2 := hid hb2
  have HD2 := hid hd2
  clear hb2 hd2
  go_wp2_with fail
  refine (HEN.out w2 a2 c2 HD2.out).mono ?_
  rintro e w3 ⟨a3, c3, rfl, hbs3, hb3⟩
  have HB3 := hid (HB2.out.trans (hb3.mono HB2.out.size))
  have HS3 := hid hbs3
  clear hb3 hbs3
  go_wp2_with (refine wpList_load_mid (by rfl) 55 (.tmp 1) (by rfl) w.heap.size 0 (by rfl) (mcells k n t s od (.slice a m c)) _ (HRM.out w3 HB3.out) Tryd.underlying55 rfl HIF.out ?_)
  refine (HRE.out w3 a c (HDW.out w3 HB3.out)).mono ?_
  rintro e w4 ⟨a4, c4, rfl, hbs4, hb4⟩
  have HB4 := hid (HB3.out.trans (hb4.mono HB3.out.size))
  have HS4 := hid hbs4
  have HS34 := hid (HS3.out.below hb4)
  clear hb4 hbs4
  have HC3 := hid (fun (wx : World) (b : Below w4.heap.size w4 wx) => conv_bs (HS34.out.below b))
  have HC4 := hid (fun (wx : World) (b : Below w4.heap.size w4 wx) => conv_bs (HS4.out.below b))
  have HLD := hid (fun (wx : World) (b : Below w4.heap.size w4 wx) => run_loadVar_mid (P := Tryd.prog) wx w.heap.size 0 55 (mcells k n t s od (.slice a m c)) _ (HRM.out wx (HB4.out.trans (b.mono HB4.out.size))) Tryd.underlying55 rfl HIF.out)
  have HOW5 := hid (fun (wx : World) (b : Below w4.heap.size w4 wx) => (HOW.out wx (HB4.out.trans (b.mono HB4.out.size))).mono (fun e w' (h : ∃ a' c', e = .returned (.agg (mcells k n t s od (.slice a' m c')).toArray) ∧ Dgs w' a' m c' D ∧ Below wx.heap.size wx w') => (show ∃ a' c', e = .returned (.agg (mcells k n t s od (.slice a' m c')).toArray) ∧ Below w4.heap.size w4 w' from by obtain ⟨a', c', h1, _, h3⟩ := h; exact ⟨a', c', h1, b.trans (h3.mono b.size)⟩)))
  have HCH5 := hid (fun (wx : World) (a' : Option Addr) (c' : Nat) (b : Below w4.heap.size w4 wx) => (HCH.out wx a' c').mono (fun e w' h => (show e = .returned (.int .i64 2) ∧ Below w4.heap.size w4 w' from ⟨h.1, b.trans (h.2.mono b.size)⟩)))
  have HVA5 := hid (fun (wx : World) (b : Below w4.heap.size w4 wx) => (HVA.out wx).mono (fun e w' h => (show e = .returned (.bool false) ∧ Below w4.heap.size w4 w' from ⟨h.1, b.trans (h.2.mono b.size)⟩)))
  obtain ⟨XM, hXM⟩ : ∃ XM, XM = (mcells k n t s od (.slice a m c)).toArray := ⟨_, rfl⟩
  rw [← hXM] at HLD HOW5 HVA5
  clear hXM
  generalize bstr l = SX at HC3 HC4
  have HKP := hid (show ∀ wx, Below w4.heap.size w4 wx → Below w4.heap.size w4 wx ∧ (loadVar 55 ⟨w.heap.size, 0, none⟩).run Tryd.prog wx = .ok (.agg XM) wx ∧ (convert 27 9 (.slice a3 L c3)).run Tryd.prog wx = .ok (.string SX) wx ∧ (convert 27 9 (.slice a4 L c4)).run Tryd.prog wx = .ok (.string SX) wx from fun wx b => ⟨b, HLD.out wx b, HC3.out wx b, HC4.out wx b⟩)
  clear c36 HS3 HS4 HS34
  go_upto_region 5 with fail
  go_cut [54] (fun v wx => v = .bool false ∧ ∃ wy, wy = wx ∧ Hid (Below w4.heap.size w4 wy))
  case first =>
    refine wp_region_held_drew (S := fun wx => Below w4.heap.size w4 wx ∧ (loadVar 55 ⟨w.heap.size, 0, none⟩).run Tryd.prog wx = .ok (.agg XM) wx ∧ (convert 27 9 (.slice a3 L c3)).run Tryd.prog wx = .ok (.string SX) wx ∧ (convert 27 9 (.slice a4 L c4)).run Tryd.prog wx = .ok (.string SX) wx) (by kernel_rfl) (HKP.out _ (bel_drewN (Below.refl _ _) 1)) (fun hHeld => ?_)
    refine wpAnyH_take (i := 0) (oi := { dst := some 25, op := Op.move (Operand.tmp 4), type := 35, pos := "manifest.go:65", after := #[], guard := none }) (v := ?_) rfl (by kernel_rfl) (by kernel_rfl) (by kernel_rfl) (fun _ _ _ h => h) (Or.inl ⟨by rfl, ?hy⟩) hHeld ?_
    case hy => (intro w hSw; (try dsimp only at hSw); obtain ⟨_, _, _, _⟩ := hSw; go_simp; all_goals (with_reducible rfl))
    try simp only [Act.put, List.setIfInBounds_toArray, List.set_cons_zero, List.set_cons_succ]
    refine wpAnyH_take (i := 1) (oi := { dst := some 26, op := Op.move (Operand.tmp 6), type := 35, pos := "manifest.go:65", after := #[], guard := none }) (v := ?_) rfl (by kernel_rfl) (by kernel_rfl) (by kernel_rfl) (fun _ _ _ h => h) (Or.inl ⟨by rfl, ?hy⟩) hHeld ?_
    case hy => (intro w hSw; (try dsimp only at hSw); obtain ⟨_, _, _, _⟩ := hSw; go_simp; all_goals (with_reducible rfl))
    try simp only [Act.put, List.setIfInBounds_toArray, List.set_cons_zero, List.set_cons_succ]
    refine wpAnyH_take (i := 2) (oi := { dst := some 27, op := Op.binOp BinOp.neq 35 (Operand.tmp 25) (Operand.tmp 26) 35, type := 4, pos := "manifest.go:65", after := #[{ on := 0, ground := Ground.data }, { on := 1, ground := Ground.data }], guard := none }) (v := ?_) rfl (by kernel_rfl) (by kernel_rfl) (by kernel_rfl) (fun _ _ _ h => h) (Or.inl ⟨by rfl, ?hy⟩) hHeld ?_
    case hy => (intro w hSw; (try dsimp only at hSw); obtain ⟨_, _, _, _⟩ := hSw; go_simp; all_goals (with_reducible rfl))
    try simp only [Act.put, List.setIfInBounds_toArray, List.set_cons_zero, List.set_cons_succ]
    refine wpAnyH_take (i := 3) (oi := { dst := some 28, op := Op.move (Operand.tmp 27), type := 4, pos := "manifest.go:65", after := #[{ on := 2, ground := Ground.data }], guard := none }) (v := ?_) rfl (by kernel_rfl) (by kernel_rfl) (by kernel_rfl) (fun _ _ _ h => h) (Or.inl ⟨by rfl, ?hy⟩) hHeld ?_
    case hy => (intro w hSw; (try dsimp only at hSw); obtain ⟨_, _, _, _⟩ := hSw; go_simp; all_goals (with_reducible rfl))
    try simp only [Act.put, List.setIfInBounds_toArray, List.set_cons_zero, List.set_cons_succ]
    refine wpAnyH_take (i := 4) (oi := { dst := some 29, op := Op.move (Operand.tmp 3), type := 27, pos := "manifest.go:65", after := #[{ on := 3, ground := Ground.guard }], guard := some (3, false) }) (v := ?_) rfl (by kernel_rfl) (by kernel_rfl) (by kernel_rfl) (fun _ _ _ h => h) (Or.inl ⟨by rfl, ?hy⟩) hHeld ?_
    case hy => (intro w hSw; (try dsimp only at hSw); obtain ⟨_, _, _, _⟩ := hSw; go_simp; all_goals (with_reducible rfl))
    try simp only [Act.put, List.setIfInBounds_toArray, List.set_cons_zero, List.set_cons_succ]
    refine wpAnyH_take (i := 5) (oi := { dst := some 30, op := Op.convert 27 9 (Operand.tmp 29), type := 9, pos := "manifest.go:65", after := #[{ on := 4, ground := Ground.data }, { on := 3, ground := Ground.guard }], guard := some (3, false) }) (v := ?_) rfl (by kernel_rfl) (by kernel_rfl) (by kernel_rfl) (fun _ _ _ h => h) (Or.inl ⟨by rfl, ?hy⟩) hHeld ?_
    case hy => (intro w hSw; (try dsimp only at hSw); obtain ⟨_, _, _, _⟩ := hSw; go_simp; all_goals (with_reducible rfl))
    try simp only [Act.put, List.setIfInBounds_toArray, List.set_cons_zero, List.set_cons_succ]
    refine wpAnyH_take (i := 6) (oi := { dst := some 31, op := Op.move (Operand.tmp 5), type := 27, pos := "manifest.go:65", after := #[{ on := 3, ground := Ground.guard }], guard := some (3, false) }) (v := ?_) rfl (by kernel_rfl) (by kernel_rfl) (by kernel_rfl) (fun _ _ _ h => h) (Or.inl ⟨by rfl, ?hy⟩) hHeld ?_
    case hy => (intro w hSw; (try dsimp only at hSw); obtain ⟨_, _, _, _⟩ := hSw; go_simp; all_goals (with_reducible rfl))
    try simp only [Act.put, List.setIfInBounds_toArray, List.set_cons_zero, List.set_cons_succ]
    refine wpAnyH_take (i := 7) (oi := { dst := some 32, op := Op.convert 27 9 (Operand.tmp 31), type := 9, pos := "manifest.go:65", after := #[{ on := 6, ground := Ground.data }, { on := 3, ground := Ground.guard }], guard := some (3, false) }) (v := ?_) rfl (by kernel_rfl) (by kernel_rfl) (by kernel_rfl) (fun _ _ _ h => h) (Or.inl ⟨by rfl, ?hy⟩) hHeld ?_
    case hy => (intro w hSw; (try dsimp only at hSw); obtain ⟨_, _, _, _⟩ := hSw; go_simp; all_goals (with_reducible rfl))
    try simp only [Act.put, List.setIfInBounds_toArray, List.set_cons_zero, List.set_cons_succ]
    refine wpAnyH_take (i := 8) (oi := { dst := some 33, op := Op.binOp BinOp.neq 9 (Operand.tmp 30) (Operand.tmp 32) 9, type := 4, pos := "manifest.go:65", after := #[{ on := 5, ground := Ground.data }, { on := 7, ground := Ground.data }, { on := 3, ground := Ground.guard }], guard := some (3, false) }) (v := ?_) rfl (by kernel_rfl) (by kernel_rfl) (by kernel_rfl) (fun _ _ _ h => h) (Or.inl ⟨by rfl, ?hy⟩) hHeld ?_
    case hy => (intro w hSw; (try dsimp only at hSw); obtain ⟨_, _, _, _⟩ := hSw; go_simp; all_goals (with_reducible rfl))
    try simp only [Act.put, List.setIfInBounds_toArray, List.set_cons_zero, List.set_cons_succ]
    refine wpAnyH_take (i := 9) (oi := { dst := some 34, op := Op.pick (Operand.tmp 28) (Operand.const (Value.bool true)) (Operand.tmp 33), type := 4, pos := "manifest.go:65", after := #[{ on := 3, ground := Ground.data }, { on := 8, ground := Ground.data }], guard := none }) (v := ?_) rfl (by kernel_rfl) (by kernel_rfl) (by kernel_rfl) (fun _ _ _ h => h) (Or.inl ⟨by rfl, ?hy⟩) hHeld ?_
    case hy => (intro w hSw; (try dsimp only at hSw); obtain ⟨_, _, _, _⟩ := hSw; go_simp; all_goals (with_reducible rfl))
    try simp only [Act.put, List.setIfInBounds_toArray, List.set_cons_zero, List.set_cons_succ]
    refine wpAnyH_take (i := 10) (oi := { dst := some 35, op := Op.move (Operand.tmp 34), type := 4, pos := "manifest.go:65", after := #[{ on := 9, ground := Ground.data }, { on := 3, ground := Ground.chain }], guard := none }) (v := ?_) rfl (by kernel_rfl) (by kernel_rfl) (by kernel_rfl) (fun _ _ _ h => h) (Or.inl ⟨by rfl, ?hy⟩) hHeld ?_
    case hy => (intro w hSw; (try dsimp only at hSw); obtain ⟨_, _, _, _⟩ := hSw; go_simp; all_goals (with_reducible rfl))
    try simp only [Act.put, List.setIfInBounds_toArray, List.set_cons_zero, List.set_cons_succ]
    refine wpAnyH_take (i := 11) (oi := { dst := some 36, op := Op.load 55 (Operand.tmp 1), type := 55, pos := "manifest.go:65", after := #[{ on := 10, ground := Ground.guard }], guard := some (10, false) }) (v := .agg XM) rfl (by kernel_rfl) (by kernel_rfl) (by kernel_rfl) (fun _ _ _ h => h) (Or.inl ⟨by rfl, ?hy⟩) hHeld ?_
    case hy => (intro w hSw; exact run_load_op hSw.2.1)
    try simp only [Act.put, List.setIfInBounds_toArray, List.set_cons_zero, List.set_cons_succ]
    refine wpAnyH_take (i := 15) (oi := { dst := some 40, op := Op.load 55 (Operand.tmp 1), type := 55, pos := "manifest.go:65", after := #[{ on := 10, ground := Ground.guard }], guard := some (10, false) }) (v := .agg XM) rfl (by kernel_rfl) (by kernel_rfl) (by kernel_rfl) (fun _ _ _ h => h) (Or.inl ⟨by rfl, ?hy⟩) hHeld ?_
    case hy => (intro w hSw; exact run_load_op hSw.2.1)
    try simp only [Act.put, List.setIfInBounds_toArray, List.set_cons_zero, List.set_cons_succ]
    refine wpAnyH_ready (rs := [12]) (by kernel_rfl) (by simp) ?_
    refine AllReadyH.cons (o := { dst := some 37, op := Op.call { callee := Callee.value (Operand.func 24), args := #[Operand.tmp 36], argTypes := #[55] }, type := 55, pos := "manifest.go:65", after := #[{ on := 11, ground := Ground.data }, { on := 10, ground := Ground.chain }, { on := 10, ground := Ground.guard }], guard := some (10, false) }) rfl (fun K hK => ?_) AllReadyH.nil
    go_simp
    (refine (HOW5.out _ hHeld.1).mono ?_; rintro e wA ⟨aA, cA, rfl, hbA⟩)
    have hB := hHeld.1
    clear hHeld
    go_wp2_with fail
    refine hK.out _ _ (HKP.out _ hbA) (fun hHeld => ?_)
    clear hK K hbA hB
    try simp only [Act.put, List.setIfInBounds_toArray, List.set_cons_zero, List.set_cons_succ]
    refine wpAnyH_ready (rs := [13]) (by kernel_rfl) (by simp) ?_
    refine AllReadyH.cons (o := { dst := some 38, op := Op.call { callee := Callee.value (Operand.func 26), args := #[Operand.tmp 37], argTypes := #[55] }, type := 35, pos := "manifest.go:65", after := #[{ on := 12, ground := Ground.data }, { on := 12, ground := Ground.chain }, { on := 10, ground := Ground.guard }], guard := some (10, false) }) rfl (fun K hK => ?_) AllReadyH.nil
    go_simp
    (refine (HCH5.out _ _ _ hHeld.1).mono ?_; rintro e wA ⟨rfl, hbA⟩)
    have hB := hHeld.1
    clear hHeld
    go_wp2_with fail
    refine hK.out _ _ (HKP.out _ hbA) (fun hHeld => ?_)
    clear hK K hbA hB
    try simp only [Act.put, List.setIfInBounds_toArray, List.set_cons_zero, List.set_cons_succ]
    refine wpAnyH_take (i := 14) (oi := { dst := some 39, op := Op.binOp BinOp.eql 35 (Operand.tmp 38) (Operand.const (Value.int IntKind.i64 0)) 35, type := 4, pos := "manifest.go:65", after := #[{ on := 13, ground := Ground.data }, { on := 10, ground := Ground.guard }], guard := some (10, false) }) (v := ?_) rfl (by kernel_rfl) (by kernel_rfl) (by kernel_rfl) (fun _ _ _ h => h) (Or.inl ⟨by rfl, ?hy⟩) hHeld ?_
    case hy => (intro w hSw; (try dsimp only at hSw); obtain ⟨_, _, _, _⟩ := hSw; go_simp; all_goals (with_reducible rfl))
    try simp only [Act.put, List.setIfInBounds_toArray, List.set_cons_zero, List.set_cons_succ]
    refine wpAnyH_ready (rs := [16]) (by kernel_rfl) (by simp) ?_
    refine AllReadyH.cons (o := { dst := some 41, op := Op.call { callee := Callee.value (Operand.func 27), args := #[Operand.tmp 40], argTypes := #[55] }, type := 4, pos := "manifest.go:65", after := #[{ on := 15, ground := Ground.data }, { on := 13, ground := Ground.chain }, { on := 10, ground := Ground.guard }], guard := some (10, false) }) rfl (fun K hK => ?_) AllReadyH.nil
    go_simp
    (refine (HVA5.out _ hHeld.1).mono ?_; rintro e wA ⟨rfl, hbA⟩)
    have hB := hHeld.1
    clear hHeld
    go_wp2_with fail
    refine hK.out _ _ (HKP.out _ hbA) (fun hHeld => ?_)
    clear hK K hbA hB
    try simp only [Act.put, List.setIfInBounds_toArray, List.set_cons_zero, List.set_cons_succ]
    refine wpAnyH_take (i := 17) (oi := { dst := some 42, op := Op.binOp BinOp.neq 4 (Operand.tmp 39) (Operand.tmp 41) 4, type := 4, pos := "manifest.go:65", after := #[{ on := 14, ground := Ground.data }, { on := 16, ground := Ground.data }, { on := 10, ground := Ground.guard }], guard := some (10, false) }) (v := ?_) rfl (by kernel_rfl) (by kernel_rfl) (by kernel_rfl) (fun _ _ _ h => h) (Or.inl ⟨by rfl, ?hy⟩) hHeld ?_
    case hy => (intro w hSw; (try dsimp only at hSw); obtain ⟨_, _, _, _⟩ := hSw; go_simp; all_goals (with_reducible rfl))
    try simp only [Act.put, List.setIfInBounds_toArray, List.set_cons_zero, List.set_cons_succ]
    refine wpAnyH_take (i := 18) (oi := { dst := some 43, op := Op.pick (Operand.tmp 35) (Operand.const (Value.bool true)) (Operand.tmp 42), type := 4, pos := "manifest.go:65", after := #[{ on := 10, ground := Ground.data }, { on := 17, ground := Ground.data }], guard := none }) (v := ?_) rfl (by kernel_rfl) (by kernel_rfl) (by kernel_rfl) (fun _ _ _ h => h) (Or.inl ⟨by rfl, ?hy⟩) hHeld ?_
    case hy => (intro w hSw; (try dsimp only at hSw); obtain ⟨_, _, _, _⟩ := hSw; go_simp; all_goals (with_reducible rfl))
    try simp only [Act.put, List.setIfInBounds_toArray, List.set_cons_zero, List.set_cons_succ]
    refine wpAnyH_take (i := 19) (oi := { dst := some 44, op := Op.move (Operand.tmp 43), type := 4, pos := "manifest.go:65", after := #[{ on := 18, ground := Ground.data }, { on := 16, ground := Ground.chain }], guard := none }) (v := ?_) rfl (by kernel_rfl) (by kernel_rfl) (by kernel_rfl) (fun _ _ _ h => h) (Or.inl ⟨by rfl, ?hy⟩) hHeld ?_
    case hy => (intro w hSw; (try dsimp only at hSw); obtain ⟨_, _, _, _⟩ := hSw; go_simp; all_goals (with_reducible rfl))
    try simp only [Act.put, List.setIfInBounds_toArray, List.set_cons_zero, List.set_cons_succ]
    refine wpAnyH_take (i := 20) (oi := { dst := some 45, op := Op.load 55 (Operand.tmp 1), type := 55, pos := "manifest.go:65", after := #[{ on := 19, ground := Ground.guard }], guard := some (19, false) }) (v := .agg XM) rfl (by kernel_rfl) (by kernel_rfl) (by kernel_rfl) (fun _ _ _ h => h) (Or.inl ⟨by rfl, ?hy⟩) hHeld ?_
    case hy => (intro w hSw; exact run_load_op hSw.2.1)
    try simp only [Act.put, List.setIfInBounds_toArray, List.set_cons_zero, List.set_cons_succ]
    refine wpAnyH_ready (rs := [21]) (by kernel_rfl) (by simp) ?_
    refine AllReadyH.cons (o := { dst := some 46, op := Op.call { callee := Callee.value (Operand.func 27), args := #[Operand.tmp 45], argTypes := #[55] }, type := 4, pos := "manifest.go:65", after := #[{ on := 20, ground := Ground.data }, { on := 19, ground := Ground.chain }, { on := 19, ground := Ground.guard }], guard := some (19, false) }) rfl (fun K hK => ?_) AllReadyH.nil
    go_simp
    (refine (HVA5.out _ hHeld.1).mono ?_; rintro e wA ⟨rfl, hbA⟩)
    have hB := hHeld.1
    clear hHeld
    go_wp2_with fail
    refine hK.out _ _ (HKP.out _ hbA) (fun hHeld => ?_)
    clear hK K hbA hB
    try simp only [Act.put, List.setIfInBounds_toArray, List.set_cons_zero, List.set_cons_succ]
    refine wpAnyH_take (i := 22) (oi := { dst := some 47, op := Op.unOp UnOp.not 4 (Operand.tmp 46), type := 4, pos := "manifest.go:65", after := #[{ on := 21, ground := Ground.data }, { on := 19, ground := Ground.guard }], guard := some (19, false) }) (v := ?_) rfl (by kernel_rfl) (by kernel_rfl) (by kernel_rfl) (fun _ _ _ h => h) (Or.inl ⟨by rfl, ?hy⟩) hHeld ?_
    case hy => (intro w hSw; (try dsimp only at hSw); obtain ⟨_, _, _, _⟩ := hSw; go_simp; all_goals (with_reducible rfl))
    try simp only [Act.put, List.setIfInBounds_toArray, List.set_cons_zero, List.set_cons_succ]
    refine wpAnyH_take (i := 23) (oi := { dst := some 48, op := Op.move (Operand.tmp 47), type := 4, pos := "manifest.go:65", after := #[{ on := 22, ground := Ground.data }, { on := 21, ground := Ground.chain }, { on := 19, ground := Ground.guard }], guard := some (19, false) }) (v := ?_) rfl (by kernel_rfl) (by kernel_rfl) (by kernel_rfl) (fun _ _ _ h => h) (Or.inl ⟨by rfl, ?hy⟩) hHeld ?_
    case hy => (intro w hSw; (try dsimp only at hSw); obtain ⟨_, _, _, _⟩ := hSw; go_simp; all_goals (with_reducible rfl))
    try simp only [Act.put, List.setIfInBounds_toArray, List.set_cons_zero, List.set_cons_succ]
    refine wpAnyH_take (i := 24) (oi := { dst := some 49, op := Op.load 55 (Operand.tmp 1), type := 55, pos := "manifest.go:65", after := #[{ on := 23, ground := Ground.guard }], guard := some (23, true) }) (v := .agg XM) rfl (by kernel_rfl) (by kernel_rfl) (by kernel_rfl) (fun _ _ _ h => h) (Or.inl ⟨by rfl, ?hy⟩) hHeld ?_
    case hy => (intro w hSw; exact run_load_op hSw.2.1)
    try simp only [Act.put, List.setIfInBounds_toArray, List.set_cons_zero, List.set_cons_succ]
    refine wpAnyH_ready (rs := [25]) (by kernel_rfl) (by simp) ?_
    refine AllReadyH.cons (o := { dst := some 50, op := Op.call { callee := Callee.value (Operand.func 24), args := #[Operand.tmp 49], argTypes := #[55] }, type := 55, pos := "manifest.go:65", after := #[{ on := 24, ground := Ground.data }, { on := 23, ground := Ground.chain }, { on := 23, ground := Ground.guard }], guard := some (23, true) }) rfl (fun K hK => ?_) AllReadyH.nil
    go_simp
    (refine (HOW5.out _ hHeld.1).mono ?_; rintro e wA ⟨aA, cA, rfl, hbA⟩)
    have hB := hHeld.1
    clear hHeld
    go_wp2_with fail
    refine hK.out _ _ (HKP.out _ hbA) (fun hHeld => ?_)
    clear hK K hbA hB
    try simp only [Act.put, List.setIfInBounds_toArray, List.set_cons_zero, List.set_cons_succ]
    refine wpAnyH_ready (rs := [26]) (by kernel_rfl) (by simp) ?_
    refine AllReadyH.cons (o := { dst := some 51, op := Op.call { callee := Callee.value (Operand.func 26), args := #[Operand.tmp 50], argTypes := #[55] }, type := 35, pos := "manifest.go:65", after := #[{ on := 25, ground := Ground.data }, { on := 25, ground := Ground.chain }, { on := 23, ground := Ground.guard }], guard := some (23, true) }) rfl (fun K hK => ?_) AllReadyH.nil
    go_simp
    (refine (HCH5.out _ _ _ hHeld.1).mono ?_; rintro e wA ⟨rfl, hbA⟩)
    have hB := hHeld.1
    clear hHeld
    go_wp2_with fail
    refine hK.out _ _ (HKP.out _ hbA) (fun hHeld => ?_)
    clear hK K hbA hB
    try simp only [Act.put, List.setIfInBounds_toArray, List.set_cons_zero, List.set_cons_succ]
    refine wpAnyH_take (i := 27) (oi := { dst := some 52, op := Op.binOp BinOp.neq 35 (Operand.tmp 51) (Operand.const (Value.int IntKind.i64 2)) 35, type := 4, pos := "manifest.go:65", after := #[{ on := 26, ground := Ground.data }, { on := 23, ground := Ground.guard }], guard := some (23, true) }) (v := ?_) rfl (by kernel_rfl) (by kernel_rfl) (by kernel_rfl) (fun _ _ _ h => h) (Or.inl ⟨by rfl, ?hy⟩) hHeld ?_
    case hy => (intro w hSw; (try dsimp only at hSw); obtain ⟨_, _, _, _⟩ := hSw; go_simp; all_goals (with_reducible rfl))
    try simp only [Act.put, List.setIfInBounds_toArray, List.set_cons_zero, List.set_cons_succ]
    refine wpAnyH_take (i := 28) (oi := { dst := some 53, op := Op.pick (Operand.tmp 48) (Operand.tmp 52) (Operand.const (Value.bool false)), type := 4, pos := "manifest.go:65", after := #[{ on := 23, ground := Ground.data }, { on := 27, ground := Ground.data }, { on := 19, ground := Ground.guard }], guard := some (19, false) }) (v := ?_) rfl (by kernel_rfl) (by kernel_rfl) (by kernel_rfl) (fun _ _ _ h => h) (Or.inl ⟨by rfl, ?hy⟩) hHeld ?_
    case hy => (intro w hSw; (try dsimp only at hSw); obtain ⟨_, _, _, _⟩ := hSw; go_simp; all_goals (with_reducible rfl))
    try simp only [Act.put, List.setIfInBounds_toArray, List.set_cons_zero, List.set_cons_succ]
    refine wpAnyH_take (i := 29) (oi := { dst := some 54, op := Op.pick (Operand.tmp 44) (Operand.const (Value.bool true)) (Operand.tmp 53), type := 4, pos := "manifest.go:65", after := #[{ on := 19, ground := Ground.data }, { on := 28, ground := Ground.data }], guard := none }) (v := ?_) rfl (by kernel_rfl) (by kernel_rfl) (by kernel_rfl) (fun _ _ _ h => h) (Or.inl ⟨by rfl, ?hy⟩) hHeld ?_
    case hy => (intro w hSw; (try dsimp only at hSw); obtain ⟨_, _, _, _⟩ := hSw; go_simp; all_goals (with_reducible rfl))
    try simp only [Act.put, List.setIfInBounds_toArray, List.set_cons_zero, List.set_cons_succ]
    refine wpAnyH_done (by kernel_rfl) ?_ _
    go_wp2_with fail
    go_meet
    exact ⟨rfl, _, rfl, hid hHeld.1⟩
  case rest =>
    obtain ⟨rfl, wx, hwx, hbel⟩ := hcut
    subst hwx
    as_aux_lemma =>
    have HB5 := hid (HB4.out.trans (hbel.out.mono HB4.out.size))
    clear hbel HKP HVA5 HCH5 HOW5 HLD HC3 HC4
    go_wp2_with (refine wpList_load_mid (by rfl) 55 (.tmp 1) (by rfl) w.heap.size 0 (by rfl) (mcells k n t s od (.slice a m c)) _ (HRM.out wx HB5.out) Tryd.underlying55 rfl HIF.out ?_)
    refine (HOW.out wx HB5.out).mono ?_
    rintro e w6 ⟨a6, c6, rfl, hd6, hb6⟩
    have HB6 := hid (HB5.out.trans (hb6.mono HB5.out.size))
    have HD6 := hid hd6
    clear hd6 hb6
    go_wp2_with fail
    refine (HID.out w6 (HB1.out.trans (HB6.out.mono HB1.out.size)) a6 c6 HD6.out).mono ?_
    rintro e w7 ⟨rfl, hb7⟩
    have HB7 := hid (HB6.out.trans (hb7.mono HB6.out.size))
    have hl7 := HB7.out.size
    clear hb7
    go_wp2_with (first
      | (refine wpList_store_row (by rfl) 52 (.tmp 7) (.tmp 59) (by rfl) w7.heap.size _ (u8s X).toArray _ (by rfl) (by rfl) (heap_new _ _) HIFX.out HSZX.out HONX.out ?_
         intro w8 hw8 hk8
         have HB8 := hid (show Below w1.heap.size w1 w8 from HB7.out.trans (((Below.refl _ _).alloc (Nat.le_refl _) _).trans (hk8.below (by simp) (Nat.le_refl _)) |>.mono HB7.out.size))
         have HR8 := hid hw8
         clear hw8 hk8)
      | (refine wpList_load_mid (by rfl) 55 (.tmp 1) (by rfl) w.heap.size 0 (by rfl) (mcells k n t s od (.slice a m c)) _ (HRM.out w8 HB8.out) Tryd.underlying55 rfl HIF.out ?_))
    refine (HRI.out w8 (HB1.out.trans (HB8.out.mono HB1.out.size)) a c (HDW.out w8 HB8.out)).mono ?_
    rintro e w9 ⟨rfl, hb9⟩
    have HB9 := hid (HB8.out.trans (hb9.mono HB8.out.size))
    have hlt8 := lt_of_heap HR8.out
    have hle9 := hb9.size
    have HR9 := hid ((hb9.block _ hlt8).trans HR8.out)
    obtain ⟨q7, hq7⟩ : ∃ q, q = w7.heap.size := ⟨_, rfl⟩
    rw [← hq7] at HR9 hlt8 ⊢
    have hq9 : q7 < w9.heap.size := Nat.lt_of_lt_of_le hlt8 hle9
    clear hb9 HR8 hq7
    go_wp2_with (first
      | (refine wpList_store_row (by rfl) 52 (.tmp 8) (.tmp 64) (by rfl) w9.heap.size _ (u8s X).toArray _ (by rfl) (by rfl) (heap_new _ _) HIFX.out HSZX.out HONX.out ?_
         intro wa hwa hka
         have HBA0 := hid (show Below w9.heap.size w9 wa from ((Below.refl _ _).alloc (Nat.le_refl _) _).trans (hka.below (by simp) (Nat.le_refl _)))
         have HBA := hid (HB9.out.trans (HBA0.out.mono HB9.out.size))
         have HRA := hid (range_of_heapO hwa)
         have HRB := hid (range_of_heapO ((HBA0.out.block _ hq9).trans HR9.out))
         have e1 := fun wy => HEQ.out wy
         clear hwa hka)
      | (refine wpList_load_wantE (by rfl) 52 (.tmp 7) (by rfl) q7 0 (by rfl) (u8s X) _ HRB.out Tryd.underlying52 rfl HIFL.out ?_)
      | (refine wpList_load_wantE (by rfl) 52 (.tmp 8) (by rfl) w9.heap.size 0 (by rfl) (u8s X) _ HRA.out Tryd.underlying52 rfl HIFL.out ?_))
    refine (HK.out wa (HB1.out.trans (HBA.out.mono HB1.out.size))).mono ?_
    rintro e wb ⟨rfl, hbb⟩
    have HBB := hid (HB1.out.trans ((HBA.out.trans (hbb.mono HBA.out.size)).mono HB1.out.size))
    clear hbb
    go_wp2
    go_ret
    exact ⟨rfl, HBB.out⟩


set_option maxRecDepth 100000 in
set_option maxHeartbeats 2000000 in
theorem encodes_walk (w : World) (V : Vars w shaRound shaStart) (R : Rnds w) (k n t s : Int) (od : List Nat) (a : Option Addr) (m c : Nat) (D : List (List Nat)) (ho : od.length = 32) (hol : ∀ y ∈ od, y < 256) (hD : Dgs w a m c D) :
    Calls Tryd.prog 5 #[.agg (mcells k n t s od (.slice a m c)).toArray] w fun e w' => e = .returned (.bool true) ∧ Below w.heap.size w w' := by
  by_cases h400 : 400 < m
  · as_aux_lemma =>
    have HK := hid (fun (wx : World) (b : Below w.heap.size w wx) => known_dg wx (V.below b))
    obtain ⟨w1, hw1⟩ : ∃ y, y = w.alloc (.cells (mcells k n t s od (.slice a m c)).toArray 55) := ⟨_, rfl⟩
    have HB1 := hid (show Below w.heap.size w w1 from by rw [hw1]; exact (Below.refl _ _).alloc (Nat.le_refl _) _)
    have HM1 := hid (show ManAt w1 w.heap.size k n t s od (.slice a m c) from by rw [hw1]; exact heap_new _ _)
    have c36 := (HM1.out.c ho).2.2.2.2
    have hI : 400 < (m : Int) := by omega
    clear V R hD ho hol
    go_enter Tryd.func5, Tryd.ntmps5
    go_upto_region 1 with fail
    change Code.wp _ _ _ _ (w.alloc (.cells (mcells k n t s od (.slice a m c)).toArray 55))
    rw [← hw1]
    clear hw1
    go_wp2_with fail
    refine (HK.out w1 HB1.out).mono ?_
    rintro e w2 ⟨rfl, hb2⟩
    have HB2 := hid (HB1.out.trans (hb2.mono HB1.out.size))
    go_wp2
    go_ret
    exact ⟨rfl, HB2.out⟩
  have HK := fun (wx : World) (b : Below w.heap.size w wx) => known_dg wx (V.below b)
  have hm : m ≤ 400 := by omega
  cases hv : manB k n t s m with
  | false =>
    refine enc_bad w k n t s od a m c D ho hD hm 0 [] (List.replicate 32 0) rfl hv HK ?_ ?_ ?_ ?_
    · exact fun wx a' c' _ => (encode_bad k n t s od a' m c' ho wx hv).mono fun e w' h => ⟨none, 0, h.1, bs_nil w', h.2⟩
    · exact fun wx a' c' _ => (rbytes_bad k n t s od a' m c' ho wx hv).mono fun e w' h => ⟨none, 0, h.1, bs_nil w', h.2⟩
    · exact fun wx _ a' c' _ => id_bad k n t s od a' m c' ho wx hv
    · exact fun wx _ a' c' _ => rid_bad k n t s od a' m c' ho wx hv
  | true =>
    have hnum : 1 ≤ k ∧ k ≤ n ∧ n ≤ t ∧ 0 ≤ s := by
      have hok := hv
      unfold manB vnB vcB at hok
      simp only [Bool.and_eq_true, decide_eq_true_eq] at hok
      omega
    obtain ⟨k, rfl⟩ : ∃ q : Nat, k = (q : Int) := ⟨k.toNat, by omega⟩
    obtain ⟨n, rfl⟩ : ∃ q : Nat, n = (q : Int) := ⟨n.toNat, by omega⟩
    obtain ⟨t, rfl⟩ : ∃ q : Nat, t = (q : Int) := ⟨t.toNat, by omega⟩
    obtain ⟨s, rfl⟩ : ∃ q : Nat, s = (q : Int) := ⟨s.toNat, by omega⟩
    have hok : manB k n t s D.length = true := by rw [← hD.len]; exact hv
    refine enc_good w k n t s od a m c D ho hD hm (39 + 32 * t) (encTo k n t s od D t) (dig shaRound shaStart (encTo k n t s od D t)) (dig_length _ _ _) hv HK ?_ ?_ ?_ ?_
    · exact fun wx a' c' h => (encode_to k n t s od D _ ho hol wx h.at_ hok).mono fun e w' h => by obtain ⟨a3, c3, h1, h2, _, _, h5⟩ := h; exact ⟨a3, c3, h1, h2, h5⟩
    · exact fun wx a' c' h => (rbytes_any k n t s od D _ ho hol wx h.at_ hok).mono fun e w' h => by obtain ⟨a3, c3, h1, h2, _, _, h5⟩ := h; exact ⟨a3, c3, h1, h2, h5⟩
    · exact fun wx b a' c' h => id_ok k n t s od D _ ho hol wx (V.below b) h.at_ hok
    · exact fun wx b a' c' h => rid_ok k n t s od D _ ho hol wx (R.below b) h.at_ hok
end Go.Proofs.YtdjnjmekdjcbaaaDoor
