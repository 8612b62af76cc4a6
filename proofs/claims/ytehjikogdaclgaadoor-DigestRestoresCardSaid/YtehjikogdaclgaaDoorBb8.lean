/-
  Make: the region in which the manifest is made: every order. · Make: the manifest and the pieces of an object.
-/
import Derived.Test.YtehjikogdaclgaaDoorBb7
import Derived.Deep.DeepCutAuto
namespace Go.Proofs.YtehjikogdaclgaaDoor
open Go Go.RowKit
set_option linter.unusedVariables false

def mo0 : Oper := { dst := some 39, op := Op.move (Operand.tmp 1), type := 3, pos := "pieces.go:20", after := #[], guard := none }
def mo1 : Oper := { dst := some 40, op := Op.move (Operand.tmp 2), type := 3, pos := "pieces.go:20", after := #[], guard := none }
def mo2 : Oper := { dst := some 41, op := Op.move (Operand.tmp 3), type := 3, pos := "pieces.go:20", after := #[], guard := none }
def mo3 : Oper := { dst := some 42, op := Op.move (Operand.tmp 4), type := 22, pos := "pieces.go:20", after := #[], guard := none }
def mo4 : Oper := { dst := some 43, op := Op.call { callee := Callee.builtin Builtin.len, args := #[Operand.tmp 42], argTypes := #[22] }, type := 3, pos := "pieces.go:20", after := #[{ on := 3, ground := Ground.data }], guard := none }
def mo5 : Oper := { dst := some 44, op := Op.move (Operand.tmp 4), type := 22, pos := "pieces.go:20", after := #[], guard := none }
def mo6 : Oper := { dst := some 45, op := Op.call { callee := Callee.value (Operand.func 18), args := #[Operand.tmp 44], argTypes := #[22] }, type := 24, pos := "pieces.go:20", after := #[{ on := 5, ground := Ground.data }], guard := none }
def mo7 : Oper := { dst := some 46, op := Op.move (Operand.tmp 3), type := 3, pos := "pieces.go:20", after := #[], guard := none }
def mo8 : Oper := { dst := some 47, op := Op.makeSlice 25 (Operand.tmp 46) (Operand.tmp 46), type := 25, pos := "pieces.go:20", after := #[{ on := 7, ground := Ground.data }, { on := 7, ground := Ground.data }], guard := none }
def mo9 : Oper := { dst := some 48, op := Op.build 27 #[(0, Operand.tmp 39), (1, Operand.tmp 40), (2, Operand.tmp 41), (3, Operand.tmp 43), (4, Operand.tmp 45), (5, Operand.tmp 47)], type := 27, pos := "pieces.go:20", after := #[{ on := 0, ground := Ground.data }, { on := 1, ground := Ground.data }, { on := 2, ground := Ground.data }, { on := 4, ground := Ground.data }, { on := 6, ground := Ground.data }, { on := 8, ground := Ground.data }], guard := none }
def mo10 : Oper := { dst := some 15, op := Op.alloc 27, type := 0, pos := "pieces.go:20", after := #[], guard := none }
def mo11 : Oper := { dst := none, op := Op.store 27 (Operand.tmp 15) (Operand.tmp 48), type := 0, pos := "pieces.go:20", after := #[{ on := 10, ground := Ground.data }, { on := 9, ground := Ground.data }, { on := 6, ground := Ground.chain }, { on := 0, ground := Ground.phase }, { on := 1, ground := Ground.phase }, { on := 2, ground := Ground.phase }, { on := 3, ground := Ground.phase }, { on := 4, ground := Ground.phase }, { on := 5, ground := Ground.phase }, { on := 6, ground := Ground.phase }, { on := 7, ground := Ground.phase }, { on := 8, ground := Ground.phase }, { on := 9, ground := Ground.phase }, { on := 10, ground := Ground.phase }], guard := none }
def mops : Array Oper := #[mo0, mo1, mo2, mo3, mo4, mo5, mo6, mo7, mo8, mo9, mo10, mo11]
/-- what the making of the manifest leaves -/
def MkC (w2 : World) (k n t m : Nat) (D : List Nat) (pv : Value) (wx : World) : Prop := ∃ mb gd, pv = .pointer (some ⟨mb, 0, none⟩) ∧ ManAt wx mb k n t m D (.slice (some ⟨gd, 0, none⟩) t t) ∧ wx.there gd 0 (t * 32) ∧ Below w2.heap.size w2 wx ∧ w2.heap.size ≤ mb ∧ w2.heap.size ≤ gd ∧ gd ≠ mb ∧ gd < wx.heap.size
theorem mk_leaf {w2 wx w8 : World} {k n t m mb gd : Nat} {D : List Nat} (h1 : w8.heap[mb]? = some (.cells (mcells k n t m D (.slice (some ⟨gd, 0, none⟩) t t)).toArray 27 (0, 0))) (h2 : Kept mb wx w8) (h3 : wx.there gd 0 (t * 32)) (h4 : Below w2.heap.size w2 wx) (h5 : w2.heap.size ≤ mb) (h6 : w2.heap.size ≤ gd) (h7 : gd ≠ mb) (h8 : gd < wx.heap.size) :
    MkC w2 k n t m D (.pointer (some ⟨mb, 0, none⟩)) w8 :=
  ⟨mb, gd, rfl, h1, there_same h3 (h2.block gd h8 h7), h4.trans (h2.below h4.size h5), h5, h6, h7, Nat.lt_of_lt_of_le h8 h2.size⟩
theorem put_comm (a : Act) {s r : Tmp} (v u : Value) (h : s ≠ r) : (a.put (some s) v).put (some r) u = (a.put (some r) u).put (some s) v := by
  simp only [Act.put]
  rw [Array.setIfInBounds_comm _ _ h]

set_option maxRecDepth 100000 in
set_option maxHeartbeats 4000000 in
theorem mk_region (a0 : Act) (w2 : World) (Q : Exit → Act → World → Prop) (hP : ∀ (s : Option Tmp) (v : Value) c (a : Act) (w : World), Q (.panic c) (a.put s v) w → Q (.panic c) a w) (k n t m c : Nat) (a : Option Addr) (D : List Nat) (hD : D.length = 32) (ht : t ≤ 100000) (hsz0 : a0.tmps.size = 68) (h0_1 : a0.eval (.tmp 1) = .int .i64 (k : Int)) (h0_2 : a0.eval (.tmp 2) = .int .i64 (n : Int)) (h0_3 : a0.eval (.tmp 3) = .int .i64 (t : Int)) (h0_4 : a0.eval (.tmp 4) = .slice a m c)
    (HSHA : ∀ wx, Below w2.heap.size w2 wx → Calls Tryd.prog 18 #[.slice a m c] wx fun e w' => e = .returned (.agg (u8s D).toArray) ∧ Below wx.heap.size wx w')
    (fin : ∀ v45 v47 v48 pv w8, MkC w2 k n t m D pv w8 → Q .normal (((((((((((a0.put (some 39) (.int .i64 (k : Int))).put (some 40) (.int .i64 (n : Int))).put (some 41) (.int .i64 (t : Int))).put (some 42) (.slice a m c)).put (some 43) (.int .i64 (m : Int))).put (some 44) (.slice a m c)).put (some 46) (.int .i64 (t : Int))).put (some 45) v45).put (some 47) v47).put (some 48) v48).put (some 15) pv) w8) :
    (Code.region 8 mops true).wp Tryd.prog Q a0 w2 := by
  have HBM := fun gd => built_man k n t m D hD (some ⟨gd, 0, none⟩) t t
  have HIF := fun gd => (show (Tryd.prog.info? 27).map (·.size) = some (mcells k n t m D (.slice (some ⟨gd, 0, none⟩) t t)).toArray.size from by rw [List.size_toArray, mcells_length _ _ _ _ _ _ hD]; kernel_rfl)
  have HSZ := fun gd => (show mz.size = (mcells k n t m D (.slice (some ⟨gd, 0, none⟩) t t)).toArray.size from by rw [show (mcells k n t m D (.slice (some ⟨gd, 0, none⟩) t t)).toArray.size = 37 from by rw [List.size_toArray, mcells_length _ _ _ _ _ _ hD]]; rfl)
  have HONE := fun gd => mcells_one k n t m D (some ⟨gd, 0, none⟩) t t
  refine wp_region_any (by kernel_rfl) ?_
  obtain ⟨wd, hwd⟩ : ∃ x, x = World.drew w2 := ⟨_, rfl⟩
  change wpAny _ _ _ _ _ _ _ (World.drew w2)
  rw [← hwd]
  have hb0 : Below w2.heap.size w2 wd := by rw [hwd]; exact bel_drewN (Below.refl _ _) 1
  clear hwd
  have y0 : Yields Tryd.prog mops mo0 (.int .i64 (k : Int)) (a0) := yields_move (.tmp 1) rfl rfl h0_1
  refine wpAny_take (i := 0) (oi := mo0) (v := .int .i64 (k : Int)) rfl (by kernel_rfl) (by kernel_rfl) (by kernel_rfl) (fun c a w h => hP _ _ c a w h) y0 ?_
  change wpAny _ _ _ _ _ _ ((a0).put (some 39) (.int .i64 (k : Int))) _
  clear y0
  have y1 : Yields Tryd.prog mops mo1 (.int .i64 (n : Int)) ((a0).put (some 39) (.int .i64 (k : Int))) := yields_move (.tmp 2) rfl rfl ((ev_other (by decide)).trans h0_2)
  refine wpAny_take (i := 1) (oi := mo1) (v := .int .i64 (n : Int)) rfl (by kernel_rfl) (by kernel_rfl) (by kernel_rfl) (fun c a w h => hP _ _ c a w h) y1 ?_
  change wpAny _ _ _ _ _ _ (((a0).put (some 39) (.int .i64 (k : Int))).put (some 40) (.int .i64 (n : Int))) _
  clear y1
  have y2 : Yields Tryd.prog mops mo2 (.int .i64 (t : Int)) (((a0).put (some 39) (.int .i64 (k : Int))).put (some 40) (.int .i64 (n : Int))) := yields_move (.tmp 3) rfl rfl ((ev_other (by decide)).trans ((ev_other (by decide)).trans h0_3))
  refine wpAny_take (i := 2) (oi := mo2) (v := .int .i64 (t : Int)) rfl (by kernel_rfl) (by kernel_rfl) (by kernel_rfl) (fun c a w h => hP _ _ c a w h) y2 ?_
  change wpAny _ _ _ _ _ _ ((((a0).put (some 39) (.int .i64 (k : Int))).put (some 40) (.int .i64 (n : Int))).put (some 41) (.int .i64 (t : Int))) _
  clear y2
  have y3 : Yields Tryd.prog mops mo3 (.slice a m c) ((((a0).put (some 39) (.int .i64 (k : Int))).put (some 40) (.int .i64 (n : Int))).put (some 41) (.int .i64 (t : Int))) := yields_move (.tmp 4) rfl rfl ((ev_other (by decide)).trans ((ev_other (by decide)).trans ((ev_other (by decide)).trans h0_4)))
  refine wpAny_take (i := 3) (oi := mo3) (v := .slice a m c) rfl (by kernel_rfl) (by kernel_rfl) (by kernel_rfl) (fun c a w h => hP _ _ c a w h) y3 ?_
  change wpAny _ _ _ _ _ _ (((((a0).put (some 39) (.int .i64 (k : Int))).put (some 40) (.int .i64 (n : Int))).put (some 41) (.int .i64 (t : Int))).put (some 42) (.slice a m c)) _
  clear y3
  have y4 : Yields Tryd.prog mops mo4 (.int .i64 (m : Int)) (((((a0).put (some 39) (.int .i64 (k : Int))).put (some 40) (.int .i64 (n : Int))).put (some 41) (.int .i64 (t : Int))).put (some 42) (.slice a m c)) := yields_op (v := .int .i64 (m : Int)) rfl (run_len_op (.tmp 42) #[22] rfl (ev_same (by simp only [put_sz, hsz0]; decide)) (len_u8 a m c))
  refine wpAny_take (i := 4) (oi := mo4) (v := .int .i64 (m : Int)) rfl (by kernel_rfl) (by kernel_rfl) (by kernel_rfl) (fun c a w h => hP _ _ c a w h) y4 ?_
  change wpAny _ _ _ _ _ _ ((((((a0).put (some 39) (.int .i64 (k : Int))).put (some 40) (.int .i64 (n : Int))).put (some 41) (.int .i64 (t : Int))).put (some 42) (.slice a m c)).put (some 43) (.int .i64 (m : Int))) _
  clear y4
  have y5 : Yields Tryd.prog mops mo5 (.slice a m c) ((((((a0).put (some 39) (.int .i64 (k : Int))).put (some 40) (.int .i64 (n : Int))).put (some 41) (.int .i64 (t : Int))).put (some 42) (.slice a m c)).put (some 43) (.int .i64 (m : Int))) := yields_move (.tmp 4) rfl rfl ((ev_other (by decide)).trans ((ev_other (by decide)).trans ((ev_other (by decide)).trans ((ev_other (by decide)).trans ((ev_other (by decide)).trans h0_4)))))
  refine wpAny_take (i := 5) (oi := mo5) (v := .slice a m c) rfl (by kernel_rfl) (by kernel_rfl) (by kernel_rfl) (fun c a w h => hP _ _ c a w h) y5 ?_
  change wpAny _ _ _ _ _ _ (((((((a0).put (some 39) (.int .i64 (k : Int))).put (some 40) (.int .i64 (n : Int))).put (some 41) (.int .i64 (t : Int))).put (some 42) (.slice a m c)).put (some 43) (.int .i64 (m : Int))).put (some 44) (.slice a m c)) _
  clear y5
  have y7 : Yields Tryd.prog mops mo7 (.int .i64 (t : Int)) (((((((a0).put (some 39) (.int .i64 (k : Int))).put (some 40) (.int .i64 (n : Int))).put (some 41) (.int .i64 (t : Int))).put (some 42) (.slice a m c)).put (some 43) (.int .i64 (m : Int))).put (some 44) (.slice a m c)) := yields_move (.tmp 3) rfl rfl ((ev_other (by decide)).trans ((ev_other (by decide)).trans ((ev_other (by decide)).trans ((ev_other (by decide)).trans ((ev_other (by decide)).trans ((ev_other (by decide)).trans h0_3))))))
  refine wpAny_take (i := 7) (oi := mo7) (v := .int .i64 (t : Int)) rfl (by kernel_rfl) (by kernel_rfl) (by kernel_rfl) (fun c a w h => hP _ _ c a w h) y7 ?_
  change wpAny _ _ _ _ _ _ ((((((((a0).put (some 39) (.int .i64 (k : Int))).put (some 40) (.int .i64 (n : Int))).put (some 41) (.int .i64 (t : Int))).put (some 42) (.slice a m c)).put (some 43) (.int .i64 (m : Int))).put (some 44) (.slice a m c)).put (some 46) (.int .i64 (t : Int))) _
  clear y7
  generalize hA : (((((((a0).put (some 39) (.int .i64 (k : Int))).put (some 40) (.int .i64 (n : Int))).put (some 41) (.int .i64 (t : Int))).put (some 42) (.slice a m c)).put (some 43) (.int .i64 (m : Int))).put (some 44) (.slice a m c)).put (some 46) (.int .i64 (t : Int)) = A at *
  have e39 : A.eval (.tmp 39) = .int .i64 (k : Int) := by rw [← hA]; exact ((ev_other (by decide)).trans ((ev_other (by decide)).trans ((ev_other (by decide)).trans ((ev_other (by decide)).trans ((ev_other (by decide)).trans ((ev_other (by decide)).trans (ev_same (by simp only [hsz0]; decide))))))))
  have e40 : A.eval (.tmp 40) = .int .i64 (n : Int) := by rw [← hA]; exact ((ev_other (by decide)).trans ((ev_other (by decide)).trans ((ev_other (by decide)).trans ((ev_other (by decide)).trans ((ev_other (by decide)).trans (ev_same (by simp only [put_sz, hsz0]; decide)))))))
  have e41 : A.eval (.tmp 41) = .int .i64 (t : Int) := by rw [← hA]; exact ((ev_other (by decide)).trans ((ev_other (by decide)).trans ((ev_other (by decide)).trans ((ev_other (by decide)).trans (ev_same (by simp only [put_sz, hsz0]; decide))))))
  have e43 : A.eval (.tmp 43) = .int .i64 (m : Int) := by rw [← hA]; exact ((ev_other (by decide)).trans ((ev_other (by decide)).trans (ev_same (by simp only [put_sz, hsz0]; decide))))
  have e44 : A.eval (.tmp 44) = .slice a m c := by rw [← hA]; exact ((ev_other (by decide)).trans (ev_same (by simp only [put_sz, hsz0]; decide)))
  have e46 : A.eval (.tmp 46) = .int .i64 (t : Int) := by rw [← hA]; exact (ev_same (by simp only [put_sz, hsz0]; decide))
  have hszA : A.tmps.size = 68 := by rw [← hA]; simp only [put_sz, hsz0]
  clear hA h0_1 h0_2 h0_3 h0_4 hsz0
  refine wpAny_ready (rs := [6, 8, 10]) (by kernel_rfl) (by simp) ?_
  refine AllReady.cons (o := mo6) rfl (fun K hK => ?_) ?_
  · refine step_call rfl (run_call_op 18 (.tmp 44) #[22] rfl call_sha e44 _) (HSHA wd hb0) ?_
    intro w101 hn1
    have hb1 := hb0.trans (hn1.mono hb0.size)
    refine hK _ _ ?_
    clear hK K
    change wpAny _ _ _ _ _ _ ((A).put (some 45) (.agg (u8s D).toArray)) _
    refine wpAny_ready (rs := [8, 10]) (by kernel_rfl) (by simp) ?_
    refine AllReady.cons (o := mo8) rfl (fun K hK => ?_) ?_
    · refine step_mkd rfl (.tmp 46) rfl t ht ((ev_other (by decide)).trans e46) ?_
      intro gd w102 hgd hth2 hn2 hgl2
      have hgge : w2.heap.size ≤ gd := by rw [hgd]; exact hb1.size
      have hb2 := hb1.trans (hn2.mono hb1.size)
      refine hK _ _ ?_
      clear hK K
      change wpAny _ _ _ _ _ _ (((A).put (some 45) (.agg (u8s D).toArray)).put (some 47) (.slice (some ⟨gd, 0, none⟩) t t)) _
      have yb : Yields Tryd.prog mops mo9 (.agg (mcells k n t m D (.slice (some ⟨gd, 0, none⟩) t t)).toArray) (((A).put (some 45) (.agg (u8s D).toArray)).put (some 47) (.slice (some ⟨gd, 0, none⟩) t t)) := yields_build rfl 27 (.tmp 39) (.tmp 40) (.tmp 41) (.tmp 43) (.tmp 45) (.tmp 47) rfl ((ev_other (by decide)).trans ((ev_other (by decide)).trans e39)) ((ev_other (by decide)).trans ((ev_other (by decide)).trans e40)) ((ev_other (by decide)).trans ((ev_other (by decide)).trans e41)) ((ev_other (by decide)).trans ((ev_other (by decide)).trans e43)) ((ev_other (by decide)).trans (ev_same (by simp only [hszA]; decide))) (ev_same (by simp only [put_sz, hszA]; decide)) (HBM gd)
      refine wpAny_take (i := 9) (oi := mo9) rfl (by kernel_rfl) (by kernel_rfl) (by kernel_rfl) (fun c a w h => hP _ _ c a w h) yb ?_
      change wpAny _ _ _ _ _ _ ((((A).put (some 45) (.agg (u8s D).toArray)).put (some 47) (.slice (some ⟨gd, 0, none⟩) t t)).put (some 48) (.agg (mcells k n t m D (.slice (some ⟨gd, 0, none⟩) t t)).toArray)) _
      clear yb
      refine wpAny_ready (rs := [10]) (by kernel_rfl) (by simp) ?_
      refine AllReady.cons (o := mo10) rfl (fun K hK => ?_) AllReady.nil
      refine step_mkm rfl rfl ?_
      intro mb w103 hmbe hmb3 hn3 hml3
      have hmge : w2.heap.size ≤ mb := by rw [hmbe]; exact hb2.size
      have hb3 := hb2.trans (hn3.mono hb2.size)
      have hth3 := there_same hth2 (hn3.block _ hgl2)
      have hgl3 := Nat.lt_of_lt_of_le hgl2 hn3.size
      refine hK _ _ ?_
      clear hK K
      change wpAny _ _ _ _ _ _ (((((A).put (some 45) (.agg (u8s D).toArray)).put (some 47) (.slice (some ⟨gd, 0, none⟩) t t)).put (some 48) (.agg (mcells k n t m D (.slice (some ⟨gd, 0, none⟩) t t)).toArray)).put (some 15) (.pointer (some ⟨mb, 0, none⟩))) _
      refine wpAny_ready (rs := [11]) (by kernel_rfl) (by simp) ?_
      refine AllReady.cons (o := mo11) rfl (fun K hK => ?_) AllReady.nil
      refine step_store_row rfl 27 (.tmp 15) (.tmp 48) rfl mb mz (mcells k n t m D (.slice (some ⟨gd, 0, none⟩) t t)).toArray 27 (ev_same (by simp only [put_sz, hszA]; decide)) ((ev_other (by decide)).trans (ev_same (by simp only [put_sz, hszA]; decide))) hmb3 (HIF _) (HSZ _) (HONE _) ?_
      intro w8 hw8 hk8
      refine hK _ _ ?_
      refine wpAny_done (by kernel_rfl) ?_ _
      have LV := mk_leaf hw8 hk8 hth3 hb3 hmge hgge (by omega) hgl3
      have F := fin (.agg (u8s D).toArray) (.slice (some ⟨gd, 0, none⟩) t t) (.agg (mcells k n t m D (.slice (some ⟨gd, 0, none⟩) t t)).toArray) _ _ LV
      have FE : ((((A).put (some 45) (.agg (u8s D).toArray)).put (some 47) (.slice (some ⟨gd, 0, none⟩) t t)).put (some 48) (.agg (mcells k n t m D (.slice (some ⟨gd, 0, none⟩) t t)).toArray)).put (some 15) (.pointer (some ⟨mb, 0, none⟩)) = ((((A).put (some 45) (.agg (u8s D).toArray)).put (some 47) (.slice (some ⟨gd, 0, none⟩) t t)).put (some 48) (.agg (mcells k n t m D (.slice (some ⟨gd, 0, none⟩) t t)).toArray)).put (some 15) (.pointer (some ⟨mb, 0, none⟩)) := by rfl
      rw [← FE] at F
      exact F
    refine AllReady.cons (o := mo10) rfl (fun K hK => ?_) AllReady.nil
    refine step_mkm rfl rfl ?_
    intro mb w102 hmbe hmb2 hn2 hml2
    have hmge : w2.heap.size ≤ mb := by rw [hmbe]; exact hb1.size
    have hb2 := hb1.trans (hn2.mono hb1.size)
    refine hK _ _ ?_
    clear hK K
    change wpAny _ _ _ _ _ _ (((A).put (some 45) (.agg (u8s D).toArray)).put (some 15) (.pointer (some ⟨mb, 0, none⟩))) _
    refine wpAny_ready (rs := [8]) (by kernel_rfl) (by simp) ?_
    refine AllReady.cons (o := mo8) rfl (fun K hK => ?_) AllReady.nil
    refine step_mkd rfl (.tmp 46) rfl t ht ((ev_other (by decide)).trans ((ev_other (by decide)).trans e46)) ?_
    intro gd w103 hgd hth3 hn3 hgl3
    have hgge : w2.heap.size ≤ gd := by rw [hgd]; exact hb2.size
    have hb3 := hb2.trans (hn3.mono hb2.size)
    have hmb3 := (hn3.block _ hml2).trans hmb2
    have hml3 := Nat.lt_of_lt_of_le hml2 hn3.size
    refine hK _ _ ?_
    clear hK K
    change wpAny _ _ _ _ _ _ ((((A).put (some 45) (.agg (u8s D).toArray)).put (some 15) (.pointer (some ⟨mb, 0, none⟩))).put (some 47) (.slice (some ⟨gd, 0, none⟩) t t)) _
    have yb : Yields Tryd.prog mops mo9 (.agg (mcells k n t m D (.slice (some ⟨gd, 0, none⟩) t t)).toArray) ((((A).put (some 45) (.agg (u8s D).toArray)).put (some 15) (.pointer (some ⟨mb, 0, none⟩))).put (some 47) (.slice (some ⟨gd, 0, none⟩) t t)) := yields_build rfl 27 (.tmp 39) (.tmp 40) (.tmp 41) (.tmp 43) (.tmp 45) (.tmp 47) rfl ((ev_other (by decide)).trans ((ev_other (by decide)).trans ((ev_other (by decide)).trans e39))) ((ev_other (by decide)).trans ((ev_other (by decide)).trans ((ev_other (by decide)).trans e40))) ((ev_other (by decide)).trans ((ev_other (by decide)).trans ((ev_other (by decide)).trans e41))) ((ev_other (by decide)).trans ((ev_other (by decide)).trans ((ev_other (by decide)).trans e43))) ((ev_other (by decide)).trans ((ev_other (by decide)).trans (ev_same (by simp only [hszA]; decide)))) (ev_same (by simp only [put_sz, hszA]; decide)) (HBM gd)
    refine wpAny_take (i := 9) (oi := mo9) rfl (by kernel_rfl) (by kernel_rfl) (by kernel_rfl) (fun c a w h => hP _ _ c a w h) yb ?_
    change wpAny _ _ _ _ _ _ (((((A).put (some 45) (.agg (u8s D).toArray)).put (some 15) (.pointer (some ⟨mb, 0, none⟩))).put (some 47) (.slice (some ⟨gd, 0, none⟩) t t)).put (some 48) (.agg (mcells k n t m D (.slice (some ⟨gd, 0, none⟩) t t)).toArray)) _
    clear yb
    refine wpAny_ready (rs := [11]) (by kernel_rfl) (by simp) ?_
    refine AllReady.cons (o := mo11) rfl (fun K hK => ?_) AllReady.nil
    refine step_store_row rfl 27 (.tmp 15) (.tmp 48) rfl mb mz (mcells k n t m D (.slice (some ⟨gd, 0, none⟩) t t)).toArray 27 ((ev_other (by decide)).trans ((ev_other (by decide)).trans (ev_same (by simp only [put_sz, hszA]; decide)))) (ev_same (by simp only [put_sz, hszA]; decide)) hmb3 (HIF _) (HSZ _) (HONE _) ?_
    intro w8 hw8 hk8
    refine hK _ _ ?_
    refine wpAny_done (by kernel_rfl) ?_ _
    have LV := mk_leaf hw8 hk8 hth3 hb3 hmge hgge (by omega) hgl3
    have F := fin (.agg (u8s D).toArray) (.slice (some ⟨gd, 0, none⟩) t t) (.agg (mcells k n t m D (.slice (some ⟨gd, 0, none⟩) t t)).toArray) _ _ LV
    have FE : ((((A).put (some 45) (.agg (u8s D).toArray)).put (some 15) (.pointer (some ⟨mb, 0, none⟩))).put (some 47) (.slice (some ⟨gd, 0, none⟩) t t)).put (some 48) (.agg (mcells k n t m D (.slice (some ⟨gd, 0, none⟩) t t)).toArray) = ((((A).put (some 45) (.agg (u8s D).toArray)).put (some 47) (.slice (some ⟨gd, 0, none⟩) t t)).put (some 48) (.agg (mcells k n t m D (.slice (some ⟨gd, 0, none⟩) t t)).toArray)).put (some 15) (.pointer (some ⟨mb, 0, none⟩)) := by rw [put_comm ((A).put (some 45) (.agg (u8s D).toArray)) (.pointer (some ⟨mb, 0, none⟩)) (.slice (some ⟨gd, 0, none⟩) t t) (by decide), put_comm (((A).put (some 45) (.agg (u8s D).toArray)).put (some 47) (.slice (some ⟨gd, 0, none⟩) t t)) (.pointer (some ⟨mb, 0, none⟩)) (.agg (mcells k n t m D (.slice (some ⟨gd, 0, none⟩) t t)).toArray) (by decide)]
    rw [← FE] at F
    exact F
  refine AllReady.cons (o := mo8) rfl (fun K hK => ?_) ?_
  · refine step_mkd rfl (.tmp 46) rfl t ht e46 ?_
    intro gd w101 hgd hth1 hn1 hgl1
    have hgge : w2.heap.size ≤ gd := by rw [hgd]; exact hb0.size
    have hb1 := hb0.trans (hn1.mono hb0.size)
    refine hK _ _ ?_
    clear hK K
    change wpAny _ _ _ _ _ _ ((A).put (some 47) (.slice (some ⟨gd, 0, none⟩) t t)) _
    refine wpAny_ready (rs := [6, 10]) (by kernel_rfl) (by simp) ?_
    refine AllReady.cons (o := mo6) rfl (fun K hK => ?_) ?_
    · refine step_call rfl (run_call_op 18 (.tmp 44) #[22] rfl call_sha ((ev_other (by decide)).trans e44) _) (HSHA w101 hb1) ?_
      intro w102 hn2
      have hb2 := hb1.trans (hn2.mono hb1.size)
      have hth2 := there_same hth1 (hn2.block _ hgl1)
      have hgl2 := Nat.lt_of_lt_of_le hgl1 hn2.size
      refine hK _ _ ?_
      clear hK K
      change wpAny _ _ _ _ _ _ (((A).put (some 47) (.slice (some ⟨gd, 0, none⟩) t t)).put (some 45) (.agg (u8s D).toArray)) _
      have yb : Yields Tryd.prog mops mo9 (.agg (mcells k n t m D (.slice (some ⟨gd, 0, none⟩) t t)).toArray) (((A).put (some 47) (.slice (some ⟨gd, 0, none⟩) t t)).put (some 45) (.agg (u8s D).toArray)) := yields_build rfl 27 (.tmp 39) (.tmp 40) (.tmp 41) (.tmp 43) (.tmp 45) (.tmp 47) rfl ((ev_other (by decide)).trans ((ev_other (by decide)).trans e39)) ((ev_other (by decide)).trans ((ev_other (by decide)).trans e40)) ((ev_other (by decide)).trans ((ev_other (by decide)).trans e41)) ((ev_other (by decide)).trans ((ev_other (by decide)).trans e43)) (ev_same (by simp only [put_sz, hszA]; decide)) ((ev_other (by decide)).trans (ev_same (by simp only [hszA]; decide))) (HBM gd)
      refine wpAny_take (i := 9) (oi := mo9) rfl (by kernel_rfl) (by kernel_rfl) (by kernel_rfl) (fun c a w h => hP _ _ c a w h) yb ?_
      change wpAny _ _ _ _ _ _ ((((A).put (some 47) (.slice (some ⟨gd, 0, none⟩) t t)).put (some 45) (.agg (u8s D).toArray)).put (some 48) (.agg (mcells k n t m D (.slice (some ⟨gd, 0, none⟩) t t)).toArray)) _
      clear yb
      refine wpAny_ready (rs := [10]) (by kernel_rfl) (by simp) ?_
      refine AllReady.cons (o := mo10) rfl (fun K hK => ?_) AllReady.nil
      refine step_mkm rfl rfl ?_
      intro mb w103 hmbe hmb3 hn3 hml3
      have hmge : w2.heap.size ≤ mb := by rw [hmbe]; exact hb2.size
      have hb3 := hb2.trans (hn3.mono hb2.size)
      have hth3 := there_same hth2 (hn3.block _ hgl2)
      have hgl3 := Nat.lt_of_lt_of_le hgl2 hn3.size
      refine hK _ _ ?_
      clear hK K
      change wpAny _ _ _ _ _ _ (((((A).put (some 47) (.slice (some ⟨gd, 0, none⟩) t t)).put (some 45) (.agg (u8s D).toArray)).put (some 48) (.agg (mcells k n t m D (.slice (some ⟨gd, 0, none⟩) t t)).toArray)).put (some 15) (.pointer (some ⟨mb, 0, none⟩))) _
      refine wpAny_ready (rs := [11]) (by kernel_rfl) (by simp) ?_
      refine AllReady.cons (o := mo11) rfl (fun K hK => ?_) AllReady.nil
      refine step_store_row rfl 27 (.tmp 15) (.tmp 48) rfl mb mz (mcells k n t m D (.slice (some ⟨gd, 0, none⟩) t t)).toArray 27 (ev_same (by simp only [put_sz, hszA]; decide)) ((ev_other (by decide)).trans (ev_same (by simp only [put_sz, hszA]; decide))) hmb3 (HIF _) (HSZ _) (HONE _) ?_
      intro w8 hw8 hk8
      refine hK _ _ ?_
      refine wpAny_done (by kernel_rfl) ?_ _
      have LV := mk_leaf hw8 hk8 hth3 hb3 hmge hgge (by omega) hgl3
      have F := fin (.agg (u8s D).toArray) (.slice (some ⟨gd, 0, none⟩) t t) (.agg (mcells k n t m D (.slice (some ⟨gd, 0, none⟩) t t)).toArray) _ _ LV
      have FE : ((((A).put (some 47) (.slice (some ⟨gd, 0, none⟩) t t)).put (some 45) (.agg (u8s D).toArray)).put (some 48) (.agg (mcells k n t m D (.slice (some ⟨gd, 0, none⟩) t t)).toArray)).put (some 15) (.pointer (some ⟨mb, 0, none⟩)) = ((((A).put (some 45) (.agg (u8s D).toArray)).put (some 47) (.slice (some ⟨gd, 0, none⟩) t t)).put (some 48) (.agg (mcells k n t m D (.slice (some ⟨gd, 0, none⟩) t t)).toArray)).put (some 15) (.pointer (some ⟨mb, 0, none⟩)) := by rw [put_comm (A) (.slice (some ⟨gd, 0, none⟩) t t) (.agg (u8s D).toArray) (by decide)]
      rw [← FE] at F
      exact F
    refine AllReady.cons (o := mo10) rfl (fun K hK => ?_) AllReady.nil
    refine step_mkm rfl rfl ?_
    intro mb w102 hmbe hmb2 hn2 hml2
    have hmge : w2.heap.size ≤ mb := by rw [hmbe]; exact hb1.size
    have hb2 := hb1.trans (hn2.mono hb1.size)
    have hth2 := there_same hth1 (hn2.block _ hgl1)
    have hgl2 := Nat.lt_of_lt_of_le hgl1 hn2.size
    refine hK _ _ ?_
    clear hK K
    change wpAny _ _ _ _ _ _ (((A).put (some 47) (.slice (some ⟨gd, 0, none⟩) t t)).put (some 15) (.pointer (some ⟨mb, 0, none⟩))) _
    refine wpAny_ready (rs := [6]) (by kernel_rfl) (by simp) ?_
    refine AllReady.cons (o := mo6) rfl (fun K hK => ?_) AllReady.nil
    refine step_call rfl (run_call_op 18 (.tmp 44) #[22] rfl call_sha ((ev_other (by decide)).trans ((ev_other (by decide)).trans e44)) _) (HSHA w102 hb2) ?_
    intro w103 hn3
    have hb3 := hb2.trans (hn3.mono hb2.size)
    have hth3 := there_same hth2 (hn3.block _ hgl2)
    have hgl3 := Nat.lt_of_lt_of_le hgl2 hn3.size
    have hmb3 := (hn3.block _ hml2).trans hmb2
    have hml3 := Nat.lt_of_lt_of_le hml2 hn3.size
    refine hK _ _ ?_
    clear hK K
    change wpAny _ _ _ _ _ _ ((((A).put (some 47) (.slice (some ⟨gd, 0, none⟩) t t)).put (some 15) (.pointer (some ⟨mb, 0, none⟩))).put (some 45) (.agg (u8s D).toArray)) _
    have yb : Yields Tryd.prog mops mo9 (.agg (mcells k n t m D (.slice (some ⟨gd, 0, none⟩) t t)).toArray) ((((A).put (some 47) (.slice (some ⟨gd, 0, none⟩) t t)).put (some 15) (.pointer (some ⟨mb, 0, none⟩))).put (some 45) (.agg (u8s D).toArray)) := yields_build rfl 27 (.tmp 39) (.tmp 40) (.tmp 41) (.tmp 43) (.tmp 45) (.tmp 47) rfl ((ev_other (by decide)).trans ((ev_other (by decide)).trans ((ev_other (by decide)).trans e39))) ((ev_other (by decide)).trans ((ev_other (by decide)).trans ((ev_other (by decide)).trans e40))) ((ev_other (by decide)).trans ((ev_other (by decide)).trans ((ev_other (by decide)).trans e41))) ((ev_other (by decide)).trans ((ev_other (by decide)).trans ((ev_other (by decide)).trans e43))) (ev_same (by simp only [put_sz, hszA]; decide)) ((ev_other (by decide)).trans ((ev_other (by decide)).trans (ev_same (by simp only [hszA]; decide)))) (HBM gd)
    refine wpAny_take (i := 9) (oi := mo9) rfl (by kernel_rfl) (by kernel_rfl) (by kernel_rfl) (fun c a w h => hP _ _ c a w h) yb ?_
    change wpAny _ _ _ _ _ _ (((((A).put (some 47) (.slice (some ⟨gd, 0, none⟩) t t)).put (some 15) (.pointer (some ⟨mb, 0, none⟩))).put (some 45) (.agg (u8s D).toArray)).put (some 48) (.agg (mcells k n t m D (.slice (some ⟨gd, 0, none⟩) t t)).toArray)) _
    clear yb
    refine wpAny_ready (rs := [11]) (by kernel_rfl) (by simp) ?_
    refine AllReady.cons (o := mo11) rfl (fun K hK => ?_) AllReady.nil
    refine step_store_row rfl 27 (.tmp 15) (.tmp 48) rfl mb mz (mcells k n t m D (.slice (some ⟨gd, 0, none⟩) t t)).toArray 27 ((ev_other (by decide)).trans ((ev_other (by decide)).trans (ev_same (by simp only [put_sz, hszA]; decide)))) (ev_same (by simp only [put_sz, hszA]; decide)) hmb3 (HIF _) (HSZ _) (HONE _) ?_
    intro w8 hw8 hk8
    refine hK _ _ ?_
    refine wpAny_done (by kernel_rfl) ?_ _
    have LV := mk_leaf hw8 hk8 hth3 hb3 hmge hgge (by omega) hgl3
    have F := fin (.agg (u8s D).toArray) (.slice (some ⟨gd, 0, none⟩) t t) (.agg (mcells k n t m D (.slice (some ⟨gd, 0, none⟩) t t)).toArray) _ _ LV
    have FE : ((((A).put (some 47) (.slice (some ⟨gd, 0, none⟩) t t)).put (some 15) (.pointer (some ⟨mb, 0, none⟩))).put (some 45) (.agg (u8s D).toArray)).put (some 48) (.agg (mcells k n t m D (.slice (some ⟨gd, 0, none⟩) t t)).toArray) = ((((A).put (some 45) (.agg (u8s D).toArray)).put (some 47) (.slice (some ⟨gd, 0, none⟩) t t)).put (some 48) (.agg (mcells k n t m D (.slice (some ⟨gd, 0, none⟩) t t)).toArray)).put (some 15) (.pointer (some ⟨mb, 0, none⟩)) := by rw [put_comm ((A).put (some 47) (.slice (some ⟨gd, 0, none⟩) t t)) (.pointer (some ⟨mb, 0, none⟩)) (.agg (u8s D).toArray) (by decide), put_comm (((A).put (some 47) (.slice (some ⟨gd, 0, none⟩) t t)).put (some 45) (.agg (u8s D).toArray)) (.pointer (some ⟨mb, 0, none⟩)) (.agg (mcells k n t m D (.slice (some ⟨gd, 0, none⟩) t t)).toArray) (by decide), put_comm (A) (.slice (some ⟨gd, 0, none⟩) t t) (.agg (u8s D).toArray) (by decide)]
    rw [← FE] at F
    exact F
  refine AllReady.cons (o := mo10) rfl (fun K hK => ?_) AllReady.nil
  refine step_mkm rfl rfl ?_
  intro mb w101 hmbe hmb1 hn1 hml1
  have hmge : w2.heap.size ≤ mb := by rw [hmbe]; exact hb0.size
  have hb1 := hb0.trans (hn1.mono hb0.size)
  refine hK _ _ ?_
  clear hK K
  change wpAny _ _ _ _ _ _ ((A).put (some 15) (.pointer (some ⟨mb, 0, none⟩))) _
  refine wpAny_ready (rs := [6, 8]) (by kernel_rfl) (by simp) ?_
  refine AllReady.cons (o := mo6) rfl (fun K hK => ?_) ?_
  · refine step_call rfl (run_call_op 18 (.tmp 44) #[22] rfl call_sha ((ev_other (by decide)).trans e44) _) (HSHA w101 hb1) ?_
    intro w102 hn2
    have hb2 := hb1.trans (hn2.mono hb1.size)
    have hmb2 := (hn2.block _ hml1).trans hmb1
    have hml2 := Nat.lt_of_lt_of_le hml1 hn2.size
    refine hK _ _ ?_
    clear hK K
    change wpAny _ _ _ _ _ _ (((A).put (some 15) (.pointer (some ⟨mb, 0, none⟩))).put (some 45) (.agg (u8s D).toArray)) _
    refine wpAny_ready (rs := [8]) (by kernel_rfl) (by simp) ?_
    refine AllReady.cons (o := mo8) rfl (fun K hK => ?_) AllReady.nil
    refine step_mkd rfl (.tmp 46) rfl t ht ((ev_other (by decide)).trans ((ev_other (by decide)).trans e46)) ?_
    intro gd w103 hgd hth3 hn3 hgl3
    have hgge : w2.heap.size ≤ gd := by rw [hgd]; exact hb2.size
    have hb3 := hb2.trans (hn3.mono hb2.size)
    have hmb3 := (hn3.block _ hml2).trans hmb2
    have hml3 := Nat.lt_of_lt_of_le hml2 hn3.size
    refine hK _ _ ?_
    clear hK K
    change wpAny _ _ _ _ _ _ ((((A).put (some 15) (.pointer (some ⟨mb, 0, none⟩))).put (some 45) (.agg (u8s D).toArray)).put (some 47) (.slice (some ⟨gd, 0, none⟩) t t)) _
    have yb : Yields Tryd.prog mops mo9 (.agg (mcells k n t m D (.slice (some ⟨gd, 0, none⟩) t t)).toArray) ((((A).put (some 15) (.pointer (some ⟨mb, 0, none⟩))).put (some 45) (.agg (u8s D).toArray)).put (some 47) (.slice (some ⟨gd, 0, none⟩) t t)) := yields_build rfl 27 (.tmp 39) (.tmp 40) (.tmp 41) (.tmp 43) (.tmp 45) (.tmp 47) rfl ((ev_other (by decide)).trans ((ev_other (by decide)).trans ((ev_other (by decide)).trans e39))) ((ev_other (by decide)).trans ((ev_other (by decide)).trans ((ev_other (by decide)).trans e40))) ((ev_other (by decide)).trans ((ev_other (by decide)).trans ((ev_other (by decide)).trans e41))) ((ev_other (by decide)).trans ((ev_other (by decide)).trans ((ev_other (by decide)).trans e43))) ((ev_other (by decide)).trans (ev_same (by simp only [put_sz, hszA]; decide))) (ev_same (by simp only [put_sz, hszA]; decide)) (HBM gd)
    refine wpAny_take (i := 9) (oi := mo9) rfl (by kernel_rfl) (by kernel_rfl) (by kernel_rfl) (fun c a w h => hP _ _ c a w h) yb ?_
    change wpAny _ _ _ _ _ _ (((((A).put (some 15) (.pointer (some ⟨mb, 0, none⟩))).put (some 45) (.agg (u8s D).toArray)).put (some 47) (.slice (some ⟨gd, 0, none⟩) t t)).put (some 48) (.agg (mcells k n t m D (.slice (some ⟨gd, 0, none⟩) t t)).toArray)) _
    clear yb
    refine wpAny_ready (rs := [11]) (by kernel_rfl) (by simp) ?_
    refine AllReady.cons (o := mo11) rfl (fun K hK => ?_) AllReady.nil
    refine step_store_row rfl 27 (.tmp 15) (.tmp 48) rfl mb mz (mcells k n t m D (.slice (some ⟨gd, 0, none⟩) t t)).toArray 27 ((ev_other (by decide)).trans ((ev_other (by decide)).trans ((ev_other (by decide)).trans (ev_same (by simp only [hszA]; decide))))) (ev_same (by simp only [put_sz, hszA]; decide)) hmb3 (HIF _) (HSZ _) (HONE _) ?_
    intro w8 hw8 hk8
    refine hK _ _ ?_
    refine wpAny_done (by kernel_rfl) ?_ _
    have LV := mk_leaf hw8 hk8 hth3 hb3 hmge hgge (by omega) hgl3
    have F := fin (.agg (u8s D).toArray) (.slice (some ⟨gd, 0, none⟩) t t) (.agg (mcells k n t m D (.slice (some ⟨gd, 0, none⟩) t t)).toArray) _ _ LV
    have FE : ((((A).put (some 15) (.pointer (some ⟨mb, 0, none⟩))).put (some 45) (.agg (u8s D).toArray)).put (some 47) (.slice (some ⟨gd, 0, none⟩) t t)).put (some 48) (.agg (mcells k n t m D (.slice (some ⟨gd, 0, none⟩) t t)).toArray) = ((((A).put (some 45) (.agg (u8s D).toArray)).put (some 47) (.slice (some ⟨gd, 0, none⟩) t t)).put (some 48) (.agg (mcells k n t m D (.slice (some ⟨gd, 0, none⟩) t t)).toArray)).put (some 15) (.pointer (some ⟨mb, 0, none⟩)) := by rw [put_comm (A) (.pointer (some ⟨mb, 0, none⟩)) (.agg (u8s D).toArray) (by decide), put_comm ((A).put (some 45) (.agg (u8s D).toArray)) (.pointer (some ⟨mb, 0, none⟩)) (.slice (some ⟨gd, 0, none⟩) t t) (by decide), put_comm (((A).put (some 45) (.agg (u8s D).toArray)).put (some 47) (.slice (some ⟨gd, 0, none⟩) t t)) (.pointer (some ⟨mb, 0, none⟩)) (.agg (mcells k n t m D (.slice (some ⟨gd, 0, none⟩) t t)).toArray) (by decide)]
    rw [← FE] at F
    exact F
  refine AllReady.cons (o := mo8) rfl (fun K hK => ?_) AllReady.nil
  refine step_mkd rfl (.tmp 46) rfl t ht ((ev_other (by decide)).trans e46) ?_
  intro gd w102 hgd hth2 hn2 hgl2
  have hgge : w2.heap.size ≤ gd := by rw [hgd]; exact hb1.size
  have hb2 := hb1.trans (hn2.mono hb1.size)
  have hmb2 := (hn2.block _ hml1).trans hmb1
  have hml2 := Nat.lt_of_lt_of_le hml1 hn2.size
  refine hK _ _ ?_
  clear hK K
  change wpAny _ _ _ _ _ _ (((A).put (some 15) (.pointer (some ⟨mb, 0, none⟩))).put (some 47) (.slice (some ⟨gd, 0, none⟩) t t)) _
  refine wpAny_ready (rs := [6]) (by kernel_rfl) (by simp) ?_
  refine AllReady.cons (o := mo6) rfl (fun K hK => ?_) AllReady.nil
  refine step_call rfl (run_call_op 18 (.tmp 44) #[22] rfl call_sha ((ev_other (by decide)).trans ((ev_other (by decide)).trans e44)) _) (HSHA w102 hb2) ?_
  intro w103 hn3
  have hb3 := hb2.trans (hn3.mono hb2.size)
  have hth3 := there_same hth2 (hn3.block _ hgl2)
  have hgl3 := Nat.lt_of_lt_of_le hgl2 hn3.size
  have hmb3 := (hn3.block _ hml2).trans hmb2
  have hml3 := Nat.lt_of_lt_of_le hml2 hn3.size
  refine hK _ _ ?_
  clear hK K
  change wpAny _ _ _ _ _ _ ((((A).put (some 15) (.pointer (some ⟨mb, 0, none⟩))).put (some 47) (.slice (some ⟨gd, 0, none⟩) t t)).put (some 45) (.agg (u8s D).toArray)) _
  have yb : Yields Tryd.prog mops mo9 (.agg (mcells k n t m D (.slice (some ⟨gd, 0, none⟩) t t)).toArray) ((((A).put (some 15) (.pointer (some ⟨mb, 0, none⟩))).put (some 47) (.slice (some ⟨gd, 0, none⟩) t t)).put (some 45) (.agg (u8s D).toArray)) := yields_build rfl 27 (.tmp 39) (.tmp 40) (.tmp 41) (.tmp 43) (.tmp 45) (.tmp 47) rfl ((ev_other (by decide)).trans ((ev_other (by decide)).trans ((ev_other (by decide)).trans e39))) ((ev_other (by decide)).trans ((ev_other (by decide)).trans ((ev_other (by decide)).trans e40))) ((ev_other (by decide)).trans ((ev_other (by decide)).trans ((ev_other (by decide)).trans e41))) ((ev_other (by decide)).trans ((ev_other (by decide)).trans ((ev_other (by decide)).trans e43))) (ev_same (by simp only [put_sz, hszA]; decide)) ((ev_other (by decide)).trans (ev_same (by simp only [put_sz, hszA]; decide))) (HBM gd)
  refine wpAny_take (i := 9) (oi := mo9) rfl (by kernel_rfl) (by kernel_rfl) (by kernel_rfl) (fun c a w h => hP _ _ c a w h) yb ?_
  change wpAny _ _ _ _ _ _ (((((A).put (some 15) (.pointer (some ⟨mb, 0, none⟩))).put (some 47) (.slice (some ⟨gd, 0, none⟩) t t)).put (some 45) (.agg (u8s D).toArray)).put (some 48) (.agg (mcells k n t m D (.slice (some ⟨gd, 0, none⟩) t t)).toArray)) _
  clear yb
  refine wpAny_ready (rs := [11]) (by kernel_rfl) (by simp) ?_
  refine AllReady.cons (o := mo11) rfl (fun K hK => ?_) AllReady.nil
  refine step_store_row rfl 27 (.tmp 15) (.tmp 48) rfl mb mz (mcells k n t m D (.slice (some ⟨gd, 0, none⟩) t t)).toArray 27 ((ev_other (by decide)).trans ((ev_other (by decide)).trans ((ev_other (by decide)).trans (ev_same (by simp only [hszA]; decide))))) (ev_same (by simp only [put_sz, hszA]; decide)) hmb3 (HIF _) (HSZ _) (HONE _) ?_
  intro w8 hw8 hk8
  refine hK _ _ ?_
  refine wpAny_done (by kernel_rfl) ?_ _
  have LV := mk_leaf hw8 hk8 hth3 hb3 hmge hgge (by omega) hgl3
  have F := fin (.agg (u8s D).toArray) (.slice (some ⟨gd, 0, none⟩) t t) (.agg (mcells k n t m D (.slice (some ⟨gd, 0, none⟩) t t)).toArray) _ _ LV
  have FE : ((((A).put (some 15) (.pointer (some ⟨mb, 0, none⟩))).put (some 47) (.slice (some ⟨gd, 0, none⟩) t t)).put (some 45) (.agg (u8s D).toArray)).put (some 48) (.agg (mcells k n t m D (.slice (some ⟨gd, 0, none⟩) t t)).toArray) = ((((A).put (some 45) (.agg (u8s D).toArray)).put (some 47) (.slice (some ⟨gd, 0, none⟩) t t)).put (some 48) (.agg (mcells k n t m D (.slice (some ⟨gd, 0, none⟩) t t)).toArray)).put (some 15) (.pointer (some ⟨mb, 0, none⟩)) := by rw [put_comm (A) (.pointer (some ⟨mb, 0, none⟩)) (.slice (some ⟨gd, 0, none⟩) t t) (by decide), put_comm ((A).put (some 47) (.slice (some ⟨gd, 0, none⟩) t t)) (.pointer (some ⟨mb, 0, none⟩)) (.agg (u8s D).toArray) (by decide), put_comm (((A).put (some 47) (.slice (some ⟨gd, 0, none⟩) t t)).put (some 45) (.agg (u8s D).toArray)) (.pointer (some ⟨mb, 0, none⟩)) (.agg (mcells k n t m D (.slice (some ⟨gd, 0, none⟩) t t)).toArray) (by decide), put_comm (A) (.slice (some ⟨gd, 0, none⟩) t t) (.agg (u8s D).toArray) (by decide)]
  rw [← FE] at F
  exact F
end Go.Proofs.YtehjikogdaclgaaDoor

namespace Go.Proofs.YtehjikogdaclgaaDoor
open Go Go.RowKit
set_option linter.unusedVariables false

theorem encM_length (d : List Nat) (k L i : Nat) : (encP d k L i).length = L := by
  unfold encP
  split
  · exact spl_length _ _ _
  · exact mixL_length _ _ _ _
theorem encM_lt (d : List Nat) (hd : ∀ i, d.getD i 0 < 256) (k L i : Nat) : ∀ n ∈ encP d k L i, n < 256 := by
  unfold encP
  split
  · intro n hn
    unfold spl at hn
    obtain ⟨c, _, rfl⟩ := List.mem_map.1 hn
    exact hd _
  · exact mixL_lt _ _ _ _ (fun i => getD_lt (wts_lt _ _ _) i)

theorem results_cell3 {fn : Func} {p u x : Tmp} {ty : TypeId} (h : fn.results = #[.cell p ty, .tmp u, .tmp x]) (tmps : Array Value) (P : Program) (w : World) :
    (results fn tmps).run P w = ((asAddr (tmps.getD p undef)).run P w).andThen fun a w₁ => ((loadVar ty a).run P w₁).andThen fun v w₂ => .ok (.tuple #[v, tmps.getD u undef, tmps.getD x undef]) w₂ := by
  simp only [results, h]
  simp [Sem.run_bind, Result.andThen]
theorem results_at3 {fn : Func} {p u x : Tmp} {ty : TypeId} (h : fn.results = #[.cell p ty, .tmp u, .tmp x]) {tmps : Array Value} {P : Program} {w : World} {ad : Addr} {v y z : Value} (hp : tmps.getD p undef = .pointer (some ad)) (hv : (loadVar ty ad).run P w = .ok v w) (hy : tmps.getD u undef = y) (hz : tmps.getD x undef = z) :
    (results fn tmps).run P w = .ok (.tuple #[v, y, z]) w := by
  rw [results_cell3 h, hp, hy, hz]
  simp [asAddr, hv, Result.andThen]
/-- the digest of piece j -/
def pdg (KC SH l : List Nat) (k L j : Nat) : List Nat := dig KC SH ([j / 256, j % 256] ++ encP l k L j)
/-- what the loop of Make keeps -/
structure MkI (fb rb mb g gd k n t m L : Nat) (KC SH l : List Nat) (bf : Nat → Nat) (w wr : World) (i : Nat) : Prop where
  pcs : Pcs wr g w.heap.size t L bf (encP l k L)
  man : ManAt wr mb k n t m (dig KC SH l) (.slice (some ⟨gd, 0, none⟩) t t)
  rng : ∀ j, j < i → wr.rangeAt gd (j * 32) (u8s (pdg KC SH l k L j))
  th : wr.there gd 0 (t * 32)
  gdl : gd < wr.heap.size
  built : Built wr fb
  kept : Kept fb w wr
  vars : Vars wr KC SH
  res : wr.heap[rb]? = some (.cells (mcells 0 0 0 0 (List.replicate 32 0) (.slice none 0 0)).toArray 27 (0, 0))
structure MkN (fb rb mb g gd t : Nat) (bf : Nat → Nat) (w : World) : Prop where
  ne : gd ≠ g ∧ gd ≠ mb ∧ gd ≠ fb ∧ gd ≠ rb ∧ mb ≠ rb
  low : w.heap.size ≤ gd ∧ w.heap.size ≤ mb ∧ w.heap.size ≤ g ∧ w.heap.size ≤ rb ∧ 3 ≤ w.heap.size ∧ fb < w.heap.size
  bfn : ∀ j, j < t → bf j ≠ gd
  gr : g ≠ rb
  bfr : ∀ j, j < t → bf j ≠ rb
theorem MkI.below {fb rb mb g gd k n t m L : Nat} {KC SH l : List Nat} {bf : Nat → Nat} {w wr w' : World} {i : Nat} (h : MkI fb rb mb g gd k n t m L KC SH l bf w wr i) (b : Below wr.heap.size wr w') : MkI fb rb mb g gd k n t m L KC SH l bf w w' i :=
  ⟨h.pcs.below b, (b.block _ (lt_of_heap h.man)).trans h.man, fun j hj => range_same (h.rng j hj) (b.block _ h.gdl), there_same h.th (b.block _ h.gdl), Nat.lt_of_lt_of_le h.gdl b.size, h.built.below b h.built.lt, h.kept.trans (Kept.of_below b), h.vars.below b, (b.block _ (lt_of_heap h.res)).trans h.res⟩
/-- what Make leaves -/
structure MkR (fb mb g gd k t m L : Nat) (KC SH l : List Nat) (bf : Nat → Nat) (w wr : World) : Prop where
  pcs : Pcs wr g w.heap.size t L bf (encP l k L)
  rng : ∀ j, j < t → wr.rangeAt gd (j * 32) (u8s (pdg KC SH l k L j))
  th : wr.there gd 0 (t * 32)
  gdl : gd < wr.heap.size
  built : Built wr fb
  kept : Kept fb w wr
  vars : Vars wr KC SH
theorem MkI.last {fb rb mb g gd k n t m L : Nat} {KC SH l : List Nat} {bf : Nat → Nat} {w wr w' : World} (h : MkI fb rb mb g gd k n t m L KC SH l bf w wr t) (N : MkN fb rb mb g gd t bf w) (b : Kept rb wr w') (hr : rb = w.heap.size) : MkR fb mb g gd k t m L KC SH l bf w w' := by
  obtain ⟨n1, n2, n3, n4, n5⟩ := N.ne
  obtain ⟨l1, l2, l3, l4, l5, l6⟩ := N.low
  exact ⟨⟨(b.block g h.pcs.own.lt N.gr).trans h.pcs.own, fun j hj => (b.block (bf j) (h.pcs.row j hj).lt (N.bfr j hj)).trans (h.pcs.row j hj), h.pcs.low, h.pcs.inj, h.pcs.notb⟩, fun j hj => range_same (h.rng j hj) (b.block gd h.gdl n4), there_same h.th (b.block gd h.gdl n4), Nat.lt_of_lt_of_le h.gdl b.size, (b.block fb h.built.lt (by omega)).trans h.built, h.kept.fresh b (by omega), h.vars.kept b (by omega)⟩
theorem MkI.store {fb rb mb g gd k n t m L : Nat} {KC SH l : List Nat} {bf : Nat → Nat} {w wr : World} {i : Nat} (h : MkI fb rb mb g gd k n t m L KC SH l bf w wr i) (N : MkN fb rb mb g gd t bf w) (hi : i < t) (hd : (u8s (pdg KC SH l k L i)).length = 32) : MkI fb rb mb g gd k n t m L KC SH l bf w (wr.setCells gd (i * 32) (u8s (pdg KC SH l k L i))) (i + 1) := by
  obtain ⟨n1, n2, n3, n4, n5⟩ := N.ne
  obtain ⟨l1, l2, l3, l4, l5, l6⟩ := N.low
  have hb : ∀ q, q ≠ gd → (wr.setCells gd (i * 32) (u8s (pdg KC SH l k L i))).heap[q]? = wr.heap[q]? := fun q hq => setCells_heap gd _ _ _ q hq
  refine ⟨⟨?_, ?_, h.pcs.low, h.pcs.inj, h.pcs.notb⟩, ?_, ?_, World.there_setCells h.th _ _ _, by rw [setCells_size]; exact h.gdl, (hb fb (fun e => n3 e.symm)).trans h.built, h.kept.fresh (setCells_kept gd _ _ _) l1, h.vars.kept (setCells_kept gd _ _ _) (by omega), (hb rb (fun e => n4 e.symm)).trans h.res⟩
  · exact (hb g (fun e => n1 e.symm)).trans h.pcs.own
  · intro j hj; exact (hb (bf j) (N.bfn j hj)).trans (h.pcs.row j hj)
  · exact (hb mb (fun e => n2 e.symm)).trans h.man
  · intro j hj
    by_cases e : j = i
    · subst e
      exact World.rangeAt_setCells_same _ _ _ _ (there_sub h.th _ _ (by rw [hd]; omega))
    · exact World.rangeAt_setCells_apart (h.rng j (by omega)) _ _ _ (.inr (.inl (by
        have : (u8s (pdg KC SH l k L j)).length = 32 := by simp [u8s, pdg, dig_length]
        omega)))

set_option maxRecDepth 100000 in
set_option maxHeartbeats 2000000 in
theorem Make_any (fb k n t m c : Nat) (a : Option Addr) (KC SH l : List Nat) (w : World) (hF : Fld w fb) (V : Vars w KC SH) (hd : Bs w (.slice a m c) l) (hoff : Off fb (.slice a m c)) (hmc : m ≤ c) (h1 : 1 ≤ k) (h2 : k ≤ n) (h3 : n ≤ t) (h4 : t ≤ 255) (h5 : m ≤ 8192) (hfb : 3 ≤ fb) :
    Calls Tryd.prog 20 #[.pointer (some ⟨fb, 0, none⟩), .int .i64 k, .int .i64 n, .int .i64 t, .slice a m c] w fun e w' => ∃ rb mb g gd bf, MkN fb rb mb g gd t bf w ∧ e = .returned (.tuple #[.agg (mcells k n t m (dig KC SH l) (.slice (some ⟨gd, 0, none⟩) t t)).toArray, .slice (some ⟨g, 0, none⟩) t t, .int .i64 0]) ∧ MkR fb mb g gd k t m (plen k m) KC SH l bf w w' := by
  have HL := hid hd
  have HO := hid hoff
  have hvc : vcB k n t = true := by unfold vcB; exact decide_eq_true ⟨by omega, by omega, by omega, by omega⟩
  have HVC := hid hvc
  have hnot : ∀ (x : Bool) (w : World), (Op.unary .not (.bool x)).run Tryd.prog w = .ok (.bool (!x)) w := fun _ _ => rfl
  have hfl := hF.lt
  have hvlt := V.lt
  obtain ⟨w1, hw1⟩ : ∃ w1, w1 = w.alloc (.cells (mcells 0 0 0 0 (List.replicate 32 0) (.slice none 0 0)).toArray 27) := ⟨_, rfl⟩
  have hb1 : Below w.heap.size w w1 := by rw [hw1]; exact (Below.refl _ _).alloc (Nat.le_refl _) _
  have hs1 : w1.heap.size = w.heap.size + 1 := by rw [hw1]; simp
  have HR1 := hid (show w1.heap[w.heap.size]? = some (.cells (mcells 0 0 0 0 (List.replicate 32 0) (.slice none 0 0)).toArray 27 (0, 0)) from by rw [hw1]; exact heap_new _ _)
  have HF1 := hid (show Fld w1 fb from by rw [hw1]; exact hF.alloc _)
  have HL1 := hid (hd.below hb1)
  have HV1 := hid (V.below hb1)
  have HB1 := hid hb1
  have HENC := hid (Encode_any fb k t a m c l w1 HF1.out HL1.out hoff hmc h1 (by omega) h4 h5)
  clear V hd hF hoff hvc hb1
  go_enter Tryd.func20, Tryd.ntmps20
  go_wp2_with fail
  refine (validCounts_any k n t _).mono ?_
  rw [HVC.out]
  rintro e w' ⟨rfl, rfl⟩
  go_wp2_with fail
  change Calls _ _ _ (w.alloc (.cells (mcells 0 0 0 0 (List.replicate 32 0) (.slice none 0 0)).toArray 27)) _
  rw [← hw1]
  clear hw1
  refine HENC.out.mono ?_
  clear HENC
  rintro e w2 ⟨g, bf, hg, rfl, hP, hB, hK⟩
  have hle : w.heap.size ≤ w1.heap.size := by omega
  have HP2 := hid (show Pcs w2 g w.heap.size t (plen k m) bf (encP l k (plen k m)) from ⟨hP.own, hP.row, fun j hj => Nat.le_trans hle (hP.low j hj), hP.inj, hP.notb⟩)
  have HBF := hid (show ∀ j, j < t → bf j < w2.heap.size ∧ w.heap.size < bf j from fun j hj => ⟨(hP.row j hj).lt, by have := hP.low j hj; omega⟩)
  have hgr : w.heap.size < g := by omega
  have HGL := hP.own.lt
  have HBU := hid hB
  have HK2 := hid ((Kept.of_below HB1.out).trans hK)
  have HV2 := hid (HV1.out.kept hK hfb)
  have HL2 := hid (HL1.out.kept hK HO.out)
  have HR2 := hid ((hK.block w.heap.size (by omega) (by omega)).trans HR1.out)
  have hs2 := hK.size
  have hg2 : w.heap.size ≤ g := by omega
  clear hP hB hK HV1 HL1 HR1 HF1 HB1 hg
  have HSHA := hid (fun (wx : World) (b : Below w2.heap.size w2 wx) => SHA256_any a m c KC SH l wx (HV2.out.below b) (HL2.out.below b) hmc (by omega))
  have HDL := hid (dig_length KC SH l)
  generalize hD : dig KC SH l = D at *
  have HD := hid (fun (_ : Unit) => hD)
  clear hD
  go_upto_region 8 with fail
  refine mk_region _ _ _ (fun s _ _ _ _ h => by cases s <;> exact h) k n t m c a D HDL.out (by omega) rfl rfl rfl rfl rfl HSHA.out (fun v45 v47 v48 pv w8 hC => ?_)
  obtain ⟨mb, gd, rfl, hman, hth, hb8, hmg, hgg, hne, hgl⟩ := hC
  have HN := hid (show MkN fb w.heap.size mb g gd t bf w from ⟨⟨by omega, hne, by omega, by omega, by omega⟩, ⟨by omega, by omega, hg2, Nat.le_refl _, by omega, hfl⟩, fun j hj => by have := HBF.out j hj; omega, by omega, fun j hj => by have := HBF.out j hj; omega⟩)
  have HI := hid (show MkI fb w.heap.size mb g gd k n t m (plen k m) KC SH l bf w w8 0 from ⟨HP2.out.below hb8, by rw [HD.out ()]; exact hman, fun j hj => absurd hj (Nat.not_lt_zero _), hth, hgl, HBU.out.below hb8 HBU.out.lt, HK2.out.trans (Kept.of_below hb8), HV2.out.below hb8, (hb8.block _ (by omega)).trans HR2.out⟩)
  have hmb : mb < w8.heap.size := lt_of_heap hman
  clear hman hth hb8 HBU HK2 HV2 HL2 HR2 HP2 HSHA
  go_wp2
  go_loopw [51] (fun iv wr => ∃ i : Nat, i ≤ t ∧ iv = .int .i64 i ∧ Hid (MkI fb w.heap.size mb g gd k n t m (plen k m) KC SH l bf w wr i)) (fun iv _ => t - (intOf iv).toNat)
  case atStart => exact ⟨0, by omega, rfl, HI⟩
  case round =>
    clear HI
    obtain ⟨i, hi, rfl, HI⟩ := hrel
    by_cases hit : i < t
    · have hI : (i : Int) < (t : Int) := by omega
      have hps := HI.out.pcs.own
      have hlp : i < (mkps bf (plen k m) t t).length := by rw [mkps_length]; exact hit
      have c0 := hps.cell0 i hlp
      have c1 := hps.cell1 i hlp
      rw [mkps_get _ _ _ _ _ hlp hit] at c0 c1
      have d36 : wr.cell? ⟨mb, 36, none⟩ = some (.slice (some ⟨gd, 0, none⟩) t t) := (HI.out.man.c (dig_length _ _ _)).2.2.2.2
      clear hps hlp
      have hil : i < 65536 := by omega
      have HBS := hid (show Bs wr (.slice (some ⟨bf i, 0, none⟩) (plen k m) (plen k m)) (encP l k (plen k m) i) ∧ plen k m ≤ 800000000 from by
        have h7 := (HI.out.pcs.row i hit).bs (encM_lt l HL.out.lt k (plen k m) i) (plen k m)
        rw [encM_length] at h7
        exact ⟨h7, by have := plen_le k m h1; omega⟩)
      generalize hL : plen k m = L at *
      have HLL := hid (fun (_ : Unit) => hL)
      clear hL
      generalize hbi : bf i = bi at *
      have HBI := hid (fun (_ : Unit) => hbi)
      clear hbi
      obtain ⟨wq, hwq⟩ : ∃ x, x = wr.alloc (.cells #[.int .i64 (i : Int), .slice (some ⟨bi, 0, none⟩) L L] 44) := ⟨_, rfl⟩
      have hbq : Below wr.heap.size wr wq := by rw [hwq]; exact (Below.refl _ _).alloc (Nat.le_refl _) _
      have HIQ := hid (HI.out.below hbq)
      have q0 : wq.cell? ⟨wr.heap.size, 0, none⟩ = some (.int .i64 (i : Int)) := by rw [hwq, cell_of_heap (heap_new _ _)]; rfl
      have q1 : wq.cell? ⟨wr.heap.size, 1, none⟩ = some (.slice (some ⟨bi, 0, none⟩) L L) := by rw [hwq, cell_of_heap (heap_new _ _)]; rfl
      have q36 : wq.cell? ⟨mb, 36, none⟩ = some (.slice (some ⟨gd, 0, none⟩) t t) := (HIQ.out.man.c (dig_length _ _ _)).2.2.2.2
      have K0 := hid (show wq.drew.cell? ⟨mb, 36, none⟩ = some (.slice (some ⟨gd, 0, none⟩) t t) ∧ wq.drew.cell? ⟨wr.heap.size, 0, none⟩ = some (.int .i64 (i : Int)) ∧ wq.drew.cell? ⟨wr.heap.size, 1, none⟩ = some (.slice (some ⟨bi, 0, none⟩) L L) from ⟨q36, q0, q1⟩)
      have hsz : wr.heap.size < wq.heap.size := by rw [hwq]; simp
      have HPD := hid (fun (wx : World) (b : Below wq.heap.size wq wx) => PieceDigest_any i hil (some ⟨bi, 0, none⟩) L L KC SH (encP l k L i) wx (HIQ.out.vars.below b) ((HBS.out.1.below hbq).below b) (Nat.le_refl _) HBS.out.2)
      have HKE := hid (fun (wx : World) (b : Below wq.heap.size wq wx) => (show wx.cell? ⟨mb, 36, none⟩ = some (.slice (some ⟨gd, 0, none⟩) t t) ∧ wx.cell? ⟨wr.heap.size, 0, none⟩ = some (.int .i64 (i : Int)) ∧ wx.cell? ⟨wr.heap.size, 1, none⟩ = some (.slice (some ⟨bi, 0, none⟩) L L) from ⟨(b.cell (p := ⟨mb, 36, none⟩) (lt_of_heap HIQ.out.man)).trans q36, (b.cell (p := ⟨wr.heap.size, 0, none⟩) hsz).trans q0, (b.cell (p := ⟨wr.heap.size, 1, none⟩) hsz).trans q1⟩))
      have hgr : wr.heap.size ≠ gd := fun e => by have := HI.out.gdl; omega
      have hgm : mb ≠ gd := fun e => HN.out.ne.2.1 e.symm
      have HKS := hid (fun (wx : World) (b : Below wq.heap.size wq wx) (cs : List Value) => (show (wx.setCells gd (i * 32) cs).cell? ⟨mb, 36, none⟩ = some (.slice (some ⟨gd, 0, none⟩) t t) ∧ (wx.setCells gd (i * 32) cs).cell? ⟨wr.heap.size, 0, none⟩ = some (.int .i64 (i : Int)) ∧ (wx.setCells gd (i * 32) cs).cell? ⟨wr.heap.size, 1, none⟩ = some (.slice (some ⟨bi, 0, none⟩) L L) from
        ⟨(World.cell?_of_block (a := ⟨mb, 36, none⟩) (setCells_heap gd cs _ wx mb hgm)).trans (HKE.out wx b).1, (World.cell?_of_block (a := ⟨wr.heap.size, 0, none⟩) (setCells_heap gd cs _ wx wr.heap.size hgr)).trans (HKE.out wx b).2.1, (World.cell?_of_block (a := ⟨wr.heap.size, 1, none⟩) (setCells_heap gd cs _ wx wr.heap.size hgr)).trans (HKE.out wx b).2.2⟩))
      clear d36 q36 q0 q1
      have hE32 := dig_length KC SH ([i / 256, i % 256] ++ encP l k L i)
      have HEQ := hid (fun (_ : Unit) => (show dig KC SH ([i / 256, i % 256] ++ encP l k L i) = pdg KC SH l k L i from rfl))
      generalize dig KC SH ([i / 256, i % 256] ++ encP l k L i) = E at *
      have e1 : ∀ v, v ∈ u8s E → v.oneCell' = true := u8s_oneH E
      have hE32' : (u8s E).length = 32 := by simp [u8s, hE32]
      have e3 : Option.map (fun x => x.size) (Tryd.prog.info? 24) = some (u8s E).length := by rw [hE32']; kernel_rfl
      have HTH := hid (fun (wx : World) (b : Below wq.heap.size wq wx) => (show wx.there gd (i * 32) (u8s E).length from there_sub (there_same HIQ.out.th (b.block _ HIQ.out.gdl)) _ _ (by rw [hE32']; omega)))
      have HE32 := hid hE32'
      clear hE32 hE32'
      go_wp2
      change Code.wp _ _ _ _ (wr.alloc (.cells #[.int .i64 (i : Int), .slice (some ⟨bi, 0, none⟩) L L] 44))
      rw [← hwq]
      clear hwq c0 c1
      go_region_held3 (fun w' => w'.cell? ⟨mb, 36, none⟩ = some (.slice (some ⟨gd, 0, none⟩) t t) ∧ w'.cell? ⟨wr.heap.size, 0, none⟩ = some (.int .i64 (i : Int)) ∧ w'.cell? ⟨wr.heap.size, 1, none⟩ = some (.slice (some ⟨bi, 0, none⟩) L L))
        (first | exact K0.out | exact K1.out | exact K2.out _)
        (first | (go_at_call 33
                  refine (HPD.out _ (bel_drewN (Below.refl _ _) 1)).mono ?_
                  rintro e w5 ⟨rfl, hb5⟩
                  have hb6 : Below wq.heap.size wq w5 := ⟨hb5.os, hb5.tape, hb5.output, hb5.size, hb5.block⟩
                  have K1 := hid (HKE.out w5 hb6)
                  have K2 := hid (HKS.out w5 hb6)
                  have e2 := HTH.out w5 hb6))
      have hst := (HIQ.out.below hb6).store HN.out hit (by rw [← HEQ.out ()]; exact HE32.out)
      rw [← HEQ.out ()] at hst
      have HST := hid hst
      clear hst e1 e2 e3 hb5
      go_wp2
      exact ⟨⟨i + 1, by omega, by go_num, HST⟩, by simp [intOf]; omega⟩
    · obtain rfl : i = t := by omega
      have HRA := hid (show wr.rangeAt mb 0 (mcells k n i m (dig KC SH l) (.slice (some ⟨gd, 0, none⟩) i i)) from fun j v hj => by
        rw [Nat.zero_add, cell_of_heap HI.out.man, List.getElem?_toArray]
        exact hj)
      have hd32 := dig_length KC SH l
      have HML := hid (mcells_length k n i m (dig KC SH l) (.slice (some ⟨gd, 0, none⟩) i i) hd32)
      have HON := hid (mcells_one k n i m (dig KC SH l) (some ⟨gd, 0, none⟩) i i)
      have HX := hid (fun (w' : World) (b : Kept w.heap.size wr w') => HI.out.last HN.out b rfl)
      generalize hM : mcells k n i m (dig KC SH l) (.slice (some ⟨gd, 0, none⟩) i i) = M at *
      have HIF := hid (show (Tryd.prog.info? 27).map (·.size) = some M.length from by rw [HML.out]; kernel_rfl)
      have HIF2 := hid (show (Tryd.prog.info? 27).map (·.size) = some M.toArray.size from by rw [List.size_toArray, HML.out]; kernel_rfl)
      have HSZ := hid (show (mcells 0 0 0 0 (List.replicate 32 0) (.slice none 0 0)).toArray.size = M.toArray.size from by rw [show M.toArray.size = 37 from by rw [List.size_toArray, HML.out]]; rfl)
      have HMM := hid (fun (_ : Unit) => hM)
      have hI : ¬ ((i : Int) < (i : Int)) := by omega
      clear hM hd32
      go_wp2_with (first
        | (refine wpList_load_mid (by rfl) 27 (.tmp 15) (by rfl) mb 0 (by rfl) M _ HRA.out Tryd.underlying27 rfl HIF.out ?_)
        | (refine wpList_store_row (by rfl) 27 (.tmp 10) (.tmp 66) (by rfl) w.heap.size _ M.toArray _ (by rfl) (by rfl) HI.out.res HIF2.out HSZ.out HON.out ?_
           intro w9 hw9 hk9))
      have hres : (loadVar 27 ⟨w.heap.size, 0, none⟩).run Tryd.prog w9 = .ok (.agg M.toArray) w9 := run_loadVar_row _ _ 27 27 _ (0, 0) _ hw9 Tryd.underlying27 rfl HIF2.out
      refine bodyPost_ret (v := .tuple #[.agg M.toArray, .slice (some ⟨g, 0, none⟩) i i, .int .i64 0]) (results_at3 Tryd.results20 rfl hres rfl rfl) rfl ?_
      refine ⟨w.heap.size, mb, g, gd, bf, HN.out, ?_, ?_⟩
      · rw [← HMM.out ()]
      · exact HX.out w9 hk9
end Go.Proofs.YtehjikogdaclgaaDoor
