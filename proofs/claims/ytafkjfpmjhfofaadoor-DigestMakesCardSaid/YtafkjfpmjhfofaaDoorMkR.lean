/-
  Make: the region in which the manifest is made: every order.
-/
import Derived.Test.YtafkjfpmjhfofaaDoorMkB
namespace Go.Proofs.YtafkjfpmjhfofaaDoor
open Go Go.RowKit
set_option linter.unusedVariables false

def mo0 : Oper := { dst := some 39, op := Op.move (Operand.tmp 1), type := 3, pos := "pieces.go:20", after := #[], guard := none }
def mo1 : Oper := { dst := some 40, op := Op.move (Operand.tmp 2), type := 3, pos := "pieces.go:20", after := #[], guard := none }
def mo2 : Oper := { dst := some 41, op := Op.move (Operand.tmp 3), type := 3, pos := "pieces.go:20", after := #[], guard := none }
def mo3 : Oper := { dst := some 42, op := Op.move (Operand.tmp 4), type := 22, pos := "pieces.go:20", after := #[], guard := none }
def mo4 : Oper := { dst := some 43, op := Op.call { callee := Callee.builtin Builtin.len, args := #[Operand.tmp 42], argTypes := #[22] }, type := 3, pos := "pieces.go:20", after := #[{ on := 3, ground := Ground.data }], guard := none }
def mo5 : Oper := { dst := some 44, op := Op.move (Operand.tmp 4), type := 22, pos := "pieces.go:20", after := #[], guard := none }
def mo6 : Oper := { dst := some 45, op := Op.call { callee := Callee.value (Operand.func 29), args := #[Operand.tmp 44], argTypes := #[22] }, type := 24, pos := "pieces.go:20", after := #[{ on := 5, ground := Ground.data }], guard := none }
def mo7 : Oper := { dst := some 46, op := Op.move (Operand.tmp 3), type := 3, pos := "pieces.go:20", after := #[], guard := none }
def mo8 : Oper := { dst := some 47, op := Op.makeSlice 25 (Operand.tmp 46) (Operand.tmp 46), type := 25, pos := "pieces.go:20", after := #[{ on := 7, ground := Ground.data }, { on := 7, ground := Ground.data }], guard := none }
def mo9 : Oper := { dst := some 48, op := Op.build 27 #[(0, Operand.tmp 39), (1, Operand.tmp 40), (2, Operand.tmp 41), (3, Operand.tmp 43), (4, Operand.tmp 45), (5, Operand.tmp 47)], type := 27, pos := "pieces.go:20", after := #[{ on := 0, ground := Ground.data }, { on := 1, ground := Ground.data }, { on := 2, ground := Ground.data }, { on := 4, ground := Ground.data }, { on := 6, ground := Ground.data }, { on := 8, ground := Ground.data }], guard := none }
def mo10 : Oper := { dst := some 15, op := Op.alloc 27, type := 0, pos := "pieces.go:20", after := #[], guard := none }
def mo11 : Oper := { dst := none, op := Op.store 27 (Operand.tmp 15) (Operand.tmp 48), type := 0, pos := "pieces.go:20", after := #[{ on := 10, ground := Ground.data }, { on := 9, ground := Ground.data }, { on := 6, ground := Ground.chain }, { on := 0, ground := Ground.phase }, { on := 1, ground := Ground.phase }, { on := 2, ground := Ground.phase }, { on := 3, ground := Ground.phase }, { on := 4, ground := Ground.phase }, { on := 5, ground := Ground.phase }, { on := 6, ground := Ground.phase }, { on := 7, ground := Ground.phase }, { on := 8, ground := Ground.phase }, { on := 9, ground := Ground.phase }, { on := 10, ground := Ground.phase }], guard := none }
def mops : Array Oper := #[mo0, mo1, mo2, mo3, mo4, mo5, mo6, mo7, mo8, mo9, mo10, mo11]
/-- what the making of the manifest leaves -/
def MkC (w2 : World) (k n t m : Nat) (D : List Nat) (pv : Value) (wx : World) : Prop := ∃ mb gd, pv = .pointer (some ⟨mb, 0, none⟩) ∧ ManAt wx mb k n t m D (.slice (some ⟨gd, 0, none⟩) t t) ∧ wx.there gd 0 (t * 32) ∧ Below w2.heap.size w2 wx ∧ w2.heap.size ≤ mb ∧ w2.heap.size ≤ gd ∧ gd ≠ mb ∧ gd < wx.heap.size
theorem mk_leaf {w2 wx w8 : World} {k n t m mb gd : Nat} {D : List Nat} (h1 : w8.heap[mb]? = some (.cells (mcells k n t m D (.slice (some ⟨gd, 0, none⟩) t t)).toArray 27 (0, 0))) (h2 : Kept mb wx w8) (h3 : wx.there gd 0 (t * 32)) (h4 : Below w2.heap.size w2 wx) (h5 : w2.heap.size ≤ mb) (h6 : w2.heap.size ≤ gd) (h7 : gd ≠ mb) (h8 : gd < wx.heap.size) :
    MkC w2 k n t m D (.pointer (some ⟨mb, 0, none⟩)) w8 :=
  ⟨mb, gd, rfl, h1, there_same h3 (h2.block gd h8 h7), h4.trans (h2.below h4.size h5), h5, h6, h7, Nat.lt_of_lt_of_le h8 h2.size⟩
theorem put_comm (a : Act) {s r : Tmp} (v u : Value) (h : s ≠ r) : (a.put (some s) v).put (some r) u = (a.put (some r) u).put (some s) v := by
  simp only [Act.put]
  rw [Array.setIfInBounds_comm _ _ h]

set_option maxRecDepth 100000 in
set_option maxHeartbeats 4000000 in
theorem mk_region (a0 : Act) (w2 : World) (Q : Exit → Act → World → Prop) (hP : ∀ (s : Option Tmp) (v : Value) c (a : Act) (w : World), Q (.panic c) (a.put s v) w → Q (.panic c) a w) (k n t m c : Nat) (a : Option Addr) (D : List Nat) (hD : D.length = 32) (ht : t ≤ 100000) (hsz0 : a0.tmps.size = 68) (h0_1 : a0.eval (.tmp 1) = .int .i64 (k : Int)) (h0_2 : a0.eval (.tmp 2) = .int .i64 (n : Int)) (h0_3 : a0.eval (.tmp 3) = .int .i64 (t : Int)) (h0_4 : a0.eval (.tmp 4) = .slice a m c)
    (HSHA : ∀ wx, Below w2.heap.size w2 wx → Calls Tryd.prog 29 #[.slice a m c] wx fun e w' => e = .returned (.agg (u8s D).toArray) ∧ Below wx.heap.size wx w')
    (fin : ∀ v45 v47 v48 pv w8, MkC w2 k n t m D pv w8 → Q .normal (((((((((((a0.put (some 39) (.int .i64 (k : Int))).put (some 40) (.int .i64 (n : Int))).put (some 41) (.int .i64 (t : Int))).put (some 42) (.slice a m c)).put (some 43) (.int .i64 (m : Int))).put (some 44) (.slice a m c)).put (some 46) (.int .i64 (t : Int))).put (some 45) v45).put (some 47) v47).put (some 48) v48).put (some 15) pv) w8) :
    (Code.region 8 mops true).wp Tryd.prog Q a0 w2 := by
  have HBM := fun gd => built_man k n t m D hD (some ⟨gd, 0, none⟩) t t
  have HIF := fun gd => (show (Tryd.prog.info? 27).map (·.size) = some (mcells k n t m D (.slice (some ⟨gd, 0, none⟩) t t)).toArray.size from by rw [List.size_toArray, mcells_length _ _ _ _ _ _ hD]; kernel_rfl)
  have HSZ := fun gd => (show mz.size = (mcells k n t m D (.slice (some ⟨gd, 0, none⟩) t t)).toArray.size from by rw [show (mcells k n t m D (.slice (some ⟨gd, 0, none⟩) t t)).toArray.size = 37 from by rw [List.size_toArray, mcells_length _ _ _ _ _ _ hD]]; rfl)
  have HONE := fun gd => mcells_one k n t m D (some ⟨gd, 0, none⟩) t t
  refine wp_region_any (by kernel_rfl) ?_
  obtain ⟨wd, hwd⟩ : ∃ x, x = World.drew w2 := ⟨_, rfl⟩
  change wpAny _ _ _ _ _ _ _ (World.drew w2)
  rw [← hwd]
  have hb0 : Below w2.heap.size w2 wd := by rw [hwd]; exact bel_drewN (Below.refl _ _) 1
  clear hwd
  have y0 : Yields Tryd.prog mops mo0 (.int .i64 (k : Int)) (a0) := yields_move (.tmp 1) rfl rfl h0_1
  refine wpAny_take (i := 0) (oi := mo0) (v := .int .i64 (k : Int)) rfl (by kernel_rfl) (by kernel_rfl) (by kernel_rfl) (fun c a w h => hP _ _ c a w h) y0 ?_
  change wpAny _ _ _ _ _ _ ((a0).put (some 39) (.int .i64 (k : Int))) _
  clear y0
  have y1 : Yields Tryd.prog mops mo1 (.int .i64 (n : Int)) ((a0).put (some 39) (.int .i64 (k : Int))) := yields_move (.tmp 2) rfl rfl ((ev_other (by decide)).trans h0_2)
  refine wpAny_take (i := 1) (oi := mo1) (v := .int .i64 (n : Int)) rfl (by kernel_rfl) (by kernel_rfl) (by kernel_rfl) (fun c a w h => hP _ _ c a w h) y1 ?_
  change wpAny _ _ _ _ _ _ (((a0).put (some 39) (.int .i64 (k : Int))).put (some 40) (.int .i64 (n : Int))) _
  clear y1
  have y2 : Yields Tryd.prog mops mo2 (.int .i64 (t : Int)) (((a0).put (some 39) (.int .i64 (k : Int))).put (some 40) (.int .i64 (n : Int))) := yields_move (.tmp 3) rfl rfl ((ev_other (by decide)).trans ((ev_other (by decide)).trans h0_3))
  refine wpAny_take (i := 2) (oi := mo2) (v := .int .i64 (t : Int)) rfl (by kernel_rfl) (by kernel_rfl) (by kernel_rfl) (fun c a w h => hP _ _ c a w h) y2 ?_
  change wpAny _ _ _ _ _ _ ((((a0).put (some 39) (.int .i64 (k : Int))).put (some 40) (.int .i64 (n : Int))).put (some 41) (.int .i64 (t : Int))) _
  clear y2
  have y3 : Yields Tryd.prog mops mo3 (.slice a m c) ((((a0).put (some 39) (.int .i64 (k : Int))).put (some 40) (.int .i64 (n : Int))).put (some 41) (.int .i64 (t : Int))) := yields_move (.tmp 4) rfl rfl ((ev_other (by decide)).trans ((ev_other (by decide)).trans ((ev_other (by decide)).trans h0_4)))
  refine wpAny_take (i := 3) (oi := mo3) (v := .slice a m c) rfl (by kernel_rfl) (by kernel_rfl) (by kernel_rfl) (fun c a w h => hP _ _ c a w h) y3 ?_
  change wpAny _ _ _ _ _ _ (((((a0).put (some 39) (.int .i64 (k : Int))).put (some 40) (.int .i64 (n : Int))).put (some 41) (.int .i64 (t : Int))).put (some 42) (.slice a m c)) _
  clear y3
  have y4 : Yields Tryd.prog mops mo4 (.int .i64 (m : Int)) (((((a0).put (some 39) (.int .i64 (k : Int))).put (some 40) (.int .i64 (n : Int))).put (some 41) (.int .i64 (t : Int))).put (some 42) (.slice a m c)) := yields_op (v := .int .i64 (m : Int)) rfl (run_len_op (.tmp 42) #[22] rfl (ev_same (by simp only [put_sz, hsz0]; decide)) (len_u8 a m c))
  refine wpAny_take (i := 4) (oi := mo4) (v := .int .i64 (m : Int)) rfl (by kernel_rfl) (by kernel_rfl) (by kernel_rfl) (fun c a w h => hP _ _ c a w h) y4 ?_
  change wpAny _ _ _ _ _ _ ((((((a0).put (some 39) (.int .i64 (k : Int))).put (some 40) (.int .i64 (n : Int))).put (some 41) (.int .i64 (t : Int))).put (some 42) (.slice a m c)).put (some 43) (.int .i64 (m : Int))) _
  clear y4
  have y5 : Yields Tryd.prog mops mo5 (.slice a m c) ((((((a0).put (some 39) (.int .i64 (k : Int))).put (some 40) (.int .i64 (n : Int))).put (some 41) (.int .i64 (t : Int))).put (some 42) (.slice a m c)).put (some 43) (.int .i64 (m : Int))) := yields_move (.tmp 4) rfl rfl ((ev_other (by decide)).trans ((ev_other (by decide)).trans ((ev_other (by decide)).trans ((ev_other (by decide)).trans ((ev_other (by decide)).trans h0_4)))))
  refine wpAny_take (i := 5) (oi := mo5) (v := .slice a m c) rfl (by kernel_rfl) (by kernel_rfl) (by kernel_rfl) (fun c a w h => hP _ _ c a w h) y5 ?_
  change wpAny _ _ _ _ _ _ (((((((a0).put (some 39) (.int .i64 (k : Int))).put (some 40) (.int .i64 (n : Int))).put (some 41) (.int .i64 (t : Int))).put (some 42) (.slice a m c)).put (some 43) (.int .i64 (m : Int))).put (some 44) (.slice a m c)) _
  clear y5
  have y7 : Yields Tryd.prog mops mo7 (.int .i64 (t : Int)) (((((((a0).put (some 39) (.int .i64 (k : Int))).put (some 40) (.int .i64 (n : Int))).put (some 41) (.int .i64 (t : Int))).put (some 42) (.slice a m c)).put (some 43) (.int .i64 (m : Int))).put (some 44) (.slice a m c)) := yields_move (.tmp 3) rfl rfl ((ev_other (by decide)).trans ((ev_other (by decide)).trans ((ev_other (by decide)).trans ((ev_other (by decide)).trans ((ev_other (by decide)).trans ((ev_other (by decide)).trans h0_3))))))
  refine wpAny_take (i := 7) (oi := mo7) (v := .int .i64 (t : Int)) rfl (by kernel_rfl) (by kernel_rfl) (by kernel_rfl) (fun c a w h => hP _ _ c a w h) y7 ?_
  change wpAny _ _ _ _ _ _ ((((((((a0).put (some 39) (.int .i64 (k : Int))).put (some 40) (.int .i64 (n : Int))).put (some 41) (.int .i64 (t : Int))).put (some 42) (.slice a m c)).put (some 43) (.int .i64 (m : Int))).put (some 44) (.slice a m c)).put (some 46) (.int .i64 (t : Int))) _
  clear y7
  generalize hA : (((((((a0).put (some 39) (.int .i64 (k : Int))).put (some 40) (.int .i64 (n : Int))).put (some 41) (.int .i64 (t : Int))).put (some 42) (.slice a m c)).put (some 43) (.int .i64 (m : Int))).put (some 44) (.slice a m c)).put (some 46) (.int .i64 (t : Int)) = A at *
  have e39 : A.eval (.tmp 39) = .int .i64 (k : Int) := by rw [← hA]; exact ((ev_other (by decide)).trans ((ev_other (by decide)).trans ((ev_other (by decide)).trans ((ev_other (by decide)).trans ((ev_other (by decide)).trans ((ev_other (by decide)).trans (ev_same (by simp only [hsz0]; decide))))))))
  have e40 : A.eval (.tmp 40) = .int .i64 (n : Int) := by rw [← hA]; exact ((ev_other (by decide)).trans ((ev_other (by decide)).trans ((ev_other (by decide)).trans ((ev_other (by decide)).trans ((ev_other (by decide)).trans (ev_same (by simp only [put_sz, hsz0]; decide)))))))
  have e41 : A.eval (.tmp 41) = .int .i64 (t : Int) := by rw [← hA]; exact ((ev_other (by decide)).trans ((ev_other (by decide)).trans ((ev_other (by decide)).trans ((ev_other (by decide)).trans (ev_same (by simp only [put_sz, hsz0]; decide))))))
  have e43 : A.eval (.tmp 43) = .int .i64 (m : Int) := by rw [← hA]; exact ((ev_other (by decide)).trans ((ev_other (by decide)).trans (ev_same (by simp only [put_sz, hsz0]; decide))))
  have e44 : A.eval (.tmp 44) = .slice a m c := by rw [← hA]; exact ((ev_other (by decide)).trans (ev_same (by simp only [put_sz, hsz0]; decide)))
  have e46 : A.eval (.tmp 46) = .int .i64 (t : Int) := by rw [← hA]; exact (ev_same (by simp only [put_sz, hsz0]; decide))
  have hszA : A.tmps.size = 68 := by rw [← hA]; simp only [put_sz, hsz0]
  clear hA h0_1 h0_2 h0_3 h0_4 hsz0
  refine wpAny_ready (rs := [6, 8, 10]) (by kernel_rfl) (by simp) ?_
  refine AllReady.cons (o := mo6) rfl (fun K hK => ?_) ?_
  · refine step_call rfl (run_call_op 29 (.tmp 44) #[22] rfl call_sha e44 _) (HSHA wd hb0) ?_
    intro w101 hn1
    have hb1 := hb0.trans (hn1.mono hb0.size)
    refine hK _ _ ?_
    clear hK K
    change wpAny _ _ _ _ _ _ ((A).put (some 45) (.agg (u8s D).toArray)) _
    refine wpAny_ready (rs := [8, 10]) (by kernel_rfl) (by simp) ?_
    refine AllReady.cons (o := mo8) rfl (fun K hK => ?_) ?_
    · refine step_mkd rfl (.tmp 46) rfl t ht ((ev_other (by decide)).trans e46) ?_
      intro gd w102 hgd hth2 hn2 hgl2
      have hgge : w2.heap.size ≤ gd := by rw [hgd]; exact hb1.size
      have hb2 := hb1.trans (hn2.mono hb1.size)
      refine hK _ _ ?_
      clear hK K
      change wpAny _ _ _ _ _ _ (((A).put (some 45) (.agg (u8s D).toArray)).put (some 47) (.slice (some ⟨gd, 0, none⟩) t t)) _
      have yb : Yields Tryd.prog mops mo9 (.agg (mcells k n t m D (.slice (some ⟨gd, 0, none⟩) t t)).toArray) (((A).put (some 45) (.agg (u8s D).toArray)).put (some 47) (.slice (some ⟨gd, 0, none⟩) t t)) := yields_build rfl 27 (.tmp 39) (.tmp 40) (.tmp 41) (.tmp 43) (.tmp 45) (.tmp 47) rfl ((ev_other (by decide)).trans ((ev_other (by decide)).trans e39)) ((ev_other (by decide)).trans ((ev_other (by decide)).trans e40)) ((ev_other (by decide)).trans ((ev_other (by decide)).trans e41)) ((ev_other (by decide)).trans ((ev_other (by decide)).trans e43)) ((ev_other (by decide)).trans (ev_same (by simp only [hszA]; decide))) (ev_same (by simp only [put_sz, hszA]; decide)) (HBM gd)
      refine wpAny_take (i := 9) (oi := mo9) rfl (by kernel_rfl) (by kernel_rfl) (by kernel_rfl) (fun c a w h => hP _ _ c a w h) yb ?_
      change wpAny _ _ _ _ _ _ ((((A).put (some 45) (.agg (u8s D).toArray)).put (some 47) (.slice (some ⟨gd, 0, none⟩) t t)).put (some 48) (.agg (mcells k n t m D (.slice (some ⟨gd, 0, none⟩) t t)).toArray)) _
      clear yb
      refine wpAny_ready (rs := [10]) (by kernel_rfl) (by simp) ?_
      refine AllReady.cons (o := mo10) rfl (fun K hK => ?_) AllReady.nil
      refine step_mkm rfl rfl ?_
      intro mb w103 hmbe hmb3 hn3 hml3
      have hmge : w2.heap.size ≤ mb := by rw [hmbe]; exact hb2.size
      have hb3 := hb2.trans (hn3.mono hb2.size)
      have hth3 := there_same hth2 (hn3.block _ hgl2)
      have hgl3 := Nat.lt_of_lt_of_le hgl2 hn3.size
      refine hK _ _ ?_
      clear hK K
      change wpAny _ _ _ _ _ _ (((((A).put (some 45) (.agg (u8s D).toArray)).put (some 47) (.slice (some ⟨gd, 0, none⟩) t t)).put (some 48) (.agg (mcells k n t m D (.slice (some ⟨gd, 0, none⟩) t t)).toArray)).put (some 15) (.pointer (some ⟨mb, 0, none⟩))) _
      refine wpAny_ready (rs := [11]) (by kernel_rfl) (by simp) ?_
      refine AllReady.cons (o := mo11) rfl (fun K hK => ?_) AllReady.nil
      refine step_store_row rfl 27 (.tmp 15) (.tmp 48) rfl mb mz (mcells k n t m D (.slice (some ⟨gd, 0, none⟩) t t)).toArray 27 (ev_same (by simp only [put_sz, hszA]; decide)) ((ev_other (by decide)).trans (ev_same (by simp only [put_sz, hszA]; decide))) hmb3 (HIF _) (HSZ _) (HONE _) ?_
      intro w8 hw8 hk8
      refine hK _ _ ?_
      refine wpAny_done (by kernel_rfl) ?_ _
      have LV := mk_leaf hw8 hk8 hth3 hb3 hmge hgge (by omega) hgl3
      have F := fin (.agg (u8s D).toArray) (.slice (some ⟨gd, 0, none⟩) t t) (.agg (mcells k n t m D (.slice (some ⟨gd, 0, none⟩) t t)).toArray) _ _ LV
      have FE : ((((A).put (some 45) (.agg (u8s D).toArray)).put (some 47) (.slice (some ⟨gd, 0, none⟩) t t)).put (some 48) (.agg (mcells k n t m D (.slice (some ⟨gd, 0, none⟩) t t)).toArray)).put (some 15) (.pointer (some ⟨mb, 0, none⟩)) = ((((A).put (some 45) (.agg (u8s D).toArray)).put (some 47) (.slice (some ⟨gd, 0, none⟩) t t)).put (some 48) (.agg (mcells k n t m D (.slice (some ⟨gd, 0, none⟩) t t)).toArray)).put (some 15) (.pointer (some ⟨mb, 0, none⟩)) := by rfl
      rw [← FE] at F
      exact F
    refine AllReady.cons (o := mo10) rfl (fun K hK => ?_) AllReady.nil
    refine step_mkm rfl rfl ?_
    intro mb w102 hmbe hmb2 hn2 hml2
    have hmge : w2.heap.size ≤ mb := by rw [hmbe]; exact hb1.size
    have hb2 := hb1.trans (hn2.mono hb1.size)
    refine hK _ _ ?_
    clear hK K
    change wpAny _ _ _ _ _ _ (((A).put (some 45) (.agg (u8s D).toArray)).put (some 15) (.pointer (some ⟨mb, 0, none⟩))) _
    refine wpAny_ready (rs := [8]) (by kernel_rfl) (by simp) ?_
    refine AllReady.cons (o := mo8) rfl (fun K hK => ?_) AllReady.nil
    refine step_mkd rfl (.tmp 46) rfl t ht ((ev_other (by decide)).trans ((ev_other (by decide)).trans e46)) ?_
    intro gd w103 hgd hth3 hn3 hgl3
    have hgge : w2.heap.size ≤ gd := by rw [hgd]; exact hb2.size
    have hb3 := hb2.trans (hn3.mono hb2.size)
    have hmb3 := (hn3.block _ hml2).trans hmb2
    have hml3 := Nat.lt_of_lt_of_le hml2 hn3.size
    refine hK _ _ ?_
    clear hK K
    change wpAny _ _ _ _ _ _ ((((A).put (some 45) (.agg (u8s D).toArray)).put (some 15) (.pointer (some ⟨mb, 0, none⟩))).put (some 47) (.slice (some ⟨gd, 0, none⟩) t t)) _
    have yb : Yields Tryd.prog mops mo9 (.agg (mcells k n t m D (.slice (some ⟨gd, 0, none⟩) t t)).toArray) ((((A).put (some 45) (.agg (u8s D).toArray)).put (some 15) (.pointer (some ⟨mb, 0, none⟩))).put (some 47) (.slice (some ⟨gd, 0, none⟩) t t)) := yields_build rfl 27 (.tmp 39) (.tmp 40) (.tmp 41) (.tmp 43) (.tmp 45) (.tmp 47) rfl ((ev_other (by decide)).trans ((ev_other (by decide)).trans ((ev_other (by decide)).trans e39))) ((ev_other (by decide)).trans ((ev_other (by decide)).trans ((ev_other (by decide)).trans e40))) ((ev_other (by decide)).trans ((ev_other (by decide)).trans ((ev_other (by decide)).trans e41))) ((ev_other (by decide)).trans ((ev_other (by decide)).trans ((ev_other (by decide)).trans e43))) ((ev_other (by decide)).trans ((ev_other (by decide)).trans (ev_same (by simp only [hszA]; decide)))) (ev_same (by simp only [put_sz, hszA]; decide)) (HBM gd)
    refine wpAny_take (i := 9) (oi := mo9) rfl (by kernel_rfl) (by kernel_rfl) (by kernel_rfl) (fun c a w h => hP _ _ c a w h) yb ?_
    change wpAny _ _ _ _ _ _ (((((A).put (some 45) (.agg (u8s D).toArray)).put (some 15) (.pointer (some ⟨mb, 0, none⟩))).put (some 47) (.slice (some ⟨gd, 0, none⟩) t t)).put (some 48) (.agg (mcells k n t m D (.slice (some ⟨gd, 0, none⟩) t t)).toArray)) _
    clear yb
    refine wpAny_ready (rs := [11]) (by kernel_rfl) (by simp) ?_
    refine AllReady.cons (o := mo11) rfl (fun K hK => ?_) AllReady.nil
    refine step_store_row rfl 27 (.tmp 15) (.tmp 48) rfl mb mz (mcells k n t m D (.slice (some ⟨gd, 0, none⟩) t t)).toArray 27 ((ev_other (by decide)).trans ((ev_other (by decide)).trans (ev_same (by simp only [put_sz, hszA]; decide)))) (ev_same (by simp only [put_sz, hszA]; decide)) hmb3 (HIF _) (HSZ _) (HONE _) ?_
    intro w8 hw8 hk8
    refine hK _ _ ?_
    refine wpAny_done (by kernel_rfl) ?_ _
    have LV := mk_leaf hw8 hk8 hth3 hb3 hmge hgge (by omega) hgl3
    have F := fin (.agg (u8s D).toArray) (.slice (some ⟨gd, 0, none⟩) t t) (.agg (mcells k n t m D (.slice (some ⟨gd, 0, none⟩) t t)).toArray) _ _ LV
    have FE : ((((A).put (some 45) (.agg (u8s D).toArray)).put (some 15) (.pointer (some ⟨mb, 0, none⟩))).put (some 47) (.slice (some ⟨gd, 0, none⟩) t t)).put (some 48) (.agg (mcells k n t m D (.slice (some ⟨gd, 0, none⟩) t t)).toArray) = ((((A).put (some 45) (.agg (u8s D).toArray)).put (some 47) (.slice (some ⟨gd, 0, none⟩) t t)).put (some 48) (.agg (mcells k n t m D (.slice (some ⟨gd, 0, none⟩) t t)).toArray)).put (some 15) (.pointer (some ⟨mb, 0, none⟩)) := by rw [put_comm ((A).put (some 45) (.agg (u8s D).toArray)) (.pointer (some ⟨mb, 0, none⟩)) (.slice (some ⟨gd, 0, none⟩) t t) (by decide), put_comm (((A).put (some 45) (.agg (u8s D).toArray)).put (some 47) (.slice (some ⟨gd, 0, none⟩) t t)) (.pointer (some ⟨mb, 0, none⟩)) (.agg (mcells k n t m D (.slice (some ⟨gd, 0, none⟩) t t)).toArray) (by decide)]
    rw [← FE] at F
    exact F
  refine AllReady.cons (o := mo8) rfl (fun K hK => ?_) ?_
  · refine step_mkd rfl (.tmp 46) rfl t ht e46 ?_
    intro gd w101 hgd hth1 hn1 hgl1
    have hgge : w2.heap.size ≤ gd := by rw [hgd]; exact hb0.size
    have hb1 := hb0.trans (hn1.mono hb0.size)
    refine hK _ _ ?_
    clear hK K
    change wpAny _ _ _ _ _ _ ((A).put (some 47) (.slice (some ⟨gd, 0, none⟩) t t)) _
    refine wpAny_ready (rs := [6, 10]) (by kernel_rfl) (by simp) ?_
    refine AllReady.cons (o := mo6) rfl (fun K hK => ?_) ?_
    · refine step_call rfl (run_call_op 29 (.tmp 44) #[22] rfl call_sha ((ev_other (by decide)).trans e44) _) (HSHA w101 hb1) ?_
      intro w102 hn2
      have hb2 := hb1.trans (hn2.mono hb1.size)
      have hth2 := there_same hth1 (hn2.block _ hgl1)
      have hgl2 := Nat.lt_of_lt_of_le hgl1 hn2.size
      refine hK _ _ ?_
      clear hK K
      change wpAny _ _ _ _ _ _ (((A).put (some 47) (.slice (some ⟨gd, 0, none⟩) t t)).put (some 45) (.agg (u8s D).toArray)) _
      have yb : Yields Tryd.prog mops mo9 (.agg (mcells k n t m D (.slice (some ⟨gd, 0, none⟩) t t)).toArray) (((A).put (some 47) (.slice (some ⟨gd, 0, none⟩) t t)).put (some 45) (.agg (u8s D).toArray)) := yields_build rfl 27 (.tmp 39) (.tmp 40) (.tmp 41) (.tmp 43) (.tmp 45) (.tmp 47) rfl ((ev_other (by decide)).trans ((ev_other (by decide)).trans e39)) ((ev_other (by decide)).trans ((ev_other (by decide)).trans e40)) ((ev_other (by decide)).trans ((ev_other (by decide)).trans e41)) ((ev_other (by decide)).trans ((ev_other (by decide)).trans e43)) (ev_same (by simp only [put_sz, hszA]; decide)) ((ev_other (by decide)).trans (ev_same (by simp only [hszA]; decide))) (HBM gd)
      refine wpAny_take (i := 9) (oi := mo9) rfl (by kernel_rfl) (by kernel_rfl) (by kernel_rfl) (fun c a w h => hP _ _ c a w h) yb ?_
      change wpAny _ _ _ _ _ _ ((((A).put (some 47) (.slice (some ⟨gd, 0, none⟩) t t)).put (some 45) (.agg (u8s D).toArray)).put (some 48) (.agg (mcells k n t m D (.slice (some ⟨gd, 0, none⟩) t t)).toArray)) _
      clear yb
      refine wpAny_ready (rs := [10]) (by kernel_rfl) (by simp) ?_
      refine AllReady.cons (o := mo10) rfl (fun K hK => ?_) AllReady.nil
      refine step_mkm rfl rfl ?_
      intro mb w103 hmbe hmb3 hn3 hml3
      have hmge : w2.heap.size ≤ mb := by rw [hmbe]; exact hb2.size
      have hb3 := hb2.trans (hn3.mono hb2.size)
      have hth3 := there_same hth2 (hn3.block _ hgl2)
      have hgl3 := Nat.lt_of_lt_of_le hgl2 hn3.size
      refine hK _ _ ?_
      clear hK K
      change wpAny _ _ _ _ _ _ (((((A).put (some 47) (.slice (some ⟨gd, 0, none⟩) t t)).put (some 45) (.agg (u8s D).toArray)).put (some 48) (.agg (mcells k n t m D (.slice (some ⟨gd, 0, none⟩) t t)).toArray)).put (some 15) (.pointer (some ⟨mb, 0, none⟩))) _
      refine wpAny_ready (rs := [11]) (by kernel_rfl) (by simp) ?_
      refine AllReady.cons (o := mo11) rfl (fun K hK => ?_) AllReady.nil
      refine step_store_row rfl 27 (.tmp 15) (.tmp 48) rfl mb mz (mcells k n t m D (.slice (some ⟨gd, 0, none⟩) t t)).toArray 27 (ev_same (by simp only [put_sz, hszA]; decide)) ((ev_other (by decide)).trans (ev_same (by simp only [put_sz, hszA]; decide))) hmb3 (HIF _) (HSZ _) (HONE _) ?_
      intro w8 hw8 hk8
      refine hK _ _ ?_
      refine wpAny_done (by kernel_rfl) ?_ _
      have LV := mk_leaf hw8 hk8 hth3 hb3 hmge hgge (by omega) hgl3
      have F := fin (.agg (u8s D).toArray) (.slice (some ⟨gd, 0, none⟩) t t) (.agg (mcells k n t m D (.slice (some ⟨gd, 0, none⟩) t t)).toArray) _ _ LV
      have FE : ((((A).put (some 47) (.slice (some ⟨gd, 0, none⟩) t t)).put (some 45) (.agg (u8s D).toArray)).put (some 48) (.agg (mcells k n t m D (.slice (some ⟨gd, 0, none⟩) t t)).toArray)).put (some 15) (.pointer (some ⟨mb, 0, none⟩)) = ((((A).put (some 45) (.agg (u8s D).toArray)).put (some 47) (.slice (some ⟨gd, 0, none⟩) t t)).put (some 48) (.agg (mcells k n t m D (.slice (some ⟨gd, 0, none⟩) t t)).toArray)).put (some 15) (.pointer (some ⟨mb, 0, none⟩)) := by rw [put_comm (A) (.slice (some ⟨gd, 0, none⟩) t t) (.agg (u8s D).toArray) (by decide)]
      rw [← FE] at F
      exact F
    refine AllReady.cons (o := mo10) rfl (fun K hK => ?_) AllReady.nil
    refine step_mkm rfl rfl ?_
    intro mb w102 hmbe hmb2 hn2 hml2
    have hmge : w2.heap.size ≤ mb := by rw [hmbe]; exact hb1.size
    have hb2 := hb1.trans (hn2.mono hb1.size)
    have hth2 := there_same hth1 (hn2.block _ hgl1)
    have hgl2 := Nat.lt_of_lt_of_le hgl1 hn2.size
    refine hK _ _ ?_
    clear hK K
    change wpAny _ _ _ _ _ _ (((A).put (some 47) (.slice (some ⟨gd, 0, none⟩) t t)).put (some 15) (.pointer (some ⟨mb, 0, none⟩))) _
    refine wpAny_ready (rs := [6]) (by kernel_rfl) (by simp) ?_
    refine AllReady.cons (o := mo6) rfl (fun K hK => ?_) AllReady.nil
    refine step_call rfl (run_call_op 29 (.tmp 44) #[22] rfl call_sha ((ev_other (by decide)).trans ((ev_other (by decide)).trans e44)) _) (HSHA w102 hb2) ?_
    intro w103 hn3
    have hb3 := hb2.trans (hn3.mono hb2.size)
    have hth3 := there_same hth2 (hn3.block _ hgl2)
    have hgl3 := Nat.lt_of_lt_of_le hgl2 hn3.size
    have hmb3 := (hn3.block _ hml2).trans hmb2
    have hml3 := Nat.lt_of_lt_of_le hml2 hn3.size
    refine hK _ _ ?_
    clear hK K
    change wpAny _ _ _ _ _ _ ((((A).put (some 47) (.slice (some ⟨gd, 0, none⟩) t t)).put (some 15) (.pointer (some ⟨mb, 0, none⟩))).put (some 45) (.agg (u8s D).toArray)) _
    have yb : Yields Tryd.prog mops mo9 (.agg (mcells k n t m D (.slice (some ⟨gd, 0, none⟩) t t)).toArray) ((((A).put (some 47) (.slice (some ⟨gd, 0, none⟩) t t)).put (some 15) (.pointer (some ⟨mb, 0, none⟩))).put (some 45) (.agg (u8s D).toArray)) := yields_build rfl 27 (.tmp 39) (.tmp 40) (.tmp 41) (.tmp 43) (.tmp 45) (.tmp 47) rfl ((ev_other (by decide)).trans ((ev_other (by decide)).trans ((ev_other (by decide)).trans e39))) ((ev_other (by decide)).trans ((ev_other (by decide)).trans ((ev_other (by decide)).trans e40))) ((ev_other (by decide)).trans ((ev_other (by decide)).trans ((ev_other (by decide)).trans e41))) ((ev_other (by decide)).trans ((ev_other (by decide)).trans ((ev_other (by decide)).trans e43))) (ev_same (by simp only [put_sz, hszA]; decide)) ((ev_other (by decide)).trans ((ev_other (by decide)).trans (ev_same (by simp only [hszA]; decide)))) (HBM gd)
    refine wpAny_take (i := 9) (oi := mo9) rfl (by kernel_rfl) (by kernel_rfl) (by kernel_rfl) (fun c a w h => hP _ _ c a w h) yb ?_
    change wpAny _ _ _ _ _ _ (((((A).put (some 47) (.slice (some ⟨gd, 0, none⟩) t t)).put (some 15) (.pointer (some ⟨mb, 0, none⟩))).put (some 45) (.agg (u8s D).toArray)).put (some 48) (.agg (mcells k n t m D (.slice (some ⟨gd, 0, none⟩) t t)).toArray)) _
    clear yb
    refine wpAny_ready (rs := [11]) (by kernel_rfl) (by simp) ?_
    refine AllReady.cons (o := mo11) rfl (fun K hK => ?_) AllReady.nil
    refine step_store_row rfl 27 (.tmp 15) (.tmp 48) rfl mb mz (mcells k n t m D (.slice (some ⟨gd, 0, none⟩) t t)).toArray 27 ((ev_other (by decide)).trans ((ev_other (by decide)).trans (ev_same (by simp only [put_sz, hszA]; decide)))) (ev_same (by simp only [put_sz, hszA]; decide)) hmb3 (HIF _) (HSZ _) (HONE _) ?_
    intro w8 hw8 hk8
    refine hK _ _ ?_
    refine wpAny_done (by kernel_rfl) ?_ _
    have LV := mk_leaf hw8 hk8 hth3 hb3 hmge hgge (by omega) hgl3
    have F := fin (.agg (u8s D).toArray) (.slice (some ⟨gd, 0, none⟩) t t) (.agg (mcells k n t m D (.slice (some ⟨gd, 0, none⟩) t t)).toArray) _ _ LV
    have FE : ((((A).put (some 47) (.slice (some ⟨gd, 0, none⟩) t t)).put (some 15) (.pointer (some ⟨mb, 0, none⟩))).put (some 45) (.agg (u8s D).toArray)).put (some 48) (.agg (mcells k n t m D (.slice (some ⟨gd, 0, none⟩) t t)).toArray) = ((((A).put (some 45) (.agg (u8s D).toArray)).put (some 47) (.slice (some ⟨gd, 0, none⟩) t t)).put (some 48) (.agg (mcells k n t m D (.slice (some ⟨gd, 0, none⟩) t t)).toArray)).put (some 15) (.pointer (some ⟨mb, 0, none⟩)) := by rw [put_comm ((A).put (some 47) (.slice (some ⟨gd, 0, none⟩) t t)) (.pointer (some ⟨mb, 0, none⟩)) (.agg (u8s D).toArray) (by decide), put_comm (((A).put (some 47) (.slice (some ⟨gd, 0, none⟩) t t)).put (some 45) (.agg (u8s D).toArray)) (.pointer (some ⟨mb, 0, none⟩)) (.agg (mcells k n t m D (.slice (some ⟨gd, 0, none⟩) t t)).toArray) (by decide), put_comm (A) (.slice (some ⟨gd, 0, none⟩) t t) (.agg (u8s D).toArray) (by decide)]
    rw [← FE] at F
    exact F
  refine AllReady.cons (o := mo10) rfl (fun K hK => ?_) AllReady.nil
  refine step_mkm rfl rfl ?_
  intro mb w101 hmbe hmb1 hn1 hml1
  have hmge : w2.heap.size ≤ mb := by rw [hmbe]; exact hb0.size
  have hb1 := hb0.trans (hn1.mono hb0.size)
  refine hK _ _ ?_
  clear hK K
  change wpAny _ _ _ _ _ _ ((A).put (some 15) (.pointer (some ⟨mb, 0, none⟩))) _
  refine wpAny_ready (rs := [6, 8]) (by kernel_rfl) (by simp) ?_
  refine AllReady.cons (o := mo6) rfl (fun K hK => ?_) ?_
  · refine step_call rfl (run_call_op 29 (.tmp 44) #[22] rfl call_sha ((ev_other (by decide)).trans e44) _) (HSHA w101 hb1) ?_
    intro w102 hn2
    have hb2 := hb1.trans (hn2.mono hb1.size)
    have hmb2 := (hn2.block _ hml1).trans hmb1
    have hml2 := Nat.lt_of_lt_of_le hml1 hn2.size
    refine hK _ _ ?_
    clear hK K
    change wpAny _ _ _ _ _ _ (((A).put (some 15) (.pointer (some ⟨mb, 0, none⟩))).put (some 45) (.agg (u8s D).toArray)) _
    refine wpAny_ready (rs := [8]) (by kernel_rfl) (by simp) ?_
    refine AllReady.cons (o := mo8) rfl (fun K hK => ?_) AllReady.nil
    refine step_mkd rfl (.tmp 46) rfl t ht ((ev_other (by decide)).trans ((ev_other (by decide)).trans e46)) ?_
    intro gd w103 hgd hth3 hn3 hgl3
    have hgge : w2.heap.size ≤ gd := by rw [hgd]; exact hb2.size
    have hb3 := hb2.trans (hn3.mono hb2.size)
    have hmb3 := (hn3.block _ hml2).trans hmb2
    have hml3 := Nat.lt_of_lt_of_le hml2 hn3.size
    refine hK _ _ ?_
    clear hK K
    change wpAny _ _ _ _ _ _ ((((A).put (some 15) (.pointer (some ⟨mb, 0, none⟩))).put (some 45) (.agg (u8s D).toArray)).put (some 47) (.slice (some ⟨gd, 0, none⟩) t t)) _
    have yb : Yields Tryd.prog mops mo9 (.agg (mcells k n t m D (.slice (some ⟨gd, 0, none⟩) t t)).toArray) ((((A).put (some 15) (.pointer (some ⟨mb, 0, none⟩))).put (some 45) (.agg (u8s D).toArray)).put (some 47) (.slice (some ⟨gd, 0, none⟩) t t)) := yields_build rfl 27 (.tmp 39) (.tmp 40) (.tmp 41) (.tmp 43) (.tmp 45) (.tmp 47) rfl ((ev_other (by decide)).trans ((ev_other (by decide)).trans ((ev_other (by decide)).trans e39))) ((ev_other (by decide)).trans ((ev_other (by decide)).trans ((ev_other (by decide)).trans e40))) ((ev_other (by decide)).trans ((ev_other (by decide)).trans ((ev_other (by decide)).trans e41))) ((ev_other (by decide)).trans ((ev_other (by decide)).trans ((ev_other (by decide)).trans e43))) ((ev_other (by decide)).trans (ev_same (by simp only [put_sz, hszA]; decide))) (ev_same (by simp only [put_sz, hszA]; decide)) (HBM gd)
    refine wpAny_take (i := 9) (oi := mo9) rfl (by kernel_rfl) (by kernel_rfl) (by kernel_rfl) (fun c a w h => hP _ _ c a w h) yb ?_
    change wpAny _ _ _ _ _ _ (((((A).put (some 15) (.pointer (some ⟨mb, 0, none⟩))).put (some 45) (.agg (u8s D).toArray)).put (some 47) (.slice (some ⟨gd, 0, none⟩) t t)).put (some 48) (.agg (mcells k n t m D (.slice (some ⟨gd, 0, none⟩) t t)).toArray)) _
    clear yb
    refine wpAny_ready (rs := [11]) (by kernel_rfl) (by simp) ?_
    refine AllReady.cons (o := mo11) rfl (fun K hK => ?_) AllReady.nil
    refine step_store_row rfl 27 (.tmp 15) (.tmp 48) rfl mb mz (mcells k n t m D (.slice (some ⟨gd, 0, none⟩) t t)).toArray 27 ((ev_other (by decide)).trans ((ev_other (by decide)).trans ((ev_other (by decide)).trans (ev_same (by simp only [hszA]; decide))))) (ev_same (by simp only [put_sz, hszA]; decide)) hmb3 (HIF _) (HSZ _) (HONE _) ?_
    intro w8 hw8 hk8
    refine hK _ _ ?_
    refine wpAny_done (by kernel_rfl) ?_ _
    have LV := mk_leaf hw8 hk8 hth3 hb3 hmge hgge (by omega) hgl3
    have F := fin (.agg (u8s D).toArray) (.slice (some ⟨gd, 0, none⟩) t t) (.agg (mcells k n t m D (.slice (some ⟨gd, 0, none⟩) t t)).toArray) _ _ LV
    have FE : ((((A).put (some 15) (.pointer (some ⟨mb, 0, none⟩))).put (some 45) (.agg (u8s D).toArray)).put (some 47) (.slice (some ⟨gd, 0, none⟩) t t)).put (some 48) (.agg (mcells k n t m D (.slice (some ⟨gd, 0, none⟩) t t)).toArray) = ((((A).put (some 45) (.agg (u8s D).toArray)).put (some 47) (.slice (some ⟨gd, 0, none⟩) t t)).put (some 48) (.agg (mcells k n t m D (.slice (some ⟨gd, 0, none⟩) t t)).toArray)).put (some 15) (.pointer (some ⟨mb, 0, none⟩)) := by rw [put_comm (A) (.pointer (some ⟨mb, 0, none⟩)) (.agg (u8s D).toArray) (by decide), put_comm ((A).put (some 45) (.agg (u8s D).toArray)) (.pointer (some ⟨mb, 0, none⟩)) (.slice (some ⟨gd, 0, none⟩) t t) (by decide), put_comm (((A).put (some 45) (.agg (u8s D).toArray)).put (some 47) (.slice (some ⟨gd, 0, none⟩) t t)) (.pointer (some ⟨mb, 0, none⟩)) (.agg (mcells k n t m D (.slice (some ⟨gd, 0, none⟩) t t)).toArray) (by decide)]
    rw [← FE] at F
    exact F
  refine AllReady.cons (o := mo8) rfl (fun K hK => ?_) AllReady.nil
  refine step_mkd rfl (.tmp 46) rfl t ht ((ev_other (by decide)).trans e46) ?_
  intro gd w102 hgd hth2 hn2 hgl2
  have hgge : w2.heap.size ≤ gd := by rw [hgd]; exact hb1.size
  have hb2 := hb1.trans (hn2.mono hb1.size)
  have hmb2 := (hn2.block _ hml1).trans hmb1
  have hml2 := Nat.lt_of_lt_of_le hml1 hn2.size
  refine hK _ _ ?_
  clear hK K
  change wpAny _ _ _ _ _ _ (((A).put (some 15) (.pointer (some ⟨mb, 0, none⟩))).put (some 47) (.slice (some ⟨gd, 0, none⟩) t t)) _
  refine wpAny_ready (rs := [6]) (by kernel_rfl) (by simp) ?_
  refine AllReady.cons (o := mo6) rfl (fun K hK => ?_) AllReady.nil
  refine step_call rfl (run_call_op 29 (.tmp 44) #[22] rfl call_sha ((ev_other (by decide)).trans ((ev_other (by decide)).trans e44)) _) (HSHA w102 hb2) ?_
  intro w103 hn3
  have hb3 := hb2.trans (hn3.mono hb2.size)
  have hth3 := there_same hth2 (hn3.block _ hgl2)
  have hgl3 := Nat.lt_of_lt_of_le hgl2 hn3.size
  have hmb3 := (hn3.block _ hml2).trans hmb2
  have hml3 := Nat.lt_of_lt_of_le hml2 hn3.size
  refine hK _ _ ?_
  clear hK K
  change wpAny _ _ _ _ _ _ ((((A).put (some 15) (.pointer (some ⟨mb, 0, none⟩))).put (some 47) (.slice (some ⟨gd, 0, none⟩) t t)).put (some 45) (.agg (u8s D).toArray)) _
  have yb : Yields Tryd.prog mops mo9 (.agg (mcells k n t m D (.slice (some ⟨gd, 0, none⟩) t t)).toArray) ((((A).put (some 15) (.pointer (some ⟨mb, 0, none⟩))).put (some 47) (.slice (some ⟨gd, 0, none⟩) t t)).put (some 45) (.agg (u8s D).toArray)) := yields_build rfl 27 (.tmp 39) (.tmp 40) (.tmp 41) (.tmp 43) (.tmp 45) (.tmp 47) rfl ((ev_other (by decide)).trans ((ev_other (by decide)).trans ((ev_other (by decide)).trans e39))) ((ev_other (by decide)).trans ((ev_other (by decide)).trans ((ev_other (by decide)).trans e40))) ((ev_other (by decide)).trans ((ev_other (by decide)).trans ((ev_other (by decide)).trans e41))) ((ev_other (by decide)).trans ((ev_other (by decide)).trans ((ev_other (by decide)).trans e43))) (ev_same (by simp only [put_sz, hszA]; decide)) ((ev_other (by decide)).trans (ev_same (by simp only [put_sz, hszA]; decide))) (HBM gd)
  refine wpAny_take (i := 9) (oi := mo9) rfl (by kernel_rfl) (by kernel_rfl) (by kernel_rfl) (fun c a w h => hP _ _ c a w h) yb ?_
  change wpAny _ _ _ _ _ _ (((((A).put (some 15) (.pointer (some ⟨mb, 0, none⟩))).put (some 47) (.slice (some ⟨gd, 0, none⟩) t t)).put (some 45) (.agg (u8s D).toArray)).put (some 48) (.agg (mcells k n t m D (.slice (some ⟨gd, 0, none⟩) t t)).toArray)) _
  clear yb
  refine wpAny_ready (rs := [11]) (by kernel_rfl) (by simp) ?_
  refine AllReady.cons (o := mo11) rfl (fun K hK => ?_) AllReady.nil
  refine step_store_row rfl 27 (.tmp 15) (.tmp 48) rfl mb mz (mcells k n t m D (.slice (some ⟨gd, 0, none⟩) t t)).toArray 27 ((ev_other (by decide)).trans ((ev_other (by decide)).trans ((ev_other (by decide)).trans (ev_same (by simp only [hszA]; decide))))) (ev_same (by simp only [put_sz, hszA]; decide)) hmb3 (HIF _) (HSZ _) (HONE _) ?_
  intro w8 hw8 hk8
  refine hK _ _ ?_
  refine wpAny_done (by kernel_rfl) ?_ _
  have LV := mk_leaf hw8 hk8 hth3 hb3 hmge hgge (by omega) hgl3
  have F := fin (.agg (u8s D).toArray) (.slice (some ⟨gd, 0, none⟩) t t) (.agg (mcells k n t m D (.slice (some ⟨gd, 0, none⟩) t t)).toArray) _ _ LV
  have FE : ((((A).put (some 15) (.pointer (some ⟨mb, 0, none⟩))).put (some 47) (.slice (some ⟨gd, 0, none⟩) t t)).put (some 45) (.agg (u8s D).toArray)).put (some 48) (.agg (mcells k n t m D (.slice (some ⟨gd, 0, none⟩) t t)).toArray) = ((((A).put (some 45) (.agg (u8s D).toArray)).put (some 47) (.slice (some ⟨gd, 0, none⟩) t t)).put (some 48) (.agg (mcells k n t m D (.slice (some ⟨gd, 0, none⟩) t t)).toArray)).put (some 15) (.pointer (some ⟨mb, 0, none⟩)) := by rw [put_comm (A) (.pointer (some ⟨mb, 0, none⟩)) (.slice (some ⟨gd, 0, none⟩) t t) (by decide), put_comm ((A).put (some 47) (.slice (some ⟨gd, 0, none⟩) t t)) (.pointer (some ⟨mb, 0, none⟩)) (.agg (u8s D).toArray) (by decide), put_comm (((A).put (some 47) (.slice (some ⟨gd, 0, none⟩) t t)).put (some 45) (.agg (u8s D).toArray)) (.pointer (some ⟨mb, 0, none⟩)) (.agg (mcells k n t m D (.slice (some ⟨gd, 0, none⟩) t t)).toArray) (by decide), put_comm (A) (.slice (some ⟨gd, 0, none⟩) t t) (.agg (u8s D).toArray) (by decide)]
  rw [← FE] at F
  exact F
end Go.Proofs.YtafkjfpmjhfofaaDoor
