/-
  probe: the next peer is pinged.
-/
import Derived.Test.YtbdefmjjhkonjaaCk
import Derived.Deep.WholeRow
import Derived.Laws.ResultCell
namespace Go.Proofs.Ytbdefmjjhkonjaa
open Go Go.RowKit
set_option linter.unusedVariables false

/-- the peer that is pinged after peer p -/
def nxt (n me p : Nat) : Nat := if (p + 1) % n = me then ((p + 1) % n + 1) % n else (p + 1) % n
theorem Mc.grown {w w' : World} {row : Option Nat} {mb tb sb n me : Nat} {L : List Ent} {Z : List Int} {ck : Int} {pv : Value} {last pg dare : Int} (h : Mc w mb tb sb n me L Z ck pv last pg dare) (hg : w.grownBy w' row) (h1 : some mb ≠ row) (h2 : some tb ≠ row) (h3 : some sb ≠ row) : Mc w' mb tb sb n me L Z ck pv last pg dare :=
  ⟨(hg.block _ (lt_of_heap h.m) h1).trans h.m, (hg.block _ h.t.lt h2).trans h.t, (hg.block _ (lt_of_heap h.s) h3).trans h.s, h.ln, h.zn, h.mt, h.ms, h.ts⟩
theorem Mc.pinged {w : World} {mb tb sb n me : Nat} {L : List Ent} {Z : List Int} {ck : Int} {pv : Value} {last pg dare : Int} (h : Mc w mb tb sb n me L Z ck pv last pg dare) (p : Int) :
    Mc (w.setCell ⟨mb, 6, none⟩ (.int .i64 p)) mb tb sb n me L Z ck pv last p dare :=
  ⟨by rw [heap_set h.m]; rfl, by unfold Row; rw [heap_set_other h.mt]; exact h.t, by rw [heap_set_other h.ms]; exact h.s, h.ln, h.zn, h.mt, h.ms, h.ts⟩
theorem Mc.lastSeq {w : World} {mb tb sb n me : Nat} {L : List Ent} {Z : List Int} {ck : Int} {pv : Value} {last pg dare : Int} (h : Mc w mb tb sb n me L Z ck pv last pg dare) (s : Int) :
    Mc (w.setCell ⟨mb, 5, none⟩ (.int .u64 s)) mb tb sb n me L Z ck pv s pg dare :=
  ⟨by rw [heap_set h.m]; rfl, by unfold Row; rw [heap_set_other h.mt]; exact h.t, by rw [heap_set_other h.ms]; exact h.s, h.ln, h.zn, h.mt, h.ms, h.ts⟩
theorem Mc.clock {w : World} {mb tb sb n me : Nat} {L : List Ent} {Z : List Int} {ck : Int} {pv : Value} {last pg dare : Int} (h : Mc w mb tb sb n me L Z ck pv last pg dare) (s : Int) :
    Mc (w.setCell ⟨mb, 3, none⟩ (.int .u64 s)) mb tb sb n me L Z s pv last pg dare :=
  ⟨by rw [heap_set h.m]; rfl, by unfold Row; rw [heap_set_other h.mt]; exact h.t, by rw [heap_set_other h.ms]; exact h.s, h.ln, h.zn, h.mt, h.ms, h.ts⟩
/-- a whole row stored, as one step -/
theorem wpList_store_row {P : Program} {ops : Array Oper} {rest : List Oper} {op : Oper} {a : Act} {w : World} {Q : Exit → Act → World → Prop} (hgd : op.guard = none) (ty : TypeId) (x y : Operand) (ho : op.op = .store ty x y)
    (b : Nat) (old cells : Array Value) (t : TypeId) (hx : a.eval x = .pointer (some ⟨b, 0, none⟩)) (hy : a.eval y = .agg cells) (hg : w.heap[b]? = some (.cells old t (0, 0)))
    (hi : (P.info? ty).map (·.size) = some cells.size) (hs : old.size = cells.size) (h1 : cells.all (·.oneCell') = true)
    (h : ∀ w', w'.heap[b]? = some (.cells cells t (0, 0)) → Held [b] w w' → wpList P ops Q rest (a.put op.dst undef) w') : wpList P ops Q (op :: rest) a w := by
  refine wpList_plain hgd fun _ hK => ?_
  unfold Oper.wp execOp
  simp only [ho, hx, hy, Instr.storeAt, Instr.sureAddr, Sem.run_bind, Sem.run_pure, Result.andThen_ok, run_storeVar_row w b t ty old cells hg hi hs h1]
  exact hK _ _ (h _ (setRow_heap w b old cells t (0, 0) hg) ⟨rfl, rfl, rfl, by simp [World.setRow], fun k _ hk => setRow_other w b k cells (by simpa using hk)⟩)
theorem results_cell1 {fn : Func} {p : Tmp} {ty : TypeId} (h : fn.results = #[.cell p ty]) (tmps : Array Value) (P : Program) (w : World) :
    (results fn tmps).run P w = ((asAddr (tmps.getD p undef)).run P w).andThen fun a w₁ => (loadVar ty a).run P w₁ := by
  simp only [results, h]
  simp [Sem.run_bind, Result.andThen]
theorem results_at {fn : Func} {p : Tmp} {ty : TypeId} (h : fn.results = #[.cell p ty]) {tmps : Array Value} {P : Program} {w : World} {ad : Addr} {v : Value} (hp : tmps.getD p undef = .pointer (some ad)) (hv : (loadVar ty ad).run P w = .ok v w) :
    (results fn tmps).run P w = .ok v w := by
  rw [results_cell1 h, hp]
  simp [asAddr, hv]
theorem infoP : (Try.prog.info? 91).map (fun i => (i.zero, i.size, i.bytes)) = some (some (.agg #[.int .u64 0, .int .i64 0, .int .u64 0, .bool false]), 4, 32) := by kernel_rfl
def pcl (s : Int) (t : Int) (c : Int) (a : Bool) : List Value := [.int .u64 s, .int .i64 t, .int .u64 c, .bool a]
theorem pcl_one (s t c : Int) (a : Bool) : ∀ u ∈ pcl s t c a, u.oneCell' = true := fun u hu => by
  simp only [pcl, List.mem_cons, List.not_mem_nil, or_false] at hu
  rcases hu with rfl | rfl | rfl | rfl <;> rfl
/-- the blocks that a probe writes -/
def pS (mb : Nat) (pv : Value) : List Nat := mb :: pv.ownBlock.toList

theorem owns_held {w w' : World} {S : List Nat} {base n s : Nat} {e : TypeId} {v : Value} {xs : List Value} (h : w.ownsRow base e s v n xs) (k : Held S w w') (hS : ∀ {g : Nat}, some g = v.ownBlock → g ∉ S) : w'.ownsRow base e s v n xs := by
  obtain ⟨h1, h2⟩ := h
  refine ⟨h1, h2.imp id fun ⟨g, cap, cur, h3, h4, h5, r⟩ => ⟨g, cap, cur, h3, h4, ?_, r⟩⟩
  subst h3
  exact k.heap h5 (hS rfl)
/-- what a probe leaves behind its append -/
def PrbEnd (w wx : World) (mb tb sb n me : Nat) (L : List Ent) (Z : List Int) (ck : Int) (pv : Value) (s pg dare : Int) (base k : Nat) (xs : List Value) : Prop :=
  ∃ pv', Mc wx mb tb sb n me L Z ck pv' s pg dare ∧ wx.heap[w.heap.size]? = some (.cells Try.zeroCells56 56 (0, 0)) ∧ Held (pS mb pv) w wx ∧ wx.ownsRow base 91 4 pv' (k + 1) xs ∧ (∀ g, some g = pv'.ownBlock → some g = pv.ownBlock ∨ w.heap.size < g)
theorem prb_leaf {w w6 W wA : World} {mb tb sb n me : Nat} {L : List Ent} {Z : List Int} {ck : Int} {pv : Value} {s pg dare : Int} {base k g cap H : Nat} {xs : List Value} (hm : Mc w6 mb tb sb n me L Z ck pv s pg dare)
    (hx : w6.heap[w.heap.size]? = some (.cells Try.zeroCells56 56 (0, 0))) (hh : Held (pS mb pv) w w6) (hsep : ∀ g, some g = pv.ownBlock → g ≠ mb ∧ g ≠ tb ∧ g ≠ sb) (hpl : ∀ g, some g = pv.ownBlock → g < w.heap.size) (hmw : mb < w.heap.size)
    (hW : Below w6.heap.size w6 W) (hg : W.grownBy wA pv.ownBlock) (ho : wA.ownsRow base 91 4 (.slice (some ⟨g, 0, none⟩) (k + 1) cap) (k + 1) xs) (hat : pv.ownBlock = some g ∨ g = H) (hH : w6.heap.size ≤ H) :
    PrbEnd w (wA.setCell ⟨mb, 4, none⟩ (.slice (some ⟨g, 0, none⟩) (k + 1) cap)) mb tb sb n me L Z ck pv s pg dare base k xs := by
  have hxl := lt_of_heap hx
  have hgm : mb ≠ g := by
    rcases hat with h | h
    · exact fun e => (hsep g h.symm).1 e.symm
    · omega
  have hMA := (hm.below hW).grown hg (fun e => (hsep mb e).1 rfl) (fun e => (hsep tb e).2.1 rfl) (fun e => (hsep sb e).2.2 rfl)
  have hH6 : Held (pS mb pv) w6 wA := ⟨hg.os.trans hW.os, hg.tape.trans hW.tape, hg.output.trans hW.output, Nat.le_trans hW.size hg.size, fun b hb hbS => (hg.block b (Nat.lt_of_lt_of_le hb hW.size) (fun e => hbS (by unfold pS; rw [← e]; simp))).trans (hW.block b hb)⟩
  refine ⟨_, hMA.probes _, ?_, (hh.trans hH6).setCell (p := ⟨mb, 4, none⟩) (.inl (by simp [pS])) _, owns_other ho (p := ⟨mb, 4, none⟩) (by simp [Value.ownBlock]; exact hgm) _, fun g' hg' => ?_⟩
  · rw [heap_set_other (p := ⟨mb, 4, none⟩) (by show mb ≠ _; omega), hH6.block _ hxl (by
      unfold pS
      simp only [List.mem_cons, Option.mem_toList, not_or]
      exact ⟨by omega, fun e => by have := hpl _ e.symm; omega⟩)]
    exact hx
  · simp only [Value.ownBlock, Option.some.injEq] at hg'
    subst hg'
    rcases hat with h | h
    · exact .inl h.symm
    · right; omega

set_option maxRecDepth 100000 in
set_option maxHeartbeats 2000000 in
theorem probe_any {mb tb sb n me : Nat} {L : List Ent} {Z : List Int} {ck : Int} {pv : Value} {dare : Int} (base k last pg : Nat) (ps : List Value) (w : World) (h : Mc w mb tb sb n me L Z ck pv last pg dare)
    (hp : w.ownsRow base 91 4 pv k ps) (hpg : pg < n) (h2 : 2 ≤ n) (hn : n ≤ 16) (hl : last < 1000000000000) (hk : k ≤ 100000) (hsep : ∀ g, some g = pv.ownBlock → g ≠ mb ∧ g ≠ tb ∧ g ≠ sb) (hbase : base ≤ w.heap.size) :
    Calls Try.prog 67 #[.pointer (some ⟨mb, 0, none⟩)] w fun e w' => ∃ pv', e = .returned (.agg (msg 1 0 (nxt n me pg : Nat) ((last : Int) + 1) me 0 (.slice none 0 0) rest0).toArray) ∧
      Mc w' mb tb sb n me L Z ck pv' ((last : Int) + 1) (nxt n me pg : Nat) dare ∧ w'.ownsRow base 91 4 pv' (k + 1) (ps ++ pcl ((last : Int) + 1) (nxt n me pg : Nat) ck false) ∧
      (∀ g, some g = pv'.ownBlock → some g = pv.ownBlock ∨ w.heap.size ≤ g) ∧ Held (pS mb pv) w w' := by
  obtain ⟨w1, hw1⟩ : ∃ y, y = w.alloc (.cells Try.zeroCells56 56) := ⟨_, rfl⟩
  have hb1 : Below w.heap.size w w1 := by rw [hw1]; exact (Below.refl _ _).alloc (Nat.le_refl _) _
  have HX := hid (show w1.heap[w.heap.size]? = some (.cells Try.zeroCells56 56 (0, 0)) by rw [hw1]; exact heap_new _ _)
  have HM := hid (h.below hb1)
  have hmw := lt_of_heap h.m
  have htw := h.t.lt
  have hsw := lt_of_heap h.s
  have HH := hid (Held.of_below (S := pS mb pv) hb1)
  have HP := hid (owns_below hp hb1)
  have hpl : ∀ g, some g = pv.ownBlock → g < w.heap.size := fun g hg => (hp.lt g hg.symm).2
  have c0 := mch_cells HM.out.m
  obtain ⟨c0, c1, c2, c3, c4, c5, c6, c7⟩ := c0
  have f6 : w1.frozen? ⟨mb, 6, none⟩ = false := free_of_heap HM.out.m 6
  have HF := hid (following_any pg w1 HM.out hpg hn)
  clear h hp hb1
  obtain ⟨q, hq⟩ : ∃ q, q = (pg + 1) % n := ⟨_, rfl⟩
  have hqn : q < n := by rw [hq]; exact Nat.mod_lt _ (by omega)
  rw [← hq] at HF
  have HQ := hid hq
  clear hq
  go_enter Try.func67, Try.ntmps67
  go_upto_region 1 with fail
  rw [← hw1]
  clear hw1
  go_wp2_with fail
  refine HF.out.mono ?_
  rintro e w2 ⟨rfl, rfl⟩
  clear HF
  go_upto_region 2 with fail
  have HM3 := hid (HM.out.pinged q)
  have HX3 := hid ((heap_set_other (w := w2) (b := w.heap.size) (p := ⟨mb, 6, none⟩) (by show mb ≠ _; omega) (.int .i64 q)).trans HX.out)
  have HH3 := hid (HH.out.setCell (p := ⟨mb, 6, none⟩) (by simp [pS]) (.int .i64 q))
  have HP3 := hid (owns_other HP.out (p := ⟨mb, 6, none⟩) (fun e => (hsep _ e).1 rfl) (.int .i64 q))
  obtain ⟨w3, hw3⟩ : ∃ y, y = w2.setCell ⟨mb, 6, none⟩ (.int .i64 q) := ⟨_, rfl⟩
  rw [← hw3] at HM3 HX3 HH3 HP3 ⊢
  clear hw3 HM HX HH HP c0 c1 c2 c3 c4 c5 c6 c7 f6
  obtain ⟨c0, c1, c2, c3, c4, c5, c6, c7⟩ := mch_cells HM3.out.m
  have hnx : nxt n me pg < n := by unfold nxt; split <;> exact Nat.mod_lt _ (by omega)
  have hR := hid (show nxt n me pg = if q = me then (q + 1) % n else q from by unfold nxt; rw [← HQ.out])
  obtain ⟨r, hr⟩ : ∃ r, r = nxt n me pg := ⟨_, rfl⟩
  rw [← hr] at hR hnx
  have HRR := hid hr
  clear hr
  go_quiet (fail)
  have HM4 := hid (HM3.out.drewN nq)
  have HX4 := hid (show (w3.drewN nq).heap[w.heap.size]? = _ from HX3.out)
  have HH4 := hid (HH3.out.drewN nq)
  have HP4 := hid (owns_below HP3.out (bel_drewN (Below.refl _ _) nq))
  obtain ⟨w4, hw4⟩ : ∃ y, y = w3.drewN nq := ⟨_, rfl⟩
  rw [← hw4] at HM4 HX4 HH4 HP4 ⊢
  clear hw4 HM3 HX3 HH3 HP3 c0 c1 c2 c3 c4 c5 c6 c7
  go_upto_if 20 with fail
  go_cut [21] (fun _ wx => Hid (Mc wx mb tb sb n me L Z ck pv last r dare) ∧ Hid (wx.heap[w.heap.size]? = some (.cells Try.zeroCells56 56 (0, 0))) ∧ Hid (Held (pS mb pv) w wx) ∧ Hid (wx.ownsRow base 91 4 pv k ps))
  case first =>
    obtain ⟨c0, c1, c2, c3, c4, c5, c6, c7⟩ := mch_cells HM4.out.m
    by_cases hqm : q = me
    · have hb : ((q : Int) == (me : Int)) = true := by simp [hqm]
      have hR2 := hR.out
      rw [if_pos hqm] at hR2
      have f6 : w4.frozen? ⟨mb, 6, none⟩ = false := free_of_heap HM4.out.m 6
      have HF := hid (following_any q w4 HM4.out hqn hn)
      rw [← hR2] at HF
      have HM5 := hid (HM4.out.pinged r)
      have HX5 := hid ((heap_set_other (w := w4) (b := w.heap.size) (p := ⟨mb, 6, none⟩) (by show mb ≠ _; omega) (.int .i64 r)).trans HX4.out)
      have HH5 := hid (HH4.out.setCell (p := ⟨mb, 6, none⟩) (by simp [pS]) (.int .i64 r))
      have HP5 := hid (owns_other HP4.out (p := ⟨mb, 6, none⟩) (fun e => (hsep _ e).1 rfl) (.int .i64 r))
      clear hqm hR2
      go_wp2_with fail
      refine HF.out.mono ?_
      rintro e w5 ⟨rfl, hw5⟩
      subst hw5
      clear HF
      go_wp2_with fail
      go_meet
      exact ⟨HM5, HX5, HH5, HP5⟩
    · have hb : ((q : Int) == (me : Int)) = false := by simp; omega
      have hR2 := hR.out
      rw [if_neg hqm] at hR2
      have HM5 := hid (show Mc w4 mb tb sb n me L Z ck pv last r dare from by rw [hR2]; exact HM4.out)
      clear hqm hR2
      go_wp2_with fail
      go_meet
      exact ⟨HM5, HX4, HH4, HP4⟩
  case rest =>
    clear HM4 HX4 HH4 HP4
    obtain ⟨HM5, HX5, HH5, HP5⟩ := hcut
    obtain ⟨c0, c1, c2, c3, c4, c5, c6, c7⟩ := mch_cells HM5.out.m
    have f5 : wc.frozen? ⟨mb, 5, none⟩ = false := free_of_heap HM5.out.m 5
    go_upto_region 5 with fail
    have HM6 := hid (HM5.out.lastSeq ((last : Int) + 1))
    have HX6 := hid ((heap_set_other (w := wc) (b := w.heap.size) (p := ⟨mb, 5, none⟩) (by show mb ≠ _; omega) (.int .u64 ((last : Int) + 1))).trans HX5.out)
    have HH6 := hid (HH5.out.setCell (p := ⟨mb, 5, none⟩) (by simp [pS]) (.int .u64 ((last : Int) + 1)))
    have HP6 := hid (owns_other HP5.out (p := ⟨mb, 5, none⟩) (fun e => (hsep _ e).1 rfl) (.int .u64 ((last : Int) + 1)))
    obtain ⟨w6, hw6⟩ : ∃ y, y = wc.setCell ⟨mb, 5, none⟩ (.int .u64 ((last : Int) + 1)) := ⟨_, rfl⟩
    rw [← hw6] at HM6 HX6 HH6 HP6 ⊢
    clear hw6 HM5 HX5 HH5 HP5 c0 c1 c2 c3 c4 c5 c6 c7 f5
    go_cut [37] (fun _ wx => Hid (PrbEnd w wx mb tb sb n me L Z ck pv ((last : Int) + 1) r dare base k (ps ++ pcl ((last : Int) + 1) r ck false)))
    case first =>
      obtain ⟨c0, c1, c2, c3, c4, c5, c6, c7⟩ := mch_cells HM6.out.m
      obtain ⟨i0, hi0, hz0, hz1, hz2⟩ := info_parts infoP
      have h6s := HH6.out.size
      have HSP := hid hsep
      have HPL := hid hpl
      have ca4 : ∀ o, (w6.alloc o).cell? ⟨mb, 4, none⟩ = some pv := fun o => (mch_cells (HM6.out.below ((Below.refl _ _).alloc (Nat.le_refl _) o)).m).2.2.2.2.1
      have HMD := hid (fun (W wA : World) (hW : Below w6.heap.size w6 W) (hg : W.grownBy wA pv.ownBlock) => show Mc wA mb tb sb n me L Z ck pv ((last : Int) + 1) r dare from (HM6.out.below hW).grown hg (fun e => (HSP.out mb e).1 rfl) (fun e => (HSP.out tb e).2.1 rfl) (fun e => (HSP.out sb e).2.2 rfl))
      clear hsep hpl
      go_region_law (first
        | (refine step_append_lies _ (by rfl) (.tmp 41) (.tmp 55) _ (by rfl) base 91 i0 (.agg #[.int .u64 0, .int .i64 0, .int .u64 0, .bool false]) 4 32 Try.underlying63 hi0 hz0 hz1 hz2 (by rfl) (by decide) _ k ps (by rfl) (by exact HP6.out.alloc _) ⟨w6.heap.size, 0, none⟩ 1 1 (pcl ((last : Int) + 1) r ck false) (by rfl) (by rfl) (World.news_of_block (by exact heap_new w6 _)) (pcl_one _ _ _ _) (by omega) (by unfold maxLen; omega) (by omega) (by simp; omega) _ (by rfl) ?_
           intro g cap wA hownA hgA hatA hltA
           have LEAF := hid (prb_leaf HM6.out HX6.out HH6.out HSP.out HPL.out hmw (by first | exact (Below.refl _ _).alloc (Nat.le_refl _) _ | exact bel_drewN ((Below.refl _ _).alloc (Nat.le_refl _) _) 1) hgA hownA hatA (by simp))
           have hMA := HMD.out _ wA (by first | exact (Below.refl _ _).alloc (Nat.le_refl _) _ | exact bel_drewN ((Below.refl _ _).alloc (Nat.le_refl _) _) 1) hgA
           have c4' := (mch_cells hMA.m).2.2.2.2.1
           have f4' : wA.frozen? ⟨mb, 4, none⟩ = false := free_of_heap hMA.m 4
           clear hMA))
      all_goals
        go_wp2_with fail
        go_meet
        exact LEAF
    case rest =>
      clear HM6 HX6 HH6 HP6
      obtain ⟨pv', hM7, hX7, hH7, hP7, hG7⟩ := hcut.out
      obtain ⟨c0, c1, c2, c3, c4, c5, c6, c7⟩ := mch_cells hM7.m
      have HM7 := hid hM7
      have HX7 := hid hX7
      have HH7 := hid hH7
      have HP7 := hid hP7
      have HG7 := hid hG7
      clear hM7 hX7 hH7 hP7 hG7 hcut
      go_upto_region 6 with fail
      refine region_quiet_tail 13 (by kernel_rfl) (by kernel_rfl) ?_
      simp only [List.take_succ_cons, List.take_zero, List.drop_succ_cons, List.drop_zero]
      repeat (go_big_quiet_step (fail))
      refine wpQuiet_nil ?_
      intro nq2
      refine wpList_store_row (by rfl) 56 (.tmp 2) (.tmp 71) (by rfl) w.heap.size Try.zeroCells56 (msg 1 0 r ((last : Int) + 1) me 0 (.slice none 0 0) rest0).toArray 56 (by rfl) (by kernel_rfl) (by exact HX7.out) (by kernel_rfl) (by kernel_rfl) (by kernel_rfl) ?_
      intro w8 hw8 hk8
      have hres : (loadVar 56 ⟨w.heap.size, 0, none⟩).run Try.prog w8 = .ok (.agg (msg 1 0 r ((last : Int) + 1) me 0 (.slice none 0 0) rest0).toArray) w8 := run_loadVar_row _ _ 56 56 _ (0, 0) _ hw8 Try.underlying56 rfl (by rw [List.size_toArray, msg_length, rest0_length]; kernel_rfl)
      have HM8 := hid ((HM7.out.drewN nq2).held hk8 (by simp; omega) (by have := HM7.out.t.lt; simp; intro e; exact absurd e (Nat.ne_of_lt htw)) (by simp; intro e; exact absurd e (Nat.ne_of_lt hsw)))
      have HH8 := hid ((HH7.out.drewN nq2).step hk8 (fun b hb => .inr (by simp at hb; omega)))
      have HP8 := hid (owns_held (owns_below HP7.out (bel_drewN (Below.refl _ _) nq2)) hk8 (fun {g} e => by
        rcases HG7.out g e with h | h
        · have := hpl _ h; simp; omega
        · simp; omega))
      clear hw8 hk8 c0 c1 c2 c3 c4 c5 c6 c7
      go_wp2
      refine bodyPost_ret (v := .agg (msg 1 0 r ((last : Int) + 1) me 0 (.slice none 0 0) rest0).toArray) (results_at Try.results67 rfl hres) rfl ⟨pv', by rw [← HRR.out], by rw [← HRR.out]; exact HM8.out, by rw [← HRR.out]; exact HP8.out, fun g hg => ?_, HH8.out⟩
      rcases HG7.out g hg with h | h
      · exact .inl h
      · exact .inr (by omega)
end Go.Proofs.Ytbdefmjjhkonjaa
