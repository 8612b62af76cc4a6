/-
  A copy of a manifest; two manifests that read alike are the same. · Same: two manifests that read alike.
-/
import Derived.Test.YteaidpbopgjleaaDoorDecMan
import Derived.Test.YteaidpbopgjleaaDoorEq32
import Derived.Laws.AppendOwnNone
import Derived.Deep.MidRow
import Derived.Deep.QuietTactic
import Derived.BigQuiet
namespace Go.Proofs.YteaidpbopgjleaaDoor
open Go Go.RowKit
set_option linter.unusedVariables false

/-- the cells of digests, one behind the other -/
def dcl (D : List (List Nat)) : List Value := D.flatMap u8s
theorem dcl_length (D : List (List Nat)) (h : ∀ d ∈ D, d.length = 32) : (dcl D).length = 32 * D.length := by
  induction D with
  | nil => rfl
  | cons d r ih =>
    have h1 := ih (fun x hx => h x (List.mem_cons_of_mem _ hx))
    have h2 := h d List.mem_cons_self
    unfold dcl at h1 ⊢
    rw [List.flatMap_cons, List.length_append, h1, List.length_cons]
    simp only [u8s, List.length_map, h2]
    omega
theorem dcl_one (D : List (List Nat)) : ∀ u ∈ dcl D, u.oneCell' = true := fun u hu => by
  unfold dcl at hu
  obtain ⟨d, _, hd⟩ := List.mem_flatMap.1 hu
  exact u8s_oneH d u hd
theorem range_app {w : World} {b o : Nat} {xs ys : List Value} (h1 : w.rangeAt b o xs) (h2 : w.rangeAt b (o + xs.length) ys) : w.rangeAt b o (xs ++ ys) := fun j v hj => by
  by_cases h : j < xs.length
  · rw [List.getElem?_append_left h] at hj
    exact h1 j v hj
  · rw [List.getElem?_append_right (by omega)] at hj
    have h3 := h2 _ v hj
    rwa [show o + xs.length + (j - xs.length) = o + j from by omega] at h3
theorem range_left {w : World} {b o : Nat} {xs ys : List Value} (h : w.rangeAt b o (xs ++ ys)) : w.rangeAt b o xs := fun j v hj => h j v (by rw [List.getElem?_append_left (List.getElem?_eq_some_iff.1 hj).1]; exact hj)
theorem range_right {w : World} {b o : Nat} {xs ys : List Value} (h : w.rangeAt b o (xs ++ ys)) : w.rangeAt b (o + xs.length) ys := fun j v hj => by
  have h1 := h (xs.length + j) v (by rw [List.getElem?_append_right (by omega), Nat.add_sub_cancel_left]; exact hj)
  rwa [← Nat.add_assoc] at h1
theorem dcl_range (w : World) (b : Nat) : ∀ (D : List (List Nat)) (o : Nat), (∀ d ∈ D, d.length = 32) → (∀ j, j < D.length → w.rangeAt b (o + j * 32) (u8s (D.getD j []))) → w.rangeAt b o (dcl D)
  | [], o, _, _ => fun j v hj => by cases hj
  | d :: r, o, hl, h => by
    have h0 := h 0 (by simp)
    rw [Nat.zero_mul, Nat.add_zero] at h0
    have hd : (u8s d).length = 32 := by simp [u8s, hl d List.mem_cons_self]
    refine range_app h0 ?_
    show w.rangeAt b (o + (u8s d).length) _
    rw [hd]
    refine dcl_range w b r (o + 32) (fun x hx => hl x (List.mem_cons_of_mem _ hx)) fun j hj => ?_
    have h1 := h (j + 1) (by simp only [List.length_cons]; omega)
    rw [List.getD_cons_succ] at h1
    rwa [show o + 32 + j * 32 = o + (j + 1) * 32 from by omega]
theorem range_dcl (w : World) (b : Nat) : ∀ (D : List (List Nat)) (o : Nat), (∀ d ∈ D, d.length = 32) → w.rangeAt b o (dcl D) → ∀ j, j < D.length → w.rangeAt b (o + j * 32) (u8s (D.getD j []))
  | [], o, _, _, j, hj => absurd hj (Nat.not_lt_zero _)
  | d :: r, o, hl, h, 0, _ => by
    rw [Nat.zero_mul, Nat.add_zero]
    exact range_left (ys := dcl r) h
  | d :: r, o, hl, h, j + 1, hj => by
    have hd : (u8s d).length = 32 := by simp [u8s, hl d List.mem_cons_self]
    have h1 := range_right (xs := u8s d) (ys := dcl r) h
    rw [hd] at h1
    have h2 := range_dcl w b r (o + 32) (fun x hx => hl x (List.mem_cons_of_mem _ hx)) h1 j (by simpa using hj)
    rw [List.getD_cons_succ]
    rwa [show o + 32 + j * 32 = o + (j + 1) * 32 from by omega] at h2
/-- digests in memory, and the slice's bounds -/
structure Dgs (w : World) (a : Option Addr) (m c : Nat) (D : List (List Nat)) : Prop where
  at_ : DgAt w (.slice a m c) D
  cap : m ≤ c
  nil : a = none → c = 0
theorem Dgs.len {w : World} {a : Option Addr} {m c : Nat} {D : List (List Nat)} (h : Dgs w a m c D) : m = D.length := by
  obtain ⟨a', c', h1, _⟩ := h.at_
  simp only [Value.slice.injEq] at h1
  exact h1.2.1
theorem Dgs.l32 {w : World} {a : Option Addr} {m c : Nat} {D : List (List Nat)} (h : Dgs w a m c D) : ∀ d ∈ D, d.length = 32 := by
  obtain ⟨a', c', _, h2, _⟩ := h.at_
  exact fun d hd => (h2 d hd).1
theorem Dgs.rng {w : World} {a : Option Addr} {m c : Nat} {D : List (List Nat)} (h : Dgs w a m c D) (hne : D ≠ []) : ∃ b o, a = some ⟨b, o, none⟩ ∧ w.rangeAt b o (dcl D) := by
  obtain ⟨a', c', h1, h2, h3⟩ := h.at_
  obtain ⟨b, o, rfl, h4⟩ := h3 hne
  simp only [Value.slice.injEq] at h1
  exact ⟨b, o, h1.1, dcl_range w b D o (fun d hd => (h2 d hd).1) h4⟩
theorem Dgs.below {w w' : World} {a : Option Addr} {m c : Nat} {D : List (List Nat)} (h : Dgs w a m c D) (k : Below w.heap.size w w') : Dgs w' a m c D := by
  refine ⟨?_, h.cap, h.nil⟩
  obtain ⟨a', c', h1, h2, h3⟩ := h.at_
  refine ⟨a', c', h1, h2, fun hne => ?_⟩
  obtain ⟨b, o, e, h4⟩ := h3 hne
  exact ⟨b, o, e, fun j hj => range_below (h4 j hj) k⟩
theorem Dgs.kept {w w' : World} {a : Option Addr} {m c b : Nat} {D : List (List Nat)} (h : Dgs w a m c D) (k : Kept b w w') (hb : ∀ ad, a = some ad → ad.block ≠ b) : Dgs w' a m c D := by
  refine ⟨?_, h.cap, h.nil⟩
  obtain ⟨a', c', h1, h2, h3⟩ := h.at_
  refine ⟨a', c', h1, h2, fun hne => ?_⟩
  obtain ⟨q, o, e, h4⟩ := h3 hne
  simp only [Value.slice.injEq] at h1
  refine ⟨q, o, e, fun j hj u v hu => ?_⟩
  have h5 := h4 j hj u v hu
  rw [World.cell?_of_block (a := ⟨q, o + j * 32 + u, none⟩) (k.block q (World.block_lt_of_cell? _ _ h5) (hb _ (h1.1.trans e)))]
  exact h5
theorem dgs_of_owns {w : World} {base n : Nat} {v : Value} {D : List (List Nat)} (h : w.ownsRow base 30 32 v n (dcl D)) (hl : ∀ d ∈ D, d.length = 32 ∧ ∀ x ∈ d, x < 256) (hn : n = D.length) : ∃ a c, v = .slice a n c ∧ Dgs w a n c D ∧ ∀ ad, a = some ad → base ≤ ad.block := by
  obtain ⟨h1, h2⟩ := h
  rcases h2 with ⟨rfl, rfl⟩ | ⟨g, cap, cur, rfl, h4, h5, h6, h7, h8, h9⟩
  · have hD : D = [] := List.length_eq_zero_iff.1 hn.symm
    subst hD
    exact ⟨none, 0, rfl, ⟨⟨none, 0, rfl, hl, fun e => absurd rfl e⟩, Nat.le_refl _, fun _ => rfl⟩, fun ad e => by cases e⟩
  · refine ⟨_, cap, rfl, ⟨⟨_, cap, by rw [← hn], hl, fun _ => ⟨g, 0, rfl, range_dcl w g D 0 (fun d hd => (hl d hd).1) fun j v hj => ?_⟩⟩, by omega, fun e => by cases e⟩, fun ad e => by cases e; exact h4⟩
    rw [Nat.zero_add, cell_of_heap h5]
    have hj2 := (List.getElem?_eq_some_iff.1 hj).1
    rw [← hj, ← h9, List.getElem?_take_of_lt (by omega)]
    simp
theorem wpList_cloneD {w : World} {ops : Array Oper} {rest : List Oper} {o : Oper} {a : Act} {Q : Exit → Act → World → Prop} (hgd : o.guard = none) (s x : Operand)
    (ho : o.op = .call { callee := .builtin .append, args := #[s, x], argTypes := #[60, 60] }) (g0 : Nat) (hs : a.eval s = .slice (some ⟨g0, 0, none⟩) 0 0) (hg0 : w.heap[g0]? = some (.cells #[] 30 (0, 0)))
    (sa : Option Addr) (m c : Nat) (D : List (List Nat)) (hx : a.eval x = .slice sa m c) (hb : Dgs w sa m c D) (hm : m ≤ 100000)
    (h : ∀ a' c' w', Dgs w' a' m c' D → (∀ ad, a' = some ad → g0 ≤ ad.block) → Kept g0 w w' → wpList Tryd.prog ops Q rest (a.put o.dst (.slice a' m c')) w') :
    wpList Tryd.prog ops Q (o :: rest) a w := by
  obtain ⟨i0, hi, hz0, hz1, hz2⟩ := info_parts info52
  have hown : w.ownsRow g0 30 32 (.slice (some ⟨g0, 0, none⟩) 0 0) 0 [] := ⟨rfl, .inr ⟨g0, 0, #[], rfl, Nat.le_refl _, hg0, Nat.le_refl _, Nat.zero_le _, rfl, rfl⟩⟩
  have hlt := lt_of_heap hg0
  have hlen := hb.len
  have hDl : ∀ d ∈ D, d.length = 32 ∧ ∀ x ∈ d, x < 256 := by obtain ⟨_, _, _, h2, _⟩ := hb.at_; exact h2
  have fin : ∀ v' w', w'.ownsRow g0 30 32 v' m (dcl D) → Kept g0 w w' → wpList Tryd.prog ops Q rest (a.put o.dst v') w' := fun v' w' h1 h2 => by
    obtain ⟨a', c', rfl, h3, h4⟩ := dgs_of_owns h1 hDl hlen
    exact h a' c' w' h3 h4 h2
  by_cases hD : D = []
  · subst hD
    obtain rfl : m = 0 := hlen
    cases sa with
    | none =>
      refine Go.wpList_append_own_none hgd s x _ ho g0 _ i0 32 Tryd.underlying60 hi _ 0 [] hs hown (by rw [hx, hb.nil rfl]) ?_
      exact fin _ _ hown (Kept.refl _ _)
    | some ad =>
      refine Go.wpList_append_own _ hgd s x _ ho g0 30 i0 _ 32 32 Tryd.underlying60 hi hz0 hz1 hz2 rfl (by decide) _ 0 [] hs hown ad 0 c [] hx rfl (fun j u hj => by cases hj) (fun u hu => absurd hu List.not_mem_nil) (by unfold maxLen; omega) (by omega) (by omega) ?_
      intro v' w' hown' hg hn
      exact fin _ _ hown' ⟨hg.os, hg.tape, hg.output, hg.size, fun k hk hkg => hg.block k hk (by intro e; exact hkg (Option.some.inj e))⟩
  · obtain ⟨b, o', rfl, hr⟩ := hb.rng hD
    refine Go.wpList_append_own _ hgd s x _ ho g0 30 i0 _ 32 32 Tryd.underlying60 hi hz0 hz1 hz2 rfl (by decide) _ 0 [] hs hown ⟨b, o', none⟩ m c (dcl D) hx (by rw [dcl_length D (fun d hd => (hDl d hd).1)]; omega) (fun j u hj => by rw [add_noneD]; exact hr j u hj) (dcl_one D) (by unfold maxLen; omega) (by omega) (by omega) ?_
    intro v' w' hown' hg hn
    rw [Nat.zero_add, List.nil_append] at hown'
    exact fin _ _ hown' ⟨hg.os, hg.tape, hg.output, hg.size, fun k hk hkg => hg.block k hk (by intro e; exact hkg (Option.some.inj e))⟩

set_option maxRecDepth 100000 in
set_option maxHeartbeats 2000000 in
theorem own_man (k n t s : Int) (od : List Nat) (a : Option Addr) (m c : Nat) (D : List (List Nat)) (w : World) (hod : od.length = 32) (hb : Dgs w a m c D) (hm : m ≤ 100000) :
    Calls Tryd.prog 29 #[.agg (mcells k n t s od (.slice a m c)).toArray] w fun e w' => ∃ a' c', e = .returned (.agg (mcells k n t s od (.slice a' m c')).toArray) ∧ Dgs w' a' m c' D ∧ Below w.heap.size w w' := by
  obtain ⟨w2, hw2⟩ : ∃ y, y = (w.alloc (.cells (mcells k n t s od (.slice a m c)).toArray 62)).alloc (.cells mz 62) := ⟨_, rfl⟩
  have hs1 : (w.alloc (.cells (mcells k n t s od (.slice a m c)).toArray 62)).heap.size = w.heap.size + 1 := by simp
  have hb2 : Below w.heap.size w w2 := by rw [hw2]; exact ((Below.refl _ _).alloc (Nat.le_refl _) _).alloc (by simp) _
  have HM2 := hid (show ManAt w2 w.heap.size k n t s od (.slice a m c) from by
    rw [hw2]
    exact (heap_alloc_old _ _ (by simp)).trans (heap_new _ _))
  have HR2 := hid (show w2.heap[w.heap.size + 1]? = some (.cells mz 62 (0, 0)) from by rw [hw2, ← hs1]; exact heap_new _ _)
  have HB2 := hid hb2
  have hsz2 : w.heap.size + 1 < w2.heap.size := lt_of_heap HR2.out
  have HDA := hid (show Dgs (w2.alloc (.cells #[] 30)) a m c D from (hb.below hb2).below ((Below.refl _ _).alloc (Nat.le_refl _) _))
  have HOD := hid hod
  have d36 := (HM2.out.c hod).2.2.2.2
  have hlt2 : w.heap.size < w2.heap.size := by omega
  have HST := hid (fun (a5 : Option Addr) (c5 : Nat) (w5 : World) (k5 : Kept w2.heap.size (w2.alloc (.cells #[] 30)) w5) => (show ManAt w5 w.heap.size k n t s od (.slice a m c) ∧ w5.heap[w.heap.size + 1]? = some (.cells mz 62 (0, 0)) ∧ Below w.heap.size w w5 from
    ⟨(k5.block _ (by simp; omega) (by omega)).trans ((heap_alloc_old _ _ hlt2).trans HM2.out), (k5.block _ (by simp; omega) (by omega)).trans ((heap_alloc_old _ _ hsz2).trans HR2.out), (HB2.out.alloc HB2.out.size _).trans (k5.below (by have := HB2.out.size; simp; omega) HB2.out.size)⟩))
  clear hs1 hb2 hb hod
  go_enter Tryd.func29, Tryd.ntmps29
  go_upto_region 1 with fail
  change Code.wp _ _ _ _ ((w.alloc (.cells (mcells k n t s od (.slice a m c)).toArray 62)).alloc (.cells mz 62))
  rw [← hw2]
  clear hw2
  go_wp2_with (first
    | (refine wpList_cloneD (by rfl) (.tmp 3) (.tmp 5) (by rfl) w2.heap.size (by rfl) (heap_new _ _) a m c D (by rfl) HDA.out hm ?_
       intro a5 c5 w5 hd5 hl5 hk5
       have h5 := HST.out a5 c5 w5 hk5
       have g36 := (h5.1.c HOD.out).2.2.2.2
       have f36 := free_of_heap h5.1 36
       have HM6 := hid (man_row h5.1 HOD.out (.slice a5 m c5))
       have HR6 := hid (show (w5.setCell ⟨w.heap.size, 36, none⟩ (.slice a5 m c5)).heap[w.heap.size + 1]? = some (.cells mz 62 (0, 0)) from (heap_setCell_other w5 _ _ _ (by show w.heap.size + 1 ≠ w.heap.size; omega)).trans h5.2.1)
       have HB6 := hid (show Below w.heap.size w (w5.setCell ⟨w.heap.size, 36, none⟩ (.slice a5 m c5)) from h5.2.2.setCell (Nat.le_refl _) _)
       have HD5 := hid hd5
       have HL5 := hid hl5
       have HRA := hid (show (w5.setCell ⟨w.heap.size, 36, none⟩ (.slice a5 m c5)).rangeAt w.heap.size 0 (mcells k n t s od (.slice a5 m c5)) from range_of_heapD HM6.out)
       have HML := hid (mcells_length k n t s od (.slice a5 m c5) HOD.out)
       have HON := hid (mcells_one k n t s od a5 m c5)
       have HIFa := hid (show (Tryd.prog.info? 62).map (·.size) = some (mcells k n t s od (.slice a5 m c5)).length from by rw [HML.out]; kernel_rfl)
       have HIFb := hid (show (Tryd.prog.info? 62).map (·.size) = some (mcells k n t s od (.slice a5 m c5)).toArray.size from by rw [List.size_toArray, HML.out]; kernel_rfl)
       have HSZb := hid (show mz.size = (mcells k n t s od (.slice a5 m c5)).toArray.size from by rw [mz_size]; rw [List.size_toArray, HML.out])
       clear hd5 hl5 hk5 h5)
    | (refine wpList_load_mid (by rfl) 62 (.tmp 1) (by rfl) w.heap.size 0 (by rfl) (mcells k n t s od (.slice a5 m c5)) _ HRA.out Tryd.underlying62 rfl HIFa.out ?_)
    | (refine wpList_store_row (by rfl) 62 (.tmp 2) (.tmp 8) (by rfl) (w.heap.size + 1) _ (mcells k n t s od (.slice a5 m c5)).toArray _ (by rfl) (by rfl) HR6.out HIFb.out HSZb.out HON.out ?_
       intro w8 hw8 hk8))
  have hres := run_loadVar_row (P := Tryd.prog) _ _ 62 62 _ (0, 0) _ hw8 Tryd.underlying62 rfl HIFb.out
  refine bodyPost_ret (v := .agg (mcells k n t s od (.slice a5 m c5)).toArray) (results_at Tryd.results29 rfl hres) rfl ⟨a5, c5, rfl, ?_, HB6.out.trans (hk8.below HB6.out.size (by omega))⟩
  exact (HD5.out.kept ((Kept.refl w.heap.size w5).setCell (p := ⟨w.heap.size, 36, none⟩) rfl (.slice a5 m c5)) (fun ad e => by have := HL5.out ad e; omega)).kept hk8 (fun ad e => by have := HL5.out ad e; omega)
end Go.Proofs.YteaidpbopgjleaaDoor

namespace Go.Proofs.YteaidpbopgjleaaDoor
open Go Go.RowKit
set_option linter.unusedVariables false

theorem wpList_load_wantD {P : Program} {ops : Array Oper} {rest : List Oper} {op : Oper} {a : Act} {w : World} {Q : Exit → Act → World → Prop} (hw : Region.wanted op (yielded ops a.tmps) = true) (ty : TypeId) (x : Operand) (ho : op.op = .load ty x)
    (b o : Nat) (hx : a.eval x = .pointer (some ⟨b, o, none⟩)) (cs : List Value) (d : TypeDesc) (hc : w.rangeAt b o cs)
    (hu : P.underlying ty = some d) (hd : d.isRow = true) (hi : (P.info? ty).map (·.size) = some cs.length)
    (h : wpList P ops Q rest (a.put op.dst (.agg cs.toArray)) w) : wpList P ops Q (op :: rest) a w :=
  BigFrame.wpList_want hw fun _ hK => wp_load_mid ty x ho b o hx cs d hc hu hd hi (hK _ _ h)
theorem step_load_midD {P : Program} {ops : Array Oper} {o : Oper} {a : Act} {w : World} {K : Act → World → Prop} {Q : Exit → Act → World → Prop} {E : Prop} (hgd : o.guard = none) (ty : TypeId) (x : Operand) (ho : o.op = .load ty x)
    (b off : Nat) (hx : a.eval x = .pointer (some ⟨b, off, none⟩)) (cs : List Value) (d : TypeDesc) (hc : w.rangeAt b off cs)
    (hu : P.underlying ty = some d) (hd : d.isRow = true) (hi : (P.info? ty).map (·.size) = some cs.length)
    (h : K (a.put o.dst (.agg cs.toArray)) w) : if Region.wanted o (yielded ops a.tmps) = true then Oper.wp P o a w K Q else E := by
  rw [if_pos (by simp [Region.wanted, hgd])]
  exact wp_load_mid ty x ho b off hx cs d hc hu hd hi h
theorem wpQuiet_load_midD {P : Program} {ops : Array Oper} {rest : List Oper} {o : Oper} {a : Act} {w : World} {Q : Act → Prop} (hgd : o.guard = none) (ty : TypeId) (x : Operand) (ho : o.op = .load ty x)
    (b off : Nat) (hx : a.eval x = .pointer (some ⟨b, off, none⟩)) (cs : List Value) (d : TypeDesc) (hc : w.rangeAt b off cs)
    (hu : P.underlying ty = some d) (hd : d.isRow = true) (hi : (P.info? ty).map (·.size) = some cs.length)
    (h : wpQuiet P ops (fun w' => ∃ n, w' = w.drewN n) Q rest (a.put o.dst (.agg cs.toArray))) : wpQuiet P ops (fun w' => ∃ n, w' = w.drewN n) Q (o :: rest) a :=
  wpQuiet_step fun K hK => by
    rw [if_pos (by simp [Region.wanted, hgd])]
    refine ⟨.agg cs.toArray, ?_, hK _ h⟩
    rintro w' ⟨n, rfl⟩
    have hr := run_loadVar_mid (P := P) (w.drewN n) b off ty cs d hc hu hd hi
    unfold Oper.quietAt execOp
    simp only [ho, hx, Instr.loadAt, Instr.sureAddr, Sem.run_bind, Sem.run_pure, Result.andThen_ok, hr]
    exact ⟨rfl, rfl⟩
theorem man_range4 {w : World} {b : Nat} {k n t s : Int} {od : List Nat} {v : Value} (h : ManAt w b k n t s od v) : w.rangeAt b 4 (u8s od) := fun j u hj => by
  have h1 := range_of_heapD h (4 + j) u (by
    unfold mcells
    rw [List.append_assoc, List.getElem?_append_right (by simp), List.getElem?_append_left (by simp; exact (List.getElem?_eq_some_iff.1 hj).1)]
    simpa using hj)
  rwa [Nat.zero_add] at h1
theorem range_drewN {w : World} {b o : Nat} {cs : List Value} (h : w.rangeAt b o cs) (n : Nat) : (w.drewN n).rangeAt b o cs := h

set_option maxRecDepth 100000 in
set_option maxHeartbeats 2000000 in
theorem same_man (k n t s : Int) (od : List Nat) (a a' : Option Addr) (m c c' : Nat) (D : List (List Nat)) (w : World) (hod : od.length = 32) (hb : Dgs w a m c D) (hb' : Dgs w a' m c' D) (hm : m ≤ 100000) :
    Calls Tryd.prog 32 #[.agg (mcells k n t s od (.slice a m c)).toArray, .agg (mcells k n t s od (.slice a' m c')).toArray] w fun e w' => e = .returned (.bool true) ∧ Below w.heap.size w w' := by
  obtain ⟨w2, hw2⟩ : ∃ y, y = (w.alloc (.cells (mcells k n t s od (.slice a m c)).toArray 62)).alloc (.cells (mcells k n t s od (.slice a' m c')).toArray 62) := ⟨_, rfl⟩
  have hs1 : (w.alloc (.cells (mcells k n t s od (.slice a m c)).toArray 62)).heap.size = w.heap.size + 1 := by simp
  have hb2 : Below w.heap.size w w2 := by rw [hw2]; exact ((Below.refl _ _).alloc (Nat.le_refl _) _).alloc (by simp) _
  have HM2 := hid (show ManAt w2 w.heap.size k n t s od (.slice a m c) from by
    rw [hw2]
    exact (heap_alloc_old _ _ (by simp)).trans (heap_new _ _))
  have HN2 := hid (show ManAt w2 (w.heap.size + 1) k n t s od (.slice a' m c') from by rw [hw2, ← hs1]; exact heap_new _ _)
  have HB2 := hid hb2
  obtain ⟨c0, c1, c2, c3, c36⟩ := HM2.out.c hod
  obtain ⟨d0, d1, d2, d3, d36⟩ := HN2.out.c hod
  have HRA := hid (man_range4 HM2.out)
  have HRB := hid (man_range4 HN2.out)
  have HIF := hid (show (Tryd.prog.info? 30).map (·.size) = some (u8s od).length from by rw [show (u8s od).length = 32 from by simp [u8s, hod]]; kernel_rfl)
  have e1 := fun wx => eql_sameD od hod wx
  have HD := hid (hb.below hb2)
  have HD' := hid (hb'.below hb2)
  have HL := hid hb.len
  clear hs1 hb2 hb hb' hod
  go_enter Tryd.func32, Tryd.ntmps32
  go_upto_region 1 with fail
  change Code.wp _ _ _ _ ((w.alloc (.cells (mcells k n t s od (.slice a m c)).toArray 62)).alloc (.cells (mcells k n t s od (.slice a' m c')).toArray 62))
  rw [← hw2]
  clear hw2
  go_wp2_with (first
    | (refine wpList_load_wantD (by rfl) 30 (.tmp 33) (by rfl) w.heap.size 4 (by rfl) (u8s od) _ HRA.out Tryd.underlying30 rfl HIF.out ?_)
    | (refine wpList_load_wantD (by rfl) 30 (.tmp 35) (by rfl) (w.heap.size + 1) 4 (by rfl) (u8s od) _ HRB.out Tryd.underlying30 rfl HIF.out ?_))
  clear c0 c1 c2 c3 d0 d1 d2 d3 e1 HRA HRB HIF
  go_loopw [5] (fun iv wr => ∃ i : Nat, i ≤ m ∧ iv = .int .i64 i ∧ Hid (Below w2.heap.size w2 wr)) (fun iv _ => m - (intOf iv).toNat)
  case atStart => exact ⟨0, by omega, rfl, hid (Below.refl _ _)⟩
  case round =>
    obtain ⟨i, hi, rfl, HB⟩ := hrel
    have hlt1 : w.heap.size + 1 < w2.heap.size := lt_of_heap HN2.out
    have hlt0 : w.heap.size < w2.heap.size := by omega
    have c36 := (HB.out.cell (p := ⟨w.heap.size, 36, none⟩) hlt0).trans c36
    have d36 := (HB.out.cell (p := ⟨w.heap.size + 1, 36, none⟩) hlt1).trans d36
    by_cases him : i < m
    · have hI : (i : Int) < (m : Int) := by omega
      have hne : D ≠ [] := fun e => by have h := HL.out; rw [e] at h; simp at h; omega
      obtain ⟨_, _, hv, hDl, hr⟩ := HD.out.at_
      obtain ⟨b1, o1, rfl, hr1⟩ := hr hne
      simp only [Value.slice.injEq] at hv
      obtain ⟨rfl, -, rfl⟩ := hv
      obtain ⟨_, _, hv, -, hr⟩ := HD'.out.at_
      obtain ⟨b2, o2, rfl, hr2⟩ := hr hne
      simp only [Value.slice.injEq] at hv
      obtain ⟨rfl, -, rfl⟩ := hv
      have hiD : i < D.length := by rw [← HL.out]; exact him
      have g1 := range_below (hr1 i hiD) HB.out
      have g2 := range_below (hr2 i hiD) HB.out
      have hd32 : (D.getD i []).length = 32 := by rw [List.getD_eq_getElem?_getD, List.getElem?_eq_getElem hiD]; exact (hDl _ (List.getElem_mem _)).1
      generalize D.getD i [] = d at *
      obtain ⟨d', hd'⟩ : ∃ x, x = d := ⟨_, rfl⟩
      rw [← hd'] at g2
      have HDD := hid hd'
      have HG1 := hid g1
      have HG2 := hid g2
      have hif2 : (Tryd.prog.info? 30).map (·.size) = some (u8s d').length := by rw [hd', show (u8s d).length = 32 from by simp [u8s, hd32]]; kernel_rfl
      have HIF := hid (show (Tryd.prog.info? 30).map (·.size) = some (u8s d).length from by rw [show (u8s d).length = 32 from by simp [u8s, hd32]]; kernel_rfl)
      have e1 : ∀ wx, (Op.equalIn 10000 30 (.agg (u8s d).toArray) (.agg (u8s d').toArray)).run Tryd.prog wx = .ok true wx := fun wx => by rw [hd']; exact eql_sameD d hd32 wx
      clear hd'
      have K0 := hid (show wr.drew.cell? ⟨w.heap.size, 36, none⟩ = some (.slice (some ⟨b1, o1, none⟩) m c) ∧ wr.drew.cell? ⟨w.heap.size + 1, 36, none⟩ = some (.slice (some ⟨b2, o2, none⟩) m c') ∧ wr.drew.rangeAt b1 (o1 + i * 32) (u8s d) ∧ wr.drew.rangeAt b2 (o2 + i * 32) (u8s d') from ⟨c36, d36, HG1.out, HG2.out⟩)
      have hu := Tryd.underlying30
      have hif := HIF.out
      clear hr1 hr2 hDl g1 g2 hd32 hne hr
      go_wp2
      refine wp_region_quiet_lit (by kernel_rfl) (by kernel_rfl) ?_
      repeat (any_goals (first
        | (refine wpQuiet_load_midD (by rfl) 30 (.tmp 58) (by rfl) b1 (o1 + i * 32) (by rfl) (u8s d) _ HG1.out Tryd.underlying30 rfl HIF.out ?_)
        | (refine wpQuiet_load_midD (by rfl) 30 (.tmp 63) (by rfl) b2 (o2 + i * 32) (by rfl) (u8s d') _ HG2.out Tryd.underlying30 rfl hif2 ?_)
        | go_big_quiet_step (fail)
        | quiet_step (fail)))
      refine wpQuiet_nil ?_
      intro _ hw'
      obtain ⟨nq, hw''⟩ := hw'
      subst hw''
      all_goals
        have HBN := hid (bel_drewN HB.out nq)
        clear hu hif hif2
        go_wp2
        exact ⟨⟨i + 1, by omega, by go_num, HBN⟩, by simp [intOf]; omega⟩
    · obtain rfl : i = m := by omega
      have hI : ¬ ((i : Int) < (i : Int)) := by omega
      have HF := hid (HB2.out.trans (HB.out.mono HB2.out.size))
      go_wp2
      go_ret
      exact ⟨rfl, HF.out⟩
end Go.Proofs.YteaidpbopgjleaaDoor
