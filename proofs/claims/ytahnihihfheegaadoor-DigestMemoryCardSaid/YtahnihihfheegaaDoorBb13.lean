/-
  Two digests that read alike are equal; a guarded append. · A copy of a manifest; two manifests that read alike are the same. · Same: two manifests that read alike. · A manifest that came in. · PieceDigest of any index. · Two digests are compared. · CheckPiece of digest and of the reference.
-/
import Derived.Test.YtahnihihfheegaaDoorBb5
import Derived.ChangeKeysEq
import Derived.Test.YtahnihihfheegaaDoorBb12
import Derived.Laws.AppendOwnNone
import Derived.Deep.MidRow
import Derived.Deep.QuietTactic
import Derived.BigQuiet
import Derived.ChangeArms
import Derived.WideShapes
import Derived.Test.YtahnihihfheegaaDoorBb6
import Derived.Test.YtahnihihfheegaaDoorBb10
import Derived.Test.YtahnihihfheegaaDoorBb8
import Derived.Test.YtahnihihfheegaaDoorBb9
namespace Go.Proofs.YtahnihihfheegaaDoor
open Go Go.RowKit
set_option linter.unusedVariables false

theorem eqItems_sameD (d : Nat) (l : List Nat) (w : World) : ∀ is : List Nat, (∀ i ∈ is, i < l.length) → (Op.eqItems (d + 1) 5 1 (u8s l).toArray (u8s l).toArray is).run Tryd.prog w = .ok true w
  | [], _ => by simp [Op.eqItems]
  | i :: is, h => by
    have hi := h i (by simp)
    have hg : (u8s l).toArray[i * 1]? = some (.int .u8 ((l.getD i 0 : Nat) : Int)) := by
      simp [u8s, hi]
    have hp := run_part_plain (P := Tryd.prog) w (e := 5) (by kernel_rfl) hg
    have he := run_equalIn_int (P := Tryd.prog) w d 5 .u8 .u8 ((l.getD i 0 : Nat) : Int) ((l.getD i 0 : Nat) : Int) Tryd.underlying5
    have ih := eqItems_sameD d l w is (fun j hj => h j (by simp [hj]))
    simp only [Op.eqItems, Sem.run_bind, hp, he, Result.andThen_ok, beq_self_eq_true, Bool.not_true, Bool.false_eq_true, if_false, ih]
theorem eql_sameD (l : List Nat) (h : l.length = 32) (w : World) : (Op.equalIn 10000 24 (.agg (u8s l).toArray) (.agg (u8s l).toArray)).run Tryd.prog w = .ok true w := by
  have hi0 : (Tryd.prog.info? 5).map (·.size) = some 1 := by kernel_rfl
  obtain ⟨i, hi, _⟩ := Option.map_eq_some_iff.1 hi0
  have hc : Tryd.prog.cellsOf 5 = 1 := by kernel_rfl
  rw [show (10000 : Nat) = 9999 + 1 from rfl, run_equalIn_array w 9999 _ _ Tryd.underlying24 hi, hc]
  have hr : ∀ j ∈ List.range 32, j < l.length := fun j hj => by
    have h9 : j < 32 := List.mem_range.1 hj
    rw [h]
    exact h9
  exact eqItems_sameD 9998 l w (List.range 32) hr
theorem wpList_guarded {P : Program} {ops : Array Oper} {rest : List Oper} {o : Oper} {a : Act} {w : World} {Q : Exit → Act → World → Prop} (hw : Region.wanted o (yielded ops a.tmps) = true) (h : wpList P ops Q ({ o with guard := none } :: rest) a w) : wpList P ops Q (o :: rest) a w := by
  unfold wpList at h ⊢
  rw [if_pos hw]
  rw [if_pos (show Region.wanted { o with guard := none } (yielded ops a.tmps) = true from rfl)] at h
  cases o
  exact h
theorem wpList_cloneG {w : World} {ops : Array Oper} {rest : List Oper} {o : Oper} {a : Act} {Q : Exit → Act → World → Prop} (hw : Region.wanted o (yielded ops a.tmps) = true) (s x : Operand)
    (ho : o.op = .call { callee := .builtin .append, args := #[s, x], argTypes := #[22, 22] }) (g0 : Nat) (hs : a.eval s = .slice (some ⟨g0, 0, none⟩) 0 0) (hg0 : w.heap[g0]? = some (.cells #[] 5 (0, 0)))
    (sa : Option Addr) (m c : Nat) (l : List Nat) (hx : a.eval x = .slice sa m c) (hb : Bs w (.slice sa m c) l) (hnil : sa = none → c = 0) (hm : m ≤ 4611686018427)
    (h : ∀ a' c' w', Bs w' (.slice a' m c') l → m ≤ c' → (∀ ad, a' = some ad → g0 ≤ ad.block ∧ ad.block < w'.heap.size) → (a' = none → c' = 0) → Kept g0 w w' → w'.ownsRow g0 5 1 (.slice a' m c') m (u8s l) → wpList Tryd.prog ops Q rest (a.put o.dst (.slice a' m c')) w') :
    wpList Tryd.prog ops Q (o :: rest) a w :=
  wpList_guarded hw (wpList_cloneB (o := { o with guard := none }) rfl s x ho g0 hs hg0 sa m c l hx hb hnil hm h)
end Go.Proofs.YtahnihihfheegaaDoor

namespace Go.Proofs.YtahnihihfheegaaDoor
open Go Go.RowKit
set_option linter.unusedVariables false

/-- the cells of digests, one behind the other -/
def dcl (D : List (List Nat)) : List Value := D.flatMap u8s
theorem dcl_length (D : List (List Nat)) (h : ∀ d ∈ D, d.length = 32) : (dcl D).length = 32 * D.length := by
  induction D with
  | nil => rfl
  | cons d r ih =>
    have h1 := ih (fun x hx => h x (List.mem_cons_of_mem _ hx))
    have h2 := h d List.mem_cons_self
    unfold dcl at h1 ⊢
    rw [List.flatMap_cons, List.length_append, h1, List.length_cons]
    simp only [u8s, List.length_map, h2]
    omega
theorem dcl_one (D : List (List Nat)) : ∀ u ∈ dcl D, u.oneCell' = true := fun u hu => by
  unfold dcl at hu
  obtain ⟨d, _, hd⟩ := List.mem_flatMap.1 hu
  exact u8s_oneH d u hd
theorem range_app {w : World} {b o : Nat} {xs ys : List Value} (h1 : w.rangeAt b o xs) (h2 : w.rangeAt b (o + xs.length) ys) : w.rangeAt b o (xs ++ ys) := fun j v hj => by
  by_cases h : j < xs.length
  · rw [List.getElem?_append_left h] at hj
    exact h1 j v hj
  · rw [List.getElem?_append_right (by omega)] at hj
    have h3 := h2 _ v hj
    rwa [show o + xs.length + (j - xs.length) = o + j from by omega] at h3
theorem range_left {w : World} {b o : Nat} {xs ys : List Value} (h : w.rangeAt b o (xs ++ ys)) : w.rangeAt b o xs := fun j v hj => h j v (by rw [List.getElem?_append_left (List.getElem?_eq_some_iff.1 hj).1]; exact hj)
theorem range_right {w : World} {b o : Nat} {xs ys : List Value} (h : w.rangeAt b o (xs ++ ys)) : w.rangeAt b (o + xs.length) ys := fun j v hj => by
  have h1 := h (xs.length + j) v (by rw [List.getElem?_append_right (by omega), Nat.add_sub_cancel_left]; exact hj)
  rwa [← Nat.add_assoc] at h1
theorem dcl_range (w : World) (b : Nat) : ∀ (D : List (List Nat)) (o : Nat), (∀ d ∈ D, d.length = 32) → (∀ j, j < D.length → w.rangeAt b (o + j * 32) (u8s (D.getD j []))) → w.rangeAt b o (dcl D)
  | [], o, _, _ => fun j v hj => by cases hj
  | d :: r, o, hl, h => by
    have h0 := h 0 (by simp)
    rw [Nat.zero_mul, Nat.add_zero] at h0
    have hd : (u8s d).length = 32 := by simp [u8s, hl d List.mem_cons_self]
    refine range_app h0 ?_
    show w.rangeAt b (o + (u8s d).length) _
    rw [hd]
    refine dcl_range w b r (o + 32) (fun x hx => hl x (List.mem_cons_of_mem _ hx)) fun j hj => ?_
    have h1 := h (j + 1) (by simp only [List.length_cons]; omega)
    rw [List.getD_cons_succ] at h1
    rwa [show o + 32 + j * 32 = o + (j + 1) * 32 from by omega]
theorem range_dcl (w : World) (b : Nat) : ∀ (D : List (List Nat)) (o : Nat), (∀ d ∈ D, d.length = 32) → w.rangeAt b o (dcl D) → ∀ j, j < D.length → w.rangeAt b (o + j * 32) (u8s (D.getD j []))
  | [], o, _, _, j, hj => absurd hj (Nat.not_lt_zero _)
  | d :: r, o, hl, h, 0, _ => by
    rw [Nat.zero_mul, Nat.add_zero]
    exact range_left (ys := dcl r) h
  | d :: r, o, hl, h, j + 1, hj => by
    have hd : (u8s d).length = 32 := by simp [u8s, hl d List.mem_cons_self]
    have h1 := range_right (xs := u8s d) (ys := dcl r) h
    rw [hd] at h1
    have h2 := range_dcl w b r (o + 32) (fun x hx => hl x (List.mem_cons_of_mem _ hx)) h1 j (by simpa using hj)
    rw [List.getD_cons_succ]
    rwa [show o + 32 + j * 32 = o + (j + 1) * 32 from by omega] at h2
/-- digests in memory, and the slice's bounds -/
structure Dgs (w : World) (a : Option Addr) (m c : Nat) (D : List (List Nat)) : Prop where
  at_ : DgAt w (.slice a m c) D
  cap : m ≤ c
  nil : a = none → c = 0
theorem Dgs.len {w : World} {a : Option Addr} {m c : Nat} {D : List (List Nat)} (h : Dgs w a m c D) : m = D.length := by
  obtain ⟨a', c', h1, _⟩ := h.at_
  simp only [Value.slice.injEq] at h1
  exact h1.2.1
theorem Dgs.l32 {w : World} {a : Option Addr} {m c : Nat} {D : List (List Nat)} (h : Dgs w a m c D) : ∀ d ∈ D, d.length = 32 := by
  obtain ⟨a', c', _, h2, _⟩ := h.at_
  exact fun d hd => (h2 d hd).1
theorem Dgs.rng {w : World} {a : Option Addr} {m c : Nat} {D : List (List Nat)} (h : Dgs w a m c D) (hne : D ≠ []) : ∃ b o, a = some ⟨b, o, none⟩ ∧ w.rangeAt b o (dcl D) := by
  obtain ⟨a', c', h1, h2, h3⟩ := h.at_
  obtain ⟨b, o, rfl, h4⟩ := h3 hne
  simp only [Value.slice.injEq] at h1
  exact ⟨b, o, h1.1, dcl_range w b D o (fun d hd => (h2 d hd).1) h4⟩
theorem Dgs.below {w w' : World} {a : Option Addr} {m c : Nat} {D : List (List Nat)} (h : Dgs w a m c D) (k : Below w.heap.size w w') : Dgs w' a m c D := by
  refine ⟨?_, h.cap, h.nil⟩
  obtain ⟨a', c', h1, h2, h3⟩ := h.at_
  refine ⟨a', c', h1, h2, fun hne => ?_⟩
  obtain ⟨b, o, e, h4⟩ := h3 hne
  exact ⟨b, o, e, fun j hj => range_below (h4 j hj) k⟩
theorem Dgs.kept {w w' : World} {a : Option Addr} {m c b : Nat} {D : List (List Nat)} (h : Dgs w a m c D) (k : Kept b w w') (hb : ∀ ad, a = some ad → ad.block ≠ b) : Dgs w' a m c D := by
  refine ⟨?_, h.cap, h.nil⟩
  obtain ⟨a', c', h1, h2, h3⟩ := h.at_
  refine ⟨a', c', h1, h2, fun hne => ?_⟩
  obtain ⟨q, o, e, h4⟩ := h3 hne
  simp only [Value.slice.injEq] at h1
  refine ⟨q, o, e, fun j hj u v hu => ?_⟩
  have h5 := h4 j hj u v hu
  rw [World.cell?_of_block (a := ⟨q, o + j * 32 + u, none⟩) (k.block q (World.block_lt_of_cell? _ _ h5) (hb _ (h1.1.trans e)))]
  exact h5
theorem dgs_of_owns {w : World} {base n : Nat} {v : Value} {D : List (List Nat)} (h : w.ownsRow base 24 32 v n (dcl D)) (hl : ∀ d ∈ D, d.length = 32 ∧ ∀ x ∈ d, x < 256) (hn : n = D.length) : ∃ a c, v = .slice a n c ∧ Dgs w a n c D ∧ ∀ ad, a = some ad → base ≤ ad.block := by
  obtain ⟨h1, h2⟩ := h
  rcases h2 with ⟨rfl, rfl⟩ | ⟨g, cap, cur, rfl, h4, h5, h6, h7, h8, h9⟩
  · have hD : D = [] := List.length_eq_zero_iff.1 hn.symm
    subst hD
    exact ⟨none, 0, rfl, ⟨⟨none, 0, rfl, hl, fun e => absurd rfl e⟩, Nat.le_refl _, fun _ => rfl⟩, fun ad e => by cases e⟩
  · refine ⟨_, cap, rfl, ⟨⟨_, cap, by rw [← hn], hl, fun _ => ⟨g, 0, rfl, range_dcl w g D 0 (fun d hd => (hl d hd).1) fun j v hj => ?_⟩⟩, by omega, fun e => by cases e⟩, fun ad e => by cases e; exact h4⟩
    rw [Nat.zero_add, cell_of_heap h5]
    have hj2 := (List.getElem?_eq_some_iff.1 hj).1
    rw [← hj, ← h9, List.getElem?_take_of_lt (by omega)]
    simp
theorem wpList_cloneD {w : World} {ops : Array Oper} {rest : List Oper} {o : Oper} {a : Act} {Q : Exit → Act → World → Prop} (hgd : o.guard = none) (s x : Operand)
    (ho : o.op = .call { callee := .builtin .append, args := #[s, x], argTypes := #[25, 25] }) (g0 : Nat) (hs : a.eval s = .slice (some ⟨g0, 0, none⟩) 0 0) (hg0 : w.heap[g0]? = some (.cells #[] 24 (0, 0)))
    (sa : Option Addr) (m c : Nat) (D : List (List Nat)) (hx : a.eval x = .slice sa m c) (hb : Dgs w sa m c D) (hm : m ≤ 100000)
    (h : ∀ a' c' w', Dgs w' a' m c' D → (∀ ad, a' = some ad → g0 ≤ ad.block) → Kept g0 w w' → wpList Tryd.prog ops Q rest (a.put o.dst (.slice a' m c')) w') :
    wpList Tryd.prog ops Q (o :: rest) a w := by
  obtain ⟨i0, hi, hz0, hz1, hz2⟩ := info_parts info52
  have hown : w.ownsRow g0 24 32 (.slice (some ⟨g0, 0, none⟩) 0 0) 0 [] := ⟨rfl, .inr ⟨g0, 0, #[], rfl, Nat.le_refl _, hg0, Nat.le_refl _, Nat.zero_le _, rfl, rfl⟩⟩
  have hlt := lt_of_heap hg0
  have hlen := hb.len
  have hDl : ∀ d ∈ D, d.length = 32 ∧ ∀ x ∈ d, x < 256 := by obtain ⟨_, _, _, h2, _⟩ := hb.at_; exact h2
  have fin : ∀ v' w', w'.ownsRow g0 24 32 v' m (dcl D) → Kept g0 w w' → wpList Tryd.prog ops Q rest (a.put o.dst v') w' := fun v' w' h1 h2 => by
    obtain ⟨a', c', rfl, h3, h4⟩ := dgs_of_owns h1 hDl hlen
    exact h a' c' w' h3 h4 h2
  by_cases hD : D = []
  · subst hD
    obtain rfl : m = 0 := hlen
    cases sa with
    | none =>
      refine Go.wpList_append_own_none hgd s x _ ho g0 _ i0 32 Tryd.underlying25 hi _ 0 [] hs hown (by rw [hx, hb.nil rfl]) ?_
      exact fin _ _ hown (Kept.refl _ _)
    | some ad =>
      refine Go.wpList_append_own _ hgd s x _ ho g0 24 i0 _ 32 32 Tryd.underlying25 hi hz0 hz1 hz2 rfl (by decide) _ 0 [] hs hown ad 0 c [] hx rfl (fun j u hj => by cases hj) (fun u hu => absurd hu List.not_mem_nil) (by unfold maxLen; omega) (by omega) (by omega) ?_
      intro v' w' hown' hg hn
      exact fin _ _ hown' ⟨hg.os, hg.tape, hg.output, hg.size, fun k hk hkg => hg.block k hk (by intro e; exact hkg (Option.some.inj e))⟩
  · obtain ⟨b, o', rfl, hr⟩ := hb.rng hD
    refine Go.wpList_append_own _ hgd s x _ ho g0 24 i0 _ 32 32 Tryd.underlying25 hi hz0 hz1 hz2 rfl (by decide) _ 0 [] hs hown ⟨b, o', none⟩ m c (dcl D) hx (by rw [dcl_length D (fun d hd => (hDl d hd).1)]; omega) (fun j u hj => by rw [add_noneD]; exact hr j u hj) (dcl_one D) (by unfold maxLen; omega) (by omega) (by omega) ?_
    intro v' w' hown' hg hn
    rw [Nat.zero_add, List.nil_append] at hown'
    exact fin _ _ hown' ⟨hg.os, hg.tape, hg.output, hg.size, fun k hk hkg => hg.block k hk (by intro e; exact hkg (Option.some.inj e))⟩

theorem range_of_heapO {w : World} {b : Nat} {cs : List Value} {T : TypeId} (h : w.heap[b]? = some (.cells cs.toArray T (0, 0))) : w.rangeAt b 0 cs := fun j v hj => by
  rw [Nat.zero_add, cell_of_heap h, List.getElem?_toArray]
  exact hj
theorem mz_sizeO : mz.size = 37 := by kernel_rfl
theorem man_rowO {w : World} {b : Nat} {k n t s : Int} {od : List Nat} {v : Value} (h : ManAt w b k n t s od v) (hod : od.length = 32) (v' : Value) : ManAt (w.setCell ⟨b, 36, none⟩ v') b k n t s od v' := by
  have h1 := heap_set h 36 v'
  unfold ManAt
  rw [h1, List.setIfInBounds_toArray]
  congr 3
  unfold mcells
  rw [List.set_append_right _ _ (by simp [u8s, hod])]
  simp [u8s, hod]
set_option maxRecDepth 100000 in
set_option maxHeartbeats 2000000 in
theorem own_manN (k n t s : Int) (od : List Nat) (a : Option Addr) (m c : Nat) (D : List (List Nat)) (w : World) (hod : od.length = 32) (hb : Dgs w a m c D) (hm : m ≤ 100000) :
    Calls Tryd.prog 13 #[.agg (mcells k n t s od (.slice a m c)).toArray] w fun e w' => ∃ a' c', e = .returned (.agg (mcells k n t s od (.slice a' m c')).toArray) ∧ Dgs w' a' m c' D ∧ (∀ ad, a' = some ad → w.heap.size ≤ ad.block) ∧ Below w.heap.size w w' := by
  obtain ⟨w2, hw2⟩ : ∃ y, y = (w.alloc (.cells (mcells k n t s od (.slice a m c)).toArray 27)).alloc (.cells mz 27) := ⟨_, rfl⟩
  have hs1 : (w.alloc (.cells (mcells k n t s od (.slice a m c)).toArray 27)).heap.size = w.heap.size + 1 := by simp
  have hb2 : Below w.heap.size w w2 := by rw [hw2]; exact ((Below.refl _ _).alloc (Nat.le_refl _) _).alloc (by simp) _
  have HM2 := hid (show ManAt w2 w.heap.size k n t s od (.slice a m c) from by
    rw [hw2]
    exact (heap_alloc_old _ _ (by simp)).trans (heap_new _ _))
  have HR2 := hid (show w2.heap[w.heap.size + 1]? = some (.cells mz 27 (0, 0)) from by rw [hw2, ← hs1]; exact heap_new _ _)
  have HB2 := hid hb2
  have hsz2 : w.heap.size + 1 < w2.heap.size := lt_of_heap HR2.out
  have HDA := hid (show Dgs (w2.alloc (.cells #[] 24)) a m c D from (hb.below hb2).below ((Below.refl _ _).alloc (Nat.le_refl _) _))
  have HOD := hid hod
  have d36 := (HM2.out.c hod).2.2.2.2
  have hlt2 : w.heap.size < w2.heap.size := by omega
  have HST := hid (fun (a5 : Option Addr) (c5 : Nat) (w5 : World) (k5 : Kept w2.heap.size (w2.alloc (.cells #[] 24)) w5) => (show ManAt w5 w.heap.size k n t s od (.slice a m c) ∧ w5.heap[w.heap.size + 1]? = some (.cells mz 27 (0, 0)) ∧ Below w.heap.size w w5 from
    ⟨(k5.block _ (by simp; omega) (by omega)).trans ((heap_alloc_old _ _ hlt2).trans HM2.out), (k5.block _ (by simp; omega) (by omega)).trans ((heap_alloc_old _ _ hsz2).trans HR2.out), (HB2.out.alloc HB2.out.size _).trans (k5.below (by have := HB2.out.size; simp; omega) HB2.out.size)⟩))
  clear hs1 hb2 hb hod
  go_enter Tryd.func13, Tryd.ntmps13
  go_upto_region 1 with fail
  change Code.wp _ _ _ _ ((w.alloc (.cells (mcells k n t s od (.slice a m c)).toArray 27)).alloc (.cells mz 27))
  rw [← hw2]
  clear hw2
  go_wp2_with (first
    | (refine wpList_cloneD (by rfl) (.tmp 3) (.tmp 5) (by rfl) w2.heap.size (by rfl) (heap_new _ _) a m c D (by rfl) HDA.out hm ?_
       intro a5 c5 w5 hd5 hl5 hk5
       have h5 := HST.out a5 c5 w5 hk5
       have g36 := (h5.1.c HOD.out).2.2.2.2
       have f36 := free_of_heap h5.1 36
       have HM6 := hid (man_rowO h5.1 HOD.out (.slice a5 m c5))
       have HR6 := hid (show (w5.setCell ⟨w.heap.size, 36, none⟩ (.slice a5 m c5)).heap[w.heap.size + 1]? = some (.cells mz 27 (0, 0)) from (heap_setCell_other w5 _ _ _ (by show w.heap.size + 1 ≠ w.heap.size; omega)).trans h5.2.1)
       have HB6 := hid (show Below w.heap.size w (w5.setCell ⟨w.heap.size, 36, none⟩ (.slice a5 m c5)) from h5.2.2.setCell (Nat.le_refl _) _)
       have HD5 := hid hd5
       have HL5 := hid hl5
       have HRA := hid (show (w5.setCell ⟨w.heap.size, 36, none⟩ (.slice a5 m c5)).rangeAt w.heap.size 0 (mcells k n t s od (.slice a5 m c5)) from range_of_heapO HM6.out)
       have HML := hid (mcells_length k n t s od (.slice a5 m c5) HOD.out)
       have HON := hid (mcells_one k n t s od a5 m c5)
       have HIFa := hid (show (Tryd.prog.info? 27).map (·.size) = some (mcells k n t s od (.slice a5 m c5)).length from by rw [HML.out]; kernel_rfl)
       have HIFb := hid (show (Tryd.prog.info? 27).map (·.size) = some (mcells k n t s od (.slice a5 m c5)).toArray.size from by rw [List.size_toArray, HML.out]; kernel_rfl)
       have HSZb := hid (show mz.size = (mcells k n t s od (.slice a5 m c5)).toArray.size from by rw [mz_sizeO]; rw [List.size_toArray, HML.out])
       clear hd5 hl5 hk5 h5)
    | (refine wpList_load_mid (by rfl) 27 (.tmp 1) (by rfl) w.heap.size 0 (by rfl) (mcells k n t s od (.slice a5 m c5)) _ HRA.out Tryd.underlying27 rfl HIFa.out ?_)
    | (refine wpList_store_row (by rfl) 27 (.tmp 2) (.tmp 8) (by rfl) (w.heap.size + 1) _ (mcells k n t s od (.slice a5 m c5)).toArray _ (by rfl) (by rfl) HR6.out HIFb.out HSZb.out HON.out ?_
       intro w8 hw8 hk8))
  have hres := run_loadVar_row (P := Tryd.prog) _ _ 27 27 _ (0, 0) _ hw8 Tryd.underlying27 rfl HIFb.out
  refine bodyPost_ret (v := .agg (mcells k n t s od (.slice a5 m c5)).toArray) (results_at Tryd.results13 rfl hres) rfl ⟨a5, c5, rfl, ?_, fun ad e => by have := HL5.out ad e; omega, HB6.out.trans (hk8.below HB6.out.size (by omega))⟩
  exact (HD5.out.kept ((Kept.refl w.heap.size w5).setCell (p := ⟨w.heap.size, 36, none⟩) rfl (.slice a5 m c5)) (fun ad e => by have := HL5.out ad e; omega)).kept hk8 (fun ad e => by have := HL5.out ad e; omega)
theorem own_man (k n t s : Int) (od : List Nat) (a : Option Addr) (m c : Nat) (D : List (List Nat)) (w : World) (hod : od.length = 32) (hb : Dgs w a m c D) (hm : m ≤ 100000) :
    Calls Tryd.prog 13 #[.agg (mcells k n t s od (.slice a m c)).toArray] w fun e w' => ∃ a' c', e = .returned (.agg (mcells k n t s od (.slice a' m c')).toArray) ∧ Dgs w' a' m c' D ∧ Below w.heap.size w w' :=
  (own_manN k n t s od a m c D w hod hb hm).mono fun _ _ ⟨a', c', h1, h2, _, h3⟩ => ⟨a', c', h1, h2, h3⟩
end Go.Proofs.YtahnihihfheegaaDoor

namespace Go.Proofs.YtahnihihfheegaaDoor
open Go.ChangeShapes Go.WideShapes Go.ChangeAt Go.RowKit
set_option linter.unusedVariables false

def cellND (v : Option Value) : Nat := match v with | some (.int _ n) => n.toNat | _ => 0
theorem chunkL {l : List Value} {off c : Nat} {v : Value} (h : (l.drop off).take c = [v]) : l[off]? = some v := by
  have h1 := getElem?_of_chunk (xs := l.toArray) h
  simpa using h1
section
variable {H : Type} {enc : TypeId × Value → H} {W : World}
theorem open_arr32D {fuel : Nat} {cs : List Value} {x : DataW H × List MemPlace} (h : DataW.trod enc Tryd.prog W 0 (fun _ => true) true fuel 24 cs = some x) (hcs : cs.length = 32) :
    ∃ l : List Nat, cs = u8s l ∧ l.length = 32 ∧ ∀ y ∈ l, y < 256 := by
  have hc1 : Tryd.prog.cellsOf 5 = 1 := by kernel_rfl
  obtain ⟨xs, m, _, _, _, hxl, hall⟩ := DataW.trod_array Tryd.underlying24 h
  have each : ∀ i, i < 32 → ∃ n : Nat, cs[i]? = some (.int .u8 (n : Int)) ∧ n < 256 := fun i hi => by
    have h1 := hall i hi
    rw [hc1, List.getElem?_eq_getElem (show i < xs.length by omega)] at h1
    obtain ⟨n, h2, _, hw⟩ := DataW.trod_int Tryd.underlying5 h1
    have h3 := chunkL h2
    have h4 := bounds_u8 hw
    exact ⟨n.toNat, by rw [Nat.mul_one] at h3; rw [h3, Int.toNat_of_nonneg h4.1], by omega⟩
  refine ⟨(List.range 32).map fun i => cellND cs[i]?, ?_, by simp, fun y hy => ?_⟩
  · apply List.ext_getElem?
    intro i
    by_cases hi : i < 32
    · obtain ⟨n, h1, h2⟩ := each i hi
      rw [h1]
      unfold u8s
      rw [List.getElem?_map, List.getElem?_map, List.getElem?_range hi]
      show _ = some (Value.int .u8 ((cellND cs[i]? : Nat) : Int))
      rw [h1]
      rfl
    · rw [List.getElem?_eq_none (by omega), List.getElem?_eq_none (by simp [u8s]; omega)]
  · obtain ⟨i, hi, rfl⟩ := List.mem_map.1 hy
    obtain ⟨n, h1, h2⟩ := each i (List.mem_range.1 hi)
    rw [h1]
    exact h2
theorem open_dgs {fuel : Nat} {cs : List Value} {x : DataW H × List MemPlace} (h : DataW.trod enc Tryd.prog W 0 (fun _ => true) true fuel 25 cs = some x) : ∃ a m c D, cs = [.slice a m c] ∧ Dgs W a m c D := by
  have hc32 : Tryd.prog.cellsOf 24 = 32 := by kernel_rfl
  rcases Deep.open_slice Tryd.underlying25 h with ⟨hcs, _⟩ | ⟨a, len, cap, m, n, D, Pl, hcs, _, hl, _, hm, _, hx⟩
  · exact ⟨none, 0, 0, [], hcs, ⟨none, 0, rfl, fun d hd => absurd hd List.not_mem_nil, fun e => absurd rfl e⟩, Nat.le_refl _, fun _ => rfl⟩
  · have hm' : m = cap := by simpa using hm
    rw [hc32] at hx
    have each : ∀ i, i < len → ∃ q : List Nat, (q.length = 32 ∧ ∀ y ∈ q, y < 256) ∧ ∀ j, j < 32 → W.cell? ((a.add (i * 32)).add j) = (u8s q)[j]? := fun i hi => by
      obtain ⟨cs', h1, h2⟩ := hx i (by omega)
      obtain ⟨_, hlen, hcell⟩ := World.cells?_some h1
      obtain ⟨l, rfl, hl1, hl2⟩ := open_arr32D h2 hlen
      exact ⟨l, ⟨hl1, hl2⟩, hcell⟩
    obtain ⟨q, hq⟩ := Deep.choose_lt each
    have hlen : ((List.range len).map q).length = len := by simp
    refine ⟨some a, len, cap, (List.range len).map q, hcs, ⟨some a, cap, by rw [hlen], fun d hd => ?_, fun hne => ?_⟩, hl, fun e => by cases e⟩
    · obtain ⟨i, hi, rfl⟩ := List.mem_map.1 hd
      exact (hq i (List.mem_range.1 hi)).1
    · have h0 : 0 < len := by
        rcases Nat.eq_zero_or_pos len with h | h
        · subst h; exact absurd rfl hne
        · exact h
      obtain ⟨b, o, spot⟩ := a
      obtain ⟨⟨h32, _⟩, hc0⟩ := hq 0 h0
      have hc := hc0 0 (by omega)
      rw [List.getElem?_eq_getElem (by simp [u8s, h32])] at hc
      have hspot : spot = none := by simpa [Addr.add] using World.cell?_spot hc
      subst hspot
      refine ⟨b, o, rfl, fun j hj u v hu => ?_⟩
      rw [hlen] at hj
      have e : ((List.range len).map q).getD j [] = q j := by
        rw [List.getD_eq_getElem?_getD, List.getElem?_map, List.getElem?_range hj]; rfl
      rw [e] at hu
      obtain ⟨⟨h32, _⟩, hcj⟩ := hq j hj
      have hu32 : u < 32 := by have := (List.getElem?_eq_some_iff.1 hu).1; simpa [u8s, h32] using this
      have h1 := hcj u hu32
      rw [Deep.add_add, add_noneD, hu, ← Nat.add_assoc] at h1
      exact h1
/-- a manifest that came in -/
def ManW (W : World) (v : Value) : Prop := ∃ (k n t s : Int) (od : List Nat) (a : Option Addr) (m c : Nat) (D : List (List Nat)), v = .agg (mcells k n t s od (.slice a m c)).toArray ∧ od.length = 32 ∧ (∀ y ∈ od, y < 256) ∧ Dgs W a m c D
set_option maxRecDepth 100000 in
theorem open_man {base : Nat} {v : Value} {d : DataW H} {p : List MemPlace} (hval : Value.okWide Tryd.prog W .any base 27 v) (h : DataW.Trod enc Tryd.prog W 0 (fun _ => true) true 27 v d p) : ManW W v := by
  obtain ⟨cs, rfl, hsz⟩ := okWide_struct Tryd.underlying27 hval
  rw [show Tryd.prog.cellsOf 27 = 37 from by kernel_rfl] at hsz
  obtain ⟨l⟩ := cs
  obtain ⟨fuel, hf⟩ := h
  obtain ⟨xs, n, rfl, _, _, hxl, hg⟩ := DataW.trod_struct Tryd.underlying27 hf
  have e3 : Tryd.prog.cellsOf 3 = 1 := by kernel_rfl
  have e30 : Tryd.prog.cellsOf 24 = 32 := by kernel_rfl
  have e60 : Tryd.prog.cellsOf 25 = 1 := by kernel_rfl
  match xs, hxl with
  | [y0, y1, y2, y3, y4, y5], _ =>
  have g0 := hg 0 _ rfl
  have g1 := hg 1 _ rfl
  have g2 := hg 2 _ rfl
  have g3 := hg 3 _ rfl
  have g4 := hg 4 _ rfl
  have g5 := hg 5 _ rfl
  simp only [Value.cells] at g0 g1 g2 g3 g4 g5
  obtain ⟨k, f0, _, w0⟩ := DataW.trod_int Tryd.underlying3 g0
  obtain ⟨n', f1, _, w1⟩ := DataW.trod_int Tryd.underlying3 g1
  obtain ⟨t, f2, _, w2⟩ := DataW.trod_int Tryd.underlying3 g2
  obtain ⟨s, f3, _, w3⟩ := DataW.trod_int Tryd.underlying3 g3
  have hl37 : l.length = 37 := by simpa using hsz
  obtain ⟨od, f4, ho1, ho2⟩ := open_arr32D g4 (by simp; omega)
  obtain ⟨a, m, c, D, f5, hD⟩ := open_dgs g5
  refine ⟨k, n', t, s, od, a, m, c, D, ?_, ho1, ho2, hD⟩
  congr 2
  have r0 : l[0]? = some (.int .i64 k) := chunkL f0
  have r1 : l[1]? = some (.int .i64 n') := chunkL f1
  have r2 : l[2]? = some (.int .i64 t) := chunkL f2
  have r3 : l[3]? = some (.int .i64 s) := chunkL f3
  have r5 : l[36]? = some (.slice a m c) := chunkL f5
  have r4 : ∀ i, i < 32 → l[4 + i]? = (u8s od)[i]? := fun i hi => by
    have h : (List.take 32 (List.drop 4 l))[i]? = (u8s od)[i]? := congrArg (·[i]?) f4
    rw [← h, List.getElem?_take_of_lt hi, List.getElem?_drop]
  have hml := mcells_length k n' t s od (.slice a m c) ho1
  apply List.ext_getElem?
  intro i
  by_cases hi : i < 37
  · rcases (show i = 0 ∨ i = 1 ∨ i = 2 ∨ i = 3 ∨ (∃ j, i = 4 + j ∧ j < 32) ∨ i = 36 from by
      rcases (show i < 4 ∨ i = 36 ∨ (4 ≤ i ∧ i < 36) from by omega) with h | h | h
      · omega
      · exact .inr (.inr (.inr (.inr (.inr h))))
      · exact .inr (.inr (.inr (.inr (.inl ⟨i - 4, by omega, by omega⟩))))) with rfl | rfl | rfl | rfl | ⟨j, rfl, hj⟩ | rfl
    · rw [r0]; rfl
    · rw [r1]; rfl
    · rw [r2]; rfl
    · rw [r3]; rfl
    · rw [r4 j hj]
      unfold mcells
      rw [List.append_assoc, List.getElem?_append_right (by simp), List.getElem?_append_left (by simp [u8s, ho1]; omega)]
      simp
    · rw [r5]
      unfold mcells
      rw [List.getElem?_append_right (by simp [u8s, ho1])]
      simp [u8s, ho1]
  · rw [List.getElem?_eq_none (by omega), List.getElem?_eq_none (by omega)]
end
end Go.Proofs.YtahnihihfheegaaDoor

namespace Go.Proofs.YtahnihihfheegaaDoor
open Go Go.RowKit
set_option linter.unusedVariables false

set_option maxRecDepth 100000 in
set_option maxHeartbeats 1000000 in
theorem PieceDigest_all (i : Int) (a : Option Addr) (n c : Nat) (KC SH l : List Nat) (w : World) (V : Vars w KC SH) (hl : Bs w (.slice a n c) l) (hc : n ≤ c) (hsz : n ≤ 800000000) :
    Calls Tryd.prog 33 #[.int .i64 i, .slice a n c] w fun e w' => e = .returned (.agg (u8s (dig KC SH ([(i % 65536).toNat / 256, (i % 65536).toNat % 256] ++ l))).toArray) ∧ Below w.heap.size w w' := by
  obtain ⟨x, hxi⟩ : ∃ x : Nat, x = (i % 65536).toNat := ⟨_, rfl⟩
  have hx : x < 65536 := by omega
  rw [← hxi]
  have HV := hid V
  have HL := hid hl
  have hn := hl.len
  have HN := hid hn
  obtain ⟨w1, hw1⟩ : ∃ w1, w1 = w.alloc (.cells (u8s (List.replicate 32 0)).toArray 24) := ⟨_, rfl⟩
  have hb1 : Below w.heap.size w w1 := by rw [hw1]; exact (Below.refl _ _).alloc (Nat.le_refl _) _
  have HR1 := hid (show OwnD w1 w.heap.size (List.replicate 32 0) from by rw [hw1]; exact heap_new _ _)
  have hs1 : w1.heap.size = w.heap.size + 1 := by rw [hw1]; simp
  have HB1 := hid hb1
  have HV1 := hid (V.below hb1)
  have hvlt := V.lt
  clear V hl hb1 hn
  go_enter Tryd.func33, Tryd.ntmps33
  go_wp2_with fail
  change Calls _ _ _ (w.alloc (.cells (u8s (List.replicate 32 0)).toArray 24)) _
  rw [← hw1]
  clear hw1
  refine (NewHash_any KC SH w1 HV1.out).mono ?_
  rintro e w2 ⟨rfl, hM2, hb2⟩
  have HM2 := hid hM2
  have HR2 := hid ((hb2.block w.heap.size (by omega)).trans HR1.out)
  have HB2 := hid (HB1.out.trans (hb2.mono HB1.out.size))
  have HV2 := hid (HV1.out.below hb2)
  obtain ⟨hb, hhb⟩ : ∃ hb, hb = w1.heap.size := ⟨_, rfl⟩
  rw [← hhb] at HM2 ⊢
  have HHB := hid hhb
  have h4 : hb = w.heap.size + 1 := by omega
  have HS1 := hid hs1
  clear hM2 hb2 hhb hs1
  have hbl := HL.out.below HB2.out
  have hoff : 0 < n → Off hb (.slice a n c) := fun h0 => by
    rcases HL.out.addr with ⟨h1, _⟩ | ⟨h1, b, o, c', hv⟩
    · have := HN.out; rw [h1] at this; simp at this; omega
    · simp only [Value.slice.injEq] at hv
      obtain ⟨rfl, _, _⟩ := hv
      have h1 := HL.out.cell 0 (by rw [← HN.out]; exact h0)
      have h2 := World.block_lt_of_cell? _ _ h1
      show b ≠ hb
      simp only at h2
      omega
  have HBL := hid hbl
  have HOF := hid hoff
  clear hbl hoff
  have q3 : 3 ≤ hb := by omega
  have qh : w.heap.size ≤ hb := by omega
  have qn : w.heap.size ≠ hb := by omega
  have H4 := hid h4
  clear h4
  have u1 : IntKind.u16.wrap i = (x : Int) := by rw [IntKind.wrap_u16]; omega
  clear hxi
  have u2 : IntKind.u8.wrap ((x : Int) / 256) = ((x / 256 : Nat) : Int) := by rw [IntKind.wrap_u8]; omega
  have u3 : IntKind.u8.wrap (x : Int) = ((x % 256 : Nat) : Int) := by rw [IntKind.wrap_u8]; omega
  have p1 : x / 256 < 256 := by omega
  have p2 : x % 256 < 256 := by omega
  obtain ⟨xh, hxh⟩ : ∃ y, y = x / 256 := ⟨_, rfl⟩
  obtain ⟨xl, hxl⟩ : ∃ y, y = x % 256 := ⟨_, rfl⟩
  rw [← hxh] at u2 p1
  rw [← hxl] at u3 p2
  have HXH := hid (fun (_ : Unit) => hxh)
  have HXL := hid (fun (_ : Unit) => hxl)
  clear hxh hxl
  have hq2 : ∀ z ∈ [xh, xl], z < 256 := fun z hz => by
    simp only [List.mem_cons, List.not_mem_nil, or_false] at hz
    rcases hz with rfl | rfl
    · exact p1
    · exact p2
  have hhb2 : hb < w2.heap.size := by obtain ⟨_, _, H, _⟩ := HM2.out; exact H.lt
  obtain ⟨w5, hw5⟩ : ∃ w5, w5 = w2.alloc (.cells (u8s [xh, xl]).toArray 5) := ⟨_, rfl⟩
  have hb5 : Below w2.heap.size w2 w5 := by rw [hw5]; exact (Below.refl _ _).alloc (Nat.le_refl _) _
  have M5 := HM2.out.same (hb5.block hb hhb2)
  have V5 := HV2.out.below hb5
  have HR5 := hid ((hb5.block w.heap.size (lt_of_heap HR2.out)).trans HR2.out)
  have BS5 : Bs w5 (.slice (some ⟨w2.heap.size, 0, none⟩) 2 2) [xh, xl] := by rw [hw5]; exact Own.bs (l := [xh, xl]) (heap_new _ _) hq2 2
  have HQ := hid (Write_gen hb 2 2 (some ⟨w2.heap.size, 0, none⟩) KC SH [] [xh, xl] w5 M5 V5 q3 BS5 (Nat.le_refl _) (fun _ => by show w2.heap.size ≠ hb; omega) (by simp))
  have HBL5 := hid (HBL.out.below hb5)
  have HB5 := hid (HB2.out.trans (hb5.mono HB2.out.size))
  have HV5 := hid V5
  have HW5 := hid (fun (_ : Unit) => hw5)
  clear M5 V5 BS5 hb5 hhb2
  go_wp2_with fail
  change Calls _ _ _ (w2.alloc (.cells (u8s [xh, xl]).toArray 5)) _
  rw [← HW5.out ()]
  refine HQ.out.mono ?_
  clear HQ
  rintro e w6 ⟨rfl, hM6, hk6⟩
  rw [List.nil_append] at hM6
  have HM6 := hid hM6
  have HR6 := hid ((hk6.block w.heap.size (lt_of_heap HR5.out) qn).trans HR5.out)
  have HV6 := hid (HV5.out.kept hk6 q3)
  have HB6 := hid (HB5.out.trans (hk6.below HB5.out.size qh))
  have HBL6 := hid (show Bs w6 (.slice a n c) l from by
    by_cases h0 : 0 < n
    · exact HBL5.out.kept hk6 (HOF.out h0)
    · have hl0 : l = [] := List.length_eq_zero_iff.1 (by have := HN.out; omega)
      have hn0 : n = 0 := by omega
      rw [hl0, hn0]
      exact bs_nilH _ _ _)
  have HQ := hid (Write_gen hb n c a KC SH [xh, xl] l w6 HM6.out HV6.out q3 HBL6.out hc HOF.out (by simp; omega))
  clear hM6 hk6
  go_wp2_with fail
  refine HQ.out.mono ?_
  clear HQ
  rintro e w3 ⟨rfl, hM3, hk3⟩
  have HM3 := hid hM3
  have HR3 := hid ((hk3.block w.heap.size (lt_of_heap HR6.out) qn).trans HR6.out)
  have HV3 := hid (HV6.out.kept hk3 q3)
  have HB3 := hid (HB6.out.trans (hk3.below HB6.out.size qh))
  clear hM3 hk3
  go_wp2_with fail
  refine (Sum_any hb KC SH ([xh, xl] ++ l) w3 HM3.out HV3.out q3 (by have := HN.out; simp; omega)).mono ?_
  rintro e w4 ⟨rfl, hb4⟩
  have HR4 := hid ((hb4.block w.heap.size (lt_of_heap HR3.out)).trans HR3.out)
  have hbe := HB3.out.trans (hb4.mono HB3.out.size)
  have hl32 := dig_length KC SH ([xh, xl] ++ l)
  generalize hD : dig KC SH ([xh, xl] ++ l) = D at *
  have HD := hid (fun (_ : Unit) => hD)
  have hl32' : (u8s D).length = 32 := by simp [u8s, hl32]
  have HIF2 := hid (show (Tryd.prog.info? 24).map (·.size) = some (u8s D).toArray.size from by rw [List.size_toArray, hl32']; kernel_rfl)
  have HOLD := hid (show (u8s (List.replicate 32 0)).toArray.size = (u8s D).toArray.size from by rw [List.size_toArray, List.size_toArray, hl32']; rfl)
  have HONE := hid (show (u8s D).toArray.all (·.oneCell') = true from all_oneCell_toArray (u8s_oneH _))
  clear hD hb4 hl32 hl32'
  go_wp2_with (refine wpList_store_row (by rfl) 24 (.tmp 4) (.tmp 22) (by rfl) w.heap.size _ (u8s D).toArray _ (by rfl) (by rfl) HR4.out HIF2.out HOLD.out HONE.out ?_
               intro w8 hw8 hk8)
  have hres : (loadVar 24 ⟨w.heap.size, 0, none⟩).run Tryd.prog w8 = .ok (.agg (u8s D).toArray) w8 := run_loadVar_row _ _ 24 24 _ (0, 0) _ hw8 Tryd.underlying24 rfl HIF2.out
  refine bodyPost_ret (v := .agg (u8s D).toArray) (results_at Tryd.results33 rfl hres) rfl ⟨by rw [← HXH.out (), ← HXL.out ()]; exact congrArg (fun z => Ending.returned (.agg (u8s z).toArray)) (HD.out ()).symm, ?_⟩
  exact hbe.trans (hk8.below hbe.size (Nat.le_refl _))
end Go.Proofs.YtahnihihfheegaaDoor

namespace Go.Proofs.YtahnihihfheegaaDoor
open Go Go.RowKit
set_option linter.unusedVariables false

/-- what CheckPiece answers -/
def cpE (k n t s : Int) (m : Nat) (D : List (List Nat)) (x : Int) (pl : List Nat) : Int :=
  if manB k n t s m = true then
    (if x < 0 ∨ t ≤ x then 2 else if pl.length ≠ plen k.toNat s.toNat then 10 else if dig shaRound shaStart ([hi8 x, lo8 x] ++ pl) ≠ D.getD x.toNat [] then 20 else 0)
  else 2
theorem pdg_all (i : Int) (a : Option Addr) (n c : Nat) (l : List Nat) (w : World) (V : Vars w shaRound shaStart) (hl : Bs w (.slice a n c) l) (hc : n ≤ c) (hn : a = none → c = 0) (hsz : n ≤ 800000000) :
    Calls Tryd.prog 33 #[.int .i64 i, .slice a n c] w fun e w' => e = .returned (.agg (u8s (dig shaRound shaStart ([hi8 i, lo8 i] ++ l))).toArray) ∧ Below w.heap.size w w' := by
  have e1 : hi8 i = (i % 65536).toNat / 256 := by unfold hi8; omega
  have e2 : lo8 i = (i % 65536).toNat % 256 := by unfold lo8; omega
  rw [e1, e2]
  exact PieceDigest_all i a n c shaRound shaStart l w V hl hc hsz
theorem refd_all (i : Int) (a : Option Addr) (n c : Nat) (l : List Nat) (w : World) (V : Rnds w) (hl : Bs w (.slice a n c) l) (hc : n ≤ c) (hn : a = none → c = 0) (hsz : n ≤ 800000000) :
    Calls Tryd.prog 35 #[.int .i64 i, .slice a n c] w fun e w' => e = .returned (.agg (u8s (dig shaRound shaStart ([hi8 i, lo8 i] ++ l))).toArray) ∧ Below w.heap.size w w' :=
  ofp_any i l a n c w V hl hn hsz

set_option maxRecDepth 100000 in
set_option maxHeartbeats 4000000 in
theorem chp_any (w : World) (V : Vars w shaRound shaStart) (k n t s : Int) (od : List Nat) (a : Option Addr) (m c : Nat) (D : List (List Nat)) (ho : od.length = 32) (hD : Dgs w a m c D) (x : Int) (pa : Option Addr) (pn pc : Nat) (pl : List Nat) (hp : Bs w (.slice pa pn pc) pl) (hpc : pn ≤ pc) (hpn : pa = none → pc = 0) (hsz : pn ≤ 800000000) :
    Calls Tryd.prog 19 #[.agg (mcells k n t s od (.slice a m c)).toArray, .agg #[.int .i64 x, .slice pa pn pc]] w fun e w' => e = .returned (.int .i64 (cpE k n t s m D x pl)) ∧ Below w.heap.size w w' := by
  obtain ⟨w2, hw2⟩ : ∃ y, y = (w.alloc (.cells (mcells k n t s od (.slice a m c)).toArray 27)).alloc (.cells #[.int .i64 x, .slice pa pn pc] 44) := ⟨_, rfl⟩
  have hs1 : (w.alloc (.cells (mcells k n t s od (.slice a m c)).toArray 27)).heap.size = w.heap.size + 1 := by simp
  have hb2 : Below w.heap.size w w2 := by rw [hw2]; exact ((Below.refl _ _).alloc (Nat.le_refl _) _).alloc (by simp) _
  have hM : ManAt w2 w.heap.size k n t s od (.slice a m c) := by
    rw [hw2]
    exact (heap_alloc_old _ _ (by simp)).trans (heap_new _ _)
  have hQ : w2.heap[w.heap.size + 1]? = some (.cells #[.int .i64 x, .slice pa pn pc] 44 (0, 0)) := by rw [hw2, ← hs1]; exact heap_new _ _
  have HB := hid hb2
  have HRA := hid (range_of_heapI hM)
  have HIF := hid (show (Tryd.prog.info? 27).map (·.size) = some (mcells k n t s od (.slice a m c)).length from by rw [mcells_length _ _ _ _ _ _ ho]; kernel_rfl)
  have HE := hid (fun wx => CheckManifest_any k n t s od a m c ho wx)
  have HC := hid (fun (wx : World) (b : Below w2.heap.size w2 wx) => (show wx.cell? ⟨w.heap.size, 0, none⟩ = some (.int .i64 k) ∧ wx.cell? ⟨w.heap.size, 2, none⟩ = some (.int .i64 t) ∧ wx.cell? ⟨w.heap.size, 3, none⟩ = some (.int .i64 s) ∧ wx.cell? ⟨w.heap.size, 36, none⟩ = some (.slice a m c) ∧ wx.cell? ⟨w.heap.size + 1, 0, none⟩ = some (.int .i64 x) ∧ wx.cell? ⟨w.heap.size + 1, 1, none⟩ = some (.slice pa pn pc) from by
    have h0 : ManAt wx w.heap.size k n t s od (.slice a m c) := (b.block _ (lt_of_heap hM)).trans hM
    have h1 := h0.c ho
    have h2 := (b.block _ (lt_of_heap hQ)).trans hQ
    exact ⟨h1.1, h1.2.2.1, h1.2.2.2.1, h1.2.2.2.2, by rw [cell_of_heap h2]; rfl, by rw [cell_of_heap h2]; rfl⟩))
  have HDD := hid hD
  have HPP := hid hp
  have HVV := hid V
  clear hs1 hb2 hM hQ ho hD hp V
  cases hv : manB k n t s m with
  | false =>
    as_aux_lemma =>
      have HR := hid (show cpE k n t s m D x pl = 2 from by unfold cpE; rw [hv]; rfl)
      have hme : manE k n t s m = 2 := by unfold manE; rw [hv]; rfl
      rw [hme] at HE
      clear hv hme
      go_enter Tryd.func19, Tryd.ntmps19
      go_upto_region 1 with fail
      change Code.wp _ _ _ _ ((w.alloc (.cells (mcells k n t s od (.slice a m c)).toArray 27)).alloc (.cells #[.int .i64 x, .slice pa pn pc] 44))
      rw [← hw2]
      clear hw2
      go_wp2_with (refine wpList_load_mid (by rfl) 27 (.tmp 2) (by rfl) w.heap.size 0 (by rfl) (mcells k n t s od (.slice a m c)) _ HRA.out Tryd.underlying27 rfl HIF.out ?_)
      refine (HE.out w2).mono ?_
      rintro e w3 ⟨rfl, hb3⟩
      obtain ⟨c0, c2, c3, c36, p0, p1⟩ := HC.out w3 hb3
      have HB3 := hid (HB.out.trans (hb3.mono HB.out.size))
      go_wp2
      go_ret
      exact ⟨by rw [HR.out]; all_goals rfl, HB3.out⟩
  | true =>
    have hnum : 1 ≤ k ∧ k ≤ n ∧ n ≤ t ∧ t ≤ 255 ∧ 0 ≤ s ∧ s ≤ 8192 ∧ (m : Int) = t := by
      have hok := hv
      unfold manB vnB vcB at hok
      simp only [Bool.and_eq_true, decide_eq_true_eq] at hok
      omega
    have hme : manE k n t s m = 0 := by unfold manE; rw [hv]; rfl
    rw [hme] at HE
    have HU := hid (show cpE k n t s m D x pl = (if x < 0 ∨ t ≤ x then 2 else if pl.length ≠ plen k.toNat s.toNat then 10 else if dig shaRound shaStart ([hi8 x, lo8 x] ++ pl) ≠ D.getD x.toNat [] then 20 else 0) from by unfold cpE; rw [if_pos hv])
    clear hme hv
    by_cases hx0 : x < 0
    · as_aux_lemma =>
      have HR := hid (show cpE k n t s m D x pl = 2 from by rw [HU.out, if_pos (.inl hx0)])
      clear hnum
      go_enter Tryd.func19, Tryd.ntmps19
      go_upto_region 1 with fail
      change Code.wp _ _ _ _ ((w.alloc (.cells (mcells k n t s od (.slice a m c)).toArray 27)).alloc (.cells #[.int .i64 x, .slice pa pn pc] 44))
      rw [← hw2]
      clear hw2
      go_wp2_with (refine wpList_load_mid (by rfl) 27 (.tmp 2) (by rfl) w.heap.size 0 (by rfl) (mcells k n t s od (.slice a m c)) _ HRA.out Tryd.underlying27 rfl HIF.out ?_)
      refine (HE.out w2).mono ?_
      rintro e w3 ⟨rfl, hb3⟩
      obtain ⟨c0, c2, c3, c36, p0, p1⟩ := HC.out w3 hb3
      have HB3 := hid (HB.out.trans (hb3.mono HB.out.size))
      go_wp2
      go_ret
      exact ⟨by rw [HR.out]; all_goals rfl, HB3.out⟩
    by_cases hxt : t ≤ x
    · as_aux_lemma =>
      have HR := hid (show cpE k n t s m D x pl = 2 from by rw [HU.out, if_pos (.inr hxt)])
      clear hnum
      go_enter Tryd.func19, Tryd.ntmps19
      go_upto_region 1 with fail
      change Code.wp _ _ _ _ ((w.alloc (.cells (mcells k n t s od (.slice a m c)).toArray 27)).alloc (.cells #[.int .i64 x, .slice pa pn pc] 44))
      rw [← hw2]
      clear hw2
      go_wp2_with (refine wpList_load_mid (by rfl) 27 (.tmp 2) (by rfl) w.heap.size 0 (by rfl) (mcells k n t s od (.slice a m c)) _ HRA.out Tryd.underlying27 rfl HIF.out ?_)
      refine (HE.out w2).mono ?_
      rintro e w3 ⟨rfl, hb3⟩
      obtain ⟨c0, c2, c3, c36, p0, p1⟩ := HC.out w3 hb3
      have HB3 := hid (HB.out.trans (hb3.mono HB.out.size))
      go_wp2
      go_ret
      exact ⟨by rw [HR.out]; all_goals rfl, HB3.out⟩
    have hor : ¬ (x < 0 ∨ t ≤ x) := by omega
    have HSZ := hid (fun wx => size_ok k.toNat s.toNat (by omega) (by omega) (by omega) wx)
    rw [show ((k.toNat : Nat) : Int) = k from by omega, show ((s.toNat : Nat) : Int) = s from by omega] at HSZ
    have HPL := hid HPP.out.len
    by_cases hln : pl.length ≠ plen k.toNat s.toNat
    · as_aux_lemma =>
      have HR := hid (show cpE k n t s m D x pl = 10 from by rw [HU.out, if_neg hor, if_pos hln])
      have nq : ((pn : Int) != ((plen k.toNat s.toNat : Nat) : Int)) = true := by have := HPL.out; rw [bne_iff_ne]; omega
      clear hnum hor hln
      go_enter Tryd.func19, Tryd.ntmps19
      go_upto_region 1 with fail
      change Code.wp _ _ _ _ ((w.alloc (.cells (mcells k n t s od (.slice a m c)).toArray 27)).alloc (.cells #[.int .i64 x, .slice pa pn pc] 44))
      rw [← hw2]
      clear hw2
      go_wp2_with (refine wpList_load_mid (by rfl) 27 (.tmp 2) (by rfl) w.heap.size 0 (by rfl) (mcells k n t s od (.slice a m c)) _ HRA.out Tryd.underlying27 rfl HIF.out ?_)
      refine (HE.out w2).mono ?_
      rintro e w3 ⟨rfl, hb3⟩
      obtain ⟨c0, c2, c3, c36, p0, p1⟩ := HC.out w3 hb3
      have HB3 := hid (HB.out.trans (hb3.mono HB.out.size))
      clear hb3
      go_wp2_with fail
      refine (HSZ.out w3).mono ?_
      rintro e w4 ⟨rfl, rfl⟩
      go_wp2
      go_ret
      exact ⟨by rw [HR.out]; all_goals rfl, HB3.out⟩
    obtain ⟨i, hi⟩ : ∃ i : Nat, x = (i : Int) := ⟨x.toNat, by omega⟩
    have him : i < D.length := by have := HDD.out.len; omega
    obtain ⟨b, o', ha, hrg⟩ : ∃ b o', a = some ⟨b, o', none⟩ ∧ ∀ j, j < D.length → w.rangeAt b (o' + j * 32) (u8s (D.getD j [])) := by
      obtain ⟨a', c', h1, h2, h3⟩ := HDD.out.at_
      obtain ⟨b, o', e, h4⟩ := h3 (fun h => by rw [h] at him; simp at him)
      simp only [Value.slice.injEq] at h1
      exact ⟨b, o', h1.1.trans e, h4⟩
    have nq : ((pn : Int) != ((plen k.toNat s.toNat : Nat) : Int)) = false := by have := HPL.out; rw [bne_eq_false_iff_eq]; omega
    have hl32 : (D.getD i []).length = 32 := by
      rw [List.getD_eq_getElem?_getD, List.getElem?_eq_getElem him]
      exact HDD.out.l32 _ (List.getElem_mem _)
    have HRG := hid (hrg i him)
    obtain ⟨Y, hY⟩ : ∃ Y, Y = dig shaRound shaStart ([hi8 x, lo8 x] ++ pl) := ⟨_, rfl⟩
    have hY32 : Y.length = 32 := by rw [hY]; exact dig_length _ _ _
    obtain ⟨Z, hZ⟩ : ∃ Z, Z = D.getD i [] := ⟨_, rfl⟩
    rw [← hZ] at HRG hl32
    have HEQ := hid (fun wx => eql_any Y Z hY32 hl32 wx)
    have HIFZ := hid (show (Tryd.prog.info? 24).map (·.size) = some (u8s Z).length from by simp only [u8s, List.length_map, hl32]; kernel_rfl)
    have HFIN := hid (show cpE k n t s m D x pl = if Y ≠ Z then 20 else 0 from by rw [HU.out, if_neg hor, if_neg hln, ← hY, hZ, hi]; rfl)
    have HPD := hid (fun (wx : World) (b : Below w.heap.size w wx) => pdg_all x pa pn pc pl wx (HVV.out.below b) (HPP.out.below b) hpc hpn hsz)
    rw [← hY] at HPD
    have hmi : (i : Int) < (m : Int) := by have := HDD.out.len; omega
    have hxt2 : ¬ t ≤ (i : Int) := by omega
    have hx02 : ¬ (i : Int) < 0 := by omega
    subst hi
    subst ha
    clear hnum hor hln hxt hx0 HU hrg him hY hZ hY32 hl32
    have hfin : ∀ (q : Bool), q = decide (Y = Z) → (if Y ≠ Z then (20 : Int) else 0) = if q then 0 else 20 := by
      rintro q rfl
      by_cases h : Y = Z
      · rw [if_neg (by simpa using h), decide_eq_true h]; rfl
      · rw [if_pos h, decide_eq_false h]; rfl
    generalize hq : decide (Y = Z) = q at *
    have HFN := hid (HFIN.out.trans (hfin q rfl))
    clear hfin HFIN hq
    obtain ⟨x, hx⟩ : ∃ x : Int, x = (i : Int) := ⟨_, rfl⟩
    cases q
    all_goals as_aux_lemma =>
      rw [HFN.out]
      rw [hx] at *
      clear hx
      go_enter Tryd.func19, Tryd.ntmps19
      go_upto_region 1 with fail
      change Code.wp _ _ _ _ ((w.alloc (.cells (mcells k n t s od (.slice (some ⟨b, o', none⟩) m c)).toArray 27)).alloc (.cells #[.int .i64 (i : Int), .slice pa pn pc] 44))
      rw [← hw2]
      clear hw2
      go_wp2_with (refine wpList_load_mid (by rfl) 27 (.tmp 2) (by rfl) w.heap.size 0 (by rfl) (mcells k n t s od (.slice (some ⟨b, o', none⟩) m c)) _ HRA.out Tryd.underlying27 rfl HIF.out ?_)
      refine (HE.out w2).mono ?_
      rintro e w3 ⟨rfl, hb3⟩
      obtain ⟨c0, c2, c3, c36, p0, p1⟩ := HC.out w3 hb3
      have HB3 := hid (HB.out.trans (hb3.mono HB.out.size))
      clear hb3
      go_wp2_with fail
      refine (HSZ.out w3).mono ?_
      rintro e w4 ⟨rfl, rfl⟩

      have hne : Nonempty (Cls fun w' => Below w3.heap.size w3 w') := ⟨⟨w3, Below.refl _ _⟩⟩
      have q0 : ∀ p : Cls (fun w' => Below w3.heap.size w3 w'), p.w.cell? ⟨w.heap.size + 1, 0, none⟩ = some (.int .i64 (i : Int)) := fun p => (p.h.cell (World.block_lt_of_cell? _ _ p0)).trans p0
      have q1 : ∀ p : Cls (fun w' => Below w3.heap.size w3 w'), p.w.cell? ⟨w.heap.size + 1, 1, none⟩ = some (.slice pa pn pc) := fun p => (p.h.cell (World.block_lt_of_cell? _ _ p1)).trans p1
      have q2 : ∀ p : Cls (fun w' => Below w3.heap.size w3 w'), p.w.cell? ⟨w.heap.size, 36, none⟩ = some (.slice (some ⟨b, o', none⟩) m c) := fun p => (p.h.cell (World.block_lt_of_cell? _ _ c36)).trans c36
      have HPQ := hid (fun (p : Cls (fun w' => Below w3.heap.size w3 w')) => HPD.out p.w (HB3.out.trans (p.h.mono HB3.out.size)))
      have HRQ := hid (fun (p : Cls (fun w' => Below w3.heap.size w3 w')) => range_below HRG.out (HB3.out.trans (p.h.mono HB3.out.size)))
      have e1 := fun wx => HEQ.out wx
      have hi0 : (0 : Int) ≤ (i : Int) := by omega
      go_upto_region 9 with fail
      refine wp_region_class_lit (G := fun w' => Below w3.heap.size w3 w') (by kernel_rfl) (by kernel_rfl) (bel_drewN (Below.refl _ _) 1) ?_
      iterate 10 (go_big_quiet_step ((go_at_call 33; exact Calls.cls (HPQ.out _))))
      refine wpQuiet_load_cls (by rfl) 24 (.tmp 45) (by rfl) b (o' + i * 32) (by rfl) (u8s Z) _ HRQ.out Tryd.underlying24 rfl HIFZ.out ?_
      rintro _ rfl
      try simp only [Act.put, List.setIfInBounds_toArray, List.set_cons_zero, List.set_cons_succ]
      repeat (go_big_quiet_step ((go_at_call 33; exact Calls.cls (HPQ.out _))))
      refine wpQuiet_nil ?_
      rintro _ ⟨p, rfl⟩
      have HBF := hid (HB3.out.trans (p.h.mono HB3.out.size))
      go_wp2
      go_ret
      exact ⟨rfl, HBF.out⟩

set_option maxRecDepth 100000 in
set_option maxHeartbeats 4000000 in
theorem rchp_any (w : World) (V : Rnds w) (k n t s : Int) (od : List Nat) (a : Option Addr) (m c : Nat) (D : List (List Nat)) (ho : od.length = 32) (hD : Dgs w a m c D) (x : Int) (pa : Option Addr) (pn pc : Nat) (pl : List Nat) (hp : Bs w (.slice pa pn pc) pl) (hpc : pn ≤ pc) (hpn : pa = none → pc = 0) (hsz : pn ≤ 800000000) :
    Calls Tryd.prog 55 #[.agg (mcells k n t s od (.slice a m c)).toArray, .agg #[.int .i64 x, .slice pa pn pc]] w fun e w' => e = .returned (.int .i64 (cpE k n t s m D x pl)) ∧ Below w.heap.size w w' := by
  obtain ⟨w2, hw2⟩ : ∃ y, y = (w.alloc (.cells (mcells k n t s od (.slice a m c)).toArray 27)).alloc (.cells #[.int .i64 x, .slice pa pn pc] 44) := ⟨_, rfl⟩
  have hs1 : (w.alloc (.cells (mcells k n t s od (.slice a m c)).toArray 27)).heap.size = w.heap.size + 1 := by simp
  have hb2 : Below w.heap.size w w2 := by rw [hw2]; exact ((Below.refl _ _).alloc (Nat.le_refl _) _).alloc (by simp) _
  have hM : ManAt w2 w.heap.size k n t s od (.slice a m c) := by
    rw [hw2]
    exact (heap_alloc_old _ _ (by simp)).trans (heap_new _ _)
  have hQ : w2.heap[w.heap.size + 1]? = some (.cells #[.int .i64 x, .slice pa pn pc] 44 (0, 0)) := by rw [hw2, ← hs1]; exact heap_new _ _
  have HB := hid hb2
  have HRA := hid (range_of_heapI hM)
  have HIF := hid (show (Tryd.prog.info? 27).map (·.size) = some (mcells k n t s od (.slice a m c)).length from by rw [mcells_length _ _ _ _ _ _ ho]; kernel_rfl)
  have HE := hid (fun wx => valid_any k n t s od a m c ho wx)
  have HC := hid (fun (wx : World) (b : Below w2.heap.size w2 wx) => (show wx.cell? ⟨w.heap.size, 0, none⟩ = some (.int .i64 k) ∧ wx.cell? ⟨w.heap.size, 2, none⟩ = some (.int .i64 t) ∧ wx.cell? ⟨w.heap.size, 3, none⟩ = some (.int .i64 s) ∧ wx.cell? ⟨w.heap.size, 36, none⟩ = some (.slice a m c) ∧ wx.cell? ⟨w.heap.size + 1, 0, none⟩ = some (.int .i64 x) ∧ wx.cell? ⟨w.heap.size + 1, 1, none⟩ = some (.slice pa pn pc) from by
    have h0 : ManAt wx w.heap.size k n t s od (.slice a m c) := (b.block _ (lt_of_heap hM)).trans hM
    have h1 := h0.c ho
    have h2 := (b.block _ (lt_of_heap hQ)).trans hQ
    exact ⟨h1.1, h1.2.2.1, h1.2.2.2.1, h1.2.2.2.2, by rw [cell_of_heap h2]; rfl, by rw [cell_of_heap h2]; rfl⟩))
  have HDD := hid hD
  have HPP := hid hp
  have HVV := hid V
  clear hs1 hb2 hM hQ ho hD hp V
  cases hv : manB k n t s m with
  | false =>
    as_aux_lemma =>
      have HR := hid (show cpE k n t s m D x pl = 2 from by unfold cpE; rw [hv]; rfl)
      have hme : manB k n t s m = false := by exact hv
      rw [hme] at HE
      clear hv hme
      go_enter Tryd.func55, Tryd.ntmps55
      go_upto_region 1 with fail
      change Code.wp _ _ _ _ ((w.alloc (.cells (mcells k n t s od (.slice a m c)).toArray 27)).alloc (.cells #[.int .i64 x, .slice pa pn pc] 44))
      rw [← hw2]
      clear hw2
      go_wp2_with (refine wpList_load_mid (by rfl) 27 (.tmp 2) (by rfl) w.heap.size 0 (by rfl) (mcells k n t s od (.slice a m c)) _ HRA.out Tryd.underlying27 rfl HIF.out ?_)
      refine (HE.out w2).mono ?_
      rintro e w3 ⟨rfl, hb3⟩
      obtain ⟨c0, c2, c3, c36, p0, p1⟩ := HC.out w3 hb3
      have HB3 := hid (HB.out.trans (hb3.mono HB.out.size))
      go_wp2
      go_ret
      exact ⟨by rw [HR.out]; all_goals rfl, HB3.out⟩
  | true =>
    have hnum : 1 ≤ k ∧ k ≤ n ∧ n ≤ t ∧ t ≤ 255 ∧ 0 ≤ s ∧ s ≤ 8192 ∧ (m : Int) = t := by
      have hok := hv
      unfold manB vnB vcB at hok
      simp only [Bool.and_eq_true, decide_eq_true_eq] at hok
      omega
    have hme : manB k n t s m = true := by exact hv
    rw [hme] at HE
    have HU := hid (show cpE k n t s m D x pl = (if x < 0 ∨ t ≤ x then 2 else if pl.length ≠ plen k.toNat s.toNat then 10 else if dig shaRound shaStart ([hi8 x, lo8 x] ++ pl) ≠ D.getD x.toNat [] then 20 else 0) from by unfold cpE; rw [if_pos hv])
    clear hme hv
    by_cases hx0 : x < 0
    · as_aux_lemma =>
      have HR := hid (show cpE k n t s m D x pl = 2 from by rw [HU.out, if_pos (.inl hx0)])
      clear hnum
      go_enter Tryd.func55, Tryd.ntmps55
      go_upto_region 1 with fail
      change Code.wp _ _ _ _ ((w.alloc (.cells (mcells k n t s od (.slice a m c)).toArray 27)).alloc (.cells #[.int .i64 x, .slice pa pn pc] 44))
      rw [← hw2]
      clear hw2
      go_wp2_with (refine wpList_load_mid (by rfl) 27 (.tmp 2) (by rfl) w.heap.size 0 (by rfl) (mcells k n t s od (.slice a m c)) _ HRA.out Tryd.underlying27 rfl HIF.out ?_)
      refine (HE.out w2).mono ?_
      rintro e w3 ⟨rfl, hb3⟩
      obtain ⟨c0, c2, c3, c36, p0, p1⟩ := HC.out w3 hb3
      have HB3 := hid (HB.out.trans (hb3.mono HB.out.size))
      go_wp2
      go_ret
      exact ⟨by rw [HR.out]; all_goals rfl, HB3.out⟩
    by_cases hxt : t ≤ x
    · as_aux_lemma =>
      have HR := hid (show cpE k n t s m D x pl = 2 from by rw [HU.out, if_pos (.inr hxt)])
      clear hnum
      go_enter Tryd.func55, Tryd.ntmps55
      go_upto_region 1 with fail
      change Code.wp _ _ _ _ ((w.alloc (.cells (mcells k n t s od (.slice a m c)).toArray 27)).alloc (.cells #[.int .i64 x, .slice pa pn pc] 44))
      rw [← hw2]
      clear hw2
      go_wp2_with (refine wpList_load_mid (by rfl) 27 (.tmp 2) (by rfl) w.heap.size 0 (by rfl) (mcells k n t s od (.slice a m c)) _ HRA.out Tryd.underlying27 rfl HIF.out ?_)
      refine (HE.out w2).mono ?_
      rintro e w3 ⟨rfl, hb3⟩
      obtain ⟨c0, c2, c3, c36, p0, p1⟩ := HC.out w3 hb3
      have HB3 := hid (HB.out.trans (hb3.mono HB.out.size))
      go_wp2
      go_ret
      exact ⟨by rw [HR.out]; all_goals rfl, HB3.out⟩
    have hor : ¬ (x < 0 ∨ t ≤ x) := by omega
    have HSZ := hid (fun wx => length_ok k.toNat s.toNat (by omega) (by omega) (by omega) wx)
    rw [show ((k.toNat : Nat) : Int) = k from by omega, show ((s.toNat : Nat) : Int) = s from by omega] at HSZ
    have HPL := hid HPP.out.len
    by_cases hln : pl.length ≠ plen k.toNat s.toNat
    · as_aux_lemma =>
      have HR := hid (show cpE k n t s m D x pl = 10 from by rw [HU.out, if_neg hor, if_pos hln])
      have nq : ((pn : Int) != ((plen k.toNat s.toNat : Nat) : Int)) = true := by have := HPL.out; rw [bne_iff_ne]; omega
      clear hnum hor hln
      go_enter Tryd.func55, Tryd.ntmps55
      go_upto_region 1 with fail
      change Code.wp _ _ _ _ ((w.alloc (.cells (mcells k n t s od (.slice a m c)).toArray 27)).alloc (.cells #[.int .i64 x, .slice pa pn pc] 44))
      rw [← hw2]
      clear hw2
      go_wp2_with (refine wpList_load_mid (by rfl) 27 (.tmp 2) (by rfl) w.heap.size 0 (by rfl) (mcells k n t s od (.slice a m c)) _ HRA.out Tryd.underlying27 rfl HIF.out ?_)
      refine (HE.out w2).mono ?_
      rintro e w3 ⟨rfl, hb3⟩
      obtain ⟨c0, c2, c3, c36, p0, p1⟩ := HC.out w3 hb3
      have HB3 := hid (HB.out.trans (hb3.mono HB.out.size))
      clear hb3
      go_wp2_with fail
      refine (HSZ.out w3).mono ?_
      rintro e w4 ⟨rfl, rfl⟩
      go_wp2
      go_ret
      exact ⟨by rw [HR.out]; all_goals rfl, HB3.out⟩
    obtain ⟨i, hi⟩ : ∃ i : Nat, x = (i : Int) := ⟨x.toNat, by omega⟩
    have him : i < D.length := by have := HDD.out.len; omega
    obtain ⟨b, o', ha, hrg⟩ : ∃ b o', a = some ⟨b, o', none⟩ ∧ ∀ j, j < D.length → w.rangeAt b (o' + j * 32) (u8s (D.getD j [])) := by
      obtain ⟨a', c', h1, h2, h3⟩ := HDD.out.at_
      obtain ⟨b, o', e, h4⟩ := h3 (fun h => by rw [h] at him; simp at him)
      simp only [Value.slice.injEq] at h1
      exact ⟨b, o', h1.1.trans e, h4⟩
    have nq : ((pn : Int) != ((plen k.toNat s.toNat : Nat) : Int)) = false := by have := HPL.out; rw [bne_eq_false_iff_eq]; omega
    have hl32 : (D.getD i []).length = 32 := by
      rw [List.getD_eq_getElem?_getD, List.getElem?_eq_getElem him]
      exact HDD.out.l32 _ (List.getElem_mem _)
    have HRG := hid (hrg i him)
    obtain ⟨Y, hY⟩ : ∃ Y, Y = dig shaRound shaStart ([hi8 x, lo8 x] ++ pl) := ⟨_, rfl⟩
    have hY32 : Y.length = 32 := by rw [hY]; exact dig_length _ _ _
    obtain ⟨Z, hZ⟩ : ∃ Z, Z = D.getD i [] := ⟨_, rfl⟩
    rw [← hZ] at HRG hl32
    have HEQ := hid (fun wx => eql_any Y Z hY32 hl32 wx)
    have HIFZ := hid (show (Tryd.prog.info? 24).map (·.size) = some (u8s Z).length from by simp only [u8s, List.length_map, hl32]; kernel_rfl)
    have HFIN := hid (show cpE k n t s m D x pl = if Y ≠ Z then 20 else 0 from by rw [HU.out, if_neg hor, if_neg hln, ← hY, hZ, hi]; rfl)
    have HPD := hid (fun (wx : World) (b : Below w.heap.size w wx) => refd_all x pa pn pc pl wx (HVV.out.below b) (HPP.out.below b) hpc hpn hsz)
    rw [← hY] at HPD
    have hmi : (i : Int) < (m : Int) := by have := HDD.out.len; omega
    have hxt2 : ¬ t ≤ (i : Int) := by omega
    have hx02 : ¬ (i : Int) < 0 := by omega
    subst hi
    subst ha
    clear hnum hor hln hxt hx0 HU hrg him hY hZ hY32 hl32
    have hfin : ∀ (q : Bool), q = decide (Y = Z) → (if Y ≠ Z then (20 : Int) else 0) = if q then 0 else 20 := by
      rintro q rfl
      by_cases h : Y = Z
      · rw [if_neg (by simpa using h), decide_eq_true h]; rfl
      · rw [if_pos h, decide_eq_false h]; rfl
    generalize hq : decide (Y = Z) = q at *
    have HFN := hid (HFIN.out.trans (hfin q rfl))
    clear hfin HFIN hq
    obtain ⟨x, hx⟩ : ∃ x : Int, x = (i : Int) := ⟨_, rfl⟩
    cases q
    all_goals as_aux_lemma =>
      rw [HFN.out]
      rw [hx] at *
      clear hx
      go_enter Tryd.func55, Tryd.ntmps55
      go_upto_region 1 with fail
      change Code.wp _ _ _ _ ((w.alloc (.cells (mcells k n t s od (.slice (some ⟨b, o', none⟩) m c)).toArray 27)).alloc (.cells #[.int .i64 (i : Int), .slice pa pn pc] 44))
      rw [← hw2]
      clear hw2
      go_wp2_with (refine wpList_load_mid (by rfl) 27 (.tmp 2) (by rfl) w.heap.size 0 (by rfl) (mcells k n t s od (.slice (some ⟨b, o', none⟩) m c)) _ HRA.out Tryd.underlying27 rfl HIF.out ?_)
      refine (HE.out w2).mono ?_
      rintro e w3 ⟨rfl, hb3⟩
      obtain ⟨c0, c2, c3, c36, p0, p1⟩ := HC.out w3 hb3
      have HB3 := hid (HB.out.trans (hb3.mono HB.out.size))
      clear hb3
      go_wp2_with fail
      refine (HSZ.out w3).mono ?_
      rintro e w4 ⟨rfl, rfl⟩

      have hne : Nonempty (Cls fun w' => Below w3.heap.size w3 w') := ⟨⟨w3, Below.refl _ _⟩⟩
      have q0 : ∀ p : Cls (fun w' => Below w3.heap.size w3 w'), p.w.cell? ⟨w.heap.size + 1, 0, none⟩ = some (.int .i64 (i : Int)) := fun p => (p.h.cell (World.block_lt_of_cell? _ _ p0)).trans p0
      have q1 : ∀ p : Cls (fun w' => Below w3.heap.size w3 w'), p.w.cell? ⟨w.heap.size + 1, 1, none⟩ = some (.slice pa pn pc) := fun p => (p.h.cell (World.block_lt_of_cell? _ _ p1)).trans p1
      have q2 : ∀ p : Cls (fun w' => Below w3.heap.size w3 w'), p.w.cell? ⟨w.heap.size, 36, none⟩ = some (.slice (some ⟨b, o', none⟩) m c) := fun p => (p.h.cell (World.block_lt_of_cell? _ _ c36)).trans c36
      have HPQ := hid (fun (p : Cls (fun w' => Below w3.heap.size w3 w')) => HPD.out p.w (HB3.out.trans (p.h.mono HB3.out.size)))
      have HRQ := hid (fun (p : Cls (fun w' => Below w3.heap.size w3 w')) => range_below HRG.out (HB3.out.trans (p.h.mono HB3.out.size)))
      have e1 := fun wx => HEQ.out wx
      have hi0 : (0 : Int) ≤ (i : Int) := by omega
      go_upto_region 6 with fail
      refine wp_region_class_lit (G := fun w' => Below w3.heap.size w3 w') (by kernel_rfl) (by kernel_rfl) (bel_drewN (Below.refl _ _) 1) ?_
      iterate 10 (go_big_quiet_step ((go_at_call 35; exact Calls.cls (HPQ.out _))))
      refine wpQuiet_load_cls (by rfl) 24 (.tmp 44) (by rfl) b (o' + i * 32) (by rfl) (u8s Z) _ HRQ.out Tryd.underlying24 rfl HIFZ.out ?_
      rintro _ rfl
      try simp only [Act.put, List.setIfInBounds_toArray, List.set_cons_zero, List.set_cons_succ]
      repeat (go_big_quiet_step ((go_at_call 35; exact Calls.cls (HPQ.out _))))
      refine wpQuiet_nil ?_
      rintro _ ⟨p, rfl⟩
      have HBF := hid (HB3.out.trans (p.h.mono HB3.out.size))
      go_wp2
      go_ret
      exact ⟨rfl, HBF.out⟩

end Go.Proofs.YtahnihihfheegaaDoor
