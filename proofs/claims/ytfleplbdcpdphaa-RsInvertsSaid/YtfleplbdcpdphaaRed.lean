/-
  Rows of a matrix, each in a block of its own, in a table of slices.
-/
import Derived.Test.YtfleplbdcpdphaaGj
import Derived.Test.YtfleplbdcpdphaaRefC
import Derived.Deep.RegionHeld3
namespace Go.Proofs.Ytfleplbdcpdphaa
open Go Go.RowKit
set_option linter.unusedVariables false

theorem map_set' {α : Type} (R : Nat) (f : Nat → α) (i : Nat) (v : α) : ((List.range R).map f).set i v = (List.range R).map fun j => if j = i then v else f j := by
  apply List.ext_getElem
  · simp
  · intro j h1 h2
    rw [List.getElem_set]
    by_cases e : i = j
    · subst e; simp
    · rw [if_neg e]
      simp [show ¬ j = i from fun h => e h.symm]
theorem addN (b o i : Nat) : (⟨b, o, none⟩ : Addr).add i = ⟨b, o + i, none⟩ := by unfold Addr.add; split <;> simp_all
/-- the first k rows stand in blocks of their own -/
structure RowsI (tb R Wd k : Nat) (M : Nat → Nat → Nat) (g cp : Nat → Nat) (w : World) : Prop where
  tab : w.heap[tb]? = some (.cells ((List.range R).map fun i => if i < k then Value.slice (some ⟨g i, 0, none⟩) Wd (cp i) else Value.slice none 0 0).toArray 27 (0, 0))
  row : ∀ i, i < k → Buf w (g i) (cp i) ((List.range Wd).map (M i))
  inj : ∀ i j, i < k → j < k → g i = g j → i = j
  low : ∀ i, i < k → tb < g i
section
variable {tb R Wd k : Nat} {M : Nat → Nat → Nat} {g cp : Nat → Nat} {w : World}
theorem RowsI.get (h : RowsI tb R Wd k M g cp w) (i : Nat) (hi : i < R) (hk : i < k) : w.cell? ⟨tb, i, none⟩ = some (.slice (some ⟨g i, 0, none⟩) Wd (cp i)) := by
  rw [cell_of_heap h.tab]
  simp [hi, hk]
theorem RowsI.cell (h : RowsI tb R Wd k M g cp w) (i j : Nat) (hk : i < k) (hj : j < Wd) : w.cell? ⟨g i, j, none⟩ = some (.int .u8 ((M i j : Nat) : Int)) := by
  have h1 := (h.row i hk).cell j (by simpa using hj)
  rw [h1]
  simp [hj]
theorem RowsI.cap (h : RowsI tb R Wd k M g cp w) (i : Nat) (hk : i < k) : Wd ≤ cp i := by
  have := (h.row i hk).cap_le
  simpa using this
theorem RowsI.lt (h : RowsI tb R Wd k M g cp w) : tb < w.heap.size := lt_of_heap h.tab
theorem RowsI.of_same {w' : World} (h : RowsI tb R Wd k M g cp w) (hs : ∀ b, tb ≤ b → b < w.heap.size → w'.heap[b]? = w.heap[b]?) : RowsI tb R Wd k M g cp w' :=
  ⟨(hs tb (Nat.le_refl _) h.lt).trans h.tab, fun i hi => (h.row i hi).of_same (hs _ (Nat.le_of_lt (h.low i hi)) (h.row i hi).lt), h.inj, h.low⟩
theorem RowsI.low_same {w' : World} {B : Nat} (h : RowsI tb R Wd k M g cp w) (hB : tb < B) (hg : ∀ i, i < k → g i < B) (hs : ∀ b, b < B → w'.heap[b]? = w.heap[b]?) : RowsI tb R Wd k M g cp w' :=
  ⟨(hs tb hB).trans h.tab, fun i hi => (h.row i hi).of_same (hs _ (hg i hi)), h.inj, h.low⟩
theorem RowsI.below {w' : World} (h : RowsI tb R Wd k M g cp w) (hb : Below w.heap.size w w') : RowsI tb R Wd k M g cp w' := h.of_same fun b _ h2 => hb.block b h2
theorem RowsI.drewN (h : RowsI tb R Wd k M g cp w) (q : Nat) : RowsI tb R Wd k M g cp (w.drewN q) := h.below (bel_drewN (Below.refl _ _) q)
theorem RowsI.congr {N : Nat → Nat → Nat} (h : RowsI tb R Wd k M g cp w) (he : ∀ i j, i < k → j < Wd → M i j = N i j) : RowsI tb R Wd k N g cp w :=
  ⟨h.tab, fun i hi => by
    have e : (List.range Wd).map (M i) = (List.range Wd).map (N i) := List.map_congr_left fun j hj => he i j hi (List.mem_range.1 hj)
    rw [← e]
    exact h.row i hi, h.inj, h.low⟩
/-- one element changed -/
theorem RowsI.set (h : RowsI tb R Wd k M g cp w) (i j x : Nat) (hi : i < k) (hj : j < Wd) : RowsI tb R Wd k (setM M i j x) g cp (w.setCell ⟨g i, j, none⟩ (.int .u8 ((x : Nat) : Int))) := by
  have hlow := h.low i hi
  refine ⟨(Below.heap_setCell _ _ _ _ (by show tb ≠ g i; omega)).trans h.tab, fun a ha => ?_, h.inj, h.low⟩
  by_cases e : a = i
  · subst e
    have h1 := (h.row a ha).set j x (by simpa using hj)
    rw [map_set'] at h1
    have e : ((List.range Wd).map fun q => if q = j then x else M a q) = (List.range Wd).map (setM M a j x a) := List.map_congr_left fun q _ => by
      unfold setM
      by_cases hq : q = j <;> simp [hq]
    rw [← e]
    exact h1
  · have e2 : (List.range Wd).map (setM M i j x a) = (List.range Wd).map (M a) := List.map_congr_left fun q _ => by
      unfold setM
      simp [e]
    rw [e2]
    exact (h.row a ha).setCell (p := ⟨g i, j, none⟩) (fun h2 => e (h.inj a i ha hi h2.symm)) _
/-- one more row -/
theorem RowsI.more {w2 : World} (h : RowsI tb R Wd k M g cp w) (hb : Below w.heap.size w w2) (gb cb : Nat) (hgb : w.heap.size ≤ gb) (hB : Buf w2 gb cb ((List.range Wd).map (M k))) (hk : k < R) :
    RowsI tb R Wd (k + 1) M (fun i => if i = k then gb else g i) (fun i => if i = k then cb else cp i) (w2.setCell ⟨tb, k, none⟩ (.slice (some ⟨gb, 0, none⟩) Wd cb)) := by
  have hlt := h.lt
  have hgl : ∀ i, i < k → g i < w.heap.size := fun i hi => (h.row i hi).lt
  refine ⟨?_, fun i hi => ?_, fun i j hi hj e => ?_, fun i hi => ?_⟩
  · have h1 := heap_set ((hb.block tb hlt).trans h.tab) k (.slice (some ⟨gb, 0, none⟩) Wd cb)
    rw [h1, List.setIfInBounds_toArray, map_set']
    congr 3
    apply List.map_congr_left
    intro i hi
    by_cases e : i = k
    · subst e; simp
    · by_cases e2 : i < k
      · simp [e, e2, show i < k + 1 by omega]
      · simp [e, e2, show ¬ i < k + 1 by omega]
  · by_cases e : i = k
    · subst e
      simp only [if_true]
      exact hB.setCell (p := ⟨tb, i, none⟩) (by show tb ≠ gb; omega) _
    · simp only [if_neg e]
      have h1 := (h.row i (by omega)).below hb
      exact h1.setCell (p := ⟨tb, k, none⟩) (by have := h.low i (by omega); show tb ≠ g i; omega) _
  · by_cases e1 : i = k
    · by_cases e2 : j = k
      · omega
      · have := hgl j (by omega)
        simp only [e1, e2, if_true, if_false] at e
        omega
    · by_cases e2 : j = k
      · have := hgl i (by omega)
        simp only [e1, e2, if_true, if_false] at e
        omega
      · simp only [e1, e2, if_false] at e
        exact h.inj i j (by omega) (by omega) e
  · by_cases e : i = k
    · simp only [e, if_true]; omega
    · simp only [if_neg e]
      exact h.low i (by omega)
/-- two rows of a full table exchanged -/
theorem RowsI.swap (h : RowsI tb R Wd R M g cp w) (r p : Nat) (hr : r < R) (hp : p < R) :
    RowsI tb R Wd R (swapM M r p) (fun i => if i = r then g p else if i = p then g r else g i) (fun i => if i = r then cp p else if i = p then cp r else cp i)
      ((w.setCell ⟨tb, p, none⟩ (.slice (some ⟨g r, 0, none⟩) Wd (cp r))).setCell ⟨tb, r, none⟩ (.slice (some ⟨g p, 0, none⟩) Wd (cp p))) := by
  refine ⟨?_, fun i hi => ?_, fun i j hi hj e => ?_, fun i hi => ?_⟩
  · have h1 := heap_set (heap_set h.tab p (.slice (some ⟨g r, 0, none⟩) Wd (cp r))) r (.slice (some ⟨g p, 0, none⟩) Wd (cp p))
    rw [h1, List.setIfInBounds_toArray, List.setIfInBounds_toArray, map_set', map_set']
    congr 3
    apply List.map_congr_left
    intro i hi
    have hi := List.mem_range.1 hi
    by_cases e : i = r
    · simp [e, hr]
    · by_cases e2 : i = p
      · simp [e2, hp, show ¬ p = r from fun h => e (e2.trans h)]
      · simp [e, e2, hi]
  · by_cases e : i = r
    · subst e
      have e3 : swapM M i p i = M p := by funext j; simp [swapM]
      rw [e3]
      simp only [if_true]
      have := h.low p hp
      exact ((h.row p hp).setCell (p := ⟨tb, p, none⟩) (by show tb ≠ g p; omega) _).setCell (p := ⟨tb, i, none⟩) (by show tb ≠ g p; omega) _
    · by_cases e2 : i = p
      · subst e2
        have e3 : swapM M r i i = M r := by funext j; simp [swapM, e]
        rw [e3]
        simp only [if_neg e, if_true]
        have := h.low r hr
        exact ((h.row r hr).setCell (p := ⟨tb, i, none⟩) (by show tb ≠ g r; omega) _).setCell (p := ⟨tb, r, none⟩) (by show tb ≠ g r; omega) _
      · have e3 : swapM M r p i = M i := by funext j; simp [swapM, e, e2]
        rw [e3]
        simp only [if_neg e, if_neg e2]
        have := h.low i hi
        exact ((h.row i hi).setCell (p := ⟨tb, p, none⟩) (by show tb ≠ g i; omega) _).setCell (p := ⟨tb, r, none⟩) (by show tb ≠ g i; omega) _
  · have key : ∀ a, a < R → (if a = r then p else if a = p then r else a) < R := fun a ha => by split; omega; split <;> omega
    have e' : g (if i = r then p else if i = p then r else i) = g (if j = r then p else if j = p then r else j) := by
      have f : ∀ a, g (if a = r then p else if a = p then r else a) = if a = r then g p else if a = p then g r else g a := fun a => by
        by_cases x : a = r
        · simp [x]
        · by_cases y : a = p
          · simp [y, show ¬ p = r from fun h => x (y.trans h)]
          · simp [x, y]
      rw [f, f]
      exact e
    have := h.inj _ _ (key i hi) (key j hj) e'
    split at this <;> split at this <;> (try split at this) <;> (try split at this) <;> omega
  · show tb < if i = r then g p else if i = p then g r else g i
    split
    · exact h.low p hp
    · split
      · exact h.low r hr
      · exact h.low i hi
theorem RowsI.free (h : RowsI tb R Wd k M g cp w) (i j : Nat) (hk : i < k) : w.frozen? ⟨g i, j, none⟩ = false := (h.row i hk).free j
theorem RowsI.tfree (h : RowsI tb R Wd k M g cp w) (i : Nat) : w.frozen? ⟨tb, i, none⟩ = false := free_of_heap h.tab i
end
/-- the table of no rows -/
theorem RowsI.zero (tb R Wd : Nat) (M : Nat → Nat → Nat) (w : World) (h : w.heap[tb]? = some (.cells (Array.replicate R (Value.slice none 0 0)) 27 (0, 0))) : RowsI tb R Wd 0 M (fun _ => 0) (fun _ => 0) w := by
  refine ⟨?_, fun i hi => absurd hi (Nat.not_lt_zero _), fun i j hi => absurd hi (Nat.not_lt_zero _), fun i hi => absurd hi (Nat.not_lt_zero _)⟩
  rw [h]
  congr 3
  apply Array.ext
  · simp
  · intro i h1 h2; simp
theorem buf_of_ownsR {w : World} {base m : Nat} {v : Value} {l : List Nat} (h : w.ownsRow base 5 1 v m (u8s l)) (h0 : 0 < m) : ∃ g cap, v = .slice (some ⟨g, 0, none⟩) m cap ∧ base ≤ g ∧ Buf w g cap l := by
  obtain ⟨h1, h2⟩ := h
  have hm : m = l.length := by simpa [u8s] using h1.symm
  rcases h2 with ⟨_, h3⟩ | ⟨g, cap, cur, h3, hg, hh, hc, hx, hs, ht⟩
  · omega
  · exact ⟨g, cap, h3, hg, ⟨cur, hh, by omega, by omega, by rw [← ht, hm]; simp⟩⟩
/-- appending bytes to a row of one's own -/
theorem step_own_more {ops : Array Oper} {o : Oper} {a : Act} {w : World} {K : Act → World → Prop} {Q : Exit → Act → World → Prop} {E : Prop} (hgd : o.guard = none) (s x : Operand)
    (ho : o.op = .call { callee := .builtin .append, args := #[s, x], argTypes := #[27, 27] }) (base n0 : Nat) (v0 : Value) (l0 : List Nat) (hs : a.eval s = v0) (hown : w.ownsRow base 5 1 v0 n0 (u8s l0))
    (sa : Option Addr) (m c : Nat) (l : List Nat) (hx : a.eval x = .slice sa m c) (hb : Bs w (.slice sa m c) l) (hnil : sa = none → c = 0) (hm : n0 + m ≤ 461168601842) (hbase : base ≤ w.heap.size)
    (hK : ∀ v' w', w'.ownsRow base 5 1 v' (n0 + m) (u8s (l0 ++ l)) → w.grownBy w' v0.ownBlock → K (a.put o.dst v') w') :
    if Region.wanted o (yielded ops a.tmps) = true then Oper.wp Try.prog o a w K Q else E := by
  have hw : Region.wanted o (yielded ops a.tmps) = true := by simp [Region.wanted, hgd]
  rw [if_pos hw]
  obtain ⟨i0, hi, hz0, hz1, hz2⟩ := info_parts info5
  have hlen := hb.len
  have hap : u8s (l0 ++ l) = u8s l0 ++ u8s l := by simp [u8s]
  cases sa with
  | none =>
    obtain rfl := hnil rfl
    have h0 : l = [] := by
      rcases hb.addr with ⟨h0, _⟩ | ⟨_, b, o', c', hv⟩
      · exact h0
      · simp at hv
    subst h0
    obtain rfl : m = 0 := hlen
    have hrun := run_append_owned_none (P := Try.prog) (w := w) base 27 o.type 5 i0 1 Try.underlying27 hi v0 n0 (u8s l0) hown
    unfold Oper.wp
    simp [execOp, ho, resolve, invoke, builtin, hs, hx, hrun, Result.andThen]
    refine hK _ _ ?_ (World.grownBy.refl w _)
    rw [List.append_nil, Nat.add_zero]
    exact hown
  | some ad =>
    have hnews : ∀ j u, (u8s l)[j]? = some u → w.cell? (ad.add j) = some u := fun j u hj => by
      have hjl : j < l.length := by have := (List.getElem?_eq_some_iff.1 hj).1; simpa [u8s] using this
      rcases hb.addr with ⟨h0, _⟩ | ⟨_, b, o', c', hv⟩
      · rw [h0] at hjl; exact absurd hjl (Nat.not_lt_zero _)
      · simp only [Value.slice.injEq, Option.some.injEq] at hv
        obtain ⟨rfl, _, _⟩ := hv
        have hc := hb.cell j hjl
        have e : (⟨b, o', none⟩ : Addr).add j = ⟨b, o' + j, none⟩ := by unfold Addr.add; split <;> simp_all
        rw [e, hc, ← hj]
        simp [u8s, List.getElem?_eq_getElem hjl]
    refine wp_append_own w s x _ ho base 5 i0 (.int .u8 0) 1 1 Try.underlying27 hi hz0 hz1 hz2 rfl (by decide) _ n0 (u8s l0) hs hown ad m c (u8s l) hx (by simp [u8s]; omega) hnews (fun u hu => by
      unfold u8s at hu
      obtain ⟨y, _, rfl⟩ := List.mem_map.1 hu
      rfl) (by unfold maxLen; omega) (by omega) hbase ?_
    intro v' w' hown' hg hn
    rw [← hap] at hown'
    exact hK v' w' hown' hg
end Go.Proofs.Ytfleplbdcpdphaa
