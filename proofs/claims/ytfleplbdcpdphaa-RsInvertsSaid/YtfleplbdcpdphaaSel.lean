/-
  copy of one row of a matrix; append([]int{}, s...); Select.
-/
import Derived.Test.YtfleplbdcpdphaaProd
import Derived.Test.YtfleplbdcpdphaaOpen
import Derived.Laws.CopyOwn
namespace Go.Proofs.Ytfleplbdcpdphaa
open Go Go.RowKit
set_option linter.unusedVariables false

/-- row r replaced -/
def setRowM (M : Nat → Nat → Nat) (r : Nat) (l : List Nat) : Nat → Nat → Nat := fun i j => if i = r then l.getD j 0 else M i j
theorem flat_splice {R C r : Nat} (M : Nat → Nat → Nat) (hr : r < R) (l : List Nat) (hl : l.length = C) :
    (u8s (flat R C M)).take (r * C) ++ u8s l ++ (u8s (flat R C M)).drop (r * C + (u8s l).length) = u8s (flat R C (setRowM M r l)) := by
  have hle := ix_le (C := C) hr
  have e : (flat R C M).take (r * C) ++ l ++ (flat R C M).drop (r * C + l.length) = flat R C (setRowM M r l) := by
    refine flat_of _ (by simp only [List.length_append, List.length_take, List.length_drop, flat_length]; omega) fun i j hi hj => ?_
    have hlen : ((flat R C M).take (r * C)).length = r * C := by simp only [List.length_take, flat_length]; omega
    rw [List.getD_eq_getElem?_getD]
    unfold setRowM
    by_cases e : i = r
    · subst e
      rw [if_pos rfl, List.getElem?_append_left (by rw [List.length_append, hlen]; omega), List.getElem?_append_right (by rw [hlen]; omega), hlen, Nat.add_sub_cancel_left, ← List.getD_eq_getElem?_getD]
    · rw [if_neg e]
      rcases Nat.lt_or_gt_of_ne e with h | h
      · have h2 := ix_le (C := C) h
        have h3 : i * C + j < r * C := ix_lt h hj
        rw [List.getElem?_append_left (by rw [List.length_append, hlen]; omega), List.getElem?_append_left (by rw [hlen]; exact h3), List.getElem?_take_of_lt h3, ← List.getD_eq_getElem?_getD, flat_getD M hi hj]
      · have h2 := ix_le (C := C) h
        rw [List.getElem?_append_right (by rw [List.length_append, hlen]; omega), List.getElem?_drop]
        have h4 : r * C + l.length + (i * C + j - ((flat R C M).take (r * C) ++ l).length) = i * C + j := by rw [List.length_append, hlen]; omega
        rw [h4, ← List.getD_eq_getElem?_getD, flat_getD M hi hj]
  rw [← e]
  simp [u8s, List.map_append, List.map_take, List.map_drop]
theorem u8s_one (l : List Nat) : ∀ v ∈ u8s l, v.oneCell' = true := by
  intro v hv
  unfold u8s at hv
  obtain ⟨x, _, rfl⟩ := List.mem_map.1 hv
  rfl
theorem size5 : (Try.prog.info? 5).map (·.size) = some 1 := by kernel_rfl
/-- copy of C bytes over row r of a matrix -/
theorem wp_copy_row {o : Oper} {a : Act} {w : World} {K : Act → World → Prop} {Q : Exit → Act → World → Prop} (d s : Operand)
    (ho : o.op = .call { callee := .builtin .copy, args := #[d, s], argTypes := #[27, 27] }) (g R C r dCap : Nat) (M : Nat → Nat → Nat) (hr : r < R) (hC : 1 ≤ C)
    (hd : a.eval d = .slice (some ⟨g, r * C, none⟩) C dCap) (sa : Option Addr) (sCap : Nat) (hs : a.eval s = .slice sa C sCap) (hg : Own w g (flat R C M)) (l : List Nat) (hb : Bs w (.slice sa C sCap) l)
    (h : ∀ w', Own w' g (flat R C (setRowM M r l)) → Kept g w w' → K (a.put o.dst (goInt (C : Nat))) w') : Oper.wp Try.prog o a w K Q := by
  have hlen := hb.len
  have hle := ix_le (C := C) hr
  obtain ⟨b, o', rfl⟩ := hb.some (by intro e; rw [e] at hlen; simp at hlen; omega)
  have hsrc : ∀ j v, (u8s l)[j]? = some v → w.cell? ((⟨b, o', none⟩ : Addr).add j) = some v := fun j v hj => by
    have hjl : j < l.length := by have := (List.getElem?_eq_some_iff.1 hj).1; simpa [u8s] using this
    have e : (⟨b, o', none⟩ : Addr).add j = ⟨b, o' + j, none⟩ := by unfold Addr.add; split <;> simp_all
    rw [e, hb.cell j hjl, ← hj]
    simp [u8s, List.getElem?_eq_getElem hjl]
  have hl2 : (u8s l).length = C := by simp [u8s, ← hlen]
  have hrun := run_copy_row (P := Try.prog) w 27 27 o.type 5 g (r * C) C dCap ⟨b, o', none⟩ C sCap (u8s (flat R C M)).toArray 5 (u8s l) Try.underlying27 size5 hg (by rw [hl2]; exact (Nat.min_self C).symm) hsrc (by rw [hl2]; simp [u8s, flat_length]; omega) (u8s_one l)
  rw [List.toList_toArray, flat_splice M hr l hlen.symm, hl2] at hrun
  unfold Oper.wp
  simp [execOp, ho, resolve, invoke, builtin, hd, hs, hrun, Result.andThen]
  exact h _ (setRow_heap w g _ _ _ _ hg) ⟨rfl, rfl, rfl, by simp [World.setRow], fun k _ hk => setRow_other w g k _ hk⟩
theorem step_copy_row {ops : Array Oper} {o : Oper} {a : Act} {w : World} {K : Act → World → Prop} {Q : Exit → Act → World → Prop} {E : Prop} (hgd : o.guard = none) (d s : Operand)
    (ho : o.op = .call { callee := .builtin .copy, args := #[d, s], argTypes := #[27, 27] }) (g R C r dCap : Nat) (M : Nat → Nat → Nat) (hr : r < R) (hC : 1 ≤ C)
    (hd : a.eval d = .slice (some ⟨g, r * C, none⟩) C dCap) (sa : Option Addr) (sCap : Nat) (hs : a.eval s = .slice sa C sCap) (hg : Own w g (flat R C M)) (l : List Nat) (hb : Bs w (.slice sa C sCap) l)
    (h : ∀ w', Own w' g (flat R C (setRowM M r l)) → Kept g w w' → K (a.put o.dst (goInt (C : Nat))) w') :
    if Region.wanted o (yielded ops a.tmps) = true then Oper.wp Try.prog o a w K Q else E := by
  have hw : Region.wanted o (yielded ops a.tmps) = true := by simp [Region.wanted, hgd]
  rw [if_pos hw]
  exact wp_copy_row d s ho g R C r dCap M hr hC hd sa sCap hs hg l hb h
theorem wpList_copy_row {ops : Array Oper} {rest : List Oper} {o : Oper} {a : Act} {w : World} {Q : Exit → Act → World → Prop} (hgd : o.guard = none) (d s : Operand)
    (ho : o.op = .call { callee := .builtin .copy, args := #[d, s], argTypes := #[27, 27] }) (g R C r dCap : Nat) (M : Nat → Nat → Nat) (hr : r < R) (hC : 1 ≤ C)
    (hd : a.eval d = .slice (some ⟨g, r * C, none⟩) C dCap) (sa : Option Addr) (sCap : Nat) (hs : a.eval s = .slice sa C sCap) (hg : Own w g (flat R C M)) (l : List Nat) (hb : Bs w (.slice sa C sCap) l)
    (h : ∀ w', Own w' g (flat R C (setRowM M r l)) → Kept g w w' → wpList Try.prog ops Q rest (a.put o.dst (goInt (C : Nat))) w') : wpList Try.prog ops Q (o :: rest) a w :=
  wpList_plain hgd fun K hK => wp_copy_row d s ho g R C r dCap M hr hC hd sa sCap hs hg l hb fun w' h1 h2 => hK _ _ (h w' h1 h2)

/-! ### append([]int{}, s...) -/
def i64s (l : List Int) : List Value := l.map fun n => .int .i64 n
theorem info3 : (Try.prog.info? 3).map (fun i => (i.zero, i.size, i.bytes)) = some (some (.int .i64 0), 1, 8) := by kernel_rfl
theorem Is.len {w : World} {a : Option Addr} {n c : Nat} {l : List Int} (h : Is w (.slice a n c) l) : n = l.length := by
  obtain ⟨a', c', h1, _⟩ := h
  simp only [Value.slice.injEq] at h1
  exact h1.2.1
theorem Is.below {w w' : World} {v : Value} {l : List Int} (h : Is w v l) (k : Below w.heap.size w w') : Is w' v l := by
  obtain ⟨a, c, h1, h2, h3⟩ := h
  refine ⟨a, c, h1, h2, fun hl => ?_⟩
  obtain ⟨b, o, ha, hc⟩ := h3 hl
  refine ⟨b, o, ha, fun i hi => ?_⟩
  have := hc i hi
  rw [k.cell (World.block_lt_of_cell? _ _ this)]; exact this
theorem Is.alloc {w : World} {v : Value} {l : List Int} (h : Is w v l) (o : Obj) : Is (w.alloc o) v l := h.below ((Below.refl _ _).alloc (Nat.le_refl _) o)
theorem Is.addr {w : World} {a : Option Addr} {n c : Nat} {l : List Int} (h : Is w (.slice a n c) l) (hl : 0 < n) : ∃ b o, a = some ⟨b, o, none⟩ ∧ b < w.heap.size ∧ ∀ i, i < l.length → w.cell? ⟨b, o + i, none⟩ = some (.int .i64 (l.getD i 0)) := by
  have hn := h.len
  obtain ⟨a', c', h1, _, h3⟩ := h
  simp only [Value.slice.injEq] at h1
  obtain ⟨rfl, _, _⟩ := h1
  obtain ⟨b, o, h4, h5⟩ := h3 (by intro e; rw [e] at hn; simp at hn; omega)
  exact ⟨b, o, h4, World.block_lt_of_cell? _ _ (h5 0 (by omega)), h5⟩
theorem is_of_owns {w : World} {base : Nat} {v : Value} {m : Nat} {l : List Int} (h : w.ownsRow base 3 1 v m (i64s l)) (hl : ∀ n ∈ l, (Lit.int .i64 n).wf = true) : ∃ a c, v = .slice a m c ∧ m = l.length ∧ m ≤ c ∧ Is w v l ∧ ∀ ad, a = some ad → base ≤ ad.block ∧ ad.block < w.heap.size := by
  obtain ⟨h1, h2⟩ := h
  have hm : m = l.length := by simpa [i64s] using h1.symm
  rcases h2 with ⟨rfl, h0⟩ | ⟨g, cap, cur, rfl, hg, hh, hc, _, hs, ht⟩
  · have hl0 : l = [] := List.eq_nil_of_length_eq_zero (by omega)
    subst hl0; subst h0
    exact ⟨none, 0, rfl, rfl, Nat.le_refl _, ⟨none, 0, rfl, fun n h => absurd h List.not_mem_nil, fun h => absurd rfl h⟩, fun ad h => by cases h⟩
  · refine ⟨_, cap, rfl, hm, hc, ⟨_, cap, by rw [hm], hl, fun _ => ⟨g, 0, rfl, fun i hi => ?_⟩⟩, fun ad h => by cases h; exact ⟨hg, lt_of_heap hh⟩⟩
    rw [Nat.zero_add, cell_of_heap hh]
    have h3 : (cur.toList.take (m * 1))[i]? = (i64s l)[i]? := by rw [ht]
    rw [List.getElem?_take_of_lt (by omega)] at h3
    rw [← Array.getElem?_toList, h3]
    simp [i64s, List.getElem?_eq_getElem hi]
theorem wpList_cloneI {w : World} {ops : Array Oper} {rest : List Oper} {o : Oper} {a : Act} {Q : Exit → Act → World → Prop} (hgd : o.guard = none) (s x : Operand)
    (ho : o.op = .call { callee := .builtin .append, args := #[s, x], argTypes := #[37, 37] }) (g0 : Nat) (hs : a.eval s = .slice (some ⟨g0, 0, none⟩) 0 0) (hg0 : w.heap[g0]? = some (.cells #[] 3 (0, 0)))
    (sa : Option Addr) (m c : Nat) (l : List Int) (hx : a.eval x = .slice sa m c) (hb : Is w (.slice sa m c) l) (hnil : sa = none → c = 0) (hmc : m ≤ c) (hm : m ≤ 461168601842)
    (h : ∀ a' c' w', Is w' (.slice a' m c') l → m ≤ c' → Kept g0 w w' → wpList Try.prog ops Q rest (a.put o.dst (.slice a' m c')) w') :
    wpList Try.prog ops Q (o :: rest) a w := by
  obtain ⟨i0, hi, hz0, hz1, hz2⟩ := info_parts info3
  have hown : w.ownsRow g0 3 1 (.slice (some ⟨g0, 0, none⟩) 0 0) 0 [] := ⟨rfl, .inr ⟨g0, 0, #[], rfl, Nat.le_refl _, hg0, Nat.le_refl _, Nat.zero_le _, rfl, rfl⟩⟩
  have hlt := lt_of_heap hg0
  have hl : ∀ n ∈ l, (Lit.int .i64 n).wf = true := by obtain ⟨_, _, _, h, _⟩ := hb; exact h
  have hlen := hb.len
  cases sa with
  | none =>
    obtain rfl := hnil rfl
    obtain rfl : m = 0 := by omega
    have hl0 : l = [] := List.eq_nil_of_length_eq_zero (by omega)
    subst hl0
    refine Go.wpList_append_own_none hgd s x _ ho g0 _ i0 1 Try.underlying37 hi _ 0 [] hs hown hx ?_
    exact h _ _ _ ⟨_, 0, rfl, fun n hn => absurd hn List.not_mem_nil, fun e => absurd rfl e⟩ (Nat.le_refl _) (Kept.refl _ _)
  | some ad =>
    have hnews : ∀ j u, (i64s l)[j]? = some u → w.cell? (ad.add j) = some u := fun j u hj => by
      have hjl : j < l.length := by have := (List.getElem?_eq_some_iff.1 hj).1; simpa [i64s] using this
      obtain ⟨b, o, hv, _, hc⟩ := hb.addr (by omega)
      simp only [Option.some.injEq] at hv
      subst hv
      rw [add_none, hc j hjl, ← hj]
      simp [i64s, List.getElem?_eq_getElem hjl]
    refine Go.wpList_append_own _ hgd s x _ ho g0 3 i0 (.int .i64 0) 1 8 Try.underlying37 hi hz0 hz1 hz2 rfl (by decide) _ 0 [] hs hown ad m c (i64s l) hx (by simp [i64s]; omega) hnews (fun u hu => by
      unfold i64s at hu
      obtain ⟨y, _, rfl⟩ := List.mem_map.1 hu
      rfl) (by unfold maxLen; omega) (by omega) (by omega) ?_
    intro v' w' hown' hg hn
    rw [Nat.zero_add, List.nil_append] at hown'
    obtain ⟨a', c', rfl, hm', hmc, hb', hbl⟩ := is_of_owns hown' hl
    exact h a' c' w' hb' hmc ⟨hg.os, hg.tape, hg.output, hg.size, fun k hk hkg => hg.block k hk (by intro e; exact hkg (Option.some.inj e))⟩
end Go.Proofs.Ytfleplbdcpdphaa
