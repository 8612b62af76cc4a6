/-
  A copy of bytes that may be written; pieces kept while a field is used.
-/
import Derived.Test.YtafkjfpmjhfofaaDoorApp
import Derived.Test.YtafkjfpmjhfofaaDoorEnc
namespace Go.Proofs.YtafkjfpmjhfofaaDoor
open Go Go.RowKit
set_option linter.unusedVariables false

/-- block g holds the bytes l and what lies behind them, and may be written -/
def Buf (w : World) (g cap : Nat) (l : List Nat) : Prop := ∃ cur : Array Value, w.heap[g]? = some (.cells cur 5 (0, 0)) ∧ cur.size = cap ∧ l.length ≤ cap ∧ cur.toList.take l.length = u8s l
theorem Buf.lt {w : World} {g cap : Nat} {l : List Nat} (h : Buf w g cap l) : g < w.heap.size := by obtain ⟨_, h1, _⟩ := h; exact lt_of_heap h1
theorem Buf.of_same {w w' : World} {g cap : Nat} {l : List Nat} (h : Buf w g cap l) (hs : w'.heap[g]? = w.heap[g]?) : Buf w' g cap l := by
  obtain ⟨cur, h1, h2⟩ := h
  exact ⟨cur, hs.trans h1, h2⟩
theorem Buf.drewN {w : World} {g cap : Nat} {l : List Nat} (h : Buf w g cap l) (q : Nat) : Buf (w.drewN q) g cap l := h
theorem Buf.cell {w : World} {g cap : Nat} {l : List Nat} (h : Buf w g cap l) (i : Nat) (hi : i < l.length) : w.cell? ⟨g, i, none⟩ = some (.int .u8 (l.getD i 0)) := by
  obtain ⟨cur, h1, h2, h3, h4⟩ := h
  rw [cell_of_heap h1, ← Array.getElem?_toList, ← List.getElem?_take_of_lt hi, h4]
  simp [u8s, List.getElem?_eq_getElem hi]
theorem Buf.free {w : World} {g cap : Nat} {l : List Nat} (h : Buf w g cap l) (i : Nat) : w.frozen? ⟨g, i, none⟩ = false := by
  obtain ⟨cur, h1, _⟩ := h
  exact free_of_heap h1 i
theorem Buf.bs {w : World} {g cap : Nat} {l : List Nat} (h : Buf w g cap l) (hl : ∀ n ∈ l, n < 256) (c : Nat) : Bs w (.slice (some ⟨g, 0, none⟩) l.length c) l :=
  ⟨_, c, rfl, hl, fun _ => ⟨g, 0, rfl, fun i hi => by rw [Nat.zero_add]; exact h.cell i hi⟩⟩
theorem Buf.set {w : World} {g cap : Nat} {l : List Nat} (h : Buf w g cap l) (i n : Nat) (hi : i < l.length) : Buf (w.setCell ⟨g, i, none⟩ (.int .u8 n)) g cap (l.set i n) := by
  obtain ⟨cur, h1, h2, h3, h4⟩ := h
  refine ⟨cur.setIfInBounds i (.int .u8 n), ?_, by simpa using h2, by simpa using h3, ?_⟩
  · have h5 : w.heap[g]? = some (.cells cur.toList.toArray 5 (0, 0)) := by simpa using h1
    have h6 := heap_set h5 i (.int .u8 n)
    rw [h6]
  · rw [List.length_set, Array.toList_setIfInBounds, List.take_set, h4]
    simp [u8s, List.map_set]
theorem Buf.setCell {w : World} {g cap : Nat} {l : List Nat} (h : Buf w g cap l) {p : Addr} (hp : p.block ≠ g) (u : Value) : Buf (w.setCell p u) g cap l := h.of_same (Below.heap_setCell _ _ _ _ (fun e => hp e.symm))
theorem buf_of_owns {w : World} {base m c : Nat} {a : Option Addr} {l : List Nat} (h : w.ownsRow base 5 1 (.slice a m c) m (u8s l)) (h0 : 0 < m) : ∃ g, a = some ⟨g, 0, none⟩ ∧ base ≤ g ∧ Buf w g c l ∧ m = l.length := by
  obtain ⟨h1, h2⟩ := h
  have hm : m = l.length := by simpa [u8s] using h1.symm
  rcases h2 with ⟨_, h3⟩ | ⟨g, cap, cur, h3, hg, hh, hc, _, hs, ht⟩
  · omega
  · simp only [Value.slice.injEq] at h3
    obtain ⟨rfl, _, rfl⟩ := h3
    exact ⟨g, rfl, hg, ⟨cur, hh, by omega, by omega, by rw [← ht, hm]; simp⟩, hm⟩

theorem wpList_cloneB {w : World} {ops : Array Oper} {rest : List Oper} {o : Oper} {a : Act} {Q : Exit → Act → World → Prop} (hgd : o.guard = none) (s x : Operand)
    (ho : o.op = .call { callee := .builtin .append, args := #[s, x], argTypes := #[22, 22] }) (g0 : Nat) (hs : a.eval s = .slice (some ⟨g0, 0, none⟩) 0 0) (hg0 : w.heap[g0]? = some (.cells #[] 5 (0, 0)))
    (sa : Option Addr) (m c : Nat) (l : List Nat) (hx : a.eval x = .slice sa m c) (hb : Bs w (.slice sa m c) l) (hnil : sa = none → c = 0) (hm : m ≤ 4611686018427)
    (h : ∀ a' c' w', Bs w' (.slice a' m c') l → m ≤ c' → (∀ ad, a' = some ad → g0 ≤ ad.block ∧ ad.block < w'.heap.size) → (a' = none → c' = 0) → Kept g0 w w' → w'.ownsRow g0 5 1 (.slice a' m c') m (u8s l) → wpList Tryd.prog ops Q rest (a.put o.dst (.slice a' m c')) w') :
    wpList Tryd.prog ops Q (o :: rest) a w := by
  obtain ⟨i0, hi, hz0, hz1, hz2⟩ := info_parts info5
  have hown : w.ownsRow g0 5 1 (.slice (some ⟨g0, 0, none⟩) 0 0) 0 [] := ⟨rfl, .inr ⟨g0, 0, #[], rfl, Nat.le_refl _, hg0, Nat.le_refl _, Nat.zero_le _, rfl, rfl⟩⟩
  have hlt := lt_of_heap hg0
  have hl : ∀ n ∈ l, n < 256 := by obtain ⟨_, _, _, h, _⟩ := hb; exact h
  have hlen := hb.len
  cases sa with
  | none =>
    obtain rfl := hnil rfl
    rcases hb.addr with ⟨h0, _⟩ | ⟨_, b, o, c', hv⟩
    · subst h0
      obtain rfl : m = 0 := hlen
      refine Go.wpList_append_own_none hgd s x _ ho g0 _ i0 1 Tryd.underlying22 hi _ 0 [] hs hown hx ?_
      exact h _ _ _ ⟨_, 0, rfl, fun n hn => absurd hn List.not_mem_nil, fun e => absurd rfl e⟩ (Nat.le_refl _) (fun ad h => by cases h; exact ⟨Nat.le_refl _, hlt⟩) (fun h => by cases h) (Kept.refl _ _) hown
    · simp at hv
  | some ad =>
    have hnews : ∀ j u, (u8s l)[j]? = some u → w.cell? (ad.add j) = some u := fun j u hj => by
      have hjl : j < l.length := by have := (List.getElem?_eq_some_iff.1 hj).1; simpa [u8s] using this
      rcases hb.addr with ⟨h0, _⟩ | ⟨_, b, o, c', hv⟩
      · rw [h0] at hjl; exact absurd hjl (Nat.not_lt_zero _)
      · simp only [Value.slice.injEq, Option.some.injEq] at hv
        obtain ⟨rfl, _, _⟩ := hv
        have hc := hb.cell j hjl
        have e : (⟨b, o, none⟩ : Addr).add j = ⟨b, o + j, none⟩ := by unfold Addr.add; split <;> simp_all
        rw [e, hc, ← hj]
        simp [u8s, List.getElem?_eq_getElem hjl]
    refine Go.wpList_append_own _ hgd s x _ ho g0 5 i0 (.int .u8 0) 1 1 Tryd.underlying22 hi hz0 hz1 hz2 rfl (by decide) _ 0 [] hs hown ad m c (u8s l) hx (by simp [u8s]; omega) hnews (fun u hu => by
      unfold u8s at hu
      obtain ⟨y, _, rfl⟩ := List.mem_map.1 hu
      rfl) (by unfold maxLen; omega) (by omega) (by omega) ?_
    intro v' w' hown' hg hn
    rw [Nat.zero_add, List.nil_append] at hown'
    have hown2 := hown'
    obtain ⟨a', c', rfl, hm', hmc, hb', hbl⟩ := bs_of_owns hown' hl
    refine h a' c' w' hb' hmc hbl (fun e => ?_) ⟨hg.os, hg.tape, hg.output, hg.size, fun k hk hkg => hg.block k hk (by intro e; exact hkg (Option.some.inj e))⟩ hown2
    subst e
    obtain ⟨_, h2⟩ := hown'
    rcases h2 with ⟨h3, _⟩ | ⟨g, cap, cur, h3, _⟩
    · simp at h3; exact h3.2
    · simp at h3

theorem Pcs.kept {w w' : World} {g B t L fb : Nat} {bf : Nat → Nat} {D : Nat → List Nat} (h : Pcs w g B t L bf D) (k : Kept fb w w') (hg : fb ≠ g) (hB : fb < B) : Pcs w' g B t L bf D := by
  refine ⟨(k.block g h.own.lt (fun e => hg e.symm)).trans h.own, fun j hj => ?_, h.low, h.inj, h.notb⟩
  have h1 := h.row j hj
  have h2 := h.low j hj
  exact (k.block (bf j) h1.lt (by omega)).trans h1
theorem Pcs.below {w w' : World} {g B t L : Nat} {bf : Nat → Nat} {D : Nat → List Nat} (h : Pcs w g B t L bf D) (k : Below w.heap.size w w') : Pcs w' g B t L bf D :=
  ⟨(k.block g h.own.lt).trans h.own, fun j hj => (k.block (bf j) (h.row j hj).lt).trans (h.row j hj), h.low, h.inj, h.notb⟩
end Go.Proofs.YtafkjfpmjhfofaaDoor
