/-
  append([]byte{}, s...): a copy of bytes in new memory.
-/
import Derived.Test.YtafkjfpmjhfofaaDoorBytes
import Derived.Laws.AppendOwnNone
namespace Go.Proofs.YtafkjfpmjhfofaaDoor
open Go Go.RowKit

theorem bs_of_owns {w : World} {base : Nat} {v : Value} {m : Nat} {l : List Nat} (h : w.ownsRow base 5 1 v m (u8s l)) (hl : ∀ n ∈ l, n < 256) : ∃ a c, v = .slice a m c ∧ m = l.length ∧ m ≤ c ∧ Bs w v l ∧ ∀ ad, a = some ad → base ≤ ad.block ∧ ad.block < w.heap.size := by
  obtain ⟨h1, h2⟩ := h
  have hm : m = l.length := by simpa [u8s] using h1.symm
  rcases h2 with ⟨rfl, h0⟩ | ⟨g, cap, cur, rfl, hg, hh, hc, _, hs, ht⟩
  · have hl0 : l = [] := List.eq_nil_of_length_eq_zero (by omega)
    subst hl0; subst h0
    exact ⟨none, 0, rfl, rfl, Nat.le_refl _, bs_nil w, fun ad h => by cases h⟩
  · refine ⟨_, cap, rfl, hm, hc, ⟨_, cap, by rw [hm], hl, fun _ => ⟨g, 0, rfl, fun i hi => ?_⟩⟩, fun ad h => by cases h; exact ⟨hg, lt_of_heap hh⟩⟩
    rw [Nat.zero_add, cell_of_heap hh]
    have h3 : (cur.toList.take (m * 1))[i]? = (u8s l)[i]? := by rw [ht]
    rw [List.getElem?_take_of_lt (by omega)] at h3
    rw [← Array.getElem?_toList, h3]
    simp [u8s, List.getElem?_eq_getElem hi]

theorem wpList_clone {w : World} {ops : Array Oper} {rest : List Oper} {o : Oper} {a : Act} {Q : Exit → Act → World → Prop} (hgd : o.guard = none) (s x : Operand)
    (ho : o.op = .call { callee := .builtin .append, args := #[s, x], argTypes := #[22, 22] }) (g0 : Nat) (hs : a.eval s = .slice (some ⟨g0, 0, none⟩) 0 0) (hg0 : w.heap[g0]? = some (.cells #[] 5 (0, 0)))
    (sa : Option Addr) (m c : Nat) (l : List Nat) (hx : a.eval x = .slice sa m c) (hb : Bs w (.slice sa m c) l) (hnil : sa = none → c = 0) (hm : m ≤ 4611686018427)
    (h : ∀ a' c' w', Bs w' (.slice a' m c') l → m ≤ c' → (∀ ad, a' = some ad → g0 ≤ ad.block ∧ ad.block < w'.heap.size) → (a' = none → c' = 0) → Kept g0 w w' → wpList Tryd.prog ops Q rest (a.put o.dst (.slice a' m c')) w') :
    wpList Tryd.prog ops Q (o :: rest) a w := by
  obtain ⟨i0, hi, hz0, hz1, hz2⟩ := info_parts info5
  have hown : w.ownsRow g0 5 1 (.slice (some ⟨g0, 0, none⟩) 0 0) 0 [] := ⟨rfl, .inr ⟨g0, 0, #[], rfl, Nat.le_refl _, hg0, Nat.le_refl _, Nat.zero_le _, rfl, rfl⟩⟩
  have hlt := lt_of_heap hg0
  have hl : ∀ n ∈ l, n < 256 := by obtain ⟨_, _, _, h, _⟩ := hb; exact h
  have hlen := hb.len
  cases sa with
  | none =>
    obtain rfl := hnil rfl
    rcases hb.addr with ⟨h0, _⟩ | ⟨_, b, o, c', hv⟩
    · subst h0
      obtain rfl : m = 0 := hlen
      refine Go.wpList_append_own_none hgd s x _ ho g0 _ i0 1 Tryd.underlying22 hi _ 0 [] hs hown hx ?_
      exact h _ _ _ ⟨_, 0, rfl, fun n hn => absurd hn List.not_mem_nil, fun e => absurd rfl e⟩ (Nat.le_refl _) (fun ad h => by cases h; exact ⟨Nat.le_refl _, hlt⟩) (fun h => by cases h) (Kept.refl _ _)
    · simp at hv
  | some ad =>
    have hnews : ∀ j u, (u8s l)[j]? = some u → w.cell? (ad.add j) = some u := fun j u hj => by
      have hjl : j < l.length := by have := (List.getElem?_eq_some_iff.1 hj).1; simpa [u8s] using this
      rcases hb.addr with ⟨h0, _⟩ | ⟨_, b, o, c', hv⟩
      · rw [h0] at hjl; exact absurd hjl (Nat.not_lt_zero _)
      · simp only [Value.slice.injEq, Option.some.injEq] at hv
        obtain ⟨rfl, _, _⟩ := hv
        have hc := hb.cell j hjl
        have e : (⟨b, o, none⟩ : Addr).add j = ⟨b, o + j, none⟩ := by unfold Addr.add; split <;> simp_all
        rw [e, hc, ← hj]
        simp [u8s, List.getElem?_eq_getElem hjl]
    refine Go.wpList_append_own _ hgd s x _ ho g0 5 i0 (.int .u8 0) 1 1 Tryd.underlying22 hi hz0 hz1 hz2 rfl (by decide) _ 0 [] hs hown ad m c (u8s l) hx (by simp [u8s]; omega) hnews (fun u hu => by
      unfold u8s at hu
      obtain ⟨y, _, rfl⟩ := List.mem_map.1 hu
      rfl) (by unfold maxLen; omega) (by omega) (by omega) ?_
    intro v' w' hown' hg hn
    rw [Nat.zero_add, List.nil_append] at hown'
    obtain ⟨a', c', rfl, hm', hmc, hb', hbl⟩ := bs_of_owns hown' hl
    refine h a' c' w' hb' hmc hbl (fun e => ?_) ⟨hg.os, hg.tape, hg.output, hg.size, fun k hk hkg => hg.block k hk (by intro e; exact hkg (Option.some.inj e))⟩
    subst e
    obtain ⟨_, h2⟩ := hown'
    rcases h2 with ⟨h3, _⟩ | ⟨g, cap, cur, h3, _⟩
    · simp at h3; exact h3.2
    · simp at h3
end Go.Proofs.YtafkjfpmjhfofaaDoor
