/-
  MemberLeaves: the tables that it sees.
-/
import Derived.Test.YtbdefmjjhkonjaaRfM
import Derived.Test.YtbdefmjjhkonjaaTk2
namespace Go.Proofs.Ytbdefmjjhkonjaa
open Go Go.RowKit
set_option linter.unusedVariables false

/-- a table that knows two peers -/
def Two (L : List Ent) (n p q : Nat) (x y : Ent) : Prop := L.length = n ∧ ∀ i, gd L i = if i = p then x else if i = q then y else (0, 0)
theorem filter_one (q : Nat) : ∀ n, (List.range n).filter (fun i => i == q) = if q < n then [q] else []
  | 0 => rfl
  | n + 1 => by
    rw [List.range_succ, List.filter_append, filter_one q n]
    by_cases h : n = q
    · subst h; simp
    · have h' : (n == q) = false := by simpa using h
      by_cases h2 : q < n
      · rw [if_pos h2, if_pos (by omega)]; simp [h']
      · rw [if_neg h2, if_neg (by omega)]; simp [h']
theorem Two.live {L : List Ent} {n p q : Nat} {x y : Ent} (h : Two L n p q x y) (hx : liveE x = false) (hy : liveE y = true) (hpq : p ≠ q) (hq : q < n) : liveL L n = [q] := by
  have e : (fun i => liveE (gd L i)) = fun i => i == q := by
    funext i
    rw [h.2 i]
    by_cases h1 : i = p
    · rw [if_pos h1, hx]; subst h1; simpa using hpq
    · rw [if_neg h1]
      by_cases h2 : i = q
      · rw [if_pos h2, hy]; simpa using h2
      · rw [if_neg h2]; have : (i == q) = false := by simpa using h2
        rw [this]; rfl
  unfold liveL
  rw [e, filter_one, if_pos hq]
theorem Two.comm {L : List Ent} {n p q : Nat} {x y : Ent} (h : Two L n p q x y) (hpq : p ≠ q) : Two L n q p y x := ⟨h.1, fun i => by
  rw [h.2 i]
  by_cases h1 : i = p
  · subst h1; rw [if_pos rfl, if_neg hpq, if_pos rfl]
  · rw [if_neg h1]
    by_cases h2 : i = q
    · rw [if_pos h2, if_pos h2]
    · rw [if_neg h2, if_neg h2, if_neg h1]⟩
theorem two_new {n p q : Nat} {x : Ent} (hp : p < n) : Two ((List.replicate n ((0, 0) : Ent)).set p x) n p q x (0, 0) := ⟨by simp, fun i => by
  by_cases h : i = p
  · subst h; rw [if_pos rfl, gd_set_self (by simpa using hp)]
  · rw [if_neg h, gd_set_ne (fun e => h e.symm), gd_rep]; simp⟩
theorem Two.set {L : List Ent} {n p q : Nat} {x y : Ent} (h : Two L n p q x y) (hp : p < n) (z : Ent) : Two (L.set p z) n p q z y := ⟨by simp [h.1], fun i => by
  by_cases h1 : i = p
  · subst h1; rw [if_pos rfl, gd_set_self (by rw [h.1]; exact hp)]
  · rw [if_neg h1, gd_set_ne (fun e => h1 e.symm), h.2 i, if_neg h1]⟩
theorem Two.lrn {L T : List Ent} {n p q : Nat} {x y x' y' : Ent} (h : Two L n p q x y) (ht : Two T n p q x' y') (hq : q < n) (hpq : p ≠ q) (ck : Int) (Z : List Int) (d : Int) : Two (lrn p ck T L Z d n).1 n p q x (jn y y') := by
  obtain ⟨l1, l2⟩ := lrn_gd p ck T L Z d n (by rw [h.1]; exact Nat.le_refl _)
  refine ⟨by rw [l1, h.1], fun i => ?_⟩
  rw [l2 i, h.2 i, ht.2 i]
  by_cases h1 : i = p
  · rw [if_neg (fun e => e.2 h1), if_pos h1, if_pos h1]
  · simp only [if_neg h1]
    by_cases h2 : i = q
    · rw [if_pos ⟨by omega, h1⟩, if_pos h2, if_pos h2, if_pos h2]
    · simp only [if_neg h2]
      split <;> rfl
theorem Two.vld {L : List Ent} {n p q : Nat} {x y : Ent} (h : Two L n p q x y) (hx : okE x = true) (hy : okE y = true) (h1 : 1 ≤ n) (h2 : n ≤ 16) : vld L = true := by
  refine vld_of (by have := h.1; omega) (by have := h.1; omega) fun i hi => ?_
  rw [h.2 i]
  split
  · exact hx
  · split
    · exact hy
    · rfl
theorem MsgAt.range {w : World} {g : Nat} {k f t s o gg : Int} {tv : Value} {R : List Value} (h : MsgAt w g k f t s o gg tv R) : w.rangeAt g 0 (msg k f t s o gg tv R) := fun j v hj => by
  rw [Nat.zero_add, h.get j (by have := List.getElem?_eq_some_iff.1 hj; obtain ⟨h1, _⟩ := this; rw [msg_length] at h1; omega)]
  exact hj
theorem MsgAt.kind {w : World} {g : Nat} {k f t s o gg : Int} {tv : Value} {R : List Value} (h : MsgAt w g k f t s o gg tv R) (k' : Int) : MsgAt (w.setCell ⟨g, 0, none⟩ (.int .u8 k')) g k' f t s o gg tv R := by
  obtain ⟨cur, T, h1, h2⟩ := h
  refine ⟨_, T, heap_set h1 0 _, ?_⟩
  rw [Array.toList_setIfInBounds, List.take_set, h2]
  rfl
theorem MsgAt.to {w : World} {g : Nat} {k f t s o gg : Int} {tv : Value} {R : List Value} (h : MsgAt w g k f t s o gg tv R) (t' : Int) : MsgAt (w.setCell ⟨g, 2, none⟩ (.int .i64 t')) g k f t' s o gg tv R := by
  obtain ⟨cur, T, h1, h2⟩ := h
  refine ⟨_, T, heap_set h1 2 _, ?_⟩
  rw [Array.toList_setIfInBounds, List.take_set, h2]
  rfl
end Go.Proofs.Ytbdefmjjhkonjaa
