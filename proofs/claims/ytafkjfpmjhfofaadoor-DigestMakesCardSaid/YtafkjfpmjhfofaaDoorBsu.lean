/-
  Parts of a slice of bytes.
-/
import Derived.Test.YtafkjfpmjhfofaaDoorWrb
import Derived.Test.YtafkjfpmjhfofaaDoorHww
namespace Go.Proofs.YtafkjfpmjhfofaaDoor
open Go Go.RowKit
set_option linter.unusedVariables false

theorem off_of {a : Option Addr} {n c rb : Nat} (h : Off rb (.slice a n c)) : ∀ ad, a = some ad → ad.block ≠ rb := fun ad e => by
  subst e
  exact h
theorem off_to {a : Option Addr} {n c rb : Nat} (h : ∀ ad, a = some ad → ad.block ≠ rb) : Off rb (.slice a n c) := by
  cases a with
  | none => trivial
  | some ad => exact h ad rfl
theorem add_block (ad : Addr) (k : Nat) : (ad.add k).block = ad.block := by
  unfold Addr.add
  split <;> rfl
/-- what follows the first k bytes, of no bytes too -/
theorem bs_from0 {w : World} {a : Option Addr} {n c : Nat} {l : List Nat} (h : Bs w (.slice a n c) l) (hc : n ≤ c) (hnil : a = none → c = 0) (k : Nat) (hk : k ≤ n) :
    ∃ a' c', (∀ w', (Instr.sliceAt 22 (.slice a n c) (some (.int .i64 (k : Int))) none none).run Tryd.prog w' = .ok (.slice a' (n - k) c') w') ∧ Bs w (.slice a' (n - k) c') (l.drop k) ∧ n - k ≤ c' ∧ (a' = none → c' = 0) ∧ (∀ fb, Off fb (.slice a n c) → Off fb (.slice a' (n - k) c')) := by
  by_cases h1 : 1 ≤ n
  · exact bs_from h h1 hc k hk
  · obtain rfl : n = 0 := by omega
    obtain rfl : k = 0 := by omega
    have hl : l = [] := List.length_eq_zero_iff.1 h.len.symm
    subst hl
    cases a with
    | none =>
      obtain rfl := hnil rfl
      exact ⟨none, 0, fun w' => by simp [go_sem, Tryd.underlying22], bs_nilH _ _ _, Nat.le_refl _, fun _ => rfl, fun _ _ => trivial⟩
    | some ad =>
      by_cases e : c = 0
      · subst e
        exact ⟨some ad, 0, fun w' => by simp [go_sem, Tryd.underlying22], bs_nilH _ _ _, Nat.le_refl _, (fun h => by cases h), fun fb hf => hf⟩
      · exact ⟨some (ad.add 0), c, fun w' => by simp [go_sem, Tryd.underlying22, e], bs_nilH _ _ _, Nat.zero_le _, (fun h => by cases h), fun fb hf => (by show (ad.add 0).block ≠ fb; rw [add_block]; exact hf)⟩
/-- the first k bytes -/
theorem bs_upto {w : World} {a : Option Addr} {n c : Nat} {l : List Nat} (h : Bs w (.slice a n c) l) (k : Nat) (hk : k ≤ n) : Bs w (.slice a k c) (l.take k) := by
  have hlen := h.len
  have hlt := h.lt
  obtain ⟨a', c', h1, h2, h3⟩ := h
  simp only [Value.slice.injEq] at h1
  obtain ⟨rfl, h11, rfl⟩ := h1
  refine ⟨_, _, by rw [List.length_take, Nat.min_eq_left (by omega)], fun x hx => h2 x (List.mem_of_mem_take hx), fun hne => ?_⟩
  have hne2 : l ≠ [] := fun e => hne (by rw [e]; simp)
  obtain ⟨b, o, ha, hcell⟩ := h3 hne2
  refine ⟨b, o, ha, fun i hi => ?_⟩
  rw [List.length_take] at hi
  rw [hcell i (by omega), List.getD_eq_getElem?_getD, List.getD_eq_getElem?_getD, List.getElem?_take, if_pos (by omega)]
theorem or_add (a b : Nat) (h : b < 256) : a * 256 ||| b = a * 256 + b := by
  have h1 := Nat.shiftLeft_add_eq_or_of_lt (i := 8) (b := b) (by omega) a
  rw [Nat.shiftLeft_eq] at h1
  exact h1.symm
end Go.Proofs.YtafkjfpmjhfofaaDoor
