/-
  A matrix of smaller rank has a vector in its kernel.
-/
import Derived.Test.YtbajekiliplclaaInvM2
namespace Go.Proofs.Ytbajekiliplclaa
open Go Go.RowKit
set_option linter.unusedVariables false

theorem no_pivot (R : Nat) (M : Nat → Nat → Nat) : ∀ c, (gj R M c).2 = c ∨ ∃ d, d < c ∧ (gj R M d).2 = d ∧ piv R (gj R M d).1 (gj R M d).2 d = R
  | 0 => .inl rfl
  | c + 1 => by
    rcases no_pivot R M c with h | ⟨d, h1, h2, h3⟩
    · by_cases hp : piv R (gj R M c).1 (gj R M c).2 c = R
      · exact .inr ⟨c, Nat.lt_succ_self c, h, hp⟩
      · obtain ⟨_, g2, _, _⟩ := piv_spec R (gj R M c).1 (gj R M c).2 c (gj_le R M c).1
        left
        rw [gj_some R M c _ rfl (by omega)]
        show (gj R M c).2 + 1 = c + 1
        rw [h]
    · exact .inr ⟨d, by omega, h2, h3⟩
theorem sub_ker (R : Nat) (x : Nat → Nat) (hx : ∀ j, x j < 256) : Sub fun v => sx (fun j => Gf.tm (v j) (x j)) R = 0 := by
  refine ⟨fun v s hv hsl h => ?_, fun u v f hu hv hf h1 h2 => ?_⟩
  · show sx (fun j => Gf.tm (Gf.tm (v j) s) (x j)) R = 0
    rw [sx_congr (g := fun j => Gf.tm (Gf.tm (v j) (x j)) s) R fun j _ => by rw [Gf.tm_assoc _ _ _ (hv _) hsl (hx _), Gf.tm_comm s _ hsl (hx _), ← Gf.tm_assoc _ _ _ (hv _) (hx _) hsl], ← sx_tm _ (fun j => Gf.tm_lt _ _ (hv j)), h, Gf.tm_zero_left]
  · show sx (fun j => Gf.tm (v j ^^^ Gf.tm f (u j)) (x j)) R = 0
    rw [sx_congr (g := fun j => Gf.tm (v j) (x j) ^^^ Gf.tm (Gf.tm (u j) (x j)) f) R fun j _ => by rw [Gf.tm_xor_left _ _ _ (hv _) (Gf.tm_lt _ _ hf), Gf.tm_assoc _ _ _ hf (hu _) (hx _), Gf.tm_comm f _ hf (Gf.tm_lt _ _ (hu _))], ← sx_xor, h2, ← sx_tm _ (fun j => Gf.tm_lt _ _ (hu j)), h1, Gf.tm_zero_left, Nat.xor_self]
theorem kernel {M : Nat → Nat → Nat} (hM : ∀ i j, M i j < 256) (R : Nat) (h : (gj R M R).2 < R) : ∃ x : Nat → Nat, (∀ j, x j < 256) ∧ (∃ d, d < R ∧ x d = 1) ∧ ∀ i, i < R → sx (fun j => Gf.tm (M i j) (x j)) R = 0 := by
  rcases no_pivot R M R with h5 | ⟨d, hd, hr, hp⟩
  · omega
  · have hl := gj_lt hM R d
    have hu := gj_unit hM R d hr
    obtain ⟨_, _, g3, _⟩ := piv_spec R (gj R M d).1 (gj R M d).2 d (gj_le R M d).1
    rw [hp, hr] at g3
    have hx : ∀ j, (if j < d then (gj R M d).1 j d else if j = d then 1 else 0) < 256 := fun j => by
      split
      · exact hl _ _
      · split <;> omega
    refine ⟨fun j => if j < d then (gj R M d).1 j d else if j = d then 1 else 0, hx, ⟨d, hd, by show (if d < d then _ else if d = d then 1 else 0) = 1; rw [if_neg (Nat.lt_irrefl d), if_pos rfl]⟩, ?_⟩
    refine rows_back (sub_ker R _ hx) hM R d fun i hi => ?_
    generalize (gj R M d).1 = A at *
    rw [sx_congr (g := fun j => (if j = d then A i d else 0) ^^^ (if j < d ∧ j = i then A i d else 0)) R fun j hj => ?_]
    · rw [← sx_xor, sx_one (fun j => if j = d then A i d else 0) d (fun j hj => by rw [if_neg hj]) R, sx_one (fun j => if j < d ∧ j = i then A i d else 0) i (fun j hj => by rw [if_neg (fun e => hj e.2)]) R, if_pos hd, if_pos hi, if_pos rfl]
      by_cases e : i < d
      · rw [if_pos ⟨e, rfl⟩, Nat.xor_self]
      · rw [if_neg (fun h => e h.1), g3 i (by omega) hi, Nat.xor_self]
    · by_cases e : j < d
      · rw [if_pos e, if_neg (show ¬ j = d by omega), hu i j hi e, Nat.zero_xor]
        by_cases e2 : i = j
        · rw [if_pos e2, if_pos ⟨e, e2.symm⟩, Gf.tm_one _ (hl _ _), e2]
        · rw [if_neg e2, if_neg (fun h => e2 h.2.symm), Gf.tm_zero_left]
      · rw [if_neg e, if_neg (show ¬ (j < d ∧ j = i) from fun h => e h.1), Nat.xor_zero]
        by_cases e2 : j = d
        · rw [if_pos e2, if_pos e2, e2, Gf.tm_one_right _ (hl _ _)]
        · rw [if_neg e2, if_neg e2, Gf.tm_zero_right]
end Go.Proofs.Ytbajekiliplclaa
