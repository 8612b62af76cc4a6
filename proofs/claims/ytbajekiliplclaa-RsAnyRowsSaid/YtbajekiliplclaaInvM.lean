/-
  The elimination keeps the span of the rows; full rank gives the inverse on both sides.
-/
import Derived.Test.YtbajekiliplclaaInv2
import Derived.Test.YtbajekiliplclaaLawL
import Derived.Test.YtbajekiliplclaaPoly
namespace Go.Proofs.Ytbajekiliplclaa
open Go Go.RowKit
set_option linter.unusedVariables false

/-- a set of rows closed under multiples and sums -/
structure Sub (P : (Nat → Nat) → Prop) : Prop where
  scale : ∀ v s, (∀ j, v j < 256) → s < 256 → P v → P fun j => Gf.tm (v j) s
  add : ∀ u v f, (∀ j, u j < 256) → (∀ j, v j < 256) → f < 256 → P u → P v → P fun j => v j ^^^ Gf.tm f (u j)
theorem rows_fwd {P : (Nat → Nat) → Prop} (hs : Sub P) {M : Nat → Nat → Nat} (hM : ∀ i j, M i j < 256) (R : Nat) (h : ∀ i, i < R → P (M i)) : ∀ c i, i < R → P ((gj R M c).1 i)
  | 0, i, hi => h i hi
  | c + 1, i, hi => by
    have ih := rows_fwd hs hM R h c
    have hl := gj_lt hM R c
    obtain ⟨g1, g2, _, _⟩ := piv_spec R (gj R M c).1 (gj R M c).2 c (gj_le R M c).1
    by_cases hp : piv R (gj R M c).1 (gj R M c).2 c = R
    · rw [gj_none R M c hp]; exact ih i hi
    · rw [gj_some R M c _ rfl (by omega)]
      generalize piv R (gj R M c).1 (gj R M c).2 c = p at *
      generalize (gj R M c).1 = A at *
      generalize (gj R M c).2 = r at *
      have hW : ∀ i, i < R → P (swapM A r p i) := fun i hi => by
        by_cases e1 : i = r
        · have e : swapM A r p i = A p := by funext j; unfold swapM; rw [if_pos e1]
          rw [e]; exact ih p (by omega)
        · by_cases e2 : i = p
          · have e : swapM A r p i = A r := by funext j; unfold swapM; rw [if_neg e1, if_pos e2]
            rw [e]; exact ih r (by omega)
          · have e : swapM A r p i = A i := by funext j; unfold swapM; rw [if_neg e1, if_neg e2]
            rw [e]; exact ih i hi
      have hWl := swapM_lt hl r p
      generalize swapM A r p = W at *
      have hK : ∀ i, i < R → P (scaleM W r (Gf.iv (A p c)) i) := fun i hi => by
        by_cases e1 : i = r
        · have e : scaleM W r (Gf.iv (A p c)) i = fun j => Gf.tm (W r j) (Gf.iv (A p c)) := by funext j; unfold scaleM; rw [if_pos e1]
          rw [e]; exact hs.scale _ _ (hWl r) (Gf.iv_lt _) (hW r (by omega))
        · have e : scaleM W r (Gf.iv (A p c)) i = W i := by funext j; unfold scaleM; rw [if_neg e1]
          rw [e]; exact hW i hi
      have hKl := scaleM_lt hWl r (Gf.iv (A p c))
      generalize scaleM W r (Gf.iv (A p c)) = K at *
      show P (clearTo K r c R i)
      by_cases e1 : i = r
      · have e : clearTo K r c R i = K i := by funext j; unfold clearTo; rw [if_neg (by omega)]
        rw [e]; exact hK i hi
      · have e : clearTo K r c R i = fun j => K i j ^^^ Gf.tm (K i c) (K r j) := by funext j; unfold clearTo; rw [if_pos ⟨hi, e1⟩]
        rw [e]; exact hs.add _ _ _ (hKl r) (hKl i) (hKl i c) (hK r (by omega)) (hK i hi)
theorem tm_back (x p : Nat) (hx : x < 256) (hp : p < 256) (p0 : p ≠ 0) : Gf.tm (Gf.tm x (Gf.iv p)) p = x := by
  rw [Gf.tm_assoc x _ p hx (Gf.iv_lt p) hp, Gf.tm_comm _ p (Gf.iv_lt p) hp, Gf.tm_iv p hp p0, Gf.tm_one_right x hx]
theorem rows_back {P : (Nat → Nat) → Prop} (hs : Sub P) {M : Nat → Nat → Nat} (hM : ∀ i j, M i j < 256) (R : Nat) : ∀ c, (∀ i, i < R → P ((gj R M c).1 i)) → ∀ i, i < R → P (M i)
  | 0, h => h
  | c + 1, h => by
    refine rows_back hs hM R c ?_
    have hl := gj_lt hM R c
    obtain ⟨g1, g2, _, g4⟩ := piv_spec R (gj R M c).1 (gj R M c).2 c (gj_le R M c).1
    by_cases hp : piv R (gj R M c).1 (gj R M c).2 c = R
    · rw [gj_none R M c hp] at h; exact h
    · rw [gj_some R M c _ rfl (by omega)] at h
      generalize piv R (gj R M c).1 (gj R M c).2 c = p at *
      generalize (gj R M c).1 = A at *
      generalize (gj R M c).2 = r at *
      have hn0 := g4 (by omega)
      have hpc := hl p c
      generalize hz : A p c = z at *
      have hWl := swapM_lt hl r p
      have hKl := scaleM_lt hWl r (Gf.iv z)
      have hKr : P (scaleM (swapM A r p) r (Gf.iv z) r) := by
        have h5 := h r (by omega)
        have e : (fun j => clearTo (scaleM (swapM A r p) r (Gf.iv z)) r c R r j) = scaleM (swapM A r p) r (Gf.iv z) r := by funext j; exact clearTo_row _ _ _ _ _
        rw [← e]; exact h5
      have hK : ∀ i, i < R → P (scaleM (swapM A r p) r (Gf.iv z) i) := fun i hi => by
        by_cases e1 : i = r
        · rw [e1]; exact hKr
        · have h5 := hs.add _ _ (scaleM (swapM A r p) r (Gf.iv z) i c) (hKl r) (clearTo_lt hKl r c R i) (hKl i c) hKr (h i hi)
          generalize scaleM (swapM A r p) r (Gf.iv z) = K at *
          have e : (fun j => clearTo K r c R i j ^^^ Gf.tm (K i c) (K r j)) = K i := by
            funext j; unfold clearTo; rw [if_pos ⟨hi, e1⟩, Nat.xor_assoc, Nat.xor_self, Nat.xor_zero]
          rw [← e]; exact h5
      have hW : ∀ i, i < R → P (swapM A r p i) := fun i hi => by
        by_cases e1 : i = r
        · have h5 := hs.scale _ z (hKl r) hpc (hK r (by omega))
          have e : (fun j => Gf.tm (scaleM (swapM A r p) r (Gf.iv z) r j) z) = swapM A r p i := by
            funext j; unfold scaleM; rw [if_pos rfl, e1]; exact tm_back _ _ (hWl r j) hpc hn0
          rw [← e]; exact h5
        · have e : scaleM (swapM A r p) r (Gf.iv z) i = swapM A r p i := by funext j; unfold scaleM; rw [if_neg e1]
          rw [← e]; exact hK i hi
      intro i hi
      by_cases e1 : i = r
      · have e : swapM A r p p = A i := by
          funext j; unfold swapM
          by_cases e2 : p = r
          · rw [if_pos e2, e1, e2]
          · rw [if_neg e2, if_pos rfl, e1]
        rw [← e]; exact hW p (by omega)
      · by_cases e2 : i = p
        · have e : swapM A r p r = A i := by funext j; unfold swapM; rw [if_pos rfl, e2]
          rw [← e]; exact hW r (by omega)
        · have e : swapM A r p i = A i := by funext j; unfold swapM; rw [if_neg e1, if_neg e2]
          rw [← e]; exact hW i hi
theorem gj_rank (R : Nat) (M : Nat → Nat → Nat) (c : Nat) (h : (gj R M (c + 1)).2 = c + 1) : (gj R M c).2 = c ∧ piv R (gj R M c).1 (gj R M c).2 c < R := by
  have h1 := (gj_le R M c).2
  obtain ⟨_, g2, _, _⟩ := piv_spec R (gj R M c).1 (gj R M c).2 c (gj_le R M c).1
  by_cases hp : piv R (gj R M c).1 (gj R M c).2 c = R
  · rw [gj_none R M c hp] at h; omega
  · rw [gj_some R M c _ rfl (by omega)] at h
    exact ⟨by have h' : (gj R M c).2 + 1 = c + 1 := h; omega, by omega⟩
/-- as many pivots as columns: the columns are those of the identity -/
theorem gj_unit {M : Nat → Nat → Nat} (hM : ∀ i j, M i j < 256) (R : Nat) : ∀ c, (gj R M c).2 = c → ∀ i j, i < R → j < c → (gj R M c).1 i j = if i = j then 1 else 0
  | 0, _, i, j, _, hj => absurd hj (Nat.not_lt_zero j)
  | c + 1, h, i, j, hi, hj => by
    obtain ⟨hr, hp⟩ := gj_rank R M c h
    have ih := gj_unit hM R c hr
    have hl := gj_lt hM R c
    obtain ⟨g1, g2, _, g4⟩ := piv_spec R (gj R M c).1 (gj R M c).2 c (gj_le R M c).1
    have hn0 := g4 hp
    rw [gj_some R M c _ rfl hp]
    rw [hr] at *
    generalize piv R (gj R M c).1 c c = p at *
    generalize (gj R M c).1 = A at *
    show clearTo (scaleM (swapM A c p) c (Gf.iv (A p c))) c c R i j = _
    have hpc := hl p c
    have hKl := scaleM_lt (swapM_lt hl c p) c (Gf.iv (A p c))
    have hKc : ∀ j, scaleM (swapM A c p) c (Gf.iv (A p c)) c j = Gf.tm (A p j) (Gf.iv (A p c)) := fun j => by
      unfold scaleM swapM; rw [if_pos rfl, if_pos rfl]
    by_cases ej : j = c
    · subst ej
      by_cases ei : i = j
      · subst ei
        rw [clearTo_row, hKc, if_pos rfl, Gf.tm_iv _ hpc hn0]
      · rw [if_neg ei]
        generalize scaleM (swapM A j p) j (Gf.iv (A p j)) = K at *
        unfold clearTo
        rw [if_pos ⟨hi, ei⟩, hKc, Gf.tm_iv _ hpc hn0, Gf.tm_one_right _ (hKl i j), Nat.xor_self]
    · have hjc : j < c := by omega
      have hz : scaleM (swapM A c p) c (Gf.iv (A p c)) c j = 0 := by
        rw [hKc, ih p j hp hjc, if_neg (by omega), Gf.tm_zero_left]
      by_cases ei : i = c
      · rw [ei, clearTo_row, hz, if_neg (by omega)]
      · unfold clearTo
        rw [if_pos ⟨hi, ei⟩, hz, Gf.tm_zero_right, Nat.xor_zero]
        unfold scaleM swapM
        rw [if_neg ei, if_neg ei]
        by_cases e2 : i = p
        · rw [if_pos e2, ih c j (by omega) hjc, if_neg (by omega), if_neg (by omega)]
        · rw [if_neg e2, ih i j hi hjc]
/-- what the first W columns alone decide -/
theorem pivF_congr {A B : Nat → Nat → Nat} {c : Nat} (h : ∀ i, A i c = B i c) : ∀ f p, pivF A c f p = pivF B c f p
  | 0, p => rfl
  | f + 1, p => by unfold pivF; rw [h p, pivF_congr h f (p + 1)]
theorem gj_agree {A B : Nat → Nat → Nat} (W : Nat) (h : ∀ i j, j < W → A i j = B i j) (R : Nat) : ∀ c, c ≤ W → (gj R A c).2 = (gj R B c).2 ∧ ∀ i j, j < W → (gj R A c).1 i j = (gj R B c).1 i j
  | 0, _ => ⟨rfl, h⟩
  | c + 1, hc => by
    obtain ⟨h1, h2⟩ := gj_agree W h R c (by omega)
    have hpe : piv R (gj R A c).1 (gj R A c).2 c = piv R (gj R B c).1 (gj R B c).2 c := by
      unfold piv; rw [h1]; exact pivF_congr (fun i => h2 i c (by omega)) _ _
    obtain ⟨_, g2, _, _⟩ := piv_spec R (gj R A c).1 (gj R A c).2 c (gj_le R A c).1
    by_cases hp : piv R (gj R A c).1 (gj R A c).2 c = R
    · rw [gj_none R A c hp, gj_none R B c (by rw [← hpe]; exact hp)]; exact ⟨h1, h2⟩
    · rw [gj_some R A c _ rfl (by omega), gj_some R B c _ rfl (by rw [← hpe]; omega), ← hpe, h1]
      generalize piv R (gj R A c).1 (gj R B c).2 c = p at *
      generalize (gj R A c).1 = A' at *
      generalize (gj R B c).1 = B' at *
      generalize (gj R B c).2 = r at *
      refine ⟨rfl, fun i j hj => ?_⟩
      have hz : A' p c = B' p c := h2 p c (by omega)
      have hS : ∀ i j, j < W → swapM A' r p i j = swapM B' r p i j := fun i j hj => by unfold swapM; rw [h2 p j hj, h2 r j hj, h2 i j hj]
      have hK : ∀ i j, j < W → scaleM (swapM A' r p) r (Gf.iv (A' p c)) i j = scaleM (swapM B' r p) r (Gf.iv (B' p c)) i j := fun i j hj => by unfold scaleM; rw [hz, hS r j hj, hS i j hj]
      show clearTo _ r c R i j = clearTo _ r c R i j
      unfold clearTo
      rw [hK i j hj, hK i c (by omega), hK r j hj]
end Go.Proofs.Ytbajekiliplclaa
