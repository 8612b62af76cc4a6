/-
  The inverse is one on both sides.
-/
import Derived.Test.YtbajekiliplclaaInvM
import Derived.Test.YtbajekiliplclaaEval
namespace Go.Proofs.Ytbajekiliplclaa
open Go Go.RowKit
set_option linter.unusedVariables false

theorem sub_lin (R : Nat) (a b : Nat → Nat) (X : Nat → Nat → Nat) (hX : ∀ i j, X i j < 256) : Sub fun v => ∀ j, j < R → v (a j) = sx (fun l => Gf.tm (v (b l)) (X l j)) R := by
  refine ⟨fun v s hv hsl h j hj => ?_, fun u v f hu hv hf h1 h2 j hj => ?_⟩
  · show Gf.tm (v (a j)) s = sx (fun l => Gf.tm (Gf.tm (v (b l)) s) (X l j)) R
    rw [h j hj, sx_tm _ (fun l => Gf.tm_lt _ _ (hv _))]
    refine sx_congr R fun l _ => ?_
    rw [Gf.tm_assoc _ _ _ (hv _) (hX _ _) hsl, Gf.tm_assoc _ _ _ (hv _) hsl (hX _ _), Gf.tm_comm _ _ (hX _ _) hsl]
  · show v (a j) ^^^ Gf.tm f (u (a j)) = sx (fun l => Gf.tm (v (b l) ^^^ Gf.tm f (u (b l))) (X l j)) R
    rw [h1 j hj, h2 j hj, Gf.tm_comm f _ hf (sx_lt _ (fun l => Gf.tm_lt _ _ (hu _)) R), sx_tm _ (fun l => Gf.tm_lt _ _ (hu _)), sx_xor]
    refine sx_congr R fun l _ => ?_
    show Gf.tm (v (b l)) (X l j) ^^^ Gf.tm (Gf.tm (u (b l)) (X l j)) f = _
    rw [Gf.tm_xor_left _ _ _ (hv _) (Gf.tm_lt _ _ hf), Gf.tm_assoc _ _ _ (hu _) (hX _ _) hf, Gf.tm_assoc _ _ _ hf (hu _) (hX _ _), Gf.tm_comm f _ hf (Gf.tm_lt _ _ (hu _)), Gf.tm_assoc _ _ _ (hu _) (hX _ _) hf]
theorem sx_unit (R i : Nat) (hi : i < R) (F g : Nat → Nat) (hF : ∀ l, l < R → F l = if i = l then 1 else 0) (hg : ∀ l, g l < 256) : sx (fun l => Gf.tm (F l) (g l)) R = g i := by
  rw [sx_congr (g := fun l => Gf.tm (if i = l then 1 else 0) (g l)) R fun l hl => by rw [hF l hl]]
  rw [sx_one _ i (fun l hl => by rw [if_neg (fun e => hl e.symm), Gf.tm_zero_left]) R, if_pos hi, if_pos rfl, Gf.tm_one _ (hg i)]
/-- the right half of the eliminated matrix -/
def invM (M : Nat → Nat → Nat) (R : Nat) : Nat → Nat → Nat := fun i j => (gj R (bothM M R) R).1 i (R + j)
theorem bothM_left (M : Nat → Nat → Nat) (R i j : Nat) (hj : j < R) : bothM M R i j = M i j := by unfold bothM; rw [if_pos hj]
theorem bothM_right (M : Nat → Nat → Nat) (R i j : Nat) : bothM M R i (R + j) = if i = j then 1 else 0 := by
  unfold bothM
  rw [if_neg (by omega)]
  by_cases e : i = j
  · rw [if_pos e, if_pos (by omega)]
  · rw [if_neg e, if_neg (by omega)]
theorem rank_both (M : Nat → Nat → Nat) (R : Nat) : (gj R (bothM M R) R).2 = (gj R M R).2 := (gj_agree R (fun i j hj => bothM_left M R i j hj) R R (Nat.le_refl R)).1
theorem invM_lt {M : Nat → Nat → Nat} (hM : ∀ i j, M i j < 256) (R i j : Nat) : invM M R i j < 256 := gj_lt (bothM_lt hM R) R R i (R + j)
theorem inv_left {M : Nat → Nat → Nat} (hM : ∀ i j, M i j < 256) (R : Nat) (hr : (gj R M R).2 = R) (i j : Nat) (hi : i < R) (hj : j < R) : prodTo (invM M R) M R i j = idM i j := by
  have h := rows_fwd (sub_lin R id (fun l => R + l) M hM) (bothM_lt hM R) R (fun i hi j hj => by
    rw [sx_unit R i hi (fun l => bothM M R i (R + l)) (fun l => M l j) (fun l _ => bothM_right M R i l) (fun l => hM l j)]
    exact bothM_left M R i j hj) R i hi j hj
  have hu := gj_unit (bothM_lt hM R) R R ((rank_both M R).trans hr) i j hi hj
  show sx (fun l => Gf.tm ((gj R (bothM M R) R).1 i (R + l)) (M l j)) R = _
  rw [← h]
  exact hu
theorem inv_right {M : Nat → Nat → Nat} (hM : ∀ i j, M i j < 256) (R : Nat) (hr : (gj R M R).2 = R) (i j : Nat) (hi : i < R) (hj : j < R) : prodTo M (invM M R) R i j = idM i j := by
  have h := rows_back (sub_lin R (fun j => R + j) id (invM M R) (invM_lt hM R)) (bothM_lt hM R) R R (fun i hi j hj => by
    show _ = sx (fun l => Gf.tm ((gj R (bothM M R) R).1 i l) (invM M R l j)) R
    rw [sx_unit R i hi (fun l => (gj R (bothM M R) R).1 i l) (fun l => invM M R l j) (fun l hl => gj_unit (bothM_lt hM R) R R ((rank_both M R).trans hr) i l hi hl) (fun l => invM_lt hM R l j)]
    rfl) i hi j hj
  rw [bothM_right] at h
  show sx (fun l => Gf.tm (M i l) (invM M R l j)) R = (if i = j then 1 else 0)
  rw [h]
  exact sx_congr R fun l hl => by show Gf.tm (M i l) _ = Gf.tm (bothM M R i l) _; rw [bothM_left M R i l hl]
end Go.Proofs.Ytbajekiliplclaa
