/-
  A polynomial that is zero at as many places as it has coefficients has none but 0.
-/
import Derived.Test.YtfleplbdcpdphaaIntM
namespace Go.Proofs.Ytfleplbdcpdphaa
open Go Go.RowKit
set_option linter.unusedVariables false

theorem Gf.P.le {n m : Nat} (hnm : n ≤ m) {f : Nat → Nat} (h : Gf.P n f) : Gf.P m f := by
  induction m with
  | zero => obtain rfl : n = 0 := by omega
            exact h
  | succ m ih =>
    by_cases e : n = m + 1
    · exact e ▸ h
    · exact (ih (by omega)).up
theorem pw_poly (s : Nat) (hs : s < 256) : ∀ j, Gf.P (j + 1) fun z => Gf.tm (Gf.pw z j) s
  | 0 => ⟨s, fun _ => 0, hs, Gf.P.zero 0, fun z hz => by
      show Gf.tm 1 s = s ^^^ Gf.tm z 0
      rw [Gf.tm_one _ hs, Gf.tm_zero_right, Nat.xor_zero]⟩
  | j + 1 => ⟨0, _, by omega, pw_poly s hs j, fun z hz => by
      show Gf.tm (Gf.tm (Gf.pw z j) z) s = 0 ^^^ Gf.tm z (Gf.tm (Gf.pw z j) s)
      rw [Nat.zero_xor, Gf.tm_comm (Gf.pw z j) z (Gf.pw_lt z hz j) hz, Gf.tm_assoc z _ s hz (Gf.pw_lt z hz j) hs]⟩
/-- the value at z of the polynomial with the coefficients x -/
def ev (x : Nat → Nat) (k z : Nat) : Nat := sx (fun j => Gf.tm (Gf.pw z j) (x j)) k
theorem ev_poly (x : Nat → Nat) (hx : ∀ j, x j < 256) (k : Nat) : Gf.P k (ev x k) := sx_poly (fun j z => Gf.tm (Gf.pw z j) (x j)) k fun j hj => (pw_poly (x j) (hx j) j).le (by omega)
theorem sx_shiftA (f : Nat → Nat) : ∀ k, sx f (k + 1) = f 0 ^^^ sx (fun j => f (j + 1)) k
  | 0 => by show 0 ^^^ f 0 = f 0 ^^^ 0; rw [Nat.zero_xor, Nat.xor_zero]
  | k + 1 => by
    show sx f (k + 1) ^^^ f (k + 1) = f 0 ^^^ (sx (fun j => f (j + 1)) k ^^^ f (k + 1))
    rw [sx_shiftA f k, Nat.xor_assoc]
theorem ev_shift (x : Nat → Nat) (hx : ∀ j, x j < 256) (k z : Nat) (hz : z < 256) : ev x (k + 1) z = x 0 ^^^ Gf.tm z (ev (fun j => x (j + 1)) k z) := by
  unfold ev
  rw [sx_shiftA]
  congr 1
  · exact Gf.tm_one _ (hx 0)
  · rw [Gf.tm_comm z _ hz (sx_lt _ (fun j => Gf.tm_lt _ _ (Gf.pw_lt z hz j)) k), sx_tm _ (fun j => Gf.tm_lt _ _ (Gf.pw_lt z hz j)) z k]
    refine sx_congr _ fun j hj => ?_
    show Gf.tm (Gf.tm (Gf.pw z j) z) (x (j + 1)) = Gf.tm (Gf.tm (Gf.pw z j) (x (j + 1))) z
    rw [Gf.tm_assoc _ _ _ (Gf.pw_lt z hz j) hz (hx _), Gf.tm_comm z _ hz (hx _), ← Gf.tm_assoc _ _ _ (Gf.pw_lt z hz j) (hx _) hz]
/-- a polynomial of at most 256 coefficients that is 0 everywhere has no coefficient but 0 -/
theorem ev_zero : ∀ (k : Nat) (x : Nat → Nat), k ≤ 256 → (∀ j, x j < 256) → (∀ z, z < 256 → ev x k z = 0) → ∀ j, j < k → x j = 0
  | 0, _, _, _, _, j, hj => absurd hj (Nat.not_lt_zero j)
  | k + 1, x, hk, hx, h, j, hj => by
    have h0 : x 0 = 0 := by
      have h1 := h 0 (by omega)
      rwa [ev_shift x hx k 0 (by omega), Gf.tm_zero_left, Nat.xor_zero] at h1
    have hg : ∀ z, z < 256 → z ≠ 0 → ev (fun j => x (j + 1)) k z = 0 := fun z hz hz0 => by
      have h1 := h z hz
      rw [ev_shift x hx k z hz, h0, Nat.zero_xor] at h1
      exact Gf.tm_eq_zero hz (sx_lt _ (fun j => Gf.tm_lt _ _ (Gf.pw_lt z hz j)) k) h1 hz0
    have hall : ∀ z, z < 256 → ev (fun j => x (j + 1)) k z = 0 := (ev_poly _ (fun j => hx (j + 1)) k).roots ((List.range k).map (· + 1)) (by simp) (by
      rw [List.nodup_iff_pairwise_ne, List.pairwise_map]
      exact List.nodup_range.imp fun h e => h (by simpa using e)) (fun r hr => by
      obtain ⟨a, ha, rfl⟩ := List.mem_map.1 hr
      have ha := List.mem_range.1 ha
      exact ⟨by omega, hg _ (by omega) (by omega)⟩)
    cases j with
    | zero => exact h0
    | succ j => exact ev_zero k (fun j => x (j + 1)) (by omega) (fun j => hx (j + 1)) hall j (by omega)

theorem pw_comm_val (f : Nat → Nat) (hf : ∀ j, f j < 256) (n x : Nat) (hx : x < 256) : fv f n x = ev f n x := by
  unfold fv ev
  exact sx_congr _ fun j hj => Gf.tm_comm _ _ (hf j) (Gf.pw_lt x hx j)
theorem fv_xor (f g : Nat → Nat) (hf : ∀ j, f j < 256) (hg : ∀ j, g j < 256) (x : Nat) (hx : x < 256) : ∀ n, ev (fun j => f j ^^^ g j) n x = ev f n x ^^^ ev g n x
  | 0 => (Nat.xor_self 0).symm
  | n + 1 => by
    show ev (fun j => f j ^^^ g j) n x ^^^ Gf.tm (Gf.pw x n) (f n ^^^ g n) = (ev f n x ^^^ Gf.tm (Gf.pw x n) (f n)) ^^^ (ev g n x ^^^ Gf.tm (Gf.pw x n) (g n))
    rw [fv_xor f g hf hg x hx n, Gf.tm_xor_right _ _ _ (Gf.pw_lt x hx n) (hf n) (hg n)]
    generalize ev f n x = a
    generalize ev g n x = b
    generalize Gf.tm (Gf.pw x n) (f n) = c
    generalize Gf.tm (Gf.pw x n) (g n) = d
    rw [Nat.xor_assoc, Nat.xor_assoc, ← Nat.xor_assoc b, Nat.xor_comm b c, Nat.xor_assoc]
/-- two lists of coefficients with one value at each of as many places are one -/
theorem fv_unique (X : List Nat) (hX : ∀ i, X.getD i 0 < 256) (hd : X.Nodup) (hn : X.length ≤ 256) (f g : Nat → Nat) (hf : ∀ j, f j < 256) (hg : ∀ j, g j < 256) (h : ∀ m, m < X.length → fv f X.length (X.getD m 0) = fv g X.length (X.getD m 0)) :
    ∀ j, j < X.length → f j = g j := by
  have hx2 : ∀ j, f j ^^^ g j < 256 := fun j => Nat.xor_lt_two_pow (n := 8) (hf j) (hg j)
  have hz : ∀ z, z < 256 → ev (fun j => f j ^^^ g j) X.length z = 0 := (ev_poly _ hx2 X.length).roots X rfl hd (fun r hr => by
    obtain ⟨m, hm, rfl⟩ := List.getElem_of_mem hr
    have e : X[m] = X.getD m 0 := by rw [List.getD_eq_getElem?_getD, List.getElem?_eq_getElem hm]; rfl
    rw [e]
    refine ⟨hX m, ?_⟩
    rw [fv_xor f g hf hg _ (hX m), ← pw_comm_val f hf _ _ (hX m), ← pw_comm_val g hg _ _ (hX m), h m hm, Nat.xor_self])
  intro j hj
  have h1 := ev_zero X.length _ hn hx2 hz j hj
  have h2 : (f j ^^^ g j) ^^^ g j = 0 ^^^ g j := congrArg (· ^^^ g j) h1
  rwa [Nat.xor_assoc, Nat.xor_self, Nat.xor_zero, Nat.zero_xor] at h2
end Go.Proofs.Ytfleplbdcpdphaa
