/-
  PieceSize and the reference's Length; which sizes are allowed.
-/
import Derived.Test.YtafkjfpmjhfofaaDoorBase
import Derived.Deep.QuietTactic
import Derived.BigQuiet
namespace Go.Proofs.YtafkjfpmjhfofaaDoor
open Go.RowKit

/-- the length of a piece -/
def plen (k n : Nat) : Nat := (n + k - 1) / k
theorem size_ok (k n : Nat) (h1 : 1 ≤ k) (h2 : k ≤ 255) (h3 : n ≤ 8192) (w : World) :
    Calls Tryd.prog 44 #[.int .i64 k, .int .i64 n] w fun e w' => e = .returned (.tuple #[.int .i64 (plen k n), .int .i64 0]) ∧ w = w' := by
  have b1 : decide ((k : Int) < 1) = false := by simp; omega
  have b2 : decide ((255 : Int) < (k : Int)) = false := by simp; omega
  have b3 : decide ((n : Int) < 0) = false := by simp
  have b4 : decide ((8192 : Int) < (n : Int)) = false := by simp; omega
  have hp : (((n : Int) + (k : Int) - 1) / (k : Int)) = (plen k n : Int) := by
    unfold plen
    rw [show ((n : Int) + (k : Int) - 1) = ((n + k - 1 : Nat) : Int) from by omega]
    rfl
  have HP := hid hp
  clear hp
  go_enter Tryd.func44, Tryd.ntmps44
  go_wp2
  go_ret2
  exact ⟨by rw [← HP.out]; rfl, rfl⟩
theorem size_bad (k n : Int) (h : ¬ (1 ≤ k ∧ k ≤ 255 ∧ 0 ≤ n ∧ n ≤ 8192)) (w : World) :
    Calls Tryd.prog 44 #[.int .i64 k, .int .i64 n] w fun e w' => e = .returned (.tuple #[.int .i64 0, .int .i64 2]) ∧ w = w' := by
  by_cases h1 : k < 1
  · go_enter Tryd.func44, Tryd.ntmps44
    go_wp2
    go_ret2
    exact ⟨rfl, rfl⟩
  · by_cases h2 : 255 < k
    · go_enter Tryd.func44, Tryd.ntmps44
      go_wp2
      go_ret2
      exact ⟨rfl, rfl⟩
    · by_cases h3 : n < 0
      · go_enter Tryd.func44, Tryd.ntmps44
        go_wp2
        go_ret2
        exact ⟨rfl, rfl⟩
      · have h4 : 8192 < n := by omega
        go_enter Tryd.func44, Tryd.ntmps44
        go_wp2
        go_ret2
        exact ⟨rfl, rfl⟩

theorem plen_ge (k n : Nat) (h1 : 1 ≤ k) : n ≤ k * plen k n := by
  unfold plen
  have := Nat.div_add_mod (n + k - 1) k
  have h2 := Nat.mod_lt (n + k - 1) (show 0 < k by omega)
  omega
theorem plen_lt (k n l : Nat) (h1 : 1 ≤ k) (h : l < plen k n) : k * l < n := by
  unfold plen at h
  have h2 : (l + 1) * k ≤ n + k - 1 := (Nat.le_div_iff_mul_le (by omega)).1 h
  have h3 : (l + 1) * k = k * l + k := by rw [Nat.succ_mul, Nat.mul_comm]
  omega
theorem plen_le (k n : Nat) (h1 : 1 ≤ k) : plen k n ≤ n := by
  unfold plen
  rw [Nat.div_le_iff_le_mul_add_pred (by omega)]
  have := Nat.le_mul_of_pos_left n (show 0 < k by omega)
  omega

/-- are the sizes of a code allowed? -/
def okCode (k t : Int) : Bool := decide (1 ≤ k) && decide (k ≤ t) && decide (t ≤ 255)
theorem okCode_yes {k t : Int} (h1 : 1 ≤ k) (h2 : k ≤ t) (h3 : t ≤ 255) : okCode k t = true := by simp [okCode, h1, h2, h3]
theorem okCode_no {k t : Int} (h : ¬ (1 ≤ k ∧ k ≤ t ∧ t ≤ 255)) : okCode k t = false := by
  cases e : okCode k t
  · rfl
  · simp [okCode] at e; omega
theorem okCode_iff {k t : Int} : okCode k t = true ↔ 1 ≤ k ∧ k ≤ t ∧ t ≤ 255 := by
  constructor
  · intro e; simp [okCode] at e; omega
  · rintro ⟨h1, h2, h3⟩; exact okCode_yes h1 h2 h3
theorem valid_yes (k t : Int) (h1 : 1 ≤ k) (h2 : k ≤ t) (h3 : t ≤ 255) (w : World) :
    Calls Tryd.prog 61 #[.int .i64 k, .int .i64 t] w fun e w' => e = .returned (.bool true) ∧ w = w' := by
  go_enter Tryd.func61, Tryd.ntmps61
  go_wp2
  go_ret
  exact ⟨rfl, rfl⟩
theorem valid_no (k t : Int) (h : ¬ (1 ≤ k ∧ k ≤ t ∧ t ≤ 255)) (w : World) :
    Calls Tryd.prog 61 #[.int .i64 k, .int .i64 t] w fun e w' => e = .returned (.bool false) ∧ w = w' := by
  by_cases h1 : 1 ≤ k
  · by_cases h2 : k ≤ t
    · have h3 : ¬ t ≤ 255 := by omega
      clear h
      go_enter Tryd.func61, Tryd.ntmps61
      go_wp2
      go_ret
      exact ⟨rfl, rfl⟩
    · clear h
      go_enter Tryd.func61, Tryd.ntmps61
      go_wp2
      go_ret
      exact ⟨rfl, rfl⟩
  · clear h
    go_enter Tryd.func61, Tryd.ntmps61
    go_wp2
    go_ret
    exact ⟨rfl, rfl⟩
end Go.Proofs.YtafkjfpmjhfofaaDoor
