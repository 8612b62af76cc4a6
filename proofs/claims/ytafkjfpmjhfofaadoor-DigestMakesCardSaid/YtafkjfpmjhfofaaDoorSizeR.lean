/-
  The reference's Length; which sizes are allowed.
-/
import Derived.Test.YtafkjfpmjhfofaaDoorSize
import Derived.Deep.QuietTactic
import Derived.BigQuiet
namespace Go.Proofs.YtafkjfpmjhfofaaDoor
open Go.RowKit

theorem length_ok (k n : Nat) (h1 : 1 ≤ k) (h2 : k ≤ 255) (h3 : n ≤ 8192) (w : World) :
    Calls Tryd.prog 45 #[.int .i64 k, .int .i64 n] w fun e w' => e = .returned (.tuple #[.int .i64 (plen k n), .int .i64 0]) ∧ w = w' := by
  have b1 : decide ((k : Int) < 1) = false := by simp; omega
  have b2 : decide ((255 : Int) < (k : Int)) = false := by simp; omega
  have b3 : decide ((n : Int) < 0) = false := by simp
  have b4 : decide ((8192 : Int) < (n : Int)) = false := by simp; omega
  have hle := plen_le k n h1
  go_enter Tryd.func45, Tryd.ntmps45
  go_wp2
  go_loop [6] (fun l => ∃ m : Nat, m ≤ plen k n ∧ l = .int .i64 m) (fun l => plen k n - (intOf l).toNat)
  case atStart => exact ⟨0, by omega, rfl⟩
  case round =>
    obtain ⟨m, hm, rfl⟩ := hrel
    have hkm : k * m ≤ 255 * 8192 := Nat.mul_le_mul h2 (by omega)
    have hcast : ((k : Int) * (m : Int)) = ((k * m : Nat) : Int) := rfl
    by_cases hlt : m < plen k n
    · have hc := plen_lt k n m h1 hlt
      generalize k * m = q at *
      generalize plen k n = p at *
      have hd : decide ((q : Int) < (n : Int)) = true := by simp; omega
      go_wp2
      exact ⟨⟨m + 1, by omega, by go_num⟩, by simp [intOf]; omega⟩
    · obtain rfl : m = plen k n := by omega
      have hc := plen_ge k n h1
      generalize k * plen k n = q at *
      generalize hp : plen k n = p at *
      have HP := hid hp
      clear hp
      have hd : decide ((q : Int) < (n : Int)) = false := by simp; omega
      go_wp2
      go_ret2
      exact ⟨by rw [HP.out]; rfl, rfl⟩
theorem length_bad (k n : Int) (h : ¬ (1 ≤ k ∧ k ≤ 255 ∧ 0 ≤ n ∧ n ≤ 8192)) (w : World) :
    Calls Tryd.prog 45 #[.int .i64 k, .int .i64 n] w fun e w' => e = .returned (.tuple #[.int .i64 0, .int .i64 2]) ∧ w = w' := by
  by_cases h1 : k < 1
  · go_enter Tryd.func45, Tryd.ntmps45
    go_wp2
    go_ret2
    exact ⟨rfl, rfl⟩
  · by_cases h2 : 255 < k
    · go_enter Tryd.func45, Tryd.ntmps45
      go_wp2
      go_ret2
      exact ⟨rfl, rfl⟩
    · by_cases h3 : n < 0
      · go_enter Tryd.func45, Tryd.ntmps45
        go_wp2
        go_ret2
        exact ⟨rfl, rfl⟩
      · have h4 : 8192 < n := by omega
        go_enter Tryd.func45, Tryd.ntmps45
        go_wp2
        go_ret2
        exact ⟨rfl, rfl⟩
end Go.Proofs.YtafkjfpmjhfofaaDoor
