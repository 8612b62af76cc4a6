/-
  SuspectWait, Rounds and the reference's; MemberWaits' arithmetic.
-/
import Derived.Test.YtbdefmjjhkonjaaEb
namespace Go.Proofs.Ytbdefmjjhkonjaa
open Go.RowKit
set_option linter.unusedVariables false

/-- a number of peers brought into 0 to 16 -/
def pz (n : Int) : Int := if n < 0 then 0 else if 16 < n then 16 else n
theorem pz_b (n : Int) : 0 ≤ pz n ∧ pz n ≤ 16 := by unfold pz; split <;> (try split) <;> omega
theorem swarmSize_any (n : Int) (w : World) : Calls Try.prog 61 #[.int .i64 n] w fun e w' => e = .returned (.int .i64 (pz n)) ∧ w' = w := by
  by_cases h1 : n < 0
  · have hp := hid (show pz n = 0 by simp [pz, h1])
    go_enter Try.func61, Try.ntmps61
    go_wp2
    go_ret
    exact ⟨ret_i hp.out.symm, rfl⟩
  by_cases h2 : 16 < n
  · have hp := hid (show pz n = 16 by simp [pz, h1, h2])
    go_enter Try.func61, Try.ntmps61
    go_wp2
    go_ret
    exact ⟨ret_i hp.out.symm, rfl⟩
  · have hp := hid (show pz n = n by simp [pz, h1, h2])
    go_enter Try.func61, Try.ntmps61
    go_wp2
    go_ret
    exact ⟨ret_i hp.out.symm, rfl⟩
theorem peers_any (n : Int) (w : World) : Calls Try.prog 62 #[.int .i64 n] w fun e w' => e = .returned (.int .i64 (pz n)) ∧ w' = w := by
  by_cases h1 : n < 0
  · have hp := hid (show pz n = 0 by simp [pz, h1])
    go_enter Try.func62, Try.ntmps62
    go_wp2
    go_ret
    exact ⟨ret_i hp.out.symm, rfl⟩
  by_cases h2 : 16 < n
  · have hp := hid (show pz n = 16 by simp [pz, h1, h2])
    go_enter Try.func62, Try.ntmps62
    go_wp2
    go_ret
    exact ⟨ret_i hp.out.symm, rfl⟩
  · have hp := hid (show pz n = n by simp [pz, h1, h2])
    go_enter Try.func62, Try.ntmps62
    go_wp2
    go_ret
    exact ⟨ret_i hp.out.symm, rfl⟩
theorem SuspectWait_any (n : Int) (w : World) : Calls Try.prog 29 #[.int .i64 n] w fun e w' => e = .returned (.int .i64 (10 + 3 * pz n)) ∧ w' = w := by
  obtain ⟨z0, z1⟩ := pz_b n
  go_enter Try.func29, Try.ntmps29
  go_wp2_with (go_at_call 61; refine (swarmSize_any n w).mono ?_; rintro e w' ⟨rfl, rfl⟩)
  go_ret
  exact ⟨rfl, rfl⟩
theorem Wait_any (n : Int) (w : World) : Calls Try.prog 30 #[.int .i64 n] w fun e w' => e = .returned (.int .i64 (10 + 3 * pz n)) ∧ w' = w := by
  obtain ⟨z0, z1⟩ := pz_b n
  go_enter Try.func30, Try.ntmps30
  go_wp2_with (go_at_call 62; refine (peers_any n w).mono ?_; rintro e w' ⟨rfl, rfl⟩)
  go_ret
  exact ⟨rfl, rfl⟩
theorem Rounds_any (n : Int) (w : World) : Calls Try.prog 31 #[.int .i64 n] w fun e w' => e = .returned (.int .i64 (30 + 6 * pz n)) ∧ w' = w := by
  obtain ⟨z0, z1⟩ := pz_b n
  go_enter Try.func31, Try.ntmps31
  go_wp2_with (go_at_call 61; refine (swarmSize_any n w).mono ?_; rintro e w' ⟨rfl, rfl⟩)
  go_ret
  exact ⟨rfl, rfl⟩
theorem RRounds_any (n : Int) (w : World) : Calls Try.prog 32 #[.int .i64 n] w fun e w' => e = .returned (.int .i64 (30 + 6 * pz n)) ∧ w' = w := by
  obtain ⟨z0, z1⟩ := pz_b n
  go_enter Try.func32, Try.ntmps32
  go_wp2_with (go_at_call 62; refine (peers_any n w).mono ?_; rintro e w' ⟨rfl, rfl⟩)
  go_ret
  exact ⟨rfl, rfl⟩
end Go.Proofs.Ytbdefmjjhkonjaa
