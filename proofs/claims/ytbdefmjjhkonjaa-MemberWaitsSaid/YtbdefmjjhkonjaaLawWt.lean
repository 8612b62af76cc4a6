/-
  MemberWaits, walked.
-/
import Derived.Test.YtbdefmjjhkonjaaKm
namespace Go.Proofs.Ytbdefmjjhkonjaa
open Go Go.RowKit
set_option linter.unusedVariables false

set_option maxRecDepth 100000 in
set_option maxHeartbeats 1000000 in
theorem waits_walk (n : Int) (hn : (Lit.int .i64 n).wf = true) (w : World) : Calls Try.prog 6 #[.int .i64 n] w fun e w' => e = .returned (.bool true) ∧ Below w.heap.size w w' := by
  have h3 : pz 3 = 3 := by decide
  have HS := hid (fun (wx : World) => SuspectWait_any n wx)
  have HW := hid (fun (wx : World) => Wait_any n wx)
  have HR := hid (fun (wx : World) => Rounds_any n wx)
  have HQ := hid (fun (wx : World) => RRounds_any n wx)
  have H3 := hid (show ∀ wx : World, Calls Try.prog 29 #[.int .i64 3] wx fun e w' => e = .returned (.int .i64 19) ∧ w' = wx from fun wx => by have h := SuspectWait_any 3 wx; rw [h3] at h; exact h)
  clear h3
  obtain ⟨s1, hs1⟩ : ∃ y, y = 10 + 3 * pz n := ⟨_, rfl⟩
  obtain ⟨s2, hs2⟩ : ∃ y, y = 30 + 6 * pz n := ⟨_, rfl⟩
  rw [← hs1] at HS HW
  rw [← hs2] at HR HQ
  clear hs1 hs2
  go_enter Try.func6, Try.ntmps6
  go_wp2_with fail
  refine (HS.out _).mono ?_
  rintro e w1 ⟨rfl, rfl⟩
  go_wp2_with fail
  refine (HW.out _).mono ?_
  rintro e w2 ⟨rfl, rfl⟩
  go_wp2_with fail
  refine (HR.out _).mono ?_
  rintro e w3 ⟨rfl, rfl⟩
  go_wp2_with fail
  refine (HQ.out _).mono ?_
  rintro e w4 ⟨rfl, rfl⟩
  go_wp2_with fail
  refine (H3.out _).mono ?_
  rintro e w5 ⟨rfl, rfl⟩
  go_wp2_with fail
  refine (known_m _).mono ?_
  rintro e w6 ⟨rfl, hb⟩
  go_wp2
  go_ret
  exact ⟨rfl, hb⟩
end Go.Proofs.Ytbdefmjjhkonjaa
