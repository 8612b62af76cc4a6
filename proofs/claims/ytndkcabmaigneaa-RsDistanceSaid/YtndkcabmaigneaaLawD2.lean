/-
  The walk of the law on distances, and its guards.
-/
import Derived.Test.YtndkcabmaigneaaLawD
namespace Go.Proofs.Ytndkcabmaigneaa
open Go.RowKit
set_option linter.unusedVariables false

set_option maxRecDepth 100000 in
set_option maxHeartbeats 1000000 in
theorem distance_walk (W : World) (v : Value) (hv : CaseW W v) :
    Calls Try.prog 10 #[v] W fun e w' => e = .returned (.bool true) ∧ Below W.heap.size W w' := by
  obtain ⟨K, T, S, I, da, oa, ia, pa, dl, dc, ol, oc, il, ic, pl, pc, ld, lo, li, Wh, At, M, ps, D, hC⟩ := hv
  obtain ⟨rfl, ⟨_, _, _, _, _, _, hM⟩, ⟨hd, hdc, hdn⟩, _, _, _⟩ := hC
  by_cases h1 : K < 1
  · go_enter Try.func10, Try.ntmps10
    go_wp2_with fail
    go_quiet (fail)
    go_wp2_with fail
    refine (known_any _).mono ?_
    rintro e w1 ⟨rfl, hb⟩
    go_wp2
    go_ret
    exact ⟨rfl, known_end (bel_drewN ((Below.refl _ _).alloc (Nat.le_refl _) _) _) hb⟩
  by_cases h2 : T < K
  · go_enter Try.func10, Try.ntmps10
    go_wp2_with fail
    go_quiet (fail)
    go_wp2_with fail
    refine (known_any _).mono ?_
    rintro e w1 ⟨rfl, hb⟩
    go_wp2
    go_ret
    exact ⟨rfl, known_end (bel_drewN ((Below.refl _ _).alloc (Nat.le_refl _) _) _) hb⟩
  by_cases h3 : 30 < T
  · go_enter Try.func10, Try.ntmps10
    go_wp2_with fail
    go_quiet (fail)
    go_wp2_with fail
    refine (known_any _).mono ?_
    rintro e w1 ⟨rfl, hb⟩
    go_wp2
    go_ret
    exact ⟨rfl, known_end (bel_drewN ((Below.refl _ _).alloc (Nat.le_refl _) _) _) hb⟩
  by_cases h4 : 2000 < dl
  · go_enter Try.func10, Try.ntmps10
    go_wp2_with fail
    go_quiet (fail)
    go_wp2_with fail
    refine (known_any _).mono ?_
    rintro e w1 ⟨rfl, hb⟩
    go_wp2
    go_ret
    exact ⟨rfl, known_end (bel_drewN ((Below.refl _ _).alloc (Nat.le_refl _) _) _) hb⟩
  by_cases h5 : At < 0
  · go_enter Try.func10, Try.ntmps10
    go_wp2_with fail
    go_quiet (fail)
    go_wp2_with fail
    refine (known_any _).mono ?_
    rintro e w1 ⟨rfl, hb⟩
    go_wp2
    go_ret
    exact ⟨rfl, known_end (bel_drewN ((Below.refl _ _).alloc (Nat.le_refl _) _) _) hb⟩
  by_cases h6 : dl ≤ At
  · go_enter Try.func10, Try.ntmps10
    go_wp2_with fail
    go_quiet (fail)
    go_wp2_with fail
    refine (known_any _).mono ?_
    rintro e w1 ⟨rfl, hb⟩
    go_wp2
    go_ret
    exact ⟨rfl, known_end (bel_drewN ((Below.refl _ _).alloc (Nat.le_refl _) _) _) hb⟩
  by_cases h7 : M = 0
  · subst h7
    go_enter Try.func10, Try.ntmps10
    go_wp2_with fail
    go_quiet (fail)
    go_wp2_with fail
    refine (known_any _).mono ?_
    rintro e w1 ⟨rfl, hb⟩
    go_wp2
    go_ret
    exact ⟨rfl, known_end (bel_drewN ((Below.refl _ _).alloc (Nat.le_refl _) _) _) hb⟩
  obtain ⟨k, rfl⟩ : ∃ m : Nat, K = m := ⟨K.toNat, by omega⟩
  obtain ⟨t, rfl⟩ : ∃ m : Nat, T = m := ⟨T.toNat, by omega⟩
  obtain ⟨p, rfl⟩ : ∃ m : Nat, At = m := ⟨At.toNat, by omega⟩
  exact distance_in W k t p (by omega) (by omega) (by omega) S I da oa ia pa dl dc ol oc il ic pl pc ld Wh M hd hdn (by omega) (by omega) hM h7
end Go.Proofs.Ytndkcabmaigneaa
