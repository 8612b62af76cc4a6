/-
  The walk of the law that results share no memory, and its guards.
-/
import Derived.Test.YtndkcabmaigneaaLawMe
namespace Go.Proofs.Ytndkcabmaigneaa
open Go Go.RowKit
set_option linter.unusedVariables false

set_option maxRecDepth 100000 in
set_option maxHeartbeats 1000000 in
theorem memory_walk (W : World) (K : Int) (_hk : (Lit.int .i64 K).wf = true) (T : Int) (_ht : (Lit.int .i64 T).wf = true) (a : Option Addr) (n c : Nat) (d : List Nat) (hd : Bs W (.slice a n c) d) (_hc : n ≤ c) (hnil : a = none → c = 0) :
    Calls Try.prog 12 #[.int .i64 K, .int .i64 T, .slice a n c] W fun e w' => e = .returned (.bool true) ∧ Below W.heap.size W w' := by
  by_cases h1 : K < 1
  · clear hd hnil
    go_enter Try.func12, Try.ntmps12
    go_wp2_with fail
    refine (known_any _).mono ?_
    rintro e w1 ⟨rfl, hb⟩
    go_wp2
    go_ret
    exact ⟨rfl, hb⟩
  by_cases h2 : T < K
  · clear hd hnil
    go_enter Try.func12, Try.ntmps12
    go_wp2_with fail
    refine (known_any _).mono ?_
    rintro e w1 ⟨rfl, hb⟩
    go_wp2
    go_ret
    exact ⟨rfl, hb⟩
  by_cases h3 : 30 < T
  · clear hd hnil
    go_enter Try.func12, Try.ntmps12
    go_wp2_with fail
    refine (known_any _).mono ?_
    rintro e w1 ⟨rfl, hb⟩
    go_wp2
    go_ret
    exact ⟨rfl, hb⟩
  by_cases h4 : 2000 < n
  · clear hd hnil
    go_enter Try.func12, Try.ntmps12
    go_wp2_with fail
    refine (known_any _).mono ?_
    rintro e w1 ⟨rfl, hb⟩
    go_wp2
    go_ret
    exact ⟨rfl, hb⟩
  obtain ⟨k, rfl⟩ : ∃ m : Nat, K = m := ⟨K.toNat, by omega⟩
  obtain ⟨t, rfl⟩ : ∃ m : Nat, T = m := ⟨T.toNat, by omega⟩
  exact memory_in W k t (by omega) (by omega) (by omega) a n c d hd hnil (by omega)
end Go.Proofs.Ytndkcabmaigneaa
