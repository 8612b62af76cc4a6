/-
  The walk of the law that encoding is linear, and its guards.
-/
import Derived.Test.YtndkcabmaigneaaLawL
namespace Go.Proofs.Ytndkcabmaigneaa
open Go.RowKit
set_option linter.unusedVariables false

set_option maxRecDepth 100000 in
set_option maxHeartbeats 1000000 in
theorem linear_walk (W : World) (v : Value) (hv : CaseW W v) :
    Calls Try.prog 9 #[v] W fun e w' => e = .returned (.bool true) ∧ Below W.heap.size W w' := by
  obtain ⟨K, T, S, I, da, oa, ia, pa, dl, dc, ol, oc, il, ic, pl, pc, ld, lo, li, Wh, At, M, ps, D, hC⟩ := hv
  obtain ⟨rfl, hwf, ⟨hd, hdc, hdn⟩, ⟨ho, hoc, hon⟩, _, _⟩ := hC
  clear hwf
  by_cases h1 : K < 1
  · go_enter Try.func9, Try.ntmps9
    go_wp2_with fail
    go_quiet (fail)
    go_wp2_with fail
    refine (known_any _).mono ?_
    rintro e w1 ⟨rfl, hb⟩
    go_wp2
    go_ret
    exact ⟨rfl, known_end (bel_drewN ((Below.refl _ _).alloc (Nat.le_refl _) _) _) hb⟩
  by_cases h2 : T < K
  · go_enter Try.func9, Try.ntmps9
    go_wp2_with fail
    go_quiet (fail)
    go_wp2_with fail
    refine (known_any _).mono ?_
    rintro e w1 ⟨rfl, hb⟩
    go_wp2
    go_ret
    exact ⟨rfl, known_end (bel_drewN ((Below.refl _ _).alloc (Nat.le_refl _) _) _) hb⟩
  by_cases h3 : 30 < T
  · go_enter Try.func9, Try.ntmps9
    go_wp2_with fail
    go_quiet (fail)
    go_wp2_with fail
    refine (known_any _).mono ?_
    rintro e w1 ⟨rfl, hb⟩
    go_wp2
    go_ret
    exact ⟨rfl, known_end (bel_drewN ((Below.refl _ _).alloc (Nat.le_refl _) _) _) hb⟩
  by_cases h4 : 2000 < dl
  · go_enter Try.func9, Try.ntmps9
    go_wp2_with fail
    go_quiet (fail)
    go_wp2_with fail
    refine (known_any _).mono ?_
    rintro e w1 ⟨rfl, hb⟩
    go_wp2
    go_ret
    exact ⟨rfl, known_end (bel_drewN ((Below.refl _ _).alloc (Nat.le_refl _) _) _) hb⟩
  by_cases h5 : ol = dl
  · subst h5
    obtain ⟨k, rfl⟩ : ∃ m : Nat, K = m := ⟨K.toNat, by omega⟩
    obtain ⟨t, rfl⟩ : ∃ m : Nat, T = m := ⟨T.toNat, by omega⟩
    exact linear_in W k t (by omega) (by omega) (by omega) S I da oa ia pa ol dc oc il ic pl pc ld lo Wh At M hd ho hdn hon (by omega)
  · have b5 : ((ol : Int) != (dl : Int)) = true := by simp; omega
    go_enter Try.func9, Try.ntmps9
    go_wp2_with fail
    go_quiet (fail)
    go_wp2_with fail
    refine (known_any _).mono ?_
    rintro e w1 ⟨rfl, hb⟩
    go_wp2
    go_ret
    exact ⟨rfl, known_end (bel_drewN ((Below.refl _ _).alloc (Nat.le_refl _) _) _) hb⟩
end Go.Proofs.Ytndkcabmaigneaa
