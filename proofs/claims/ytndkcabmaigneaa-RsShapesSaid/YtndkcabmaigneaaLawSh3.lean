/-
  The walk of the law about shapes, and its guards.
-/
import Derived.Test.YtndkcabmaigneaaLawSh2
namespace Go.Proofs.Ytndkcabmaigneaa
open Go Go.RowKit
set_option linter.unusedVariables false

theorem id_pair (r : Int) : ∃ R C L x, (∀ w, Calls Try.prog 56 #[.int .i64 r] w fun e w' => MatRes w.heap.size R C L x e w' ∧ Below w.heap.size w w') ∧ (∀ w, Calls Try.prog 57 #[.int .i64 r] w fun e w' => MatRes w.heap.size R C L x e w' ∧ Below w.heap.size w w') := by
  by_cases h : 1 ≤ r ∧ r ≤ 255
  · obtain ⟨n, rfl⟩ : ∃ m : Nat, r = m := ⟨r.toNat, by omega⟩
    exact ⟨n, n, flat n n idM, 0, fun w => Identity_ok n (by omega) (by omega) w, fun w => Unit_ok n (by omega) (by omega) w⟩
  · exact ⟨0, 0, [], 2, fun w => Identity_bad r h w, fun w => Unit_bad r h w⟩
theorem vd_pair (r c : Int) : ∃ R C L x, (∀ fb w, Fld w fb → Calls Try.prog 61 #[.pointer (some ⟨fb, 0, none⟩), .int .i64 r, .int .i64 c] w fun e w' => MatRes w.heap.size R C L x e w' ∧ Fld w' fb ∧ Kept fb w w') ∧ (∀ w, Calls Try.prog 62 #[.int .i64 r, .int .i64 c] w fun e w' => MatRes w.heap.size R C L x e w' ∧ Below w.heap.size w w') := by
  by_cases h : 1 ≤ r ∧ r ≤ 255 ∧ 1 ≤ c ∧ c ≤ 255
  · obtain ⟨h1, h2, h3, h4⟩ := h
    obtain ⟨R, rfl⟩ : ∃ m : Nat, r = m := ⟨r.toNat, by omega⟩
    obtain ⟨C, rfl⟩ : ∃ m : Nat, c = m := ⟨c.toNat, by omega⟩
    refine ⟨R, C, flat R C fun r c => if r < R then vdM r c else 0, 0, fun fb w hF => (Vandermonde_ok fb R C (by omega) (by omega) (by omega) (by omega) w hF).mono ?_, fun w => Powers_ok R C (by omega) (by omega) (by omega) (by omega) w⟩
    rintro e w' ⟨ob, hlow, rfl, hown, hb, hk⟩
    have h7 := hown.bs (flat_lt fun i j => by split; exact Powers_lt i j (by omega); omega) (R * C)
    rw [flat_length] at h7
    exact ⟨⟨_, _, _, rfl, h7, fun ad h => by cases h; exact hlow⟩, .inr hb, hk⟩
  · exact ⟨0, 0, [], 2, fun fb w hF => (Vandermonde_bad fb r c h w).mono fun e w' g => ⟨g.1, hF.same (g.2.block _ hF.lt), Kept.of_below g.2⟩, fun w => Powers_bad r c h w⟩
theorem gen_pair (k t : Int) : ∃ R C L x, (∀ fb w, Fld w fb → Calls Try.prog 43 #[.pointer (some ⟨fb, 0, none⟩), .int .i64 k, .int .i64 t] w fun e w' => MatRes w.heap.size R C L x e w' ∧ Fld w' fb ∧ Kept fb w w') ∧ (∀ w, Calls Try.prog 63 #[.int .i64 k, .int .i64 t] w fun e w' => MatRes w.heap.size R C L x e w' ∧ Below w.heap.size w w') := by
  by_cases h : 1 ≤ k ∧ k ≤ t ∧ t ≤ 255
  · obtain ⟨h1, h2, h3⟩ := h
    obtain ⟨k, rfl⟩ : ∃ m : Nat, k = m := ⟨k.toNat, by omega⟩
    obtain ⟨t, rfl⟩ : ∃ m : Nat, t = m := ⟨t.toNat, by omega⟩
    refine ⟨t, k, flat t k (genM k), 0, fun fb w hF => (Generator_ok fb t k (by omega) (by omega) (by omega) w hF).mono ?_, fun w => Basis_ok t k (by omega) (by omega) (by omega) w⟩
    rintro e w' ⟨ob, hlow, rfl, hown, hb, hk⟩
    have h7 := hown.bs (flat_lt (genM_lt k)) (t * k)
    rw [flat_length] at h7
    exact ⟨⟨_, _, _, rfl, h7, fun ad h => by cases h; exact hlow⟩, .inr hb, hk⟩
  · exact ⟨0, 0, [], 2, fun fb w hF => (Generator_bad fb k t h w).mono fun e w' g => ⟨g.1, hF.same (g.2.block _ hF.lt), Kept.of_below g.2⟩, fun w => Basis_bad k t h w⟩

set_option maxRecDepth 100000 in
set_option maxHeartbeats 1000000 in
theorem shapes_walk (W : World) (v0 : Value) (hv0 : MatW W v0) (r : Int) (_hr : (Lit.int .i64 r).wf = true) (c : Int) (_hc : (Lit.int .i64 c).wf = true) :
    Calls Try.prog 20 #[v0, .int .i64 r, .int .i64 c] W fun e w' => e = .returned (.bool true) ∧ Below W.heap.size W w' := by
  obtain ⟨mr, mc, a, n, cap, l, rfl, ⟨wr, wc⟩, hA, hnc, hnA⟩ := hv0
  clear wr wc
  by_cases hn : 65536 < n
  · have b0 : decide ((65536 : Int) < (n : Int)) = true := by simp; omega
    clear hA hnA
    go_enter Try.func20, Try.ntmps20
    go_wp2_with fail
    refine (known_any _).mono ?_
    rintro e w4 ⟨rfl, hb4⟩
    go_wp2
    go_ret
    exact ⟨rfl, known_end ((Below.refl _ _).alloc (Nat.le_refl _) _) hb4⟩
  have b0 : decide ((65536 : Int) < (n : Int)) = false := by simp; omega
  by_cases g1 : 60 < r ∧ r ≤ 255
  · obtain ⟨g1, g2⟩ := g1
    clear hA hnA
    go_enter Try.func20, Try.ntmps20
    go_wp2_with fail
    refine (known_any _).mono ?_
    rintro e w4 ⟨rfl, hb4⟩
    go_wp2
    go_ret
    exact ⟨rfl, known_end ((Below.refl _ _).alloc (Nat.le_refl _) _) hb4⟩
  by_cases g2 : 60 < c ∧ c ≤ 255
  · obtain ⟨g3, g4⟩ := g2
    have g1' : r ≤ 60 ∨ 255 < r := by omega
    clear hA hnA g1
    rcases g1' with g1 | g1
    all_goals
      go_enter Try.func20, Try.ntmps20
      go_wp2_with fail
      refine (known_any _).mono ?_
      rintro e w4 ⟨rfl, hb4⟩
      go_wp2
      go_ret
      exact ⟨rfl, known_end ((Below.refl _ _).alloc (Nat.le_refl _) _) hb4⟩
  obtain ⟨R1, C1, L1, x1, hI, hU⟩ := id_pair r
  obtain ⟨R2, C2, L2, x2, hD, hP⟩ := vd_pair r c
  obtain ⟨R3, C3, L3, x3, hE, hB⟩ := gen_pair c r
  by_cases hok : okMat mr mc n
  · exact shapes_in W mr mc r c a n cap l hA hnA (by omega) (by omega) (by omega) true R1 C1 x1 R2 C2 x2 R3 C3 x3 L1 L2 L3 (fun a' ca w => okV mr mc n a' ca hok w) (fun w => okG mr mc n a cap hok w) hI hU hD hP hE hB
  · exact shapes_in W mr mc r c a n cap l hA hnA (by omega) (by omega) (by omega) false R1 C1 x1 R2 C2 x2 R3 C3 x3 L1 L2 L3 (fun a' ca w => noV mr mc n a' ca hok w) (fun w => noG mr mc n a cap hok w) hI hU hD hP hE hB
end Go.Proofs.Ytndkcabmaigneaa
