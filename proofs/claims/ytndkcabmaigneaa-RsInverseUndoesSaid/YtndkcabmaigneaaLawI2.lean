/-
  RsInverseUndoes: every matrix.
-/
import Derived.Test.YtndkcabmaigneaaLawI
namespace Go.Proofs.Ytndkcabmaigneaa
open Go Go.RowKit
set_option linter.unusedVariables false

set_option maxRecDepth 100000 in
set_option maxHeartbeats 1000000 in
theorem undoes_walk (W : World) (v0 : Value) (hv0 : MatW W v0) :
    Calls Try.prog 24 #[v0] W fun e w' => e = .returned (.bool true) ∧ Below W.heap.size W w' := by
  obtain ⟨r, c, a, n, cap, l, rfl, ⟨wr, wc⟩, hA, hnc, hnA⟩ := hv0
  clear wr wc
  have hnot : ∀ (x : Bool) (w : World), (Op.unary .not (.bool x)).run Try.prog w = .ok (.bool (!x)) w := fun _ _ => rfl
  by_cases hla : r ≤ 60 ∧ c ≤ 60 ∧ n ≤ 3600
  · obtain ⟨h1, h2, h3⟩ := hla
    by_cases hoa : okMat r c n
    · obtain ⟨R, C, rfl, rfl, q1, q2, q3, q4, q5⟩ := okM_nat hoa
      by_cases he : R = C
      · subst he
        exact undoes_in W R a n cap l hA hnA hnc q1 (by omega) q5
      · have bne : ((R : Int) != (C : Int)) = true := by simp; omega
        obtain ⟨w1, hw1⟩ : ∃ w1, w1 = W.alloc (Obj.cells #[.int .i64 R, .int .i64 C, .slice a n cap] 52) := ⟨_, rfl⟩
        have hbel : Below W.heap.size W w1 := by rw [hw1]; exact (Below.refl _ _).alloc (Nat.le_refl _) _
        have g0 : w1.heap[W.heap.size]? = some (Obj.cells #[.int .i64 R, .int .i64 C, .slice a n cap] 52) := by rw [hw1]; exact heap_new _ _
        obtain ⟨c0, c1, c2, _, _, _⟩ := c3_of g0
        have HA1 := hid (hA.below hbel)
        have G0 := hid g0
        have HN := hid q5
        have HNA := hid hnA
        clear hA g0 q5 hoa hnA he
        go_enter Try.func24, Try.ntmps24
        go_wp2_with fail
        rw [← hw1]
        clear hw1
        refine (large_no R C n _ cap h1 h2 h3 _).mono ?_
        rintro e w2 ⟨rfl, hb2⟩
        have HA2 := hid (HA1.out.below hb2)
        have G2 := hid ((hb2.block _ (lt_of_heap G0.out)).trans G0.out)
        have HB2 := hid (known_end hbel hb2)
        clear c0 c1 c2 hb2 hbel
        obtain ⟨c0, c1, c2, _, _, _⟩ := c3_of G2.out
        go_wp2_with fail
        refine (own_any R C _ n cap _ _ HA2.out HNA.out (by omega)).mono ?_
        rintro e w3 ⟨a', ca, rfl, hca, hA3, lowA, _, hb3⟩
        have G3 := hid ((hb3.block _ (lt_of_heap G2.out)).trans G2.out)
        have HB3 := hid (known_end HB2.out hb3)
        clear c0 c1 c2 hb3 hA3 lowA
        obtain ⟨c0, c1, c2, _, _, _⟩ := c3_of G3.out
        go_wp2_with fail
        refine (Valid_yes R C n a' ca q1 q2 q3 q4 HN.out _).mono ?_
        rintro e w4 ⟨rfl, hb4⟩
        have G4 := hid ((hb4.block _ (lt_of_heap G3.out)).trans G3.out)
        have HB4 := hid (known_end HB3.out hb4)
        clear c0 c1 c2 hb4 hca
        obtain ⟨c0, c1, c2, _, _, _⟩ := c3_of G4.out
        go_wp2_with fail
        refine (known_any _).mono ?_
        rintro e w5 ⟨rfl, hb5⟩
        go_wp2
        go_ret
        exact ⟨rfl, known_end HB4.out hb5⟩
    · obtain ⟨w1, hw1⟩ : ∃ w1, w1 = W.alloc (Obj.cells #[.int .i64 r, .int .i64 c, .slice a n cap] 52) := ⟨_, rfl⟩
      have hbel : Below W.heap.size W w1 := by rw [hw1]; exact (Below.refl _ _).alloc (Nat.le_refl _) _
      have g0 : w1.heap[W.heap.size]? = some (Obj.cells #[.int .i64 r, .int .i64 c, .slice a n cap] 52) := by rw [hw1]; exact heap_new _ _
      obtain ⟨c0, c1, c2, _, _, _⟩ := c3_of g0
      have HA1 := hid (hA.below hbel)
      have G0 := hid g0
      have HNA := hid hnA
      have HOA := hid hoa
      clear hA g0 hoa hnA
      go_enter Try.func24, Try.ntmps24
      go_wp2_with fail
      rw [← hw1]
      clear hw1
      refine (large_no r c n _ cap h1 h2 h3 _).mono ?_
      rintro e w2 ⟨rfl, hb2⟩
      have HA2 := hid (HA1.out.below hb2)
      have G2 := hid ((hb2.block _ (lt_of_heap G0.out)).trans G0.out)
      have HB2 := hid (known_end hbel hb2)
      clear c0 c1 c2 hb2 hbel
      obtain ⟨c0, c1, c2, _, _, _⟩ := c3_of G2.out
      go_wp2_with fail
      refine (own_any r c _ n cap _ _ HA2.out HNA.out (by omega)).mono ?_
      rintro e w3 ⟨a', ca, rfl, hca, hA3, lowA, _, hb3⟩
      have HB3 := hid (known_end HB2.out hb3)
      clear c0 c1 c2 hb3 hA3 lowA
      go_wp2_with fail
      refine (noV r c n a' ca HOA.out _).mono ?_
      rintro e w4 ⟨rfl, hb4⟩
      have HB4 := hid (known_end HB3.out hb4)
      clear hb4 hca
      go_wp2_with fail
      refine (known_any _).mono ?_
      rintro e w5 ⟨rfl, hb5⟩
      go_wp2
      go_ret
      exact ⟨rfl, known_end HB4.out hb5⟩
  · have H := hid hla
    clear hla hA hnA
    go_enter Try.func24, Try.ntmps24
    go_wp2_with fail
    refine (large_yes r c n a cap H.out _).mono ?_
    rintro e w3 ⟨rfl, hb3⟩
    go_wp2_with fail
    refine (known_any _).mono ?_
    rintro e w4 ⟨rfl, hb4⟩
    go_wp2
    go_ret
    exact ⟨rfl, known_end (known_end ((Below.refl _ _).alloc (Nat.le_refl _) _) hb3) hb4⟩
end Go.Proofs.Ytndkcabmaigneaa
