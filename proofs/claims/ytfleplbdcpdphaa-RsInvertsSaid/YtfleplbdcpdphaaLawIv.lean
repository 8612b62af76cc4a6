/-
  The walk of the law about inverses and ranks.
-/
import Derived.Test.YtfleplbdcpdphaaRefI
namespace Go.Proofs.Ytfleplbdcpdphaa
open Go Go.RowKit
set_option linter.unusedVariables false

theorem fld_below {w w' : World} {fb : Nat} (h : Fld w fb) (hb : Below w.heap.size w w') : Fld w' fb := by
  have hl := h.lt
  exact h.elim (fun h => .inl ((hb.block _ hl).trans h)) (fun h => .inr ((hb.block _ hl).trans h))
set_option maxRecDepth 100000 in
set_option maxHeartbeats 4000000 in
theorem inverts_in (W : World) (r c : Int) (a : Option Addr) (n cap : Nat) (l : List Nat) (hA : Bs W (.slice a n cap) l) (hna : a = none → cap = 0) (h1 : r ≤ 60) (h2 : c ≤ 60) (h3 : n ≤ 3600) (R C x : Int) (L : List Nat) (k y : Int)
    (hI : ∀ fb a' ca w, Fld w fb → n ≤ ca → Bs w (.slice a' n ca) l → Off fb (.slice a' n ca) → Calls Try.prog 69 #[.pointer (some ⟨fb, 0, none⟩), .agg #[.int .i64 r, .int .i64 c, .slice a' n ca]] w fun e w' => MatRes w.heap.size R C L x e w' ∧ Fld w' fb ∧ Kept fb w w')
    (hJ : ∀ w, Bs w (.slice a n cap) l → Calls Try.prog 70 #[.agg #[.int .i64 r, .int .i64 c, .slice a n cap]] w fun e w' => MatRes w.heap.size R C L x e w' ∧ Below w.heap.size w w')
    (hK : ∀ fb a' ca w, Fld w fb → n ≤ ca → Bs w (.slice a' n ca) l → Off fb (.slice a' n ca) → Calls Try.prog 71 #[.pointer (some ⟨fb, 0, none⟩), .agg #[.int .i64 r, .int .i64 c, .slice a' n ca]] w fun e w' => e = .returned (.tuple #[.int .i64 k, .int .i64 y]) ∧ Kept fb w w')
    (hL : ∀ w, Bs w (.slice a n cap) l → Calls Try.prog 72 #[.agg #[.int .i64 r, .int .i64 c, .slice a n cap]] w fun e w' => e = .returned (.tuple #[.int .i64 k, .int .i64 y]) ∧ Below w.heap.size w w') :
    Calls Try.prog 23 #[.agg #[.int .i64 r, .int .i64 c, .slice a n cap]] W fun e w' => e = .returned (.bool true) ∧ Below W.heap.size W w' := by
  have HA := hid hA
  have HNA := hid hna
  have HI := hid hI
  have HJ := hid hJ
  have HK := hid hK
  have HL := hid hL
  clear hA hna hI hJ hK hL
  obtain ⟨w1, hw1⟩ : ∃ w1, w1 = W.alloc (Obj.cells #[.int .i64 r, .int .i64 c, .slice a n cap] 52) := ⟨_, rfl⟩
  have hbel : Below W.heap.size W w1 := by rw [hw1]; exact (Below.refl _ _).alloc (Nat.le_refl _) _
  have g0 : w1.heap[W.heap.size]? = some (Obj.cells #[.int .i64 r, .int .i64 c, .slice a n cap] 52) := by rw [hw1]; exact heap_new _ _
  obtain ⟨c0, c1, c2, _, _, _⟩ := c3_of g0
  have G0 := hid g0
  clear g0
  go_enter Try.func23, Try.ntmps23
  go_wp2_with fail
  rw [← hw1]
  clear hw1
  refine (large_no r c n a cap h1 h2 h3 _).mono ?_
  rintro e w2 ⟨rfl, hb2⟩
  clear c0 c1 c2
  have K2 := hid ((hb2.block _ (lt_of_heap G0.out)).trans G0.out)
  have HW2 := hid (known_end hbel hb2)
  clear hbel hb2
  go_wp2_with fail
  refine (newField_ex _).mono ?_
  rintro e w3 ⟨fb, hfb, rfl, hfr, hb3⟩
  have K3 := hid ((hb3.block _ (lt_of_heap K2.out)).trans K2.out)
  obtain ⟨c0, c1, c2, _, _, _⟩ := c3_of K3.out
  have HW3 := hid (known_end HW2.out hb3)
  have HF3 := hid hfr
  have hfl := lt_of_heap hfr
  have hwf : W.heap.size ≤ fb := Nat.le_trans HW2.out.size hfb
  clear hb3 hfr
  go_wp2_with fail
  refine (own_any r c a n cap l _ (HA.out.below HW3.out) HNA.out (by omega)).mono ?_
  rintro e w4 ⟨a', ca, rfl, hca, hA4, lowA, hnA4, hb4⟩
  have K4 := hid ((hb4.block _ (lt_of_heap K3.out)).trans K3.out)
  have HW4 := hid (known_end HW3.out hb4)
  have HF4 := hid (show Fld w4 fb from .inl ((hb4.block _ hfl).trans HF3.out))
  have HA4 := hid hA4
  have hof := hid (off_low (n := n) (c := ca) lowA hfl)
  clear c0 c1 c2 hA4 lowA hnA4 hb4
  go_wp2_with fail
  refine (HI.out fb a' ca w4 HF4.out hca HA4.out hof.out).mono ?_
  rintro e w5 ⟨⟨ra, rn, rc, rfl, hR5, lowR⟩, hF5, hk5⟩
  have hbf : W.heap.size ≠ fb := by have := lt_of_heap K2.out; omega
  have hfl4 := HF4.out.lt
  have hs5 := hk5.size
  have K5 := hid (heap_alloc ((hk5.block _ (lt_of_heap K4.out) hbf).trans K4.out) (Obj.cells #[.int .i64 R, .int .i64 C, .slice ra rn rc] 52))
  obtain ⟨c0, c1, c2, _, _, _⟩ := c3_of K5.out
  have Z5 := hid (heap_new w5 (Obj.cells #[.int .i64 R, .int .i64 C, .slice ra rn rc] 52))
  have hw5 := HW4.out.trans (hk5.below HW4.out.size hwf)
  have HW5 := hid (hw5.alloc hw5.size (Obj.cells #[.int .i64 R, .int .i64 C, .slice ra rn rc] 52))
  have HF5 := hid (hF5.alloc (Obj.cells #[.int .i64 R, .int .i64 C, .slice ra rn rc] 52))
  have HR5 := hid (hR5.alloc (Obj.cells #[.int .i64 R, .int .i64 C, .slice ra rn rc] 52))
  have ho5 := hid (off_low (n := rn) (c := rc) lowR hfl4)
  clear hw5 hF5 hR5 lowR hk5
  go_wp2_with fail
  refine (HJ.out _ (HA.out.below HW5.out)).mono ?_
  rintro e w6 ⟨⟨rb, rm, rd, rfl, hR6, lowR6⟩, hb6⟩
  clear c0 c1 c2
  have K6 := hid (heap_alloc ((hb6.block _ (lt_of_heap K5.out)).trans K5.out) (Obj.cells #[.int .i64 R, .int .i64 C, .slice rb rm rd] 52))
  obtain ⟨c0, c1, c2, _, _, _⟩ := c3_of K6.out
  have Z6 := hid (heap_alloc ((hb6.block _ (lt_of_heap Z5.out)).trans Z5.out) (Obj.cells #[.int .i64 R, .int .i64 C, .slice rb rm rd] 52))
  have Y6 := hid (heap_new w6 (Obj.cells #[.int .i64 R, .int .i64 C, .slice rb rm rd] 52))
  have hw6 := known_end HW5.out hb6
  have HW6 := hid (hw6.alloc hw6.size (Obj.cells #[.int .i64 R, .int .i64 C, .slice rb rm rd] 52))
  have HF6 := hid ((fld_below HF5.out hb6).alloc (Obj.cells #[.int .i64 R, .int .i64 C, .slice rb rm rd] 52))
  have HR56 := hid ((HR5.out.below hb6).alloc (Obj.cells #[.int .i64 R, .int .i64 C, .slice rb rm rd] 52))
  have HR6 := hid (hR6.alloc (Obj.cells #[.int .i64 R, .int .i64 C, .slice rb rm rd] 52))
  have ho6 := hid (off_low (n := rm) (c := rd) lowR6 HF5.out.lt)
  have hs6 := hb6.size
  have hfl6 := HF6.out.lt
  have hfl5 := HF5.out.lt
  simp only [World.size_alloc] at hs6 hfl5
  clear hw6 hR6 lowR6 hb6
  go_wp2_with fail
  refine (own_any r c a n cap l _ (HA.out.below HW6.out) HNA.out (by omega)).mono ?_
  rintro e w7 ⟨a2, ca2, rfl, hca2, hA7, lowA2, hnA7, hb7⟩
  clear c0 c1 c2
  have K7 := hid ((hb7.block _ (lt_of_heap K6.out)).trans K6.out)
  have Z7 := hid ((hb7.block _ (lt_of_heap Z6.out)).trans Z6.out)
  have Y7 := hid ((hb7.block _ (lt_of_heap Y6.out)).trans Y6.out)
  have HW7 := hid (known_end HW6.out hb7)
  have HF7 := hid (fld_below HF6.out hb7)
  have HR57 := hid (HR56.out.below hb7)
  have HR67 := hid (HR6.out.below hb7)
  have ho7 := hid (off_low (n := n) (c := ca2) lowA2 hfl6)
  have HA7 := hid hA7
  clear hA7 lowA2 hnA7 hb7
  go_wp2_with fail
  refine (HK.out fb a2 ca2 w7 HF7.out hca2 HA7.out ho7.out).mono ?_
  rintro e w8 ⟨rfl, hk8⟩
  have K8 := hid ((hk8.block _ (lt_of_heap K7.out) hbf).trans K7.out)
  have Z8 := hid ((hk8.block _ (lt_of_heap Z7.out) (by omega)).trans Z7.out)
  have Y8 := hid ((hk8.block _ (lt_of_heap Y7.out) (by omega)).trans Y7.out)
  have HW8 := hid (HW7.out.trans (hk8.below HW7.out.size hwf))
  have HR58 := hid (HR57.out.kept hk8 ho5.out)
  have HR68 := hid (HR67.out.kept hk8 ho6.out)
  obtain ⟨c0, c1, c2, _, _, _⟩ := c3_of K8.out
  clear hk8
  go_wp2_with fail
  refine (HL.out w8 (HA.out.below HW8.out)).mono ?_
  rintro e w9 ⟨rfl, hb9⟩
  clear c0 c1 c2
  have Z9 := (hb9.block _ (lt_of_heap Z8.out)).trans Z8.out
  have Y9 := (hb9.block _ (lt_of_heap Y8.out)).trans Y8.out
  obtain ⟨c0, c1, c2, _, _, _⟩ := c3_of Z9
  obtain ⟨d0, d1, d2, _, _, _⟩ := c3_of Y9
  have HW9 := hid (known_end HW8.out hb9)
  have HR59 := hid (HR58.out.below hb9)
  have HR69 := hid (HR68.out.below hb9)
  clear Z9 Y9 hb9
  go_wp2_with fail
  refine (SameMatrix_yes R C ra rb rn rm rc rd L _ HR59.out HR69.out).mono ?_
  rintro e w10 ⟨rfl, hb10⟩
  clear c0 c1 c2 d0 d1 d2
  have HW10 := hid (known_end HW9.out hb10)
  clear hb10
  go_wp2_with fail
  refine (known_any _).mono ?_
  rintro e w11 ⟨rfl, hb11⟩
  go_wp2
  go_ret
  exact ⟨rfl, known_end HW10.out hb11⟩

set_option maxRecDepth 100000 in
theorem inverts_walk (W : World) (v : Value) (hv : MatW W v) : Calls Try.prog 23 #[v] W fun e w' => e = .returned (.bool true) ∧ Below W.heap.size W w' := by
  obtain ⟨r, c, a, n, cap, l, hV⟩ := hv
  obtain ⟨rfl, ⟨wr, wc⟩, hA, hcap, hna⟩ := hV
  by_cases hlg : r ≤ 60 ∧ c ≤ 60 ∧ n ≤ 3600
  · obtain ⟨h1, h2, h3⟩ := hlg
    by_cases hok : okMat r c n
    · have hok' := hok
      obtain ⟨k1, k2, k3, k4, k5⟩ := hok
      obtain ⟨R, rfl⟩ : ∃ m : Nat, r = m := ⟨r.toNat, by omega⟩
      obtain ⟨C, rfl⟩ : ∃ m : Nat, c = m := ⟨c.toNat, by omega⟩
      have hn : n = R * C := by have h6 : (n : Int) = ((R * C : Nat) : Int) := k5; exact Int.ofNat.inj h6
      obtain ⟨M, hMl, hfl⟩ : ∃ M : Nat → Nat → Nat, (∀ i j, M i j < 256) ∧ l = flat R C M := ⟨matOf C l, matOf_lt C l hA.lt, (flat_matOf l (by rw [← hA.len, hn])).symm⟩
      subst hfl
      have hRank : ∀ fb a' ca w, Fld w fb → n ≤ ca → Bs w (.slice a' n ca) (flat R C M) → Off fb (.slice a' n ca) → Calls Try.prog 71 #[.pointer (some ⟨fb, 0, none⟩), .agg #[.int .i64 R, .int .i64 C, .slice a' n ca]] w fun e w' => e = .returned (.tuple #[.int .i64 (gj R M C).2, .int .i64 0]) ∧ Kept fb w w' := fun fb a' ca w hF _ hb ho =>
        (Rank_ok fb R C n ca a' M w hF (by omega) (by omega) (by omega) (by omega) hn hMl hb ho).mono fun e w' h => ⟨h.1, h.2.2⟩
      have hRef : ∀ w, Bs w (.slice a n cap) (flat R C M) → Calls Try.prog 72 #[.agg #[.int .i64 R, .int .i64 C, .slice a n cap]] w fun e w' => e = .returned (.tuple #[.int .i64 (gj R M C).2, .int .i64 0]) ∧ Below w.heap.size w w' := fun w hb =>
        refRank_ok R C n cap a M w (by omega) (by omega) (by omega) (by omega) hn hcap hMl hb
      by_cases hsq : R = C
      · subst hsq
        by_cases hk : (gj R (bothM M R) R).2 < R
        · exact inverts_in W R R a n cap _ hA hna h1 h2 h3 0 0 11 [] _ 0
            (fun fb a' ca w hF hc hb ho => (Inverse_ok fb R n ca a' M w hF (by omega) (by omega) hn hc hMl hb ho).mono fun e w' h => ⟨by have h7 := h.1; unfold InvRes at h7; rwa [if_pos hk] at h7, .inr h.2.1, h.2.2⟩)
            (fun w hb => (Invert_ok R n cap a M w (by omega) (by omega) hn hcap hMl hb).mono fun e w' h => ⟨by have h7 := h.1; unfold InvRes at h7; rwa [if_pos hk] at h7, h.2⟩)
            hRank hRef
        · exact inverts_in W R R a n cap _ hA hna h1 h2 h3 R R 0 (flat R R fun i j => (gj R (bothM M R) R).1 i (R + j)) _ 0
            (fun fb a' ca w hF hc hb ho => (Inverse_ok fb R n ca a' M w hF (by omega) (by omega) hn hc hMl hb ho).mono fun e w' h => ⟨by have h7 := h.1; unfold InvRes at h7; rwa [if_neg hk] at h7, .inr h.2.1, h.2.2⟩)
            (fun w hb => (Invert_ok R n cap a M w (by omega) (by omega) hn hcap hMl hb).mono fun e w' h => ⟨by have h7 := h.1; unfold InvRes at h7; rwa [if_neg hk] at h7, h.2⟩)
            hRank hRef
      · exact inverts_in W R C a n cap _ hA hna h1 h2 h3 0 0 10 [] _ 0
          (fun fb a' ca w hF _ _ _ => (Inverse_shape fb R C a' n ca hok' (by omega) w).mono fun e w' h => ⟨h.1, fld_below hF h.2, Kept.of_below h.2⟩)
          (fun w _ => Invert_shape R C a n cap hok' (by omega) w)
          hRank hRef
    · exact inverts_in W r c a n cap l hA hna h1 h2 h3 0 0 2 [] 0 2
        (fun fb a' ca w hF _ _ _ => (Inverse_bad fb r c a' n ca hok w).mono fun e w' h => ⟨h.1, fld_below hF h.2, Kept.of_below h.2⟩)
        (fun w _ => Invert_bad r c a n cap hok w)
        (fun fb a' ca w _ _ _ _ => (Rank_bad fb r c a' n ca hok w).mono fun e w' h => ⟨h.1, Kept.of_below h.2⟩)
        (fun w _ => refRank_bad r c a n cap hok w)
  · have H := hid hlg
    clear hlg hA hna
    go_enter Try.func23, Try.ntmps23
    go_wp2_with fail
    refine (large_yes r c n a cap H.out _).mono ?_
    rintro e w3 ⟨rfl, hb3⟩
    go_wp2_with fail
    refine (known_any _).mono ?_
    rintro e w4 ⟨rfl, hb4⟩
    go_wp2
    go_ret
    exact ⟨rfl, known_end (known_end ((Below.refl _ _).alloc (Nat.le_refl _) _) hb3) hb4⟩
end Go.Proofs.Ytfleplbdcpdphaa
