/-
  The walk of the law about products of matrices.
-/
import Derived.Test.YtfleplbdcpdphaaMulR
import Derived.Test.YtfleplbdcpdphaaLawS
import Derived.Test.YtfleplbdcpdphaaOpen
namespace Go.Proofs.Ytfleplbdcpdphaa
open Go Go.RowKit
set_option linter.unusedVariables false

theorem large_no (r c : Int) (n : Nat) (a : Option Addr) (cap : Nat) (h1 : r ≤ 60) (h2 : c ≤ 60) (h3 : n ≤ 3600) (w : World) :
    Calls Try.prog 64 #[.agg #[.int .i64 r, .int .i64 c, .slice a n cap]] w fun e w' => e = .returned (.bool false) ∧ Below w.heap.size w w' := by
  have b1 : decide (60 < r) = false := by simp; omega
  have b2 : decide (60 < c) = false := by simp; omega
  have b3 : decide ((3600 : Int) < (n : Int)) = false := by simp; omega
  go_enter Try.func64, Try.ntmps64
  go_wp2
  go_ret
  exact ⟨rfl, (Below.refl _ _).alloc (Nat.le_refl _) _⟩
theorem large_yes (r c : Int) (n : Nat) (a : Option Addr) (cap : Nat) (h : ¬ (r ≤ 60 ∧ c ≤ 60 ∧ n ≤ 3600)) (w : World) :
    Calls Try.prog 64 #[.agg #[.int .i64 r, .int .i64 c, .slice a n cap]] w fun e w' => e = .returned (.bool true) ∧ Below w.heap.size w w' := by
  by_cases h1 : r ≤ 60
  · by_cases h2 : c ≤ 60
    · have b1 : decide (60 < r) = false := by simp; omega
      have b2 : decide (60 < c) = false := by simp; omega
      have b3 : decide ((3600 : Int) < (n : Int)) = true := by simp; omega
      clear h
      go_enter Try.func64, Try.ntmps64
      go_wp2
      go_ret
      exact ⟨rfl, (Below.refl _ _).alloc (Nat.le_refl _) _⟩
    · clear h
      go_enter Try.func64, Try.ntmps64
      go_wp2
      go_ret
      exact ⟨rfl, (Below.refl _ _).alloc (Nat.le_refl _) _⟩
  · clear h
    go_enter Try.func64, Try.ntmps64
    go_wp2
    go_ret
    exact ⟨rfl, (Below.refl _ _).alloc (Nat.le_refl _) _⟩
theorem off_low {a : Option Addr} {n c B fb : Nat} (h : ∀ ad, a = some ad → B ≤ ad.block) (hB : fb < B) : Off fb (.slice a n c) := by
  cases a with
  | none => trivial
  | some ad => show ad.block ≠ fb; have := h ad rfl; omega
theorem set3_at {w : World} {b tb : Nat} {o : Obj} (h : w.heap[b]? = some o) (hne : b ≠ tb) (x y z : Value) : (((w.setCell ⟨tb, 0, none⟩ x).setCell ⟨tb, 1, none⟩ y).setCell ⟨tb, 2, none⟩ z).heap[b]? = some o :=
  (Below.heap_setCell _ _ _ _ hne).trans ((Below.heap_setCell _ _ _ _ hne).trans ((Below.heap_setCell _ _ _ _ hne).trans h))
/-- a matrix and an error number, the cells reading as L -/
def MatRes (B : Nat) (r c : Int) (L : List Nat) (x : Int) (e : Ending) (w' : World) : Prop :=
  ∃ a n cap, e = .returned (.tuple #[.agg #[.int .i64 r, .int .i64 c, .slice a n cap], .int .i64 x]) ∧ Bs w' (.slice a n cap) L ∧ ∀ ad, a = some ad → B ≤ ad.block
def okMat (r c : Int) (n : Nat) : Prop := 1 ≤ r ∧ r ≤ 255 ∧ 1 ≤ c ∧ c ≤ 255 ∧ (n : Int) = r * c

theorem lt_alloc (w : World) (o : Obj) : w.heap.size < (w.alloc o).heap.size := by simp
/-- a struct of three is no field -/
theorem ne_of_cells {w : World} {tb fb : Nat} {x y z : Value} {t : TypeId} (h : w.heap[tb]? = some (.cells #[x, y, z] t (0, 0))) (hF : Fld w fb) : tb ≠ fb := by
  rintro rfl
  have hno : ∀ d m k, w.heap[tb]? = some (.cells (fcells d m (tabTo k)) 98 (0, 0)) → False := fun d m k hF => by
    rw [h] at hF
    simp only [Option.some.injEq, Obj.cells.injEq] at hF
    have h2 := congrArg Array.size hF.1
    simp [fcells, u8s, tabTo_length] at h2
  rcases hF with hF | hF
  · exact hno _ _ _ hF
  · exact hno _ _ _ hF
theorem newField_ex (w : World) : Calls Try.prog 30 #[] w fun e w' => ∃ fb, w.heap.size ≤ fb ∧ e = .returned (.pointer (some ⟨fb, 0, none⟩)) ∧ Fresh w' fb ∧ Below w.heap.size w w' :=
  (newField_any w).mono fun e w' ⟨h1, h2, h3⟩ => ⟨_, Nat.le_refl _, h1, h2, h3⟩
theorem set3_at' {w : World} {b tb : Nat} {o o' : Obj} (_hT : w.heap[tb]? = some o') (h : w.heap[b]? = some o) (hne : b ≠ tb) (x y z : Value) : (((w.setCell ⟨tb, 0, none⟩ x).setCell ⟨tb, 1, none⟩ y).setCell ⟨tb, 2, none⟩ z).heap[b]? = some o := set3_at h hne x y z
theorem set3_below {W w : World} {tb : Nat} {o' : Obj} (_hT : w.heap[tb]? = some o') (hb : Below W.heap.size W w) (hw : W.heap.size ≤ tb) (x y z : Value) : Below W.heap.size W (((w.setCell ⟨tb, 0, none⟩ x).setCell ⟨tb, 1, none⟩ y).setCell ⟨tb, 2, none⟩ z) :=
  ((hb.setCell hw x).setCell hw y).setCell hw z
theorem set3_self {w : World} {tb : Nat} {x0 y0 z0 : Value} {t : TypeId} (h : w.heap[tb]? = some (.cells #[x0, y0, z0] t (0, 0))) (x y z : Value) : (((w.setCell ⟨tb, 0, none⟩ x).setCell ⟨tb, 1, none⟩ y).setCell ⟨tb, 2, none⟩ z).heap[tb]? = some (.cells #[x, y, z] t (0, 0)) := by
  have h1 := heap_set (heap_set (heap_set h 0 x) 1 y) 2 z
  rw [h1]
  rfl

set_option maxRecDepth 100000 in
set_option maxHeartbeats 4000000 in
theorem products_in (W : World) (r c r' c' : Int) (a b : Option Addr) (n m cap cap' : Nat) (l k : List Nat) (ha : Bs W (.slice a n cap) l) (hb : Bs W (.slice b m cap') k) (hna : a = none → cap = 0) (hnb : b = none → cap' = 0)
    (h1 : r ≤ 60) (h2 : c ≤ 60) (h3 : n ≤ 3600) (h4 : r' ≤ 60) (h5 : c' ≤ 60) (h6 : m ≤ 3600) (R C x : Int) (L : List Nat)
    (hP : ∀ fb a' b' ca cb w, Fld w fb → Bs w (.slice a' n ca) l → Bs w (.slice b' m cb) k → n ≤ ca → m ≤ cb → Off fb (.slice a' n ca) → Off fb (.slice b' m cb) → Calls Try.prog 67 #[.pointer (some ⟨fb, 0, none⟩), .agg #[.int .i64 r, .int .i64 c, .slice a' n ca], .agg #[.int .i64 r', .int .i64 c', .slice b' m cb]] w fun e w' => MatRes w.heap.size R C L x e w' ∧ Kept fb w w')
    (hQ : ∀ w, Bs w (.slice a n cap) l → Bs w (.slice b m cap') k → Calls Try.prog 68 #[.agg #[.int .i64 r, .int .i64 c, .slice a n cap], .agg #[.int .i64 r', .int .i64 c', .slice b m cap']] w fun e w' => MatRes w.heap.size R C L x e w' ∧ Below w.heap.size w w') :
    Calls Try.prog 22 #[.agg #[.int .i64 r, .int .i64 c, .slice a n cap], .agg #[.int .i64 r', .int .i64 c', .slice b m cap']] W fun e w' => e = .returned (.bool true) ∧ Below W.heap.size W w' := by
  obtain ⟨w1, hw1⟩ : ∃ w1, w1 = (W.alloc (Obj.cells #[.int .i64 r, .int .i64 c, .slice a n cap] 52)).alloc (Obj.cells #[.int .i64 r', .int .i64 c', .slice b m cap'] 52) := ⟨_, rfl⟩
  have hbel : Below W.heap.size W w1 := by rw [hw1]; exact ((Below.refl _ _).alloc (Nat.le_refl _) _).alloc (by simp) _
  have g0 : w1.heap[W.heap.size]? = some (Obj.cells #[.int .i64 r, .int .i64 c, .slice a n cap] 52) := by rw [hw1]; exact heap_alloc (heap_new _ _) _
  have g1 : w1.heap[W.heap.size + 1]? = some (Obj.cells #[.int .i64 r', .int .i64 c', .slice b m cap'] 52) := by
    rw [hw1]
    have h5 := heap_new (W.alloc (Obj.cells #[.int .i64 r, .int .i64 c, .slice a n cap] 52)) (Obj.cells #[.int .i64 r', .int .i64 c', .slice b m cap'] 52)
    rw [World.size_alloc] at h5
    exact h5
  have hs1 : w1.heap.size = W.heap.size + 2 := by rw [hw1]; simp
  obtain ⟨c0, c1, c2, _, _, _⟩ := c3_of g0
  have HA := hid ha
  have HB := hid hb
  have HNA := hid hna
  have HNB := hid hnb
  have HP := hid hP
  have HQ := hid hQ
  have G0 := hid g0
  have G1 := hid g1
  have HS := hid hs1
  clear ha hb hna hnb hP hQ g0 g1 hs1
  go_enter Try.func22, Try.ntmps22
  go_wp2_with fail
  rw [← hw1]
  clear hw1
  refine (large_no r c n a cap h1 h2 h3 _).mono ?_
  rintro e w2 ⟨rfl, hb2⟩
  clear c0 c1 c2
  obtain ⟨c0, c1, c2, _, _, _⟩ := c3_at G1.out hb2 (by rw [HS.out]; omega)
  go_wp2_with fail
  refine (large_no r' c' m b cap' h4 h5 h6 _).mono ?_
  rintro e w3 ⟨rfl, hb3⟩
  clear c0 c1 c2
  have hb13 := hb2.trans (hb3.mono hb2.size)
  have k0 := (hb13.block _ (by rw [HS.out]; omega)).trans G0.out
  have k1 := (hb13.block _ (by rw [HS.out]; omega)).trans G1.out
  have hsz : w1.heap.size ≤ w3.heap.size := hb13.size
  rw [HS.out] at hsz
  have HW3 := hid (hbel.trans (hb13.mono hbel.size))
  have K0 := hid k0
  have K1 := hid k1
  clear k0 k1 hb13 hb2 hb3 hbel
  go_wp2_with fail
  go_region_held3 (fun w' => w'.cell? ⟨W.heap.size, 0, none⟩ = some (.int .i64 r) ∧ w'.cell? ⟨W.heap.size, 1, none⟩ = some (.int .i64 c) ∧ w'.cell? ⟨W.heap.size, 2, none⟩ = some (.slice a n cap) ∧ w'.cell? ⟨W.heap.size + 1, 0, none⟩ = some (.int .i64 r') ∧ w'.cell? ⟨W.heap.size + 1, 1, none⟩ = some (.int .i64 c') ∧ w'.cell? ⟨W.heap.size + 1, 2, none⟩ = some (.slice b m cap'))
    (first | with_reducible exact keep66 K0.out K1.out | with_reducible exact keep66 N0.out N1.out | with_reducible exact keep66 P0.out P1.out | with_reducible exact keep66 Q0.out Q1.out | with_reducible exact keep66 R0.out R1.out
           | with_reducible exact keep66 (heap_alloc K0.out _) (heap_alloc K1.out _) | with_reducible exact keep66 (heap_alloc N0.out _) (heap_alloc N1.out _) | with_reducible exact keep66 (heap_alloc P0.out _) (heap_alloc P1.out _) | with_reducible exact keep66 (heap_alloc Q0.out _) (heap_alloc Q1.out _) | with_reducible exact keep66 (heap_alloc R0.out _) (heap_alloc R1.out _)
           | with_reducible exact keep66 (set3_at R0.out (by omega) _ _ _) (set3_at R1.out (by omega) _ _ _) | exact keep66 K0.out K1.out | exact keep66 (heap_alloc K0.out _) (heap_alloc K1.out _))
    (first | (go_at_call 30; refine (newField_ex _).mono ?_; rintro e w4 ⟨fb, hfb, rfl, hfr, hb4⟩
              first | have TT := hid ((hb4.block w3.heap.size (lt_alloc w3 _)).trans (heap_new w3 _)) | skip
              have hb4 : Below w3.heap.size w3 w4 := by first | exact chainA hb4 | exact ((Below.refl _ _).alloc (Nat.le_refl _) _).trans ((chainA hb4).mono (by simp))
              have hfb : w3.heap.size ≤ fb := by first | exact hfb | (simp at hfb; omega)
              have N0 := hid ((hb4.block _ (by omega)).trans K0.out)
              have N1 := hid ((hb4.block _ (by omega)).trans K1.out)
              have hs4 := hb4.size)
           | (go_at_call_of 58 (Value.agg #[.int .i64 r', .int .i64 c', .slice b m cap'])
              refine (own_any r' c' b m cap' k _ (HB.out.below (HW3.out.trans (Below.mono (by first | exact hb4.trans (hb5.mono hs4) | exact (hb4.trans (hb5.mono hs4)).alloc (Nat.le_trans hs4 hs5) _) HW3.out.size))) HNB.out (by omega)).mono ?_
              rintro e w6 ⟨b', cb, rfl, hcb, hB6, lowB, _, hb6⟩
              first | have TT := hid ((hb6.block _ (lt_of_heap TT.out)).trans TT.out) | have TT := hid ((hb6.block w5.heap.size (lt_alloc w5 _)).trans (heap_new w5 _)) | skip
              have hb6 : Below w5.heap.size w5 w6 := by first | exact hb6 | exact ((Below.refl _ _).alloc (Nat.le_refl _) _).trans (hb6.mono (by simp))
              have lowB : ∀ ad, b' = some ad → w5.heap.size ≤ ad.block := fun ad h => by have := lowB ad h; first | exact this | (simp at this; omega)
              have Q0 := hid ((hb6.block _ (by omega)).trans P0.out)
              have Q1 := hid ((hb6.block _ (by omega)).trans P1.out)
              have hs6 := hb6.size)
           | (go_at_call 67
              have hF6 : Fld w6 fb := .inl ((hb6.block _ (Nat.lt_of_lt_of_le (lt_of_heap hfr) hb5.size)).trans ((hb5.block _ (lt_of_heap hfr)).trans hfr))
              have hfl := lt_of_heap hfr
              refine (HP.out fb a' b' ca cb _ (by first | exact hF6 | exact hF6.alloc _) (by first | exact hA5.below hb6 | exact (hA5.below hb6).alloc _) (by first | exact hB6 | exact hB6.alloc _) hca hcb (off_low lowA hfl) (off_low lowB (Nat.lt_of_lt_of_le hfl hb5.size))).mono ?_
              rintro e w7 ⟨⟨ra, rn, rc, rfl, hR7, lowR⟩, hk7⟩
              first | have TO := off_low (n := rn) (c := rc) lowR (lt_of_heap TT.out) | have TO : Off w6.heap.size (.slice ra rn rc) := off_low lowR (lt_alloc w6 _) | skip
              first | have TT := hid ((hk7.block _ (lt_of_heap TT.out) (ne_of_cells TT.out hF6)).trans TT.out) | have TT := hid ((hk7.block w6.heap.size (lt_alloc w6 _) (Nat.ne_of_gt (Nat.lt_of_lt_of_le hfl (Nat.le_trans hs5 hs6)))).trans (heap_new w6 _)) | skip
              have hk7 : Kept fb w6 w7 := by first | exact hk7 | exact ((Kept.refl _ _).alloc _).trans hk7
              have R0 := hid ((hk7.block W.heap.size (by omega) (by omega)).trans Q0.out)
              have R1 := hid ((hk7.block (W.heap.size + 1) (by omega) (by omega)).trans Q1.out)
              have hs7 := hk7.size
              have HW7 := hid ((((HW3.out.trans (hb4.mono (by omega))).trans (hb5.mono (by omega))).trans (hb6.mono (by omega))).trans (hk7.below (B := W.heap.size) (by omega) (by omega)))
              first | (have t0 := (c3_of TT.out).c0; have t1 := (c3_of TT.out).c1; have t2 := (c3_of TT.out).c2; have u0 := (c3_of TT.out).f0; have u1 := (c3_of TT.out).f1; have u2 := (c3_of TT.out).f2) | skip)
           | (go_at_call_of 58 (Value.agg #[.int .i64 r, .int .i64 c, .slice a n cap])
              refine (own_any r c a n cap l _ (HA.out.below (HW3.out.trans (Below.mono (by first | exact hb4 | exact hb4.alloc hs4 _) HW3.out.size))) HNA.out (by omega)).mono ?_
              rintro e w5 ⟨a', ca, rfl, hca, hA5, lowA, _, hb5⟩
              first | have TT := hid ((hb5.block _ (lt_of_heap TT.out)).trans TT.out) | have TT := hid ((hb5.block w4.heap.size (lt_alloc w4 _)).trans (heap_new w4 _)) | skip
              have hb5 : Below w4.heap.size w4 w5 := by first | exact hb5 | exact ((Below.refl _ _).alloc (Nat.le_refl _) _).trans (hb5.mono (by simp))
              have lowA : ∀ ad, a' = some ad → w4.heap.size ≤ ad.block := fun ad h => by have := lowA ad h; first | exact this | (simp at this; omega)
              have P0 := hid ((hb5.block _ (by omega)).trans N0.out)
              have P1 := hid ((hb5.block _ (by omega)).trans N1.out)
              have hs5 := hb5.size))
  all_goals first
    | (have Z := hid (set3_self TT.out (.int .i64 R) (.int .i64 C) (.slice ra rn rc))
       have V0 := hid (set3_at' TT.out R0.out (by omega) (.int .i64 R) (.int .i64 C) (.slice ra rn rc))
       have V1 := hid (set3_at' TT.out R1.out (by omega) (.int .i64 R) (.int .i64 C) (.slice ra rn rc))
       have hRV := hid (((hR7.set_off TO 0 (.int .i64 R)).set_off TO 1 (.int .i64 C)).set_off TO 2 (.slice ra rn rc))
       have hWV := hid (set3_below TT.out HW7.out (by omega) (.int .i64 R) (.int .i64 C) (.slice ra rn rc)))
    | (have Z := hid (heap_new w7 (Obj.cells #[.int .i64 R, .int .i64 C, .slice ra rn rc] 52))
       have V0 := hid (heap_alloc R0.out (Obj.cells #[.int .i64 R, .int .i64 C, .slice ra rn rc] 52))
       have V1 := hid (heap_alloc R1.out (Obj.cells #[.int .i64 R, .int .i64 C, .slice ra rn rc] 52))
       have hRV := hid (hR7.alloc (Obj.cells #[.int .i64 R, .int .i64 C, .slice ra rn rc] 52))
       have hWV := hid (HW7.out.alloc (by omega) (Obj.cells #[.int .i64 R, .int .i64 C, .slice ra rn rc] 52)))
  all_goals
    clear hA5 hB6 hF6 hfr
    obtain ⟨a0, a1, a2, _, _, _⟩ := c3_of V0.out
    obtain ⟨b0, b1, b2, _, _, _⟩ := c3_of V1.out
    go_wp2_with fail
    refine (HQ.out _ (HA.out.below hWV.out) (HB.out.below hWV.out)).mono ?_
    rintro e w9 ⟨⟨rb, rm, rd, rfl, hR9, lowR9⟩, hb9⟩
    have Z9 := heap_alloc ((hb9.block _ (lt_of_heap Z.out)).trans Z.out) (Obj.cells #[.int .i64 R, .int .i64 C, .slice rb rm rd] 52)
    obtain ⟨z0, z1, z2, _, _, _⟩ := c3_of Z9
    clear a0 a1 a2 b0 b1 b2
    go_wp2_with fail
    refine (SameMatrix_yes R C ra rb rn rm rc rd L _ ((hRV.out.below hb9).alloc _) (hR9.alloc _)).mono ?_
    rintro e w10 ⟨rfl, hb10⟩
    clear z0 z1 z2
    go_wp2_with fail
    refine (known_any _).mono ?_
    rintro e w11 ⟨rfl, hb11⟩
    go_wp2
    go_ret
    exact ⟨rfl, known_end (known_end ((known_end hWV.out hb9).alloc (by have := (known_end hWV.out hb9).size; exact this) _) hb10) hb11⟩
end Go.Proofs.Ytfleplbdcpdphaa
