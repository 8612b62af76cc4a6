/-
  The walk of the law about valid matrices, identities, Vandermonde and generator matrices.
-/
import Derived.Test.YtndkcabmaigneaaLawSh
namespace Go.Proofs.Ytndkcabmaigneaa
open Go Go.RowKit
set_option linter.unusedVariables false

theorem keep9 {w : World} {b b' b'' : Nat} {x y z x' y' z' x'' y'' z'' : Value} {t t' t'' : TypeId} (h : w.heap[b]? = some (.cells #[x, y, z] t (0, 0))) (h' : w.heap[b']? = some (.cells #[x', y', z'] t' (0, 0))) (h'' : w.heap[b'']? = some (.cells #[x'', y'', z''] t'' (0, 0))) :
    w.cell? ⟨b, 0, none⟩ = some x ∧ w.cell? ⟨b, 1, none⟩ = some y ∧ w.cell? ⟨b, 2, none⟩ = some z ∧ w.cell? ⟨b', 0, none⟩ = some x' ∧ w.cell? ⟨b', 1, none⟩ = some y' ∧ w.cell? ⟨b', 2, none⟩ = some z' ∧ w.cell? ⟨b'', 0, none⟩ = some x'' ∧ w.cell? ⟨b'', 1, none⟩ = some y'' ∧ w.cell? ⟨b'', 2, none⟩ = some z'' := by
  obtain ⟨a0, a1, a2, _, _, _⟩ := c3_of h
  obtain ⟨b0, b1, b2, _, _, _⟩ := c3_of h'
  obtain ⟨c0, c1, c2, _, _, _⟩ := c3_of h''
  exact ⟨a0, a1, a2, b0, b1, b2, c0, c1, c2⟩

theorem keep9' {w w' : World} {b b' b'' : Nat} {x y z x' y' z' x'' y'' z'' : Value} {t t' t'' : TypeId} (h : w.heap[b]? = some (.cells #[x, y, z] t (0, 0))) (h' : w.heap[b']? = some (.cells #[x', y', z'] t' (0, 0))) (h'' : w.heap[b'']? = some (.cells #[x'', y'', z''] t'' (0, 0))) (k : Below w.heap.size w w') :
    w'.cell? ⟨b, 0, none⟩ = some x ∧ w'.cell? ⟨b, 1, none⟩ = some y ∧ w'.cell? ⟨b, 2, none⟩ = some z ∧ w'.cell? ⟨b', 0, none⟩ = some x' ∧ w'.cell? ⟨b', 1, none⟩ = some y' ∧ w'.cell? ⟨b', 2, none⟩ = some z' ∧ w'.cell? ⟨b'', 0, none⟩ = some x'' ∧ w'.cell? ⟨b'', 1, none⟩ = some y'' ∧ w'.cell? ⟨b'', 2, none⟩ = some z'' :=
  keep9 ((k.block _ (lt_of_heap h)).trans h) ((k.block _ (lt_of_heap h')).trans h') ((k.block _ (lt_of_heap h'')).trans h'')
theorem Fld.same {w w' : World} {b : Nat} (h : Fld w b) (e : w'.heap[b]? = w.heap[b]?) : Fld w' b := h.elim (fun h => .inl (e.trans h)) (fun h => .inr (e.trans h))
theorem set3_heap (w : World) {b tb : Nat} (hne : b ≠ tb) (x y z : Value) : (((w.setCell ⟨tb, 0, none⟩ x).setCell ⟨tb, 1, none⟩ y).setCell ⟨tb, 2, none⟩ z).heap[b]? = w.heap[b]? :=
  (Below.heap_setCell _ _ _ _ hne).trans ((Below.heap_setCell _ _ _ _ hne).trans (Below.heap_setCell _ _ _ _ hne))
theorem Bs.set3 {w : World} {v : Value} {l : List Nat} (h : Bs w v l) {tb : Nat} (ho : Off tb v) (x y z : Value) : Bs (((w.setCell ⟨tb, 0, none⟩ x).setCell ⟨tb, 1, none⟩ y).setCell ⟨tb, 2, none⟩ z) v l := ((h.set_off ho _ _).set_off ho _ _).set_off ho _ _
theorem set3_size (w : World) (tb : Nat) (x y z : Value) : (((w.setCell ⟨tb, 0, none⟩ x).setCell ⟨tb, 1, none⟩ y).setCell ⟨tb, 2, none⟩ z).heap.size = w.heap.size := by simp

set_option maxRecDepth 100000 in
set_option maxHeartbeats 8000000 in
theorem shapes_in (W : World) (mr mc r c : Int) (a : Option Addr) (n cap : Nat) (l : List Nat) (hA : Bs W (.slice a n cap) l) (hna : a = none → cap = 0) (hn : n ≤ 65536)
    (g1 : r ≤ 60 ∨ 255 < r) (g2 : c ≤ 60 ∨ 255 < c) (ok : Bool) (R1 C1 x1 R2 C2 x2 R3 C3 x3 : Int) (L1 L2 L3 : List Nat)
    (hV : ∀ a' ca w, Calls Try.prog 44 #[.agg #[.int .i64 mr, .int .i64 mc, .slice a' n ca]] w fun e w' => e = .returned (.bool ok) ∧ Below w.heap.size w w')
    (hG : ∀ w, Calls Try.prog 59 #[.agg #[.int .i64 mr, .int .i64 mc, .slice a n cap]] w fun e w' => e = .returned (.bool ok) ∧ Below w.heap.size w w')
    (hI : ∀ w, Calls Try.prog 56 #[.int .i64 r] w fun e w' => MatRes w.heap.size R1 C1 L1 x1 e w' ∧ Below w.heap.size w w')
    (hU : ∀ w, Calls Try.prog 57 #[.int .i64 r] w fun e w' => MatRes w.heap.size R1 C1 L1 x1 e w' ∧ Below w.heap.size w w')
    (hD : ∀ fb w, Fld w fb → Calls Try.prog 61 #[.pointer (some ⟨fb, 0, none⟩), .int .i64 r, .int .i64 c] w fun e w' => MatRes w.heap.size R2 C2 L2 x2 e w' ∧ Fld w' fb ∧ Kept fb w w')
    (hP : ∀ w, Calls Try.prog 62 #[.int .i64 r, .int .i64 c] w fun e w' => MatRes w.heap.size R2 C2 L2 x2 e w' ∧ Below w.heap.size w w')
    (hE : ∀ fb w, Fld w fb → Calls Try.prog 43 #[.pointer (some ⟨fb, 0, none⟩), .int .i64 c, .int .i64 r] w fun e w' => MatRes w.heap.size R3 C3 L3 x3 e w' ∧ Fld w' fb ∧ Kept fb w w')
    (hB : ∀ w, Calls Try.prog 63 #[.int .i64 c, .int .i64 r] w fun e w' => MatRes w.heap.size R3 C3 L3 x3 e w' ∧ Below w.heap.size w w') :
    Calls Try.prog 20 #[.agg #[.int .i64 mr, .int .i64 mc, .slice a n cap], .int .i64 r, .int .i64 c] W fun e w' => e = .returned (.bool true) ∧ Below W.heap.size W w' := by
  have hnot : ∀ (x : Bool) (w : World), (Op.unary .not (.bool x)).run Try.prog w = .ok (.bool (!x)) w := fun _ _ => rfl
  have b0 : decide ((65536 : Int) < (n : Int)) = false := by simp; omega
  have HA := hid hA
  have HNA := hid hna
  have HV := hid hV
  have HG := hid hG
  have HI := hid hI
  have HU := hid hU
  have HDD := hid hD
  have HP := hid hP
  have HE := hid hE
  have HBB := hid hB
  clear hA hna hV hG hI hU hD hP hE hB
  obtain ⟨w1, hw1⟩ : ∃ w1, w1 = W.alloc (Obj.cells #[.int .i64 mr, .int .i64 mc, .slice a n cap] 52) := ⟨_, rfl⟩
  have hbel : Below W.heap.size W w1 := by rw [hw1]; exact (Below.refl _ _).alloc (Nat.le_refl _) _
  have q0 : w1.heap[W.heap.size]? = some (Obj.cells #[.int .i64 mr, .int .i64 mc, .slice a n cap] 52) := by rw [hw1]; exact heap_new _ _
  have hs1 : w1.heap.size = W.heap.size + 1 := by rw [hw1]; simp
  obtain ⟨c0, c1, c2, _, _, _⟩ := c3_of q0
  have Q0 := hid q0
  have HS := hid hs1
  clear q0 hs1
  rcases g1 with g1 | g1 <;> rcases g2 with g2 | g2
  all_goals
    go_enter Try.func20, Try.ntmps20
    go_wp2_with fail
    rw [← hw1]
    clear hw1
    refine (newField_any _).mono ?_
    rintro e w2 ⟨rfl, hfr, hb2⟩
    have hf2 := lt_of_heap hfr
    have Q2 := hid ((hb2.block _ (by have := HS.out; omega)).trans Q0.out)
    have HW2 := hid (hbel.trans (hb2.mono hbel.size))
    have HF2 := hid hfr
    have hs2 := hb2.size
    clear c0 c1 c2 hfr hb2 hbel
    go_wp2_with fail
    refine (HI.out _).mono ?_
    rintro e w3 ⟨⟨ua, un, uc, rfl, hu3, lowu⟩, hb3⟩
    have hs3 := hb3.size
    have HF3 := hid (heap_alloc ((hb3.block _ hf2).trans HF2.out) (Obj.cells #[.int .i64 R1, .int .i64 C1, .slice ua un uc] 52))
    have Q3 := hid (heap_alloc ((hb3.block _ (lt_of_heap Q2.out)).trans Q2.out) (Obj.cells #[.int .i64 R1, .int .i64 C1, .slice ua un uc] 52))
    have HW3 := hid ((known_end HW2.out hb3).alloc (known_end HW2.out hb3).size (Obj.cells #[.int .i64 R1, .int .i64 C1, .slice ua un uc] 52))
    have HU3 := hid (hu3.alloc (Obj.cells #[.int .i64 R1, .int .i64 C1, .slice ua un uc] 52))
    have X3 := hid (heap_new w3 (Obj.cells #[.int .i64 R1, .int .i64 C1, .slice ua un uc] 52))
    clear hu3 hb3
    go_wp2_with fail
    refine (HU.out _).mono ?_
    rintro e w4 ⟨⟨va, vn, vc, rfl, hv4, lowv⟩, hb4⟩
    have hs4 := hb4.size
    rw [World.size_alloc] at hs4
    have HF4 := hid (heap_alloc ((hb4.block _ (lt_of_heap HF3.out)).trans HF3.out) (Obj.cells #[.int .i64 R1, .int .i64 C1, .slice va vn vc] 52))
    have Q4 := hid (heap_alloc ((hb4.block _ (lt_of_heap Q3.out)).trans Q3.out) (Obj.cells #[.int .i64 R1, .int .i64 C1, .slice va vn vc] 52))
    have HW4 := hid ((known_end HW3.out hb4).alloc (known_end HW3.out hb4).size (Obj.cells #[.int .i64 R1, .int .i64 C1, .slice va vn vc] 52))
    have HU4 := hid ((HU3.out.below hb4).alloc (Obj.cells #[.int .i64 R1, .int .i64 C1, .slice va vn vc] 52))
    have HV4 := hid (hv4.alloc (Obj.cells #[.int .i64 R1, .int .i64 C1, .slice va vn vc] 52))
    have X4 := hid (heap_alloc ((hb4.block _ (lt_of_heap X3.out)).trans X3.out) (Obj.cells #[.int .i64 R1, .int .i64 C1, .slice va vn vc] 52))
    have Y4 := hid (heap_new w4 (Obj.cells #[.int .i64 R1, .int .i64 C1, .slice va vn vc] 52))
    have hz4 : (w4.alloc (Obj.cells #[.int .i64 R1, .int .i64 C1, .slice va vn vc] 52)).heap.size = w4.heap.size + 1 := by simp
    have HZ4 := hid hz4
    clear hv4 hb4 HF3 Q3 HU3 X3 HF2 Q2 hz4
    go_wp2_with fail
    have HZ := hid (show W.heap.size < w1.heap.size ∧ w1.heap.size < w2.heap.size by have := HS.out; omega)
    go_region_held3 (fun w' => w'.cell? ⟨W.heap.size, 0, none⟩ = some (.int .i64 mr) ∧ w'.cell? ⟨W.heap.size, 1, none⟩ = some (.int .i64 mc) ∧ w'.cell? ⟨W.heap.size, 2, none⟩ = some (.slice a n cap) ∧ w'.cell? ⟨w3.heap.size, 0, none⟩ = some (.int .i64 R1) ∧ w'.cell? ⟨w3.heap.size, 1, none⟩ = some (.int .i64 C1) ∧ w'.cell? ⟨w3.heap.size, 2, none⟩ = some (.slice ua un uc) ∧ w'.cell? ⟨w4.heap.size, 0, none⟩ = some (.int .i64 R1) ∧ w'.cell? ⟨w4.heap.size, 1, none⟩ = some (.int .i64 C1) ∧ w'.cell? ⟨w4.heap.size, 2, none⟩ = some (.slice va vn vc))
      (first | with_reducible exact keep9 Q4.out X4.out Y4.out | with_reducible exact keep9' Q4.out X4.out Y4.out K5.out | with_reducible exact keep9' Q4.out X4.out Y4.out K6.out | with_reducible exact keep9' Q4.out X4.out Y4.out K7.out | with_reducible exact keep9' Q4.out X4.out Y4.out K8.out | exact keep9 Q4.out X4.out Y4.out)
      (first | (go_at_call 58; refine (own_any mr mc a n cap l _ ((HA.out.below HW4.out).drewN 1) HNA.out (by omega)).mono ?_; rintro e w5 ⟨a5, c5, rfl, hca5, hA5, lowA5, hnA5, hb5⟩; have K5 := hid (chainA hb5))
             | (go_at_call 44; refine (HV.out a5 c5 _).mono ?_; rintro e w6 ⟨rfl, hb6⟩; have K6 := hid (known_end K5.out hb6))
             | (go_at_call 59; refine (HG.out _).mono ?_; rintro e w7 ⟨rfl, hb7⟩; have K7 := hid (known_end K6.out hb7))
             | (go_at_call 60; refine (SameMatrix_yes R1 C1 ua va un vn uc vc L1 _ (HU4.out.below K7.out) (HV4.out.below K7.out)).mono ?_; rintro e w8 ⟨rfl, hb8⟩; have K8 := hid (known_end K7.out hb8)))
    have HF8 := hid (show Fld w8 w1.heap.size from Or.inl ((K8.out.block _ (lt_of_heap HF4.out)).trans HF4.out))
    have X8 := hid ((K8.out.block _ (lt_of_heap X4.out)).trans X4.out)
    have Y8 := hid ((K8.out.block _ (lt_of_heap Y4.out)).trans Y4.out)
    have HW8 := hid (known_end HW4.out K8.out)
    have hs8 := K8.out.size
    rw [HZ4.out] at hs8
    have hsz := HZ.out
    clear hA5 lowA5 hnA5 hca5 hb5 hb6 hb7 hb8 HU4 HV4 Q4 HF4 lowu lowv HA HNA HV HG HI HU
    go_wp2_with fail
    refine (HDD.out w1.heap.size _ HF8.out).mono ?_
    rintro e w1a ⟨⟨p1a, p1n, p1c, rfl, hp1, lowp1⟩, hF1a, hk1a⟩
    have hs1a := hk1a.size
    have X1a := hid ((hk1a.block w3.heap.size (by omega) (by omega)).trans X8.out)
    have Y1a := hid ((hk1a.block w4.heap.size (by omega) (by omega)).trans Y8.out)
    have o1a : Off w3.heap.size (.slice p1a p1n p1c) := off_low lowp1 (by omega)
    have O1 := hid (off_low (n := p1n) (c := p1c) lowp1 (show w4.heap.size < w8.heap.size by omega))
    have Z1a := hid (set3_self X1a.out (.int .i64 R2) (.int .i64 C2) (.slice p1a p1n p1c))
    have V1a := hid (set3_at' X1a.out Y1a.out (by omega) (.int .i64 R2) (.int .i64 C2) (.slice p1a p1n p1c))
    have HF1a := hid (hF1a.same (set3_heap w1a (b := w1.heap.size) (tb := w3.heap.size) (by omega) (.int .i64 R2) (.int .i64 C2) (.slice p1a p1n p1c)))
    have HP1a := hid (hp1.set3 o1a (.int .i64 R2) (.int .i64 C2) (.slice p1a p1n p1c))
    have HW1a := hid (set3_below X1a.out (HW8.out.trans (hk1a.below (B := W.heap.size) (by omega) (by omega))) (by omega) (.int .i64 R2) (.int .i64 C2) (.slice p1a p1n p1c))
    have hz1a := set3_size w1a w3.heap.size (.int .i64 R2) (.int .i64 C2) (.slice p1a p1n p1c)
    have HZ1a := hid hz1a
    obtain ⟨e0, e1, e2, j0, j1, j2⟩ := c3_of X1a.out
    clear hp1 lowp1 hF1a hk1a hz1a
    go_wp2_with fail
    refine (HP.out _).mono ?_
    rintro e w1b ⟨⟨q1a, q1n, q1c, rfl, hq1, lowq1⟩, hb1b⟩
    clear e0 e1 e2 j0 j1 j2
    have hs1b := hb1b.size
    rw [HZ1a.out] at hs1b lowq1
    have X1b := hid ((hb1b.block _ (lt_of_heap Z1a.out)).trans Z1a.out)
    have Y1b := hid ((hb1b.block _ (lt_of_heap V1a.out)).trans V1a.out)
    have o1b : Off w4.heap.size (.slice q1a q1n q1c) := off_low lowq1 (by omega)
    have o1c : Off w4.heap.size (.slice p1a p1n p1c) := O1.out
    have Z1b := hid (set3_self Y1b.out (.int .i64 R2) (.int .i64 C2) (.slice q1a q1n q1c))
    have V1b := hid (set3_at' Y1b.out X1b.out (by omega) (.int .i64 R2) (.int .i64 C2) (.slice q1a q1n q1c))
    have HF1b := hid ((HF1a.out.same (hb1b.block _ HF1a.out.lt)).same (set3_heap w1b (b := w1.heap.size) (tb := w4.heap.size) (by omega) (.int .i64 R2) (.int .i64 C2) (.slice q1a q1n q1c)))
    have HP1b := hid ((HP1a.out.below hb1b).set3 o1c (.int .i64 R2) (.int .i64 C2) (.slice q1a q1n q1c))
    have HQ1b := hid (hq1.set3 o1b (.int .i64 R2) (.int .i64 C2) (.slice q1a q1n q1c))
    have HW1b := hid (set3_below Y1b.out (known_end HW1a.out hb1b) (by omega) (.int .i64 R2) (.int .i64 C2) (.slice q1a q1n q1c))
    have hz1b := set3_size w1b w4.heap.size (.int .i64 R2) (.int .i64 C2) (.slice q1a q1n q1c)
    have HZ1b := hid hz1b
    obtain ⟨e0, e1, e2, j0, j1, j2⟩ := c3_of Y1b.out
    obtain ⟨x0, x1, x2, _, _, _⟩ := c3_of V1b.out
    obtain ⟨z0, z1, z2, _, _, _⟩ := c3_of Z1b.out
    clear hq1 lowq1 hb1b hz1b
    go_wp2_with fail
    refine (SameMatrix_yes R2 C2 p1a q1a p1n q1n p1c q1c L2 _ HP1b.out HQ1b.out).mono ?_
    rintro e w1c ⟨rfl, hb1c⟩
    clear e0 e1 e2 j0 j1 j2 x0 x1 x2 z0 z1 z2
    have hs1c := hb1c.size
    rw [HZ1b.out] at hs1c
    have X1c := hid ((hb1c.block _ (lt_of_heap V1b.out)).trans V1b.out)
    have Y1c := hid ((hb1c.block _ (lt_of_heap Z1b.out)).trans Z1b.out)
    have HF1c := hid (HF1b.out.same (hb1c.block _ HF1b.out.lt))
    have HW1c := hid (known_end HW1b.out hb1c)
    clear HP1b HQ1b HP1a HF1a HF1b X1a Y1a X1b Y1b Z1a V1a Z1b V1b
    go_wp2_with fail
    refine (HE.out w1.heap.size _ HF1c.out).mono ?_
    rintro e w2a ⟨⟨p2a, p2n, p2c, rfl, hp2, lowp2⟩, hF2a, hk2a⟩
    have hs2a := hk2a.size
    have X2a := hid ((hk2a.block w3.heap.size (by omega) (by omega)).trans X1c.out)
    have Y2a := hid ((hk2a.block w4.heap.size (by omega) (by omega)).trans Y1c.out)
    have o2a : Off w3.heap.size (.slice p2a p2n p2c) := off_low lowp2 (by omega)
    have O2 := hid (off_low (n := p2n) (c := p2c) lowp2 (show w4.heap.size < w1c.heap.size by omega))
    have Z2a := hid (set3_self X2a.out (.int .i64 R3) (.int .i64 C3) (.slice p2a p2n p2c))
    have V2a := hid (set3_at' X2a.out Y2a.out (by omega) (.int .i64 R3) (.int .i64 C3) (.slice p2a p2n p2c))
    have HF2a := hid (hF2a.same (set3_heap w2a (b := w1.heap.size) (tb := w3.heap.size) (by omega) (.int .i64 R3) (.int .i64 C3) (.slice p2a p2n p2c)))
    have HP2a := hid (hp2.set3 o2a (.int .i64 R3) (.int .i64 C3) (.slice p2a p2n p2c))
    have HW2a := hid (set3_below X2a.out (HW1c.out.trans (hk2a.below (B := W.heap.size) (by omega) (by omega))) (by omega) (.int .i64 R3) (.int .i64 C3) (.slice p2a p2n p2c))
    have hz2a := set3_size w2a w3.heap.size (.int .i64 R3) (.int .i64 C3) (.slice p2a p2n p2c)
    have HZ2a := hid hz2a
    obtain ⟨e0, e1, e2, j0, j1, j2⟩ := c3_of X2a.out
    clear hp2 lowp2 hF2a hk2a hz2a
    go_wp2_with fail
    refine (HBB.out _).mono ?_
    rintro e w2b ⟨⟨q2a, q2n, q2c, rfl, hq2, lowq2⟩, hb2b⟩
    clear e0 e1 e2 j0 j1 j2
    have hs2b := hb2b.size
    rw [HZ2a.out] at hs2b lowq2
    have X2b := hid ((hb2b.block _ (lt_of_heap Z2a.out)).trans Z2a.out)
    have Y2b := hid ((hb2b.block _ (lt_of_heap V2a.out)).trans V2a.out)
    have o2b : Off w4.heap.size (.slice q2a q2n q2c) := off_low lowq2 (by omega)
    have o2c : Off w4.heap.size (.slice p2a p2n p2c) := O2.out
    have Z2b := hid (set3_self Y2b.out (.int .i64 R3) (.int .i64 C3) (.slice q2a q2n q2c))
    have V2b := hid (set3_at' Y2b.out X2b.out (by omega) (.int .i64 R3) (.int .i64 C3) (.slice q2a q2n q2c))
    have HF2b := hid ((HF2a.out.same (hb2b.block _ HF2a.out.lt)).same (set3_heap w2b (b := w1.heap.size) (tb := w4.heap.size) (by omega) (.int .i64 R3) (.int .i64 C3) (.slice q2a q2n q2c)))
    have HP2b := hid ((HP2a.out.below hb2b).set3 o2c (.int .i64 R3) (.int .i64 C3) (.slice q2a q2n q2c))
    have HQ2b := hid (hq2.set3 o2b (.int .i64 R3) (.int .i64 C3) (.slice q2a q2n q2c))
    have HW2b := hid (set3_below Y2b.out (known_end HW2a.out hb2b) (by omega) (.int .i64 R3) (.int .i64 C3) (.slice q2a q2n q2c))
    have hz2b := set3_size w2b w4.heap.size (.int .i64 R3) (.int .i64 C3) (.slice q2a q2n q2c)
    have HZ2b := hid hz2b
    obtain ⟨e0, e1, e2, j0, j1, j2⟩ := c3_of Y2b.out
    obtain ⟨x0, x1, x2, _, _, _⟩ := c3_of V2b.out
    obtain ⟨z0, z1, z2, _, _, _⟩ := c3_of Z2b.out
    clear hq2 lowq2 hb2b hz2b
    go_wp2_with fail
    refine (SameMatrix_yes R3 C3 p2a q2a p2n q2n p2c q2c L3 _ HP2b.out HQ2b.out).mono ?_
    rintro e w2c ⟨rfl, hb2c⟩
    clear e0 e1 e2 j0 j1 j2 x0 x1 x2 z0 z1 z2
    have hs2c := hb2c.size
    rw [HZ2b.out] at hs2c
    have X2c := hid ((hb2c.block _ (lt_of_heap V2b.out)).trans V2b.out)
    have Y2c := hid ((hb2c.block _ (lt_of_heap Z2b.out)).trans Z2b.out)
    have HF2c := hid (HF2b.out.same (hb2c.block _ HF2b.out.lt))
    have HW2c := hid (known_end HW2b.out hb2c)
    clear HP2b HQ2b HP2a HF2a HF2b X2a Y2a X2b Y2b Z2a V2a Z2b V2b
    go_wp2_with fail
    refine (known_any _).mono ?_
    rintro e w99 ⟨rfl, hb99⟩
    go_wp2
    go_ret
    exact ⟨rfl, known_end HW2c.out hb99⟩
end Go.Proofs.Ytndkcabmaigneaa
