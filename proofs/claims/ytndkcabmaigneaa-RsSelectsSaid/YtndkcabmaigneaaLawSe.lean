/-
  The walk of the law about selected rows.
-/
import Derived.Test.YtndkcabmaigneaaSel2
namespace Go.Proofs.Ytndkcabmaigneaa
open Go Go.RowKit
set_option linter.unusedVariables false

/-- Select and Pick agree on a result -/
theorem selects_in (W : World) (r c : Int) (a la : Option Addr) (n cap m lc : Nat) (l : List Nat) (k : List Int) (hA : Bs W (.slice a n cap) l) (hna : a = none → cap = 0) (hl : Is W (.slice la m lc) k) (hlc : m ≤ lc) (hnl : la = none → lc = 0)
    (h1 : r ≤ 60) (h2 : c ≤ 60) (h3 : n ≤ 3600) (h4 : m ≤ 300) (R C x : Int) (L : List Nat)
    (hP : ∀ a' ca la' lc' w, Bs w (.slice a' n ca) l → n ≤ ca → Is w (.slice la' m lc') k → Calls Try.prog 65 #[.agg #[.int .i64 r, .int .i64 c, .slice a' n ca], .slice la' m lc'] w fun e w' => MatRes w.heap.size R C L x e w' ∧ Below w.heap.size w w')
    (hQ : ∀ w, Bs w (.slice a n cap) l → Is w (.slice la m lc) k → Calls Try.prog 66 #[.agg #[.int .i64 r, .int .i64 c, .slice a n cap], .slice la m lc] w fun e w' => MatRes w.heap.size R C L x e w' ∧ Below w.heap.size w w') :
    Calls Try.prog 21 #[.agg #[.int .i64 r, .int .i64 c, .slice a n cap], .slice la m lc] W fun e w' => e = .returned (.bool true) ∧ Below W.heap.size W w' := by
  have b4 : decide ((300 : Int) < (m : Int)) = false := by simp; omega
  have HA := hid hA
  have HNA := hid hna
  have HL := hid hl
  have HNL := hid hnl
  have HP := hid hP
  have HQ := hid hQ
  clear hA hna hl hnl hP hQ
  obtain ⟨w1, hw1⟩ : ∃ w1, w1 = W.alloc (Obj.cells #[.int .i64 r, .int .i64 c, .slice a n cap] 52) := ⟨_, rfl⟩
  have hbel : Below W.heap.size W w1 := by rw [hw1]; exact (Below.refl _ _).alloc (Nat.le_refl _) _
  have g0 : w1.heap[W.heap.size]? = some (Obj.cells #[.int .i64 r, .int .i64 c, .slice a n cap] 52) := by rw [hw1]; exact heap_new _ _
  obtain ⟨c0, c1, c2, _, _, _⟩ := c3_of g0
  have G0 := hid g0
  clear g0
  go_enter Try.func21, Try.ntmps21
  go_wp2_with fail
  rw [← hw1]
  clear hw1
  refine (large_no r c n a cap h1 h2 h3 _).mono ?_
  rintro e w2 ⟨rfl, hb2⟩
  clear c0 c1 c2
  have k0 := (hb2.block _ (lt_of_heap G0.out)).trans G0.out
  have K0 := hid k0
  obtain ⟨c0, c1, c2, _, _, _⟩ := c3_of k0
  have hW2 := hid (known_end hbel hb2)
  clear k0 hbel hb2
  go_wp2_with fail
  refine (own_any r c a n cap l _ (HA.out.below hW2.out) HNA.out (by omega)).mono ?_
  rintro e w3 ⟨a', ca, rfl, hca, hA3, lowA, hnA3, hb3⟩
  have hW3 := hid (known_end hW2.out hb3)
  have K3 := hid ((hb3.block _ (lt_of_heap K0.out)).trans K0.out)
  clear c0 c1 c2 lowA hnA3
  have HA3 := hid hA3
  clear hA3 hb3
  go_wp2_with (refine wpList_cloneI rfl (.tmp 20) (.tmp 21) rfl w3.heap.size rfl (heap_new w3 _) la m lc k rfl ((HL.out.below hW3.out).alloc _) HNL.out hlc (by omega) ?_)
  intro la' lc' w4 hl4 hlc4 hk4
  have hb34 : Below w3.heap.size w3 w4 := ((Below.refl _ _).alloc (Nat.le_refl _) _).trans (hk4.below (by simp) (Nat.le_refl _))
  have hW4 := hid (known_end hW3.out hb34)
  have K4 := hid ((hb34.block _ (lt_of_heap K3.out)).trans K3.out)
  have HL4 := hid hl4
  have HA4 := hid (HA3.out.below hb34)
  clear hk4 hb34 hl4
  go_wp2_with fail
  refine (HP.out a' ca la' lc' _ HA4.out hca HL4.out).mono ?_
  rintro e w5 ⟨⟨ra, rn, rc, rfl, hR5, lowR⟩, hb5⟩
  have V0 := heap_alloc ((hb5.block _ (lt_of_heap K4.out)).trans K4.out) (Obj.cells #[.int .i64 R, .int .i64 C, .slice ra rn rc] 52)
  have HV0 := hid V0
  have Z := hid (heap_new w5 (Obj.cells #[.int .i64 R, .int .i64 C, .slice ra rn rc] 52))
  have hW5 := hid ((known_end hW4.out hb5).alloc (known_end hW4.out hb5).size (Obj.cells #[.int .i64 R, .int .i64 C, .slice ra rn rc] 52))
  have HR5 := hid (hR5.alloc (Obj.cells #[.int .i64 R, .int .i64 C, .slice ra rn rc] 52))
  obtain ⟨a0, a1, a2, _, _, _⟩ := c3_of V0
  clear V0 hb5 hR5 lowR
  go_wp2_with fail
  refine (HQ.out _ (HA.out.below hW5.out) (HL.out.below hW5.out)).mono ?_
  rintro e w9 ⟨⟨rb, rm, rd, rfl, hR9, lowR9⟩, hb9⟩
  have Z9 := heap_alloc ((hb9.block _ (lt_of_heap Z.out)).trans Z.out) (Obj.cells #[.int .i64 R, .int .i64 C, .slice rb rm rd] 52)
  obtain ⟨z0, z1, z2, _, _, _⟩ := c3_of Z9
  clear a0 a1 a2 lowR9
  go_wp2_with fail
  refine (SameMatrix_yes R C ra rb rn rm rc rd L _ ((HR5.out.below hb9).alloc _) (hR9.alloc _)).mono ?_
  rintro e w10 ⟨rfl, hb10⟩
  clear z0 z1 z2
  go_wp2_with fail
  refine (known_any _).mono ?_
  rintro e w11 ⟨rfl, hb11⟩
  go_wp2
  go_ret
  exact ⟨rfl, known_end (known_end ((known_end hW5.out hb9).alloc (known_end hW5.out hb9).size _) hb10) hb11⟩

theorem Select_bad (r c : Int) (a la : Option Addr) (n cap m lc : Nat) (h : ¬ (okMat r c n ∧ 1 ≤ m ∧ m ≤ 255)) (w : World) :
    Calls Try.prog 65 #[.agg #[.int .i64 r, .int .i64 c, .slice a n cap], .slice la m lc] w fun e w' => MatRes w.heap.size 0 0 [] 2 e w' ∧ Below w.heap.size w w' := by
  have hnot : ∀ (x : Bool) (w : World), (Op.unary .not (.bool x)).run Try.prog w = .ok (.bool (!x)) w := fun _ _ => rfl
  obtain ⟨w1, hw1⟩ : ∃ w1, w1 = (w.alloc (Obj.cells #[.int .i64 r, .int .i64 c, .slice a n cap] 52)).alloc (Obj.cells #[.int .i64 0, .int .i64 0, .slice none 0 0] 52) := ⟨_, rfl⟩
  have hbel : Below w.heap.size w w1 := by rw [hw1]; exact ((Below.refl _ _).alloc (Nat.le_refl _) _).alloc (by simp) _
  have h0 : w1.heap[w.heap.size]? = some (Obj.cells #[.int .i64 r, .int .i64 c, .slice a n cap] 52) := by rw [hw1]; exact heap_alloc (heap_new _ _) _
  have h1 : w1.heap[w.heap.size + 1]? = some (Obj.cells #[.int .i64 0, .int .i64 0, .slice none 0 0] 52) := by
    rw [hw1]
    have h5 := heap_new (w.alloc (Obj.cells #[.int .i64 r, .int .i64 c, .slice a n cap] 52)) (Obj.cells #[.int .i64 0, .int .i64 0, .slice none 0 0] 52)
    rw [World.size_alloc] at h5
    exact h5
  obtain ⟨c0, c1, c2, _, _, _⟩ := c3_of h0
  have H1 := hid h1
  clear h0 h1
  by_cases hok : okMat r c n
  · have hm : ¬ (1 ≤ (m : Int) ∧ (m : Int) ≤ 255) := fun hm => h ⟨hok, by omega, by omega⟩
    have HOK := hid hok
    have HM := hid hm
    clear h hok hm
    go_enter Try.func65, Try.ntmps65
    go_wp2_with fail
    rw [← hw1]
    clear hw1
    refine (okV r c n a cap HOK.out _).mono ?_
    rintro e w2 ⟨rfl, hb2⟩
    clear c0 c1 c2
    go_wp2_with fail
    refine (inRange_no m HM.out _).mono ?_
    rintro e w' ⟨rfl, rfl⟩
    obtain ⟨d0, d1, d2, f0, f1, f2⟩ := c3_at H1.out hb2 (lt_of_heap H1.out)
    have hW := known_end hbel hb2
    go_wp2_with fail
    refine bodyPost_ret (v := .tuple #[.agg #[.int .i64 0, .int .i64 0, .slice none 0 0], .int .i64 2]) (by simp [results, Try.results65, go_sem, d0, d1, d2]) rfl ⟨⟨none, 0, 0, rfl, bs_nil _, fun _ h => by cases h⟩, ?_⟩
    exact ((hW.setCell (by simp) _).setCell (by simp) _).setCell (by simp) _
  · have HOK := hid hok
    clear h hok
    go_enter Try.func65, Try.ntmps65
    go_wp2_with fail
    rw [← hw1]
    clear hw1
    refine (noV r c n a cap HOK.out _).mono ?_
    rintro e w2 ⟨rfl, hb2⟩
    clear c0 c1 c2
    obtain ⟨d0, d1, d2, f0, f1, f2⟩ := c3_at H1.out hb2 (lt_of_heap H1.out)
    have hW := known_end hbel hb2
    go_wp2_with fail
    refine bodyPost_ret (v := .tuple #[.agg #[.int .i64 0, .int .i64 0, .slice none 0 0], .int .i64 2]) (by simp [results, Try.results65, go_sem, d0, d1, d2]) rfl ⟨⟨none, 0, 0, rfl, bs_nil _, fun _ h => by cases h⟩, ?_⟩
    exact ((hW.setCell (by simp) _).setCell (by simp) _).setCell (by simp) _
theorem Pick_bad (r c : Int) (a la : Option Addr) (n cap m lc : Nat) (h : ¬ (okMat r c n ∧ 1 ≤ m ∧ m ≤ 255)) (w : World) :
    Calls Try.prog 66 #[.agg #[.int .i64 r, .int .i64 c, .slice a n cap], .slice la m lc] w fun e w' => MatRes w.heap.size 0 0 [] 2 e w' ∧ Below w.heap.size w w' := by
  have hnot : ∀ (x : Bool) (w : World), (Op.unary .not (.bool x)).run Try.prog w = .ok (.bool (!x)) w := fun _ _ => rfl
  obtain ⟨w1, hw1⟩ : ∃ w1, w1 = (w.alloc (Obj.cells #[.int .i64 r, .int .i64 c, .slice a n cap] 52)).alloc (Obj.cells #[.int .i64 0, .int .i64 0, .slice none 0 0] 52) := ⟨_, rfl⟩
  have hbel : Below w.heap.size w w1 := by rw [hw1]; exact ((Below.refl _ _).alloc (Nat.le_refl _) _).alloc (by simp) _
  have h0 : w1.heap[w.heap.size]? = some (Obj.cells #[.int .i64 r, .int .i64 c, .slice a n cap] 52) := by rw [hw1]; exact heap_alloc (heap_new _ _) _
  have h1 : w1.heap[w.heap.size + 1]? = some (Obj.cells #[.int .i64 0, .int .i64 0, .slice none 0 0] 52) := by
    rw [hw1]
    have h5 := heap_new (w.alloc (Obj.cells #[.int .i64 r, .int .i64 c, .slice a n cap] 52)) (Obj.cells #[.int .i64 0, .int .i64 0, .slice none 0 0] 52)
    rw [World.size_alloc] at h5
    exact h5
  obtain ⟨c0, c1, c2, _, _, _⟩ := c3_of h0
  have H1 := hid h1
  clear h0 h1
  by_cases hok : okMat r c n
  · by_cases hm0 : m = 0
    · have q0 : ((m : Int) == 0) = true := by simp [hm0]
      have HOK := hid hok
      clear h hok hm0
      go_enter Try.func66, Try.ntmps66
      go_wp2_with fail
      rw [← hw1]
      clear hw1
      refine (okG r c n a cap HOK.out _).mono ?_
      rintro e w2 ⟨rfl, hb2⟩
      clear c0 c1 c2
      obtain ⟨d0, d1, d2, f0, f1, f2⟩ := c3_at H1.out hb2 (lt_of_heap H1.out)
      have hW := known_end hbel hb2
      go_wp2_with fail
      refine bodyPost_ret (v := .tuple #[.agg #[.int .i64 0, .int .i64 0, .slice none 0 0], .int .i64 2]) (by simp [results, Try.results66, go_sem, d0, d1, d2]) rfl ⟨⟨none, 0, 0, rfl, bs_nil _, fun _ h => by cases h⟩, ?_⟩
      exact ((hW.setCell (by simp) _).setCell (by simp) _).setCell (by simp) _
    · have q0 : ((m : Int) == 0) = false := by simp; omega
      have q1 : decide ((255 : Int) < (m : Int)) = true := by simp; exact Classical.byContradiction fun hh => h ⟨hok, by omega, by omega⟩
      have HOK := hid hok
      clear h hok hm0
      go_enter Try.func66, Try.ntmps66
      go_wp2_with fail
      rw [← hw1]
      clear hw1
      refine (okG r c n a cap HOK.out _).mono ?_
      rintro e w2 ⟨rfl, hb2⟩
      clear c0 c1 c2
      obtain ⟨d0, d1, d2, f0, f1, f2⟩ := c3_at H1.out hb2 (lt_of_heap H1.out)
      have hW := known_end hbel hb2
      go_wp2_with fail
      refine bodyPost_ret (v := .tuple #[.agg #[.int .i64 0, .int .i64 0, .slice none 0 0], .int .i64 2]) (by simp [results, Try.results66, go_sem, d0, d1, d2]) rfl ⟨⟨none, 0, 0, rfl, bs_nil _, fun _ h => by cases h⟩, ?_⟩
      exact ((hW.setCell (by simp) _).setCell (by simp) _).setCell (by simp) _
  · have HOK := hid hok
    clear h hok
    go_enter Try.func66, Try.ntmps66
    go_wp2_with fail
    rw [← hw1]
    clear hw1
    refine (noG r c n a cap HOK.out _).mono ?_
    rintro e w2 ⟨rfl, hb2⟩
    clear c0 c1 c2
    obtain ⟨d0, d1, d2, f0, f1, f2⟩ := c3_at H1.out hb2 (lt_of_heap H1.out)
    have hW := known_end hbel hb2
    go_wp2_with fail
    refine bodyPost_ret (v := .tuple #[.agg #[.int .i64 0, .int .i64 0, .slice none 0 0], .int .i64 2]) (by simp [results, Try.results66, go_sem, d0, d1, d2]) rfl ⟨⟨none, 0, 0, rfl, bs_nil _, fun _ h => by cases h⟩, ?_⟩
    exact ((hW.setCell (by simp) _).setCell (by simp) _).setCell (by simp) _

set_option maxRecDepth 100000 in
set_option maxHeartbeats 1000000 in
theorem selects_walk (W : World) (v0 : Value) (hv0 : MatW W v0) (la : Option Addr) (m lc : Nat) (k : List Int) (hl : Is W (.slice la m lc) k) (hlc : m ≤ lc) (hnl : la = none → lc = 0) :
    Calls Try.prog 21 #[v0, .slice la m lc] W fun e w' => e = .returned (.bool true) ∧ Below W.heap.size W w' := by
  obtain ⟨r, c, a, n, cap, l, rfl, ⟨wr, wc⟩, hA, hnc, hnA⟩ := hv0
  clear wr wc
  by_cases hla : r ≤ 60 ∧ c ≤ 60 ∧ n ≤ 3600
  · obtain ⟨h1, h2, h3⟩ := hla
    by_cases h4 : m ≤ 300
    · by_cases hok : okMat r c n ∧ 1 ≤ m ∧ m ≤ 255
      · obtain ⟨hok, hm1, hm2⟩ := hok
        obtain ⟨R, C, rfl, rfl, q1, q2, q3, q4, q5⟩ := okM_nat hok
        have hfa : flat R C (matOf C l) = l := flat_matOf l (by rw [← hA.len, q5])
        have hl1 := matOf_lt C l hA.lt
        obtain ⟨stop, hst⟩ := stops_ex R k
        have hkm := hl.len
        have hle := hst.le
        by_cases hs : stop = m
        · refine selects_in W R C a la n cap m lc l k hA hnA hl hlc hnl h1 h2 h3 h4 m C 0 (flat m C (selM (matOf C l) k)) ?_ ?_
          · intro a' ca la' lc' w ha hca hk
            rw [← hfa] at ha
            exact (Select_ok R C a' la' n ca m lc' stop (matOf C l) k w q1 q2 q3 q4 hm1 hm2 q5 hca hl1 ha hk hst).mono fun e w' h => ⟨h.1.1 hs, h.2⟩
          · intro w ha hk
            rw [← hfa] at ha
            exact (Pick_ok R C a la n cap m lc stop (matOf C l) k w q1 q2 q3 q4 hm1 hm2 q5 hl1 ha hk hst).mono fun e w' h => ⟨h.1.1 hs, h.2⟩
        · refine selects_in W R C a la n cap m lc l k hA hnA hl hlc hnl h1 h2 h3 h4 0 0 2 [] ?_ ?_
          · intro a' ca la' lc' w ha hca hk
            rw [← hfa] at ha
            exact (Select_ok R C a' la' n ca m lc' stop (matOf C l) k w q1 q2 q3 q4 hm1 hm2 q5 hca hl1 ha hk hst).mono fun e w' h => ⟨h.1.2 (by omega), h.2⟩
          · intro w ha hk
            rw [← hfa] at ha
            exact (Pick_ok R C a la n cap m lc stop (matOf C l) k w q1 q2 q3 q4 hm1 hm2 q5 hl1 ha hk hst).mono fun e w' h => ⟨h.1.2 (by omega), h.2⟩
      · refine selects_in W r c a la n cap m lc l k hA hnA hl hlc hnl h1 h2 h3 h4 0 0 2 [] ?_ ?_
        · intro a' ca la' lc' w ha hca hk
          exact Select_bad r c a' la' n ca m lc' hok w
        · intro w ha hk
          exact Pick_bad r c a la n cap m lc hok w
    · have b4 : decide ((300 : Int) < (m : Int)) = true := by simp; omega
      clear hA hnA hl hnl
      go_enter Try.func21, Try.ntmps21
      go_wp2_with fail
      refine (large_no r c n a cap h1 h2 h3 _).mono ?_
      rintro e w3 ⟨rfl, hb3⟩
      go_wp2_with fail
      refine (known_any _).mono ?_
      rintro e w4 ⟨rfl, hb4⟩
      go_wp2
      go_ret
      exact ⟨rfl, known_end (known_end ((Below.refl _ _).alloc (Nat.le_refl _) _) hb3) hb4⟩
  · have H := hid hla
    clear hla hA hnA hl hnl
    go_enter Try.func21, Try.ntmps21
    go_wp2_with fail
    refine (large_yes r c n a cap H.out _).mono ?_
    rintro e w3 ⟨rfl, hb3⟩
    go_wp2_with fail
    refine (known_any _).mono ?_
    rintro e w4 ⟨rfl, hb4⟩
    go_wp2
    go_ret
    exact ⟨rfl, known_end (known_end ((Below.refl _ _).alloc (Nat.le_refl _) _) hb3) hb4⟩
end Go.Proofs.Ytndkcabmaigneaa
