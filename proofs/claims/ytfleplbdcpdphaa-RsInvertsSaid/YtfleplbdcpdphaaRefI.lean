/-
  The reference's Unit, Invert and Rank.
-/
import Derived.Test.YtfleplbdcpdphaaRed2
import Derived.Test.YtfleplbdcpdphaaInv2
import Derived.Test.YtfleplbdcpdphaaInvE
import Derived.Test.YtfleplbdcpdphaaShF
namespace Go.Proofs.Ytfleplbdcpdphaa
open Go Go.RowKit
set_option linter.unusedVariables false

theorem pivF_congrR {A B : Nat → Nat → Nat} {c : Nat} (h : ∀ i, A i c = B i c) : ∀ f p, pivF A c f p = pivF B c f p
  | 0, p => rfl
  | f + 1, p => by unfold pivF; rw [h p, pivF_congrR h f (p + 1)]
theorem gj_agreeR {A B : Nat → Nat → Nat} (W : Nat) (h : ∀ i j, j < W → A i j = B i j) (R : Nat) : ∀ c, c ≤ W → (gj R A c).2 = (gj R B c).2 ∧ ∀ i j, j < W → (gj R A c).1 i j = (gj R B c).1 i j
  | 0, _ => ⟨rfl, h⟩
  | c + 1, hc => by
    obtain ⟨h1, h2⟩ := gj_agreeR W h R c (by omega)
    have hpe : piv R (gj R A c).1 (gj R A c).2 c = piv R (gj R B c).1 (gj R B c).2 c := by
      unfold piv; rw [h1]; exact pivF_congrR (fun i => h2 i c (by omega)) _ _
    obtain ⟨_, g2, _, _⟩ := piv_spec R (gj R A c).1 (gj R A c).2 c (gj_le R A c).1
    by_cases hp : piv R (gj R A c).1 (gj R A c).2 c = R
    · rw [gj_none R A c hp, gj_none R B c (by rw [← hpe]; exact hp)]; exact ⟨h1, h2⟩
    · rw [gj_some R A c _ rfl (by omega), gj_some R B c _ rfl (by rw [← hpe]; omega), ← hpe, h1]
      generalize piv R (gj R A c).1 (gj R B c).2 c = p at *
      generalize (gj R A c).1 = A' at *
      generalize (gj R B c).1 = B' at *
      generalize (gj R B c).2 = r at *
      refine ⟨rfl, fun i j hj => ?_⟩
      have hz : A' p c = B' p c := h2 p c (by omega)
      have hS : ∀ i j, j < W → swapM A' r p i j = swapM B' r p i j := fun i j hj => by unfold swapM; rw [h2 p j hj, h2 r j hj, h2 i j hj]
      have hK : ∀ i j, j < W → scaleM (swapM A' r p) r (Gf.iv (A' p c)) i j = scaleM (swapM B' r p) r (Gf.iv (B' p c)) i j := fun i j hj => by unfold scaleM; rw [hz, hS r j hj, hS i j hj]
      show clearTo _ r c R i j = clearTo _ r c R i j
      unfold clearTo
      rw [hK i j hj, hK i c (by omega), hK r j hj]
set_option maxRecDepth 100000 in
set_option maxHeartbeats 1000000 in
theorem Unit_box (n : Nat) (h1 : 1 ≤ n) (h2 : n ≤ 255) (w : World) :
    Calls Try.prog 57 #[.int .i64 n] w fun e w' => (∃ ub, w.heap.size ≤ ub ∧ e = .returned (.tuple #[.agg #[.int .i64 n, .int .i64 n, .slice (some ⟨ub, 0, none⟩) (n * n : Nat) (n * n : Nat)], .int .i64 0]) ∧ Bs w' (.slice (some ⟨ub, 0, none⟩) (n * n : Nat) (n * n : Nat)) (flat n n idM)) ∧ Below w.heap.size w w' := by
  have q1 : decide ((n : Int) < 1) = false := by simp; omega
  have q2 : decide ((255 : Int) < (n : Int)) = false := by simp; omega
  obtain ⟨w1, hw1⟩ : ∃ w1, w1 = w.alloc (Obj.cells #[.int .i64 0, .int .i64 0, .slice none 0 0] 52) := ⟨_, rfl⟩
  have hbel : Below w.heap.size w w1 := by rw [hw1]; exact (Below.refl _ _).alloc (Nat.le_refl _) _
  have h0 : w1.heap[w.heap.size]? = some (Obj.cells #[.int .i64 0, .int .i64 0, .slice none 0 0] 52) := by rw [hw1]; exact heap_new _ _
  have hs1 : w1.heap.size = w.heap.size + 1 := by rw [hw1]; simp
  have hnn : n * n ≤ 65025 := Nat.mul_le_mul h2 h2
  have hz := mul_nat (r := n) (c := n) rfl
  have ho : Own ((w.alloc (Obj.cells #[.int .i64 0, .int .i64 0, .slice none 0 0] 52)).alloc (zrow (n * n))) (w.heap.size + 1) (flat n n (idTo 0)) := by
    have h5 := own_zrow (w.alloc (Obj.cells #[.int .i64 0, .int .i64 0, .slice none 0 0] 52)) (n * n)
    rw [World.size_alloc, flat_zero, flat_congr (fun i j _ _ => show 0 = idTo 0 i j from by unfold idTo; rw [if_neg (by omega)])] at h5
    exact h5
  have hr : ((w.alloc (Obj.cells #[.int .i64 0, .int .i64 0, .slice none 0 0] 52)).alloc (zrow (n * n))).heap[w.heap.size]? = some (Obj.cells #[.int .i64 0, .int .i64 0, .slice none 0 0] 52) := heap_alloc (heap_new _ _) _
  have hb : Below w.heap.size w ((w.alloc (Obj.cells #[.int .i64 0, .int .i64 0, .slice none 0 0] 52)).alloc (zrow (n * n))) := ((Below.refl _ _).alloc (Nat.le_refl _) _).alloc (by simp) _
  have HO := hid ho
  have HR := hid hr
  have HB := hid hb
  clear ho hr hb h0 hs1 hbel hw1
  generalize hnc : n * n = nc at *
  have HNC := hid hnc
  clear hnc
  have hmk := mk_u8 nc (by omega)
  go_enter Try.func57, Try.ntmps57
  go_wp2
  clear hmk
  go_loopw [5] (fun iv wr => ∃ i : Nat, i ≤ n ∧ iv = .int .i64 i ∧ Hid (Own wr (w.heap.size + 1) (flat n n (idTo i))) ∧ Hid (wr.heap[w.heap.size]? = some (Obj.cells #[.int .i64 0, .int .i64 0, .slice none 0 0] 52)) ∧ Hid (Below w.heap.size w wr)) (fun iv _ => n - (intOf iv).toNat)
  case atStart => exact ⟨0, by omega, rfl, HO, HR, HB⟩
  case round =>
    clear HO HR HB
    obtain ⟨i, hi, rfl, HO, HR, HB⟩ := hrel
    by_cases hlt : i < n
    · have co := HO.out.cell (i * n + i) (by rw [flat_length]; exact ix_lt hlt hlt)
      have fo := HO.out.free (i * n + i)
      have hst : Own (wr.setCell ⟨w.heap.size + 1, i * n + i, none⟩ (.int .u8 1)) (w.heap.size + 1) (flat n n (idTo (i + 1))) := by
        have h5 := HO.out.set (i * n + i) 1
        rw [flat_set _ hlt hlt, flat_congr (fun a b _ _ => idTo_step i a b)] at h5
        exact h5
      have HST := hid hst
      have HR2 := hid ((Below.heap_setCell wr ⟨w.heap.size + 1, i * n + i, none⟩ (.int .u8 1) _ (show w.heap.size ≠ w.heap.size + 1 by omega)).trans HR.out)
      have HB2 := hid (HB.out.setCell (p := ⟨w.heap.size + 1, i * n + i, none⟩) (by show w.heap.size ≤ w.heap.size + 1; omega) (.int .u8 1))
      have hle := ix_lt hlt hlt
      rw [HNC.out] at hle
      have m1 := mul_nat (r := i) (c := n) rfl
      clear hst HO HR HB
      generalize (flat n n (idTo i)).getD (i * n + i) 0 = z at *
      generalize i * n = q at *
      go_wp2
      exact ⟨⟨i + 1, by omega, by go_num, HST, HR2, HB2⟩, by simp [intOf]; omega⟩
    · obtain rfl : i = n := by omega
      obtain ⟨d0, d1, d2, f0, f1, f2⟩ := c3_of HR.out
      have hout := HO.out
      rw [flat_congr (fun a b ha _ => show idTo i a b = idM a b from by unfold idTo idM; by_cases e : a = b <;> simp [e]; omega)] at hout
      have h5 := (((hout.setCell (p := ⟨w.heap.size, 0, none⟩) (by show w.heap.size ≠ w.heap.size + 1; omega) (.int .i64 i)).setCell (p := ⟨w.heap.size, 1, none⟩) (by show w.heap.size ≠ w.heap.size + 1; omega) (.int .i64 i)).setCell (p := ⟨w.heap.size, 2, none⟩) (by show w.heap.size ≠ w.heap.size + 1; omega) (.slice (some ⟨w.heap.size + 1, 0, none⟩) nc nc)).bs (flat_lt idM_lt) nc
      rw [flat_length, HNC.out] at h5
      have H5 := hid h5
      clear h5 hout
      go_wp2
      refine bodyPost_ret (v := .tuple #[.agg #[.int .i64 i, .int .i64 i, .slice (some ⟨w.heap.size + 1, 0, none⟩) nc nc], .int .i64 0]) (by simp [results, Try.results57, go_sem, d0, d1, d2]) rfl ⟨⟨w.heap.size + 1, Nat.le_succ _, rfl, H5.out⟩, ?_⟩
      exact ((HB.out.setCell (by simp) _).setCell (by simp) _).setCell (by simp) _

theorem goodV (r c : Int) (n : Nat) (a : Option Addr) (cap : Nat) (h : okMat r c n) (w : World) :
    Calls Try.prog 59 #[.agg #[.int .i64 r, .int .i64 c, .slice a n cap]] w fun e w' => e = .returned (.bool true) ∧ Below w.heap.size w w' := by
  obtain ⟨h1, h2, h3, h4, h5⟩ := h
  obtain ⟨r, rfl⟩ : ∃ m : Nat, r = m := ⟨r.toNat, by omega⟩
  obtain ⟨c, rfl⟩ : ∃ m : Nat, c = m := ⟨c.toNat, by omega⟩
  exact Good_yes r c n a cap (by omega) (by omega) (by omega) (by omega) (by have h6 : (n : Int) = ((r * c : Nat) : Int) := h5; exact Int.ofNat.inj h6) w

set_option maxRecDepth 100000 in
set_option maxHeartbeats 1000000 in
theorem refRank_ok (R C n cap : Nat) (a : Option Addr) (M : Nat → Nat → Nat) (w : World) (h1 : 1 ≤ R) (h2 : R ≤ 255) (h3 : 1 ≤ C) (h4 : C ≤ 255) (hn : n = R * C) (hcap : n ≤ cap) (hMl : ∀ i j, M i j < 256) (hA : Bs w (.slice a n cap) (flat R C M)) :
    Calls Try.prog 72 #[.agg #[.int .i64 R, .int .i64 C, .slice a n cap]] w fun e w' => e = .returned (.tuple #[.int .i64 (gj R M C).2, .int .i64 0]) ∧ Below w.heap.size w w' := by
  have hnot : ∀ (x : Bool) (w : World), (Op.unary .not (.bool x)).run Try.prog w = .ok (.bool (!x)) w := fun _ _ => rfl
  obtain ⟨w1, hw1⟩ : ∃ w1, w1 = w.alloc (Obj.cells #[.int .i64 R, .int .i64 C, .slice a n cap] 52) := ⟨_, rfl⟩
  have hbel : Below w.heap.size w w1 := by rw [hw1]; exact (Below.refl _ _).alloc (Nat.le_refl _) _
  have h0 : w1.heap[w.heap.size]? = some (Obj.cells #[.int .i64 R, .int .i64 C, .slice a n cap] 52) := by rw [hw1]; exact heap_new _ _
  obtain ⟨c0, c1, c2, _, _, _⟩ := c3_of h0
  have hrk := (gj_agreeR (A := joinM M (fun _ _ => 0) C) (B := M) C (fun i j hj => by unfold joinM; rw [if_pos hj]) R C (Nat.le_refl _)).1
  have H0 := hid h0
  have HRK := hid hrk
  have HA := hid hA
  have HB := hid hbel
  have HOK := hid (show okMat (R : Int) (C : Int) n from ⟨by omega, by omega, by omega, by omega, by rw [hn]; rfl⟩)
  have HN := hid hn
  clear h0 hrk hA hbel hn
  go_enter Try.func72, Try.ntmps72
  go_wp2_with fail
  rw [← hw1]
  clear hw1
  refine (goodV R C n a cap HOK.out _).mono ?_
  rintro e w2 ⟨rfl, hb2⟩
  clear c0 c1 c2
  have k0 := (hb2.block _ (lt_of_heap H0.out)).trans H0.out
  obtain ⟨c0, c1, c2, _, _, _⟩ := c3_of k0
  have HW2 := hid (known_end HB.out hb2)
  clear k0 hb2
  go_wp2_with fail
  refine (reduce_ok R C 0 a none n 0 cap 0 M (fun _ _ => 0) R _ h1 h2 h3 h4 (by omega) HN.out rfl hcap (Nat.le_refl _) (.inl ⟨rfl, rfl, rfl, rfl⟩) hMl (fun _ _ => by omega) (HA.out.below HW2.out) (bs_nil' _ _ _)).mono ?_
  rintro e w3 ⟨oa, oc, rfl, _, _, hb3⟩
  rw [HRK.out]
  clear c0 c1 c2
  have HW3 := hid (known_end HW2.out hb3)
  clear hb3
  have e3 := heap_new w3 (Obj.cells #[.int .i64 0, .int .i64 0, .slice none 0 0] 52)
  obtain ⟨d0, d1, d2, f0, f1, f2⟩ := c3_of e3
  go_wp2
  go_ret2
  exact ⟨rfl, HW3.out.alloc HW3.out.size _⟩
theorem refRank_bad (r c : Int) (a : Option Addr) (n cap : Nat) (hbad : ¬ okMat r c n) (w : World) :
    Calls Try.prog 72 #[.agg #[.int .i64 r, .int .i64 c, .slice a n cap]] w fun e w' => e = .returned (.tuple #[.int .i64 0, .int .i64 2]) ∧ Below w.heap.size w w' := by
  have hnot : ∀ (x : Bool) (w : World), (Op.unary .not (.bool x)).run Try.prog w = .ok (.bool (!x)) w := fun _ _ => rfl
  have HBAD := hid hbad
  clear hbad
  go_enter Try.func72, Try.ntmps72
  go_wp2_with fail
  refine (Good_no r c n a cap HBAD.out _).mono ?_
  rintro e w2 ⟨rfl, hb2⟩
  go_wp2
  go_ret2
  exact ⟨rfl, known_end ((Below.refl _ _).alloc (Nat.le_refl _) _) hb2⟩
theorem Invert_bad (r c : Int) (a : Option Addr) (n cap : Nat) (hbad : ¬ okMat r c n) (w : World) :
    Calls Try.prog 70 #[.agg #[.int .i64 r, .int .i64 c, .slice a n cap]] w fun e w' => MatRes w.heap.size 0 0 [] 2 e w' ∧ Below w.heap.size w w' := by
  have hnot : ∀ (x : Bool) (w : World), (Op.unary .not (.bool x)).run Try.prog w = .ok (.bool (!x)) w := fun _ _ => rfl
  have HBAD := hid hbad
  obtain ⟨w1, hw1, hbel, h0, h1⟩ := two_boxes w r c a n cap
  obtain ⟨c0, c1, c2, _, _, _⟩ := c3_of h0
  have H1 := hid h1
  clear hbad h0 h1
  go_enter Try.func70, Try.ntmps70
  go_wp2_with fail
  rw [← hw1]
  clear hw1
  refine (Good_no r c n a cap HBAD.out _).mono ?_
  rintro e w2 ⟨rfl, hb2⟩
  clear c0 c1 c2
  obtain ⟨d0, d1, d2, f0, f1, f2⟩ := c3_at H1.out hb2 (lt_of_heap H1.out)
  have hW := known_end hbel hb2
  go_wp2_with fail
  refine bodyPost_ret (v := .tuple #[.agg #[.int .i64 0, .int .i64 0, .slice none 0 0], .int .i64 2]) (by simp [results, Try.results70, go_sem, d0, d1, d2]) rfl ⟨⟨none, 0, 0, rfl, bs_nil _, fun _ h => by cases h⟩, ?_⟩
  exact ((hW.setCell (by simp) _).setCell (by simp) _).setCell (by simp) _
theorem Invert_shape (r c : Int) (a : Option Addr) (n cap : Nat) (hok : okMat r c n) (hne : r ≠ c) (w : World) :
    Calls Try.prog 70 #[.agg #[.int .i64 r, .int .i64 c, .slice a n cap]] w fun e w' => MatRes w.heap.size 0 0 [] 10 e w' ∧ Below w.heap.size w w' := by
  have hnot : ∀ (x : Bool) (w : World), (Op.unary .not (.bool x)).run Try.prog w = .ok (.bool (!x)) w := fun _ _ => rfl
  have HOK := hid hok
  have bne : (r != c) = true := by simpa using hne
  obtain ⟨w1, hw1, hbel, h0, h1⟩ := two_boxes w r c a n cap
  obtain ⟨c0, c1, c2, _, _, _⟩ := c3_of h0
  have H0 := hid h0
  have H1 := hid h1
  clear hok hne h0 h1
  go_enter Try.func70, Try.ntmps70
  go_wp2_with fail
  rw [← hw1]
  clear hw1
  refine (goodV r c n a cap HOK.out _).mono ?_
  rintro e w2 ⟨rfl, hb2⟩
  clear c0 c1 c2
  obtain ⟨c0, c1, c2, _, _, _⟩ := c3_at H0.out hb2 (lt_of_heap H0.out)
  obtain ⟨d0, d1, d2, f0, f1, f2⟩ := c3_at H1.out hb2 (lt_of_heap H1.out)
  have hW := known_end hbel hb2
  go_wp2_with fail
  refine bodyPost_ret (v := .tuple #[.agg #[.int .i64 0, .int .i64 0, .slice none 0 0], .int .i64 10]) (by simp [results, Try.results70, go_sem, d0, d1, d2]) rfl ⟨⟨none, 0, 0, rfl, bs_nil _, fun _ h => by cases h⟩, ?_⟩
  exact ((hW.setCell (by simp) _).setCell (by simp) _).setCell (by simp) _
theorem joinM_id (M : Nat → Nat → Nat) (R : Nat) : joinM M idM R = bothM M R := by
  funext i j
  unfold joinM bothM idM
  by_cases h : j < R
  · rw [if_pos h, if_pos h]
  · rw [if_neg h, if_neg h]
    by_cases e : i = j - R
    · rw [if_pos e, if_pos (by omega)]
    · rw [if_neg e, if_neg (by omega)]

set_option maxRecDepth 100000 in
set_option maxHeartbeats 2000000 in
theorem Invert_ok (R n cap : Nat) (a : Option Addr) (M : Nat → Nat → Nat) (w : World) (h1 : 1 ≤ R) (h2 : R ≤ 255) (hn : n = R * R) (hcap : n ≤ cap) (hMl : ∀ i j, M i j < 256) (hA : Bs w (.slice a n cap) (flat R R M)) :
    Calls Try.prog 70 #[.agg #[.int .i64 R, .int .i64 R, .slice a n cap]] w fun e w' => InvRes w.heap.size R (gj R (bothM M R) R) e w' ∧ Below w.heap.size w w' := by
  show Calls Try.prog 70 #[.agg #[.int .i64 R, .int .i64 R, .slice a n cap]] w fun e w' => (if (gj R (bothM M R) R).2 < R then MatRes w.heap.size 0 0 [] 11 e w' else MatRes w.heap.size R R (flat R R fun i j => (gj R (bothM M R) R).1 i (R + j)) 0 e w') ∧ Below w.heap.size w w'
  have hred := fun ub w' hA' hB' => reduce_ok R R R a (some ⟨ub, 0, none⟩) n (R * R) cap (R * R) M idM R w' h1 h2 h1 h2 h2 hn rfl hcap (Nat.le_refl _) (.inr h1) hMl idM_lt hA' hB'
  rw [joinM_id] at hred
  generalize (gj R (bothM M R) R).2 = rk at *
  generalize (fun i j => (gj R (bothM M R) R).1 i (R + j)) = F at *
  have HRED := hid hred
  clear hred
  have hnot : ∀ (x : Bool) (w : World), (Op.unary .not (.bool x)).run Try.prog w = .ok (.bool (!x)) w := fun _ _ => rfl
  obtain ⟨w1, hw1, hbel, h0, h1'⟩ := two_boxes w R R a n cap
  obtain ⟨c0, c1, c2, _, _, _⟩ := c3_of h0
  have H0 := hid h0
  have H1 := hid h1'
  have HA := hid hA
  have HB := hid hbel
  have HN := hid hn
  have HML := hid hMl
  have HOK := hid (show okMat (R : Int) (R : Int) n from ⟨by omega, by omega, by omega, by omega, by rw [hn]; rfl⟩)
  have q0 : ((R : Int) != (R : Int)) = false := by simp
  clear h0 h1' hA hbel hn hMl
  go_enter Try.func70, Try.ntmps70
  go_wp2_with fail
  rw [← hw1]
  clear hw1
  refine (goodV R R n a cap HOK.out _).mono ?_
  rintro e w2 ⟨rfl, hb2⟩
  clear c0 c1 c2
  have K2 := hid ((hb2.block _ (lt_of_heap H0.out)).trans H0.out)
  have D2 := hid ((hb2.block _ (lt_of_heap H1.out)).trans H1.out)
  obtain ⟨c0, c1, c2, _, _, _⟩ := c3_of K2.out
  have HW2 := hid (known_end HB.out hb2)
  clear hb2
  go_wp2_with fail
  refine (Unit_box R h1 h2 w2).mono ?_
  rintro e w3 ⟨⟨ub, hub, rfl, hU⟩, hb3⟩
  clear c0 c1 c2
  generalize hnn : R * R = nn at *
  have HNN := hid hnn
  have K3 := hid (heap_alloc ((hb3.block _ (lt_of_heap K2.out)).trans K2.out) (Obj.cells #[.int .i64 R, .int .i64 R, .slice (some ⟨ub, 0, none⟩) nn nn] 52))
  have D3 := hid (heap_alloc ((hb3.block _ (lt_of_heap D2.out)).trans D2.out) (Obj.cells #[.int .i64 R, .int .i64 R, .slice (some ⟨ub, 0, none⟩) nn nn] 52))
  have U3 := hid (heap_new w3 (Obj.cells #[.int .i64 R, .int .i64 R, .slice (some ⟨ub, 0, none⟩) nn nn] 52))
  obtain ⟨c0, c1, c2, _, _, _⟩ := c3_of K3.out
  obtain ⟨d0, d1, d2, _, _, _⟩ := c3_of U3.out
  have hw3 := known_end HW2.out hb3
  have HW3 := hid (hw3.alloc hw3.size (Obj.cells #[.int .i64 R, .int .i64 R, .slice (some ⟨ub, 0, none⟩) nn nn] 52))
  have HU := hid (hU.alloc (Obj.cells #[.int .i64 R, .int .i64 R, .slice (some ⟨ub, 0, none⟩) nn nn] 52))
  have HA3 := hid (HA.out.below HW3.out)
  clear hnn hw3 hU hb3
  go_wp2_with fail
  refine (HRED.out ub _ HA3.out HU.out).mono ?_
  rintro e w4 ⟨oa, oc, rfl, hO, hlow, hb4⟩
  clear c0 c1 c2 d0 d1 d2
  have hw4 := known_end HW3.out hb4
  have K4 := heap_alloc ((hb4.block _ (lt_of_heap K3.out)).trans K3.out) (Obj.cells #[.int .i64 R, .int .i64 R, .slice oa nn oc] 52)
  have D4 := heap_alloc ((hb4.block _ (lt_of_heap D3.out)).trans D3.out) (Obj.cells #[.int .i64 R, .int .i64 R, .slice oa nn oc] 52)
  have U4 := heap_new w4 (Obj.cells #[.int .i64 R, .int .i64 R, .slice oa nn oc] 52)
  obtain ⟨c0, c1, c2, _, _, _⟩ := c3_of K4
  obtain ⟨d0, d1, d2, f0, f1, f2⟩ := c3_of D4
  obtain ⟨u0, u1, u2, _, _, _⟩ := c3_of U4
  have HW4 := hid (hw4.alloc hw4.size (Obj.cells #[.int .i64 R, .int .i64 R, .slice oa nn oc] 52))
  have hO4 := hO.alloc (Obj.cells #[.int .i64 R, .int .i64 R, .slice oa nn oc] 52)
  have HO4 := hid hO4
  have HLOW := hid hlow
  have hs3 := HW3.out.size
  have hd := lt_of_heap D2.out
  clear K4 D4 U4 hw4 hO hO4 hlow hb4
  by_cases hk : rk < R
  · go_wp2_with fail
    refine bodyPost_ret (v := .tuple #[.agg #[.int .i64 0, .int .i64 0, .slice none 0 0], .int .i64 11]) (by simp [results, Try.results70, go_sem, d0, d1, d2]) rfl ⟨by exact ⟨none, 0, 0, rfl, bs_nil _, fun _ h => by cases h⟩, ?_⟩
    exact ((HW4.out.setCell (by simp) _).setCell (by simp) _).setCell (by simp) _
  · have hoff : Off (w.heap.size + 1) (.slice oa nn oc) := by
      cases oa with
      | none => trivial
      | some ad => show ad.block ≠ w.heap.size + 1; have h5 := HLOW.out ad rfl; have h6 := lt_of_heap D3.out; omega
    go_wp2_with fail
    refine bodyPost_ret (v := .tuple #[.agg #[.int .i64 R, .int .i64 R, .slice oa nn oc], .int .i64 0]) (by simp [results, Try.results70, go_sem, d0, d1, d2]) rfl ⟨by exact ⟨oa, nn, oc, rfl, ((HO4.out.set_off hoff _ _).set_off hoff _ _).set_off hoff _ _, fun ad h => by have h5 := HLOW.out ad h; omega⟩, ?_⟩
    exact ((HW4.out.setCell (by simp) _).setCell (by simp) _).setCell (by simp) _
end Go.Proofs.Ytfleplbdcpdphaa
