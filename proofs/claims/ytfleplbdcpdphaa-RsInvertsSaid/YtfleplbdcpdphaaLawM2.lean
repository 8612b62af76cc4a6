/-
  Products of matrices: the errors, and the walk of the law with its guards.
-/
import Derived.Test.YtfleplbdcpdphaaLawM
namespace Go.Proofs.Ytfleplbdcpdphaa
open Go Go.RowKit
set_option linter.unusedVariables false

theorem okM_nat {r c : Int} {n : Nat} (h : okMat r c n) : ∃ R C : Nat, r = R ∧ c = C ∧ 1 ≤ R ∧ R ≤ 255 ∧ 1 ≤ C ∧ C ≤ 255 ∧ n = R * C := by
  obtain ⟨h1, h2, h3, h4, h5⟩ := h
  obtain ⟨R, rfl⟩ : ∃ m : Nat, r = m := ⟨r.toNat, by omega⟩
  obtain ⟨C, rfl⟩ : ∃ m : Nat, c = m := ⟨c.toNat, by omega⟩
  exact ⟨R, C, rfl, rfl, by omega, by omega, by omega, by omega, by
    have h6 : ((R * C : Nat) : Int) = (R : Int) * (C : Int) := rfl
    rw [← h6] at h5
    omega⟩
theorem okV (r c : Int) (n : Nat) (a : Option Addr) (cap : Nat) (h : okMat r c n) (w : World) :
    Calls Try.prog 44 #[.agg #[.int .i64 r, .int .i64 c, .slice a n cap]] w fun e w' => e = .returned (.bool true) ∧ Below w.heap.size w w' := by
  obtain ⟨R, C, rfl, rfl, h1, h2, h3, h4, h5⟩ := okM_nat h
  exact Valid_yes R C n a cap h1 h2 h3 h4 h5 w
theorem noV (r c : Int) (n : Nat) (a : Option Addr) (cap : Nat) (h : ¬ okMat r c n) (w : World) :
    Calls Try.prog 44 #[.agg #[.int .i64 r, .int .i64 c, .slice a n cap]] w fun e w' => e = .returned (.bool false) ∧ Below w.heap.size w w' := Valid_no r c n a cap h w
theorem okG (r c : Int) (n : Nat) (a : Option Addr) (cap : Nat) (h : okMat r c n) (w : World) :
    Calls Try.prog 59 #[.agg #[.int .i64 r, .int .i64 c, .slice a n cap]] w fun e w' => e = .returned (.bool true) ∧ Below w.heap.size w w' := by
  obtain ⟨R, C, rfl, rfl, h1, h2, h3, h4, h5⟩ := okM_nat h
  exact Good_yes R C n a cap h1 h2 h3 h4 h5 w
theorem noG (r c : Int) (n : Nat) (a : Option Addr) (cap : Nat) (h : ¬ okMat r c n) (w : World) :
    Calls Try.prog 59 #[.agg #[.int .i64 r, .int .i64 c, .slice a n cap]] w fun e w' => e = .returned (.bool false) ∧ Below w.heap.size w w' := Good_no r c n a cap h w

theorem Product_bad1 (fb : Nat) (r c r' c' : Int) (a b : Option Addr) (n m cap cap' : Nat) (hbad : ¬ okMat r c n) (w : World) :
    Calls Try.prog 67 #[.pointer (some ⟨fb, 0, none⟩), .agg #[.int .i64 r, .int .i64 c, .slice a n cap], .agg #[.int .i64 r', .int .i64 c', .slice b m cap']] w fun e w' => MatRes w.heap.size 0 0 [] 2 e w' ∧ Below w.heap.size w w' := by
  have hnot : ∀ (x : Bool) (w : World), (Op.unary .not (.bool x)).run Try.prog w = .ok (.bool (!x)) w := fun _ _ => rfl
  have HBAD := hid hbad
  clear hbad
  obtain ⟨w1, hw1⟩ : ∃ w1, w1 = ((w.alloc (Obj.cells #[.int .i64 r, .int .i64 c, .slice a n cap] 52)).alloc (Obj.cells #[.int .i64 r', .int .i64 c', .slice b m cap'] 52)).alloc (Obj.cells #[.int .i64 0, .int .i64 0, .slice none 0 0] 52) := ⟨_, rfl⟩
  have hbel : Below w.heap.size w w1 := by rw [hw1]; exact (((Below.refl _ _).alloc (Nat.le_refl _) _).alloc (by simp) _).alloc (by simp; omega) _
  have h0 : w1.heap[w.heap.size]? = some (Obj.cells #[.int .i64 r, .int .i64 c, .slice a n cap] 52) := by rw [hw1]; exact heap_alloc (heap_alloc (heap_new _ _) _) _
  have h1 : w1.heap[w.heap.size + 1]? = some (Obj.cells #[.int .i64 r', .int .i64 c', .slice b m cap'] 52) := by
    rw [hw1]
    have h5 := heap_new (w.alloc (Obj.cells #[.int .i64 r, .int .i64 c, .slice a n cap] 52)) (Obj.cells #[.int .i64 r', .int .i64 c', .slice b m cap'] 52)
    rw [World.size_alloc] at h5
    exact heap_alloc h5 _
  have h2 : w1.heap[w.heap.size + 2]? = some (Obj.cells #[.int .i64 0, .int .i64 0, .slice none 0 0] 52) := by
    rw [hw1]
    have h5 := heap_new ((w.alloc (Obj.cells #[.int .i64 r, .int .i64 c, .slice a n cap] 52)).alloc (Obj.cells #[.int .i64 r', .int .i64 c', .slice b m cap'] 52)) (Obj.cells #[.int .i64 0, .int .i64 0, .slice none 0 0] 52)
    rw [World.size_alloc, World.size_alloc] at h5
    exact h5
  have hs1 : w1.heap.size = w.heap.size + 3 := by rw [hw1]; simp
  obtain ⟨c0, c1, c2, _, _, _⟩ := c3_of h0
  have H0 := hid h0
  have H1 := hid h1
  have H2 := hid h2
  have HS := hid hs1
  clear h0 h1 h2 hs1
  go_enter Try.func67, Try.ntmps67
  go_wp2_with fail
  rw [← hw1]
  clear hw1
  refine (noV r c n a cap HBAD.out _).mono ?_
  rintro e w2 ⟨rfl, hb2⟩
  clear c0 c1 c2
  obtain ⟨d0, d1, d2, f0, f1, f2⟩ := c3_at H2.out hb2 (by rw [HS.out]; omega)
  have hW := known_end hbel hb2
  go_wp2_with fail
  refine bodyPost_ret (v := .tuple #[.agg #[.int .i64 0, .int .i64 0, .slice none 0 0], .int .i64 2]) (by simp [results, Try.results67, go_sem, d0, d1, d2]) rfl ⟨⟨none, 0, 0, rfl, bs_nil _, fun _ h => by cases h⟩, ?_⟩
  exact ((hW.setCell (by simp; omega) _).setCell (by simp; omega) _).setCell (by simp; omega) _

theorem Product_bad2 (fb : Nat) (r c r' c' : Int) (a b : Option Addr) (n m cap cap' : Nat) (hok : okMat r c n) (hbad : ¬ okMat r' c' m) (w : World) :
    Calls Try.prog 67 #[.pointer (some ⟨fb, 0, none⟩), .agg #[.int .i64 r, .int .i64 c, .slice a n cap], .agg #[.int .i64 r', .int .i64 c', .slice b m cap']] w fun e w' => MatRes w.heap.size 0 0 [] 2 e w' ∧ Below w.heap.size w w' := by
  have hnot : ∀ (x : Bool) (w : World), (Op.unary .not (.bool x)).run Try.prog w = .ok (.bool (!x)) w := fun _ _ => rfl
  have HOK := hid hok
  have HBAD := hid hbad
  clear hok hbad
  obtain ⟨w1, hw1⟩ : ∃ w1, w1 = ((w.alloc (Obj.cells #[.int .i64 r, .int .i64 c, .slice a n cap] 52)).alloc (Obj.cells #[.int .i64 r', .int .i64 c', .slice b m cap'] 52)).alloc (Obj.cells #[.int .i64 0, .int .i64 0, .slice none 0 0] 52) := ⟨_, rfl⟩
  have hbel : Below w.heap.size w w1 := by rw [hw1]; exact (((Below.refl _ _).alloc (Nat.le_refl _) _).alloc (by simp) _).alloc (by simp; omega) _
  have h0 : w1.heap[w.heap.size]? = some (Obj.cells #[.int .i64 r, .int .i64 c, .slice a n cap] 52) := by rw [hw1]; exact heap_alloc (heap_alloc (heap_new _ _) _) _
  have h1 : w1.heap[w.heap.size + 1]? = some (Obj.cells #[.int .i64 r', .int .i64 c', .slice b m cap'] 52) := by
    rw [hw1]
    have h5 := heap_new (w.alloc (Obj.cells #[.int .i64 r, .int .i64 c, .slice a n cap] 52)) (Obj.cells #[.int .i64 r', .int .i64 c', .slice b m cap'] 52)
    rw [World.size_alloc] at h5
    exact heap_alloc h5 _
  have h2 : w1.heap[w.heap.size + 2]? = some (Obj.cells #[.int .i64 0, .int .i64 0, .slice none 0 0] 52) := by
    rw [hw1]
    have h5 := heap_new ((w.alloc (Obj.cells #[.int .i64 r, .int .i64 c, .slice a n cap] 52)).alloc (Obj.cells #[.int .i64 r', .int .i64 c', .slice b m cap'] 52)) (Obj.cells #[.int .i64 0, .int .i64 0, .slice none 0 0] 52)
    rw [World.size_alloc, World.size_alloc] at h5
    exact h5
  have hs1 : w1.heap.size = w.heap.size + 3 := by rw [hw1]; simp
  obtain ⟨c0, c1, c2, _, _, _⟩ := c3_of h0
  have H0 := hid h0
  have H1 := hid h1
  have H2 := hid h2
  have HS := hid hs1
  clear h0 h1 h2 hs1
  go_enter Try.func67, Try.ntmps67
  go_wp2_with fail
  rw [← hw1]
  clear hw1
  refine (okV r c n a cap HOK.out _).mono ?_
  rintro e w2 ⟨rfl, hb2⟩
  clear c0 c1 c2
  obtain ⟨c0, c1, c2, _, _, _⟩ := c3_at H1.out hb2 (by rw [HS.out]; omega)
  go_wp2_with fail
  refine (noV r' c' m b cap' HBAD.out _).mono ?_
  rintro e w3 ⟨rfl, hb3⟩
  clear c0 c1 c2
  have hb13 := hb2.trans (hb3.mono hb2.size)
  obtain ⟨d0, d1, d2, f0, f1, f2⟩ := c3_at H2.out hb13 (by rw [HS.out]; omega)
  have hW := known_end hbel hb13
  go_wp2_with fail
  refine bodyPost_ret (v := .tuple #[.agg #[.int .i64 0, .int .i64 0, .slice none 0 0], .int .i64 2]) (by simp [results, Try.results67, go_sem, d0, d1, d2]) rfl ⟨⟨none, 0, 0, rfl, bs_nil _, fun _ h => by cases h⟩, ?_⟩
  exact ((hW.setCell (by simp; omega) _).setCell (by simp; omega) _).setCell (by simp; omega) _

theorem Product_shape (fb : Nat) (r c r' c' : Int) (a b : Option Addr) (n m cap cap' : Nat) (hok : okMat r c n) (hok2 : okMat r' c' m) (hne : c ≠ r') (w : World) :
    Calls Try.prog 67 #[.pointer (some ⟨fb, 0, none⟩), .agg #[.int .i64 r, .int .i64 c, .slice a n cap], .agg #[.int .i64 r', .int .i64 c', .slice b m cap']] w fun e w' => MatRes w.heap.size 0 0 [] 10 e w' ∧ Below w.heap.size w w' := by
  have hnot : ∀ (x : Bool) (w : World), (Op.unary .not (.bool x)).run Try.prog w = .ok (.bool (!x)) w := fun _ _ => rfl
  have HOK := hid hok
  have HOK2 := hid hok2
  have bne : (c != r') = true := by simpa using hne
  clear hok hok2 hne
  obtain ⟨w1, hw1⟩ : ∃ w1, w1 = ((w.alloc (Obj.cells #[.int .i64 r, .int .i64 c, .slice a n cap] 52)).alloc (Obj.cells #[.int .i64 r', .int .i64 c', .slice b m cap'] 52)).alloc (Obj.cells #[.int .i64 0, .int .i64 0, .slice none 0 0] 52) := ⟨_, rfl⟩
  have hbel : Below w.heap.size w w1 := by rw [hw1]; exact (((Below.refl _ _).alloc (Nat.le_refl _) _).alloc (by simp) _).alloc (by simp; omega) _
  have h0 : w1.heap[w.heap.size]? = some (Obj.cells #[.int .i64 r, .int .i64 c, .slice a n cap] 52) := by rw [hw1]; exact heap_alloc (heap_alloc (heap_new _ _) _) _
  have h1 : w1.heap[w.heap.size + 1]? = some (Obj.cells #[.int .i64 r', .int .i64 c', .slice b m cap'] 52) := by
    rw [hw1]
    have h5 := heap_new (w.alloc (Obj.cells #[.int .i64 r, .int .i64 c, .slice a n cap] 52)) (Obj.cells #[.int .i64 r', .int .i64 c', .slice b m cap'] 52)
    rw [World.size_alloc] at h5
    exact heap_alloc h5 _
  have h2 : w1.heap[w.heap.size + 2]? = some (Obj.cells #[.int .i64 0, .int .i64 0, .slice none 0 0] 52) := by
    rw [hw1]
    have h5 := heap_new ((w.alloc (Obj.cells #[.int .i64 r, .int .i64 c, .slice a n cap] 52)).alloc (Obj.cells #[.int .i64 r', .int .i64 c', .slice b m cap'] 52)) (Obj.cells #[.int .i64 0, .int .i64 0, .slice none 0 0] 52)
    rw [World.size_alloc, World.size_alloc] at h5
    exact h5
  have hs1 : w1.heap.size = w.heap.size + 3 := by rw [hw1]; simp
  obtain ⟨c0, c1, c2, _, _, _⟩ := c3_of h0
  have H0 := hid h0
  have H1 := hid h1
  have H2 := hid h2
  have HS := hid hs1
  clear h0 h1 h2 hs1
  go_enter Try.func67, Try.ntmps67
  go_wp2_with fail
  rw [← hw1]
  clear hw1
  refine (okV r c n a cap HOK.out _).mono ?_
  rintro e w2 ⟨rfl, hb2⟩
  clear c0 c1 c2
  obtain ⟨c0, c1, c2, _, _, _⟩ := c3_at H1.out hb2 (by rw [HS.out]; omega)
  go_wp2_with fail
  refine (okV r' c' m b cap' HOK2.out _).mono ?_
  rintro e w3 ⟨rfl, hb3⟩
  clear c0 c1 c2
  have hb13 := hb2.trans (hb3.mono hb2.size)
  obtain ⟨d0, d1, d2, f0, f1, f2⟩ := c3_at H2.out hb13 (by rw [HS.out]; omega)
  have hW := known_end hbel hb13
  obtain ⟨a0, a1, a2, _, _, _⟩ := c3_at H0.out hb13 (by rw [HS.out]; omega)
  obtain ⟨b0, b1, b2, _, _, _⟩ := c3_at H1.out hb13 (by rw [HS.out]; omega)
  go_wp2_with fail
  refine bodyPost_ret (v := .tuple #[.agg #[.int .i64 0, .int .i64 0, .slice none 0 0], .int .i64 10]) (by simp [results, Try.results67, go_sem, d0, d1, d2]) rfl ⟨⟨none, 0, 0, rfl, bs_nil _, fun _ h => by cases h⟩, ?_⟩
  exact ((hW.setCell (by simp; omega) _).setCell (by simp; omega) _).setCell (by simp; omega) _

theorem Multiply_bad1 (r c r' c' : Int) (a b : Option Addr) (n m cap cap' : Nat) (hbad : ¬ okMat r c n) (w : World) :
    Calls Try.prog 68 #[.agg #[.int .i64 r, .int .i64 c, .slice a n cap], .agg #[.int .i64 r', .int .i64 c', .slice b m cap']] w fun e w' => MatRes w.heap.size 0 0 [] 2 e w' ∧ Below w.heap.size w w' := by
  have hnot : ∀ (x : Bool) (w : World), (Op.unary .not (.bool x)).run Try.prog w = .ok (.bool (!x)) w := fun _ _ => rfl
  have HBAD := hid hbad
  clear hbad
  obtain ⟨w1, hw1⟩ : ∃ w1, w1 = ((w.alloc (Obj.cells #[.int .i64 r, .int .i64 c, .slice a n cap] 52)).alloc (Obj.cells #[.int .i64 r', .int .i64 c', .slice b m cap'] 52)).alloc (Obj.cells #[.int .i64 0, .int .i64 0, .slice none 0 0] 52) := ⟨_, rfl⟩
  have hbel : Below w.heap.size w w1 := by rw [hw1]; exact (((Below.refl _ _).alloc (Nat.le_refl _) _).alloc (by simp) _).alloc (by simp; omega) _
  have h0 : w1.heap[w.heap.size]? = some (Obj.cells #[.int .i64 r, .int .i64 c, .slice a n cap] 52) := by rw [hw1]; exact heap_alloc (heap_alloc (heap_new _ _) _) _
  have h1 : w1.heap[w.heap.size + 1]? = some (Obj.cells #[.int .i64 r', .int .i64 c', .slice b m cap'] 52) := by
    rw [hw1]
    have h5 := heap_new (w.alloc (Obj.cells #[.int .i64 r, .int .i64 c, .slice a n cap] 52)) (Obj.cells #[.int .i64 r', .int .i64 c', .slice b m cap'] 52)
    rw [World.size_alloc] at h5
    exact heap_alloc h5 _
  have h2 : w1.heap[w.heap.size + 2]? = some (Obj.cells #[.int .i64 0, .int .i64 0, .slice none 0 0] 52) := by
    rw [hw1]
    have h5 := heap_new ((w.alloc (Obj.cells #[.int .i64 r, .int .i64 c, .slice a n cap] 52)).alloc (Obj.cells #[.int .i64 r', .int .i64 c', .slice b m cap'] 52)) (Obj.cells #[.int .i64 0, .int .i64 0, .slice none 0 0] 52)
    rw [World.size_alloc, World.size_alloc] at h5
    exact h5
  have hs1 : w1.heap.size = w.heap.size + 3 := by rw [hw1]; simp
  obtain ⟨c0, c1, c2, _, _, _⟩ := c3_of h0
  have H0 := hid h0
  have H1 := hid h1
  have H2 := hid h2
  have HS := hid hs1
  clear h0 h1 h2 hs1
  go_enter Try.func68, Try.ntmps68
  go_wp2_with fail
  rw [← hw1]
  clear hw1
  refine (noG r c n a cap HBAD.out _).mono ?_
  rintro e w2 ⟨rfl, hb2⟩
  clear c0 c1 c2
  obtain ⟨d0, d1, d2, f0, f1, f2⟩ := c3_at H2.out hb2 (by rw [HS.out]; omega)
  have hW := known_end hbel hb2
  go_wp2_with fail
  refine bodyPost_ret (v := .tuple #[.agg #[.int .i64 0, .int .i64 0, .slice none 0 0], .int .i64 2]) (by simp [results, Try.results68, go_sem, d0, d1, d2]) rfl ⟨⟨none, 0, 0, rfl, bs_nil _, fun _ h => by cases h⟩, ?_⟩
  exact ((hW.setCell (by simp; omega) _).setCell (by simp; omega) _).setCell (by simp; omega) _

theorem Multiply_bad2 (r c r' c' : Int) (a b : Option Addr) (n m cap cap' : Nat) (hok : okMat r c n) (hbad : ¬ okMat r' c' m) (w : World) :
    Calls Try.prog 68 #[.agg #[.int .i64 r, .int .i64 c, .slice a n cap], .agg #[.int .i64 r', .int .i64 c', .slice b m cap']] w fun e w' => MatRes w.heap.size 0 0 [] 2 e w' ∧ Below w.heap.size w w' := by
  have hnot : ∀ (x : Bool) (w : World), (Op.unary .not (.bool x)).run Try.prog w = .ok (.bool (!x)) w := fun _ _ => rfl
  have HOK := hid hok
  have HBAD := hid hbad
  clear hok hbad
  obtain ⟨w1, hw1⟩ : ∃ w1, w1 = ((w.alloc (Obj.cells #[.int .i64 r, .int .i64 c, .slice a n cap] 52)).alloc (Obj.cells #[.int .i64 r', .int .i64 c', .slice b m cap'] 52)).alloc (Obj.cells #[.int .i64 0, .int .i64 0, .slice none 0 0] 52) := ⟨_, rfl⟩
  have hbel : Below w.heap.size w w1 := by rw [hw1]; exact (((Below.refl _ _).alloc (Nat.le_refl _) _).alloc (by simp) _).alloc (by simp; omega) _
  have h0 : w1.heap[w.heap.size]? = some (Obj.cells #[.int .i64 r, .int .i64 c, .slice a n cap] 52) := by rw [hw1]; exact heap_alloc (heap_alloc (heap_new _ _) _) _
  have h1 : w1.heap[w.heap.size + 1]? = some (Obj.cells #[.int .i64 r', .int .i64 c', .slice b m cap'] 52) := by
    rw [hw1]
    have h5 := heap_new (w.alloc (Obj.cells #[.int .i64 r, .int .i64 c, .slice a n cap] 52)) (Obj.cells #[.int .i64 r', .int .i64 c', .slice b m cap'] 52)
    rw [World.size_alloc] at h5
    exact heap_alloc h5 _
  have h2 : w1.heap[w.heap.size + 2]? = some (Obj.cells #[.int .i64 0, .int .i64 0, .slice none 0 0] 52) := by
    rw [hw1]
    have h5 := heap_new ((w.alloc (Obj.cells #[.int .i64 r, .int .i64 c, .slice a n cap] 52)).alloc (Obj.cells #[.int .i64 r', .int .i64 c', .slice b m cap'] 52)) (Obj.cells #[.int .i64 0, .int .i64 0, .slice none 0 0] 52)
    rw [World.size_alloc, World.size_alloc] at h5
    exact h5
  have hs1 : w1.heap.size = w.heap.size + 3 := by rw [hw1]; simp
  obtain ⟨c0, c1, c2, _, _, _⟩ := c3_of h0
  have H0 := hid h0
  have H1 := hid h1
  have H2 := hid h2
  have HS := hid hs1
  clear h0 h1 h2 hs1
  go_enter Try.func68, Try.ntmps68
  go_wp2_with fail
  rw [← hw1]
  clear hw1
  refine (okG r c n a cap HOK.out _).mono ?_
  rintro e w2 ⟨rfl, hb2⟩
  clear c0 c1 c2
  obtain ⟨c0, c1, c2, _, _, _⟩ := c3_at H1.out hb2 (by rw [HS.out]; omega)
  go_wp2_with fail
  refine (noG r' c' m b cap' HBAD.out _).mono ?_
  rintro e w3 ⟨rfl, hb3⟩
  clear c0 c1 c2
  have hb13 := hb2.trans (hb3.mono hb2.size)
  obtain ⟨d0, d1, d2, f0, f1, f2⟩ := c3_at H2.out hb13 (by rw [HS.out]; omega)
  have hW := known_end hbel hb13
  go_wp2_with fail
  refine bodyPost_ret (v := .tuple #[.agg #[.int .i64 0, .int .i64 0, .slice none 0 0], .int .i64 2]) (by simp [results, Try.results68, go_sem, d0, d1, d2]) rfl ⟨⟨none, 0, 0, rfl, bs_nil _, fun _ h => by cases h⟩, ?_⟩
  exact ((hW.setCell (by simp; omega) _).setCell (by simp; omega) _).setCell (by simp; omega) _

theorem Multiply_shape (r c r' c' : Int) (a b : Option Addr) (n m cap cap' : Nat) (hok : okMat r c n) (hok2 : okMat r' c' m) (hne : c ≠ r') (w : World) :
    Calls Try.prog 68 #[.agg #[.int .i64 r, .int .i64 c, .slice a n cap], .agg #[.int .i64 r', .int .i64 c', .slice b m cap']] w fun e w' => MatRes w.heap.size 0 0 [] 10 e w' ∧ Below w.heap.size w w' := by
  have hnot : ∀ (x : Bool) (w : World), (Op.unary .not (.bool x)).run Try.prog w = .ok (.bool (!x)) w := fun _ _ => rfl
  have HOK := hid hok
  have HOK2 := hid hok2
  have bne : (c != r') = true := by simpa using hne
  clear hok hok2 hne
  obtain ⟨w1, hw1⟩ : ∃ w1, w1 = ((w.alloc (Obj.cells #[.int .i64 r, .int .i64 c, .slice a n cap] 52)).alloc (Obj.cells #[.int .i64 r', .int .i64 c', .slice b m cap'] 52)).alloc (Obj.cells #[.int .i64 0, .int .i64 0, .slice none 0 0] 52) := ⟨_, rfl⟩
  have hbel : Below w.heap.size w w1 := by rw [hw1]; exact (((Below.refl _ _).alloc (Nat.le_refl _) _).alloc (by simp) _).alloc (by simp; omega) _
  have h0 : w1.heap[w.heap.size]? = some (Obj.cells #[.int .i64 r, .int .i64 c, .slice a n cap] 52) := by rw [hw1]; exact heap_alloc (heap_alloc (heap_new _ _) _) _
  have h1 : w1.heap[w.heap.size + 1]? = some (Obj.cells #[.int .i64 r', .int .i64 c', .slice b m cap'] 52) := by
    rw [hw1]
    have h5 := heap_new (w.alloc (Obj.cells #[.int .i64 r, .int .i64 c, .slice a n cap] 52)) (Obj.cells #[.int .i64 r', .int .i64 c', .slice b m cap'] 52)
    rw [World.size_alloc] at h5
    exact heap_alloc h5 _
  have h2 : w1.heap[w.heap.size + 2]? = some (Obj.cells #[.int .i64 0, .int .i64 0, .slice none 0 0] 52) := by
    rw [hw1]
    have h5 := heap_new ((w.alloc (Obj.cells #[.int .i64 r, .int .i64 c, .slice a n cap] 52)).alloc (Obj.cells #[.int .i64 r', .int .i64 c', .slice b m cap'] 52)) (Obj.cells #[.int .i64 0, .int .i64 0, .slice none 0 0] 52)
    rw [World.size_alloc, World.size_alloc] at h5
    exact h5
  have hs1 : w1.heap.size = w.heap.size + 3 := by rw [hw1]; simp
  obtain ⟨c0, c1, c2, _, _, _⟩ := c3_of h0
  have H0 := hid h0
  have H1 := hid h1
  have H2 := hid h2
  have HS := hid hs1
  clear h0 h1 h2 hs1
  go_enter Try.func68, Try.ntmps68
  go_wp2_with fail
  rw [← hw1]
  clear hw1
  refine (okG r c n a cap HOK.out _).mono ?_
  rintro e w2 ⟨rfl, hb2⟩
  clear c0 c1 c2
  obtain ⟨c0, c1, c2, _, _, _⟩ := c3_at H1.out hb2 (by rw [HS.out]; omega)
  go_wp2_with fail
  refine (okG r' c' m b cap' HOK2.out _).mono ?_
  rintro e w3 ⟨rfl, hb3⟩
  clear c0 c1 c2
  have hb13 := hb2.trans (hb3.mono hb2.size)
  obtain ⟨d0, d1, d2, f0, f1, f2⟩ := c3_at H2.out hb13 (by rw [HS.out]; omega)
  have hW := known_end hbel hb13
  obtain ⟨a0, a1, a2, _, _, _⟩ := c3_at H0.out hb13 (by rw [HS.out]; omega)
  obtain ⟨b0, b1, b2, _, _, _⟩ := c3_at H1.out hb13 (by rw [HS.out]; omega)
  go_wp2_with fail
  refine bodyPost_ret (v := .tuple #[.agg #[.int .i64 0, .int .i64 0, .slice none 0 0], .int .i64 10]) (by simp [results, Try.results68, go_sem, d0, d1, d2]) rfl ⟨⟨none, 0, 0, rfl, bs_nil _, fun _ h => by cases h⟩, ?_⟩
  exact ((hW.setCell (by simp; omega) _).setCell (by simp; omega) _).setCell (by simp; omega) _

set_option maxRecDepth 100000 in
set_option maxHeartbeats 1000000 in
theorem products_walk (W : World) (v0 : Value) (hv0 : MatW W v0) (v1 : Value) (hv1 : MatW W v1) :
    Calls Try.prog 22 #[v0, v1] W fun e w' => e = .returned (.bool true) ∧ Below W.heap.size W w' := by
  obtain ⟨r, c, a, n, cap, l, rfl, ⟨wr, wc⟩, hA, hnc, hnA⟩ := hv0
  obtain ⟨r', c', b, m, cap', k, rfl, ⟨wr', wc'⟩, hB, hmc, hnB⟩ := hv1
  clear wr wc wr' wc'
  by_cases hla : r ≤ 60 ∧ c ≤ 60 ∧ n ≤ 3600
  · by_cases hlb : r' ≤ 60 ∧ c' ≤ 60 ∧ m ≤ 3600
    · obtain ⟨h1, h2, h3⟩ := hla
      obtain ⟨h4, h5, h6⟩ := hlb
      by_cases hoa : okMat r c n
      · by_cases hob : okMat r' c' m
        · by_cases he : c = r'
          · subst he
            obtain ⟨R, K, rfl, rfl, q1, q2, q3, q4, q5⟩ := okM_nat hoa
            obtain ⟨K', C, hK, rfl, s1, s2, s3, s4, s5⟩ := okM_nat hob
            obtain rfl : K = K' := by omega
            have hfa : flat R K (matOf K l) = l := flat_matOf l (by rw [← hA.len, q5])
            have hfb : flat K C (matOf C k) = k := flat_matOf k (by rw [← hB.len, s5])
            have hl1 := matOf_lt K l hA.lt
            have hl2 := matOf_lt C k hB.lt
            refine products_in W R K K C a b n m cap cap' l k hA hB hnA hnB h1 h2 h3 h4 h5 h6 R C 0 (flat R C (prodTo (matOf K l) (matOf C k) K)) ?_ ?_
            · intro fb a' b' ca cb w hF ha hb hca hcb oa ob
              rw [← hfa] at ha
              rw [← hfb] at hb
              refine (Product_ok fb R K C a' b' n m ca cb (matOf K l) (matOf C k) w hF q1 q2 s1 s2 s3 s4 q5 s5 hca hcb hl1 ha hb oa ob).mono ?_
              rintro e w' ⟨ob', hlow, rfl, hown, hbu, hk⟩
              have h7 := hown.bs (flat_lt fun i j => prodTo_lt hl1 _ _ _ _) (R * C)
              rw [flat_length] at h7
              exact ⟨⟨_, _, _, rfl, h7, fun ad h => by cases h; exact hlow⟩, hk⟩
            · intro w ha hb
              rw [← hfa] at ha
              rw [← hfb] at hb
              refine (Multiply_ok R K C a b n m cap cap' (matOf K l) (matOf C k) w q1 q2 s1 s2 s3 s4 q5 s5 hl1 hl2 ha hb).mono ?_
              rintro e w' ⟨ob', hlow, rfl, hown, hbl⟩
              have h7 := hown.bs (flat_lt fun i j => prodTo_lt hl1 _ _ _ _) (R * C)
              rw [flat_length] at h7
              exact ⟨⟨_, _, _, rfl, h7, fun ad h => by cases h; exact hlow⟩, hbl⟩
          · refine products_in W r c r' c' a b n m cap cap' l k hA hB hnA hnB h1 h2 h3 h4 h5 h6 0 0 10 [] ?_ ?_
            · intro fb a' b' ca cb w hF ha hb hca hcb oa ob
              exact (Product_shape fb r c r' c' a' b' n m ca cb hoa hob he w).mono fun e w' h => ⟨h.1, Kept.of_below h.2⟩
            · intro w ha hb
              exact Multiply_shape r c r' c' a b n m cap cap' hoa hob he w
        · refine products_in W r c r' c' a b n m cap cap' l k hA hB hnA hnB h1 h2 h3 h4 h5 h6 0 0 2 [] ?_ ?_
          · intro fb a' b' ca cb w hF ha hb hca hcb oa ob
            exact (Product_bad2 fb r c r' c' a' b' n m ca cb hoa hob w).mono fun e w' h => ⟨h.1, Kept.of_below h.2⟩
          · intro w ha hb
            exact Multiply_bad2 r c r' c' a b n m cap cap' hoa hob w
      · refine products_in W r c r' c' a b n m cap cap' l k hA hB hnA hnB h1 h2 h3 h4 h5 h6 0 0 2 [] ?_ ?_
        · intro fb a' b' ca cb w hF ha hb hca hcb oa ob
          exact (Product_bad1 fb r c r' c' a' b' n m ca cb hoa w).mono fun e w' h => ⟨h.1, Kept.of_below h.2⟩
        · intro w ha hb
          exact Multiply_bad1 r c r' c' a b n m cap cap' hoa w
    · have H := hid hlb
      obtain ⟨h1, h2, h3⟩ := hla
      clear hlb hA hB hnA hnB
      obtain ⟨w1, hw1⟩ : ∃ w1, w1 = (W.alloc (Obj.cells #[.int .i64 r, .int .i64 c, .slice a n cap] 52)).alloc (Obj.cells #[.int .i64 r', .int .i64 c', .slice b m cap'] 52) := ⟨_, rfl⟩
      have hbel : Below W.heap.size W w1 := by rw [hw1]; exact ((Below.refl _ _).alloc (Nat.le_refl _) _).alloc (by simp) _
      have g0 : w1.heap[W.heap.size]? = some (Obj.cells #[.int .i64 r, .int .i64 c, .slice a n cap] 52) := by rw [hw1]; exact heap_alloc (heap_new _ _) _
      have g1 : w1.heap[W.heap.size + 1]? = some (Obj.cells #[.int .i64 r', .int .i64 c', .slice b m cap'] 52) := by
        rw [hw1]
        have h5 := heap_new (W.alloc (Obj.cells #[.int .i64 r, .int .i64 c, .slice a n cap] 52)) (Obj.cells #[.int .i64 r', .int .i64 c', .slice b m cap'] 52)
        rw [World.size_alloc] at h5
        exact h5
      obtain ⟨c0, c1, c2, _, _, _⟩ := c3_of g0
      have G1 := hid g1
      clear g0 g1
      go_enter Try.func22, Try.ntmps22
      go_wp2_with fail
      rw [← hw1]
      clear hw1
      refine (large_no r c n a cap h1 h2 h3 _).mono ?_
      rintro e w2 ⟨rfl, hb2⟩
      clear c0 c1 c2
      obtain ⟨c0, c1, c2, _, _, _⟩ := c3_at G1.out hb2 (lt_of_heap G1.out)
      go_wp2_with fail
      refine (large_yes r' c' m b cap' H.out _).mono ?_
      rintro e w3 ⟨rfl, hb3⟩
      clear c0 c1 c2
      go_wp2_with fail
      refine (known_any _).mono ?_
      rintro e w4 ⟨rfl, hb4⟩
      go_wp2
      go_ret
      exact ⟨rfl, known_end (known_end (known_end hbel hb2) hb3) hb4⟩
  · have H := hid hla
    clear hla hA hB hnA hnB
    go_enter Try.func22, Try.ntmps22
    go_wp2_with fail
    refine (large_yes r c n a cap H.out _).mono ?_
    rintro e w3 ⟨rfl, hb3⟩
    go_wp2_with fail
    refine (known_any _).mono ?_
    rintro e w4 ⟨rfl, hb4⟩
    go_wp2
    go_ret
    exact ⟨rfl, known_end (known_end (((Below.refl _ _).alloc (Nat.le_refl _) _).alloc (by simp) _) hb3) hb4⟩
end Go.Proofs.Ytfleplbdcpdphaa
