/-
  The errors of Inverse and Rank.
-/
import Derived.Test.YtfleplbdcpdphaaRank
namespace Go.Proofs.Ytfleplbdcpdphaa
open Go Go.RowKit
set_option linter.unusedVariables false

theorem two_boxes (w : World) (r c : Int) (a : Option Addr) (n cap : Nat) : ∃ w1, w1 = (w.alloc (Obj.cells #[.int .i64 r, .int .i64 c, .slice a n cap] 52)).alloc (Obj.cells #[.int .i64 0, .int .i64 0, .slice none 0 0] 52) ∧ Below w.heap.size w w1 ∧
    w1.heap[w.heap.size]? = some (Obj.cells #[.int .i64 r, .int .i64 c, .slice a n cap] 52) ∧ w1.heap[w.heap.size + 1]? = some (Obj.cells #[.int .i64 0, .int .i64 0, .slice none 0 0] 52) := by
  refine ⟨_, rfl, ((Below.refl _ _).alloc (Nat.le_refl _) _).alloc (by simp) _, heap_alloc (heap_new _ _) _, ?_⟩
  have h5 := heap_new (w.alloc (Obj.cells #[.int .i64 r, .int .i64 c, .slice a n cap] 52)) (Obj.cells #[.int .i64 0, .int .i64 0, .slice none 0 0] 52)
  rw [World.size_alloc] at h5
  exact h5

theorem Inverse_bad (fb : Nat) (r c : Int) (a : Option Addr) (n cap : Nat) (hbad : ¬ okMat r c n) (w : World) :
    Calls Try.prog 69 #[.pointer (some ⟨fb, 0, none⟩), .agg #[.int .i64 r, .int .i64 c, .slice a n cap]] w fun e w' => MatRes w.heap.size 0 0 [] 2 e w' ∧ Below w.heap.size w w' := by
  have hnot : ∀ (x : Bool) (w : World), (Op.unary .not (.bool x)).run Try.prog w = .ok (.bool (!x)) w := fun _ _ => rfl
  have HBAD := hid hbad
  obtain ⟨w1, hw1, hbel, h0, h1⟩ := two_boxes w r c a n cap
  obtain ⟨c0, c1, c2, _, _, _⟩ := c3_of h0
  have H1 := hid h1
  clear hbad h0 h1
  go_enter Try.func69, Try.ntmps69
  go_wp2_with fail
  rw [← hw1]
  clear hw1
  refine (noV r c n a cap HBAD.out _).mono ?_
  rintro e w2 ⟨rfl, hb2⟩
  clear c0 c1 c2
  obtain ⟨d0, d1, d2, f0, f1, f2⟩ := c3_at H1.out hb2 (lt_of_heap H1.out)
  have hW := known_end hbel hb2
  go_wp2_with fail
  refine bodyPost_ret (v := .tuple #[.agg #[.int .i64 0, .int .i64 0, .slice none 0 0], .int .i64 2]) (by simp [results, Try.results69, go_sem, d0, d1, d2]) rfl ⟨⟨none, 0, 0, rfl, bs_nil _, fun _ h => by cases h⟩, ?_⟩
  exact ((hW.setCell (by simp) _).setCell (by simp) _).setCell (by simp) _

theorem Inverse_shape (fb : Nat) (r c : Int) (a : Option Addr) (n cap : Nat) (hok : okMat r c n) (hne : r ≠ c) (w : World) :
    Calls Try.prog 69 #[.pointer (some ⟨fb, 0, none⟩), .agg #[.int .i64 r, .int .i64 c, .slice a n cap]] w fun e w' => MatRes w.heap.size 0 0 [] 10 e w' ∧ Below w.heap.size w w' := by
  have hnot : ∀ (x : Bool) (w : World), (Op.unary .not (.bool x)).run Try.prog w = .ok (.bool (!x)) w := fun _ _ => rfl
  have HOK := hid hok
  have bne : (r != c) = true := by simpa using hne
  obtain ⟨w1, hw1, hbel, h0, h1⟩ := two_boxes w r c a n cap
  obtain ⟨c0, c1, c2, _, _, _⟩ := c3_of h0
  have H0 := hid h0
  have H1 := hid h1
  clear hok hne h0 h1
  go_enter Try.func69, Try.ntmps69
  go_wp2_with fail
  rw [← hw1]
  clear hw1
  refine (okV r c n a cap HOK.out _).mono ?_
  rintro e w2 ⟨rfl, hb2⟩
  clear c0 c1 c2
  obtain ⟨c0, c1, c2, _, _, _⟩ := c3_at H0.out hb2 (lt_of_heap H0.out)
  obtain ⟨d0, d1, d2, f0, f1, f2⟩ := c3_at H1.out hb2 (lt_of_heap H1.out)
  have hW := known_end hbel hb2
  go_wp2_with fail
  refine bodyPost_ret (v := .tuple #[.agg #[.int .i64 0, .int .i64 0, .slice none 0 0], .int .i64 10]) (by simp [results, Try.results69, go_sem, d0, d1, d2]) rfl ⟨⟨none, 0, 0, rfl, bs_nil _, fun _ h => by cases h⟩, ?_⟩
  exact ((hW.setCell (by simp) _).setCell (by simp) _).setCell (by simp) _

theorem Rank_bad (fb : Nat) (r c : Int) (a : Option Addr) (n cap : Nat) (hbad : ¬ okMat r c n) (w : World) :
    Calls Try.prog 71 #[.pointer (some ⟨fb, 0, none⟩), .agg #[.int .i64 r, .int .i64 c, .slice a n cap]] w fun e w' => e = .returned (.tuple #[.int .i64 0, .int .i64 2]) ∧ Below w.heap.size w w' := by
  have hnot : ∀ (x : Bool) (w : World), (Op.unary .not (.bool x)).run Try.prog w = .ok (.bool (!x)) w := fun _ _ => rfl
  have HBAD := hid hbad
  clear hbad
  go_enter Try.func71, Try.ntmps71
  go_wp2_with fail
  refine (noV r c n a cap HBAD.out _).mono ?_
  rintro e w2 ⟨rfl, hb2⟩
  go_wp2
  go_ret2
  exact ⟨rfl, known_end ((Below.refl _ _).alloc (Nat.le_refl _) _) hb2⟩
end Go.Proofs.Ytfleplbdcpdphaa
