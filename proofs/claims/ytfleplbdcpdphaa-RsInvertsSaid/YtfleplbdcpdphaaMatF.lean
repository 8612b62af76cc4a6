/-
  Valid, zeros, row: the small functions on matrices.
-/
import Derived.Test.YtfleplbdcpdphaaMat
import Derived.Deep.DeepMust
namespace Go.Proofs.Ytfleplbdcpdphaa
open Go.RowKit
set_option linter.unusedVariables false

/-- is the number of rows or columns allowed? -/
theorem inRange_yes (n : Int) (h1 : 1 ≤ n) (h2 : n ≤ 255) (w : World) :
    Calls Try.prog 93 #[.int .i64 n] w fun e w' => e = .returned (.bool true) ∧ w = w' := by
  go_enter Try.func93, Try.ntmps93
  go_wp2
  go_ret
  exact ⟨rfl, rfl⟩
theorem inRange_no (n : Int) (h : ¬ (1 ≤ n ∧ n ≤ 255)) (w : World) :
    Calls Try.prog 93 #[.int .i64 n] w fun e w' => e = .returned (.bool false) ∧ w = w' := by
  by_cases h1 : 1 ≤ n
  · have h2 : ¬ n ≤ 255 := fun h2 => h ⟨h1, h2⟩
    clear h
    go_enter Try.func93, Try.ntmps93
    go_wp2
    go_ret
    exact ⟨rfl, rfl⟩
  · clear h
    go_enter Try.func93, Try.ntmps93
    go_wp2
    go_ret
    exact ⟨rfl, rfl⟩
theorem mul_nat {r c z : Nat} (hz : r * c = z) : (r : Int) * (c : Int) = (z : Int) := by rw [← hz]; rfl
theorem Valid_yes (r c n : Nat) (a : Option Addr) (cap : Nat) (h1 : 1 ≤ r) (h2 : r ≤ 255) (h3 : 1 ≤ c) (h4 : c ≤ 255) (hn : n = r * c) (w : World) :
    Calls Try.prog 44 #[.agg #[.int .i64 r, .int .i64 c, .slice a n cap]] w fun e w' => e = .returned (.bool true) ∧ Below w.heap.size w w' := by
  have hz := mul_nat (r := r) (c := c) rfl
  rw [← hn] at hz
  have hb : n ≤ 65025 := by rw [hn]; exact Nat.mul_le_mul h2 h4
  have HN := hid hn
  clear hn
  go_enter Try.func44, Try.ntmps44
  go_wp2_with fail
  refine (inRange_yes r (by omega) (by omega) _).mono ?_
  rintro e w' ⟨rfl, rfl⟩
  go_wp2_with fail
  refine (inRange_yes c (by omega) (by omega) _).mono ?_
  rintro e w' ⟨rfl, rfl⟩
  go_wp2
  go_ret
  exact ⟨rfl, (Below.refl _ _).alloc (Nat.le_refl _) _⟩
theorem Valid_no (r c : Int) (n : Nat) (a : Option Addr) (cap : Nat) (h : ¬ (1 ≤ r ∧ r ≤ 255 ∧ 1 ≤ c ∧ c ≤ 255 ∧ (n : Int) = r * c)) (w : World) :
    Calls Try.prog 44 #[.agg #[.int .i64 r, .int .i64 c, .slice a n cap]] w fun e w' => e = .returned (.bool false) ∧ Below w.heap.size w w' := by
  by_cases h1 : 1 ≤ r ∧ r ≤ 255
  · obtain ⟨h1, h2⟩ := h1
    by_cases h3 : 1 ≤ c ∧ c ≤ 255
    · obtain ⟨h3, h4⟩ := h3
      obtain ⟨r, rfl⟩ : ∃ m : Nat, r = m := ⟨r.toNat, by omega⟩
      obtain ⟨c, rfl⟩ : ∃ m : Nat, c = m := ⟨c.toNat, by omega⟩
      have hb : r * c ≤ 65025 := Nat.mul_le_mul (show r ≤ 255 from by omega) (show c ≤ 255 from by omega)
      have hz := mul_nat (r := r) (c := c) rfl
      have hne : n ≠ r * c := fun e => h ⟨h1, h2, h3, h4, by rw [e]; rfl⟩
      clear h
      generalize r * c = z at *
      have hq : ((n : Int) == (z : Int)) = false := by rw [beq_eq_false_iff_ne]; omega
      go_enter Try.func44, Try.ntmps44
      go_wp2_with fail
      refine (inRange_yes r h1 h2 _).mono ?_
      rintro e w' ⟨rfl, rfl⟩
      go_wp2_with fail
      refine (inRange_yes c h3 h4 _).mono ?_
      rintro e w' ⟨rfl, rfl⟩
      go_wp2
      go_ret
      exact ⟨rfl, (Below.refl _ _).alloc (Nat.le_refl _) _⟩
    · have H := hid h3
      clear h h3
      go_enter Try.func44, Try.ntmps44
      go_wp2_with fail
      refine (inRange_yes _ h1 h2 _).mono ?_
      rintro e w' ⟨rfl, rfl⟩
      go_wp2_with fail
      refine (inRange_no _ H.out _).mono ?_
      rintro e w' ⟨rfl, rfl⟩
      go_wp2
      go_ret
      exact ⟨rfl, (Below.refl _ _).alloc (Nat.le_refl _) _⟩
  · have H := hid h1
    clear h h1
    go_enter Try.func44, Try.ntmps44
    go_wp2_with fail
    refine (inRange_no _ H.out _).mono ?_
    rintro e w' ⟨rfl, rfl⟩
    go_wp2
    go_ret
    exact ⟨rfl, (Below.refl _ _).alloc (Nat.le_refl _) _⟩
theorem zeros_any (r c : Nat) (hr : r ≤ 1000) (hc : c ≤ 1000) (w : World) :
    Calls Try.prog 90 #[.int .i64 r, .int .i64 c] w fun e w' => ∃ ob, w.heap.size ≤ ob ∧ e = .returned (.agg #[.int .i64 r, .int .i64 c, .slice (some ⟨ob, 0, none⟩) (r * c : Nat) (r * c : Nat)]) ∧ Own w' ob (flat r c fun _ _ => 0) ∧ Below w.heap.size w w' := by
  have hb : r * c ≤ 1000000 := Nat.mul_le_mul hr hc
  have hz := mul_nat (r := r) (c := c) rfl
  rw [← flat_zero]
  generalize r * c = z at *
  have hmk := mk_u8 z (by omega)
  go_enter Try.func90, Try.ntmps90
  go_wp2
  refine bodyPost_ret (v := .agg #[.int .i64 r, .int .i64 c, .slice (some ⟨w.heap.size + 1, 0, none⟩) z z]) (by simp [results, Try.results90, go_sem]) rfl ⟨w.heap.size + 1, by omega, rfl, ?_, ?_⟩
  · have h5 := own_zrow (w.alloc (Obj.cells #[.int .i64 r, .int .i64 c, .slice (some ⟨w.heap.size + 1, 0, none⟩) z z] 52)) z
    rw [World.size_alloc] at h5
    exact h5
  · exact ((Below.refl _ _).alloc (Nat.le_refl _) _).alloc (by simp) _
theorem row_any (R C r b o n cap : Nat) (hr : r < R) (hC : 1 ≤ C) (hC2 : C ≤ 1000) (hR : R ≤ 1000) (hn : n = R * C) (hcap : n ≤ cap) (w : World) :
    Calls Try.prog 91 #[.agg #[.int .i64 R, .int .i64 C, .slice (some ⟨b, o, none⟩) n cap], .int .i64 r] w fun e w' => e = .returned (.slice (some ⟨b, o + r * C, none⟩) C (cap - r * C)) ∧ Below w.heap.size w w' := by
  have hle := ix_le (C := C) hr
  rw [← hn] at hle
  have hb : n ≤ 1000000 := by rw [hn]; exact Nat.mul_le_mul hR hC2
  clear hn
  have hz := mul_nat (r := r) (c := C) rfl
  have hz1 : ((r : Int) + 1) * (C : Int) = ((r * C + C : Nat) : Int) := by rw [Int.add_mul, hz]; omega
  generalize r * C = z at *
  have hadd : ¬ cap = z := by omega
  go_enter Try.func91, Try.ntmps91
  go_wp2
  go_ret
  refine ⟨?_, (Below.refl _ _).alloc (Nat.le_refl _) _⟩
  show Ending.returned (.slice (some ⟨b, o + z, none⟩) (z + C - z) (cap - z)) = _
  rw [Nat.add_sub_cancel_left]
end Go.Proofs.Ytfleplbdcpdphaa
