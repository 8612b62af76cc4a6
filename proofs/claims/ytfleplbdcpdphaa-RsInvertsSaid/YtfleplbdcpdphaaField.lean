/-
  The exported functions of the field: NewField, Add, Mul, Inv, Div, Pow; and the reference's Times, Over, Power.
-/
import Derived.Test.YtfleplbdcpdphaaOnce
import Derived.Deep.RegionWith
namespace Go.Proofs.Ytfleplbdcpdphaa
open Go.RowKit

theorem zero98 : Try.zeroCells98 = fcells 0 0 (tabTo 0) := by kernel_rfl
/-- NewField -/
theorem newField_any (w : World) :
    Calls Try.prog 30 #[] w fun e w' => e = .returned (.pointer (some ⟨w.heap.size, 0, none⟩)) ∧ Fresh w' w.heap.size ∧ Below w.heap.size w w' := by
  go_enter Try.func30, Try.ntmps30
  go_wp2
  go_ret
  exact ⟨rfl, by rw [zero98]; exact heap_new _ _, (Below.refl _ _).alloc (Nat.le_refl _) _⟩
/-- Add -/
theorem add_any (x y : Nat) (hx : x < 256) (hy : y < 256) (w : World) :
    Calls Try.prog 42 #[.int .u8 x, .int .u8 y] w fun e w' => e = .returned (.int .u8 (x ^^^ y : Nat)) ∧ w = w' := by
  have h := u8_xor_nat x y hx hy
  have H := hid h
  clear h
  go_enter Try.func42, Try.ntmps42
  go_wp2
  go_ret
  exact ⟨ret_int H.out, rfl⟩
/-- Mul -/
theorem Mul_any (b x y : Nat) (hx : x < 256) (hy : y < 256) (w : World) (h : Fld w b) :
    Calls Try.prog 47 #[.pointer (some ⟨b, 0, none⟩), .int .u8 x, .int .u8 y] w fun e w' => e = .returned (.int .u8 (Gf.tm x y)) ∧ Built w' b ∧ Kept b w w' := by
  go_enter Try.func47, Try.ntmps47
  go_wp2_with (first | (go_at_call 75; refine (build_any b _ h).mono ?_; rintro e w' ⟨rfl, hb, hk⟩) | (go_at_call 94; refine (mul_any b x y hx hy _ hb).mono ?_; rintro e w' ⟨rfl, n, rfl⟩))
  go_ret
  exact ⟨rfl, hb, hk.drewN n⟩
/-- Div by an element other than 0 -/
theorem Div_any (b x y : Nat) (hx : x < 256) (hy : y < 256) (y0 : y ≠ 0) (w : World) (h : Fld w b) :
    Calls Try.prog 46 #[.pointer (some ⟨b, 0, none⟩), .int .u8 x, .int .u8 y] w fun e w' => e = .returned (.tuple #[.int .u8 (Gf.tm x (Gf.iv y)), .int .i64 0]) ∧ Built w' b ∧ Kept b w w' := by
  have e2 : ((y : Int) == 0) = false := by simp; omega
  have i1 := Gf.iv_lt y
  go_enter Try.func46, Try.ntmps46
  go_wp2_with (first | (go_at_call 75; refine (build_any b _ h).mono ?_; rintro e w' ⟨rfl, hb, hk⟩) | (go_at_call 95; refine (inverse_any b y hy y0 _ hb).mono ?_; rintro e w' ⟨rfl, n, rfl⟩) | (go_at_call 94; refine (mul_any b x _ hx i1 _ (hb.drewN n)).mono ?_; rintro e w' ⟨rfl, m, rfl⟩))
  go_ret2
  exact ⟨rfl, hb, hk.drewN (n + m)⟩
/-- Div by 0 -/
theorem Div_zero (b x : Nat) (w : World) :
    Calls Try.prog 46 #[.pointer (some ⟨b, 0, none⟩), .int .u8 x, .int .u8 (0 : Nat)] w fun e w' => e = .returned (.tuple #[.int .u8 0, .int .i64 2]) ∧ w = w' := by
  have e2 : (((0 : Nat) : Int) == 0) = true := rfl
  go_enter Try.func46, Try.ntmps46
  go_wp2
  go_ret2
  exact ⟨rfl, rfl⟩
/-- Inv -/
theorem Inv_any (b y : Nat) (hy : y < 256) (y0 : y ≠ 0) (w : World) (h : Fld w b) :
    Calls Try.prog 45 #[.pointer (some ⟨b, 0, none⟩), .int .u8 y] w fun e w' => e = .returned (.tuple #[.int .u8 (Gf.iv y), .int .i64 0]) ∧ Built w' b ∧ Kept b w w' := by
  have e := Gf.tm_one (Gf.iv y) (Gf.iv_lt y)
  have H := hid e
  clear e
  go_enter Try.func45, Try.ntmps45
  go_wp2_with (go_at_call 46; refine (Div_any b 1 y (by omega) hy y0 _ h).mono ?_; rintro e w' ⟨rfl, hb, hk⟩; rw [H.out])
  go_ret2
  exact ⟨rfl, hb, hk⟩
theorem Inv_zero (b : Nat) (w : World) :
    Calls Try.prog 45 #[.pointer (some ⟨b, 0, none⟩), .int .u8 (0 : Nat)] w fun e w' => e = .returned (.tuple #[.int .u8 0, .int .i64 2]) ∧ w = w' := by
  go_enter Try.func45, Try.ntmps45
  go_wp2_with (go_at_call 46; refine (Div_zero b 1 _).mono ?_; rintro e w' ⟨rfl, rfl⟩)
  go_ret2
  exact ⟨rfl, rfl⟩
/-- Pow -/
theorem Pow_any (b x : Nat) (n : Int) (hx : x < 256) (w : World) (h : Fld w b) :
    Calls Try.prog 50 #[.pointer (some ⟨b, 0, none⟩), .int .u8 x, .int .i64 n] w fun e w' => e = .returned (.int .u8 (Gf.pw x n.toNat)) ∧ Built w' b ∧ Kept b w w' := by
  go_enter Try.func50, Try.ntmps50
  go_wp2_with (first | (go_at_call 75; refine (build_any b _ h).mono ?_; rintro e w' ⟨rfl, hb, hk⟩) | (go_at_call 96; refine (power_any b x n hx _ hb).mono ?_; rintro e w' ⟨rfl, m, rfl⟩))
  go_ret
  exact ⟨rfl, hb, hk.drewN m⟩
end Go.Proofs.Ytfleplbdcpdphaa
