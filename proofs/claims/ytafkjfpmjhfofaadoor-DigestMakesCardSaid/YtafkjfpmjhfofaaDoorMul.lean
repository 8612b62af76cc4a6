/-
  The inner functions of the field over its tables: doubling, mul, inverse, power.
-/
import Derived.Test.YtafkjfpmjhfofaaDoorBase
import Derived.Deep.QuietTactic
import Derived.BigQuiet
import Derived.Outline
namespace Go.Proofs.YtafkjfpmjhfofaaDoor
open Go.RowKit

theorem ret_int {k : IntKind} {a b : Int} (h : a = b) : Ending.returned (.int k a) = .returned (.int k b) := by rw [h]

theorem and128 (a : Nat) (ha : a < 256) : bits .and .u8 (a : Int) 128 = ((a &&& 128 : Nat) : Int) := u8_and_nat a 128 ha (by omega)
theorem and128_lo : ∀ a : Nat, a < 256 → a < 128 → a &&& 128 = 0 := by decide +kernel
theorem and128_hi : ∀ a : Nat, a < 256 → 128 ≤ a → a &&& 128 = 128 := by decide +kernel

theorem dbl_lo (a : Nat) (h : a < 128) : ((a : Int) * 2) = (Gf.dbl a : Int) := by unfold Gf.dbl; rw [if_pos h]; omega
theorem dbl_hi (a : Nat) (ha : a < 256) (h : ¬ a < 128) : bits .xor .u8 ((a : Int) * 2 % 256) 29 = (Gf.dbl a : Int) := by
  unfold Gf.dbl
  rw [if_neg h, show ((a : Int) * 2 % 256) = ((2 * a - 256 : Nat) : Int) from by omega]
  exact u8_xor_nat _ 29 (by omega) (by omega)
/-- double -/
theorem double_any (a : Nat) (ha : a < 256) (w : World) :
    Calls Tryd.prog 97 #[.int .u8 a] w fun e w' => e = .returned (.int .u8 (Gf.dbl a)) ∧ w = w' := by
  by_cases h : a < 128
  · have h1 : (bits .and .u8 (a : Int) 128 != 0) = false := by rw [and128 a ha, and128_lo a ha h]; rfl
    go_enter Tryd.func97, Tryd.ntmps97
    go_wp2
    go_ret
    exact ⟨ret_int (dbl_lo a h), rfl⟩
  · have h1 : (bits .and .u8 (a : Int) 128 != 0) = true := by rw [and128 a ha, and128_hi a ha (by omega)]; rfl
    go_enter Tryd.func97, Tryd.ntmps97
    go_wp2
    go_ret
    exact ⟨ret_int (dbl_hi a ha h), rfl⟩

theorem mul_pos (b : Nat) (x y : Nat) (hx : x < 256) (hy : y < 256) (x0 : x ≠ 0) (y0 : y ≠ 0) (w : World) (hB : Built w b) :
    Calls Tryd.prog 98 #[.pointer (some ⟨b, 0, none⟩), .int .u8 x, .int .u8 y] w fun e w' => e = .returned (.int .u8 (Gf.tm x y)) ∧ ∃ n, w' = w.drewN n := by
  have c1 := built_log hB x hx x0
  have c2 := built_log hB y hy y0
  have lx := Gf.L_lt x hx
  have ly := Gf.L_lt y hy
  have c3 := built_exp hB (Gf.L x + Gf.L y) (by omega)
  have e1 : ((x : Int) == 0) = false := by simp; omega
  have e2 : ((y : Int) == 0) = false := by simp; omega
  go_enter Tryd.func98, Tryd.ntmps98
  go_wp2
  go_quiet (fail)
  go_wp2
  go_ret
  exact ⟨ret_int (by rw [Gf.tm_log x y hx hy x0 y0]), ⟨nq, rfl⟩⟩

/-- mul -/
theorem mul_any (b : Nat) (x y : Nat) (hx : x < 256) (hy : y < 256) (w : World) (hB : Built w b) :
    Calls Tryd.prog 98 #[.pointer (some ⟨b, 0, none⟩), .int .u8 x, .int .u8 y] w fun e w' => e = .returned (.int .u8 (Gf.tm x y)) ∧ ∃ n, w' = w.drewN n := by
  by_cases x0 : x = 0
  · subst x0
    rw [Gf.tm_zero_left]
    have e1 : (((0 : Nat) : Int) == 0) = true := rfl
    go_enter Tryd.func98, Tryd.ntmps98
    go_wp2
    go_ret
    exact ⟨rfl, ⟨0, rfl⟩⟩
  · by_cases y0 : y = 0
    · subst y0
      rw [Gf.tm_zero_right]
      have e1 : ((x : Int) == 0) = false := by simp; omega
      have e2 : (((0 : Nat) : Int) == 0) = true := rfl
      go_enter Tryd.func98, Tryd.ntmps98
      go_wp2
      go_ret
      exact ⟨rfl, ⟨0, rfl⟩⟩
    · exact mul_pos b x y hx hy x0 y0 w hB

/-- inverse -/
theorem inverse_any (b : Nat) (x : Nat) (hx : x < 256) (x0 : x ≠ 0) (w : World) (hB : Built w b) :
    Calls Tryd.prog 99 #[.pointer (some ⟨b, 0, none⟩), .int .u8 x] w fun e w' => e = .returned (.int .u8 (Gf.iv x)) ∧ ∃ n, w' = w.drewN n := by
  have c1 := built_log hB x hx x0
  have lx := Gf.L_lt x hx
  have c3 := built_exp hB (255 - Gf.L x) (by omega)
  go_enter Tryd.func99, Tryd.ntmps99
  go_wp2
  go_quiet (fail)
  go_wp2
  go_ret
  exact ⟨ret_int rfl, ⟨nq, rfl⟩⟩

end Go.Proofs.YtafkjfpmjhfofaaDoor
