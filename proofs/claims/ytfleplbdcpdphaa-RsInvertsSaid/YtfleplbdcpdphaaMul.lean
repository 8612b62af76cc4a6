/-
  The inner functions of the field over its tables: doubling, mul, inverse, power.
-/
import Derived.Test.YtfleplbdcpdphaaBase
import Derived.Deep.QuietTactic
import Derived.BigQuiet
import Derived.Outline
namespace Go.Proofs.Ytfleplbdcpdphaa
open Go.RowKit

theorem ret_int {k : IntKind} {a b : Int} (h : a = b) : Ending.returned (.int k a) = .returned (.int k b) := by rw [h]

theorem and128 (a : Nat) (ha : a < 256) : bits .and .u8 (a : Int) 128 = ((a &&& 128 : Nat) : Int) := u8_and_nat a 128 ha (by omega)
theorem and128_lo : ∀ a : Nat, a < 256 → a < 128 → a &&& 128 = 0 := by decide +kernel
theorem and128_hi : ∀ a : Nat, a < 256 → 128 ≤ a → a &&& 128 = 128 := by decide +kernel

theorem dbl_lo (a : Nat) (h : a < 128) : ((a : Int) * 2) = (Gf.dbl a : Int) := by unfold Gf.dbl; rw [if_pos h]; omega
theorem dbl_hi (a : Nat) (ha : a < 256) (h : ¬ a < 128) : bits .xor .u8 ((a : Int) * 2 % 256) 29 = (Gf.dbl a : Int) := by
  unfold Gf.dbl
  rw [if_neg h, show ((a : Int) * 2 % 256) = ((2 * a - 256 : Nat) : Int) from by omega]
  exact u8_xor_nat _ 29 (by omega) (by omega)
/-- double -/
theorem double_any (a : Nat) (ha : a < 256) (w : World) :
    Calls Try.prog 115 #[.int .u8 a] w fun e w' => e = .returned (.int .u8 (Gf.dbl a)) ∧ w = w' := by
  by_cases h : a < 128
  · have h1 : (bits .and .u8 (a : Int) 128 != 0) = false := by rw [and128 a ha, and128_lo a ha h]; rfl
    go_enter Try.func115, Try.ntmps115
    go_wp2
    go_ret
    exact ⟨ret_int (dbl_lo a h), rfl⟩
  · have h1 : (bits .and .u8 (a : Int) 128 != 0) = true := by rw [and128 a ha, and128_hi a ha (by omega)]; rfl
    go_enter Try.func115, Try.ntmps115
    go_wp2
    go_ret
    exact ⟨ret_int (dbl_hi a ha h), rfl⟩

theorem mul_pos (b : Nat) (x y : Nat) (hx : x < 256) (hy : y < 256) (x0 : x ≠ 0) (y0 : y ≠ 0) (w : World) (hB : Built w b) :
    Calls Try.prog 94 #[.pointer (some ⟨b, 0, none⟩), .int .u8 x, .int .u8 y] w fun e w' => e = .returned (.int .u8 (Gf.tm x y)) ∧ ∃ n, w' = w.drewN n := by
  have c1 := built_log hB x hx x0
  have c2 := built_log hB y hy y0
  have lx := Gf.L_lt x hx
  have ly := Gf.L_lt y hy
  have c3 := built_exp hB (Gf.L x + Gf.L y) (by omega)
  have e1 : ((x : Int) == 0) = false := by simp; omega
  have e2 : ((y : Int) == 0) = false := by simp; omega
  go_enter Try.func94, Try.ntmps94
  go_wp2
  go_quiet (fail)
  go_wp2
  go_ret
  exact ⟨ret_int (by rw [Gf.tm_log x y hx hy x0 y0]), ⟨nq, rfl⟩⟩

/-- mul -/
theorem mul_any (b : Nat) (x y : Nat) (hx : x < 256) (hy : y < 256) (w : World) (hB : Built w b) :
    Calls Try.prog 94 #[.pointer (some ⟨b, 0, none⟩), .int .u8 x, .int .u8 y] w fun e w' => e = .returned (.int .u8 (Gf.tm x y)) ∧ ∃ n, w' = w.drewN n := by
  by_cases x0 : x = 0
  · subst x0
    rw [Gf.tm_zero_left]
    have e1 : (((0 : Nat) : Int) == 0) = true := rfl
    go_enter Try.func94, Try.ntmps94
    go_wp2
    go_ret
    exact ⟨rfl, ⟨0, rfl⟩⟩
  · by_cases y0 : y = 0
    · subst y0
      rw [Gf.tm_zero_right]
      have e1 : ((x : Int) == 0) = false := by simp; omega
      have e2 : (((0 : Nat) : Int) == 0) = true := rfl
      go_enter Try.func94, Try.ntmps94
      go_wp2
      go_ret
      exact ⟨rfl, ⟨0, rfl⟩⟩
    · exact mul_pos b x y hx hy x0 y0 w hB

/-- inverse -/
theorem inverse_any (b : Nat) (x : Nat) (hx : x < 256) (x0 : x ≠ 0) (w : World) (hB : Built w b) :
    Calls Try.prog 95 #[.pointer (some ⟨b, 0, none⟩), .int .u8 x] w fun e w' => e = .returned (.int .u8 (Gf.iv x)) ∧ ∃ n, w' = w.drewN n := by
  have c1 := built_log hB x hx x0
  have lx := Gf.L_lt x hx
  have c3 := built_exp hB (255 - Gf.L x) (by omega)
  go_enter Try.func95, Try.ntmps95
  go_wp2
  go_quiet (fail)
  go_wp2
  go_ret
  exact ⟨ret_int rfl, ⟨nq, rfl⟩⟩

/-- power, at a positive exponent and an element other than 0 -/
theorem power_pos (b : Nat) (x n : Nat) (hx : x < 256) (x0 : x ≠ 0) (hn : 0 < n) (w : World) (hB : Built w b) :
    Calls Try.prog 96 #[.pointer (some ⟨b, 0, none⟩), .int .u8 x, .int .i64 n] w fun e' w' => e' = .returned (.int .u8 (Gf.pw x n)) ∧ ∃ n, w' = w.drewN n := by
  have c1 := built_log hB x hx x0
  have lx := Gf.L_lt x hx
  have hfin : Gf.E (Gf.L x * (n % 255) % 255) = Gf.pw x n := by
    rw [Gf.E_mod, ← Gf.pw_log x hx x0, Gf.pw_mod x hx x0]
  obtain ⟨m, hm⟩ : ∃ m : Nat, n % 255 = m := ⟨_, rfl⟩
  have hm2 : m < 255 := by omega
  have t1 : (n : Int).tmod 255 = (m : Int) := by rw [Int.tmod_eq_emod_of_nonneg (by omega)]; omega
  have t2 : IntKind.i64.wrap (m : Int) = (m : Int) := by rw [IntKind.wrap_i64]; omega
  rw [hm] at hfin
  clear hm
  have hle : Gf.L x * m ≤ 254 * 254 := Nat.mul_le_mul (by omega) (by omega)
  obtain ⟨q, hq⟩ : ∃ q : Nat, Gf.L x * m = q := ⟨_, rfl⟩
  rw [hq] at hfin hle
  have t3 : (Gf.L x : Int) * (m : Int) = (q : Int) := by rw [← hq]; rfl
  clear hq
  have t4 : IntKind.i64.wrap (q : Int) = (q : Int) := by rw [IntKind.wrap_i64]; omega
  obtain ⟨r, hr⟩ : ∃ r : Nat, q % 255 = r := ⟨_, rfl⟩
  rw [hr] at hfin
  have hr2 : r < 255 := by omega
  have t5 : (q : Int).tmod 255 = (r : Int) := by rw [Int.tmod_eq_emod_of_nonneg (by omega)]; omega
  have t6 : IntKind.i64.wrap (r : Int) = (r : Int) := by rw [IntKind.wrap_i64]; omega
  clear hr hle
  have c3 := built_exp hB r (by omega)
  have e1 : ((x : Int) == 0) = false := by simp; omega
  have e2 : decide ((n : Int) ≤ 0) = false := by simp; omega
  have HF := hid hfin
  clear hfin
  go_enter Try.func96, Try.ntmps96
  go_wp2
  go_quiet (fail)
  go_wp2
  go_ret
  exact ⟨ret_int (by rw [← HF.out]), ⟨nq, rfl⟩⟩
/-- power -/
theorem power_any (b : Nat) (x : Nat) (e : Int) (hx : x < 256) (w : World) (hB : Built w b) :
    Calls Try.prog 96 #[.pointer (some ⟨b, 0, none⟩), .int .u8 x, .int .i64 e] w fun e' w' => e' = .returned (.int .u8 (Gf.pw x e.toNat)) ∧ ∃ n, w' = w.drewN n := by
  by_cases he : e ≤ 0
  · have h0 : e.toNat = 0 := by omega
    rw [h0]
    clear h0
    go_enter Try.func96, Try.ntmps96
    go_wp2
    go_ret
    exact ⟨rfl, ⟨0, rfl⟩⟩
  · obtain ⟨n, rfl⟩ : ∃ n : Nat, e = n := ⟨e.toNat, by omega⟩
    by_cases x0 : x = 0
    · subst x0
      rw [Gf.pw_zero_base _ (by omega)]
      have e1 : (((0 : Nat) : Int) == 0) = true := rfl
      go_enter Try.func96, Try.ntmps96
      go_wp2
      go_ret
      exact ⟨rfl, ⟨0, rfl⟩⟩
    · exact power_pos b x n hx x0 (by omega) w hB
end Go.Proofs.Ytfleplbdcpdphaa
