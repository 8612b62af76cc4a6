/-
  CRC-32C as a map that keeps sums: the sum of three messages; a change within four bytes.
-/
import Derived.Test.YthcgdpedjjhjpaaDoorCrc
namespace Go.Proofs.YthcgdpedjjhjpaaDoor
open Go Go.RowKit
set_option linter.unusedVariables false

theorem xor_odd (x y : Nat) : ((x ^^^ y) % 2 = 1) ↔ ¬ ((x % 2 = 1) ↔ (y % 2 = 1)) := by
  have h := Nat.testBit_xor x y 0
  rw [Nat.testBit_zero, Nat.testBit_zero, Nat.testBit_zero] at h
  by_cases hx : x % 2 = 1 <;> by_cases hy : y % 2 = 1 <;> simp_all
theorem xor_eq_of_zero {a b : Nat} (h : a ^^^ b = 0) : a = b := by
  apply Nat.eq_of_testBit_eq
  intro i
  have h1 := congrArg (fun z : Nat => z.testBit i) h
  simp only [Nat.testBit_xor, Nat.zero_testBit] at h1
  cases ha : a.testBit i <;> cases hb : b.testBit i <;> simp_all
theorem xor_swap (x y p : Nat) : x ^^^ y = (x ^^^ p) ^^^ (y ^^^ p) := by
  apply Nat.eq_of_testBit_eq
  intro i
  simp only [Nat.testBit_xor]
  cases x.testBit i <;> cases y.testBit i <;> cases p.testBit i <;> rfl
theorem xor_right (x y p : Nat) : (x ^^^ y) ^^^ p = x ^^^ (y ^^^ p) := by
  apply Nat.eq_of_testBit_eq
  intro i
  simp only [Nat.testBit_xor]
  cases x.testBit i <;> cases y.testBit i <;> cases p.testBit i <;> rfl
theorem xor_left (x y p : Nat) : (x ^^^ y) ^^^ p = (x ^^^ p) ^^^ y := by
  apply Nat.eq_of_testBit_eq
  intro i
  simp only [Nat.testBit_xor]
  cases x.testBit i <;> cases y.testBit i <;> cases p.testBit i <;> rfl
theorem xor_four (x y a b : Nat) : (x ^^^ a) ^^^ (y ^^^ b) = (x ^^^ y) ^^^ (a ^^^ b) := by
  apply Nat.eq_of_testBit_eq
  intro i
  simp only [Nat.testBit_xor]
  cases x.testBit i <;> cases y.testBit i <;> cases a.testBit i <;> cases b.testBit i <;> rfl
theorem crcBit_xor (x y : Nat) : crcBit (x ^^^ y) = crcBit x ^^^ crcBit y := by
  have hd : (x ^^^ y) / 2 = x / 2 ^^^ y / 2 := Nat.xor_div_two
  have ho := xor_odd x y
  unfold crcBit
  by_cases hx : x % 2 = 1
  · by_cases hy : y % 2 = 1
    · rw [if_neg (by rw [ho]; simp [hx, hy]), if_pos hx, if_pos hy, hd]
      exact xor_swap _ _ _
    · rw [if_pos (by rw [ho]; simp [hx, hy]), if_pos hx, if_neg hy, hd]
      exact xor_left _ _ _
  · by_cases hy : y % 2 = 1
    · rw [if_pos (by rw [ho]; simp [hx, hy]), if_neg hx, if_pos hy, hd]
      exact xor_right _ _ _
    · rw [if_neg (by rw [ho]; simp [hx, hy]), if_neg hx, if_neg hy, hd]
theorem crcBits_xor (x y : Nat) : ∀ j, crcBits (x ^^^ y) j = crcBits x j ^^^ crcBits y j
  | 0 => rfl
  | j + 1 => by
    show crcBit _ = crcBit _ ^^^ crcBit _
    rw [crcBits_xor x y j, crcBit_xor]
theorem crcBit_even (z : Nat) : crcBit (2 * z) = z := by
  unfold crcBit
  rw [if_neg (by omega)]
  omega
theorem crcBits_shift (m : Nat) : crcBits (256 * m) 8 = m := by
  rw [show 256 * m = 2 * (2 * (2 * (2 * (2 * (2 * (2 * (2 * m))))))) from by omega]
  simp only [crcBits, crcBit_even]
theorem crcBit_ne {z : Nat} (h0 : z ≠ 0) (h : z < 4294967296) : crcBit z ≠ 0 := by
  unfold crcBit
  split
  · intro e
    have := xor_eq_of_zero e
    omega
  · omega
theorem crcBits_ne {z : Nat} (h0 : z ≠ 0) (h : z < 4294967296) : ∀ j, crcBits z j ≠ 0
  | 0 => h0
  | j + 1 => crcBit_ne (crcBits_ne h0 h j) (crcBits_lt h j)
/-- a byte that comes in behind eight bits might as well have come in ahead of them -/
theorem crc_ahead (x m : Nat) : crcBits x 8 ^^^ m = crcBits (x ^^^ 256 * m) 8 := by rw [crcBits_xor, crcBits_shift]

theorem xor_six (A B C a b c : Nat) : ((A ^^^ B) ^^^ C) ^^^ ((a ^^^ b) ^^^ c) = ((A ^^^ a) ^^^ (B ^^^ b)) ^^^ (C ^^^ c) := by
  rw [xor_four (A ^^^ B) (a ^^^ b) C c, xor_four A a B b]
theorem crcTo_affine (a b c s : List Nat) (hs : ∀ i, s.getD i 0 = (a.getD i 0 ^^^ b.getD i 0) ^^^ c.getD i 0) : ∀ i, crcTo s i = (crcTo a i ^^^ crcTo b i) ^^^ crcTo c i
  | 0 => (by decide : (4294967295 : Nat) = (4294967295 ^^^ 4294967295) ^^^ 4294967295)
  | i + 1 => by
    show crcBits (crcTo s i ^^^ s.getD i 0) 8 = (crcBits (crcTo a i ^^^ a.getD i 0) 8 ^^^ crcBits (crcTo b i ^^^ b.getD i 0) 8) ^^^ crcBits (crcTo c i ^^^ c.getD i 0) 8
    rw [crcTo_affine a b c s hs i, hs i, xor_six, crcBits_xor, crcBits_xor]
theorem crc_affine (a b c s : List Nat) (n : Nat) (ha : a.length = n) (hb : b.length = n) (hc : c.length = n) (hsl : s.length = n) (hs : ∀ i, s.getD i 0 = (a.getD i 0 ^^^ b.getD i 0) ^^^ c.getD i 0) : crc s = (crc a ^^^ crc b) ^^^ crc c := by
  unfold crc
  rw [ha, hb, hc, hsl, crcTo_affine a b c s hs n]
  generalize crcTo a n = x
  generalize crcTo b n = y
  generalize crcTo c n = z
  apply Nat.eq_of_testBit_eq
  intro i
  simp only [Nat.testBit_xor]
  cases x.testBit i <;> cases y.testBit i <;> cases z.testBit i <;> cases (4294967295 : Nat).testBit i <;> rfl

theorem xor_bytes_ne {a b c d : Nat} (ha : a < 256) (hb : b < 256) (hc : c < 256) (_hd : d < 256) (h : ¬ (a = 0 ∧ b = 0 ∧ c = 0 ∧ d = 0)) : a ^^^ 256 * (b ^^^ 256 * (c ^^^ 256 * d)) ≠ 0 := by
  intro e
  have e1 := xor_eq_of_zero e
  have a0 : a = 0 := by omega
  have e2 : b ^^^ 256 * (c ^^^ 256 * d) = 0 := by omega
  have e3 := xor_eq_of_zero e2
  have b0 : b = 0 := by omega
  have e4 : c ^^^ 256 * d = 0 := by omega
  have e5 := xor_eq_of_zero e4
  exact h ⟨a0, b0, by omega, by omega⟩
theorem mul256_xor (x y : Nat) : 256 * (x ^^^ y) = 256 * x ^^^ 256 * y := by
  have h : ∀ z : Nat, 256 * z = z <<< 8 := fun z => by rw [Nat.shiftLeft_eq]; omega
  rw [h, h, h, Nat.shiftLeft_xor_distrib]
theorem xor_bytes_lt {a b c d : Nat} (ha : a < 256) (hb : b < 256) (hc : c < 256) (hd : d < 256) : a ^^^ 256 * (b ^^^ 256 * (c ^^^ 256 * d)) < 4294967296 := by
  have h1 : c ^^^ 256 * d < 2 ^ 16 := Nat.xor_lt_two_pow (by omega) (by omega)
  have h2 : b ^^^ 256 * (c ^^^ 256 * d) < 2 ^ 24 := Nat.xor_lt_two_pow (by omega) (by omega)
  have h3 : a ^^^ 256 * (b ^^^ 256 * (c ^^^ 256 * d)) < 2 ^ 32 := Nat.xor_lt_two_pow (by omega) (by omega)
  omega
theorem crc_four (a b c d : Nat) : crcBits (crcBits (crcBits (crcBits a 8 ^^^ b) 8 ^^^ c) 8 ^^^ d) 8 = crcBits (crcBits (crcBits (crcBits (a ^^^ 256 * (b ^^^ 256 * (c ^^^ 256 * d))) 8) 8) 8) 8 := by
  rw [crc_ahead a b, crc_ahead (crcBits (a ^^^ 256 * b) 8) c, crc_ahead (a ^^^ 256 * b) (256 * c)]
  rw [crc_ahead _ d, crc_ahead _ (256 * d), crc_ahead _ (256 * (256 * d))]
  rw [mul256_xor b, mul256_xor c, mul256_xor (256 * c)]
  congr 4
  rw [xor_right, xor_right]

theorem crc_dif (b c : List Nat) (i : Nat) : crcTo b (i + 1) ^^^ crcTo c (i + 1) = crcBits ((crcTo b i ^^^ crcTo c i) ^^^ (b.getD i 0 ^^^ c.getD i 0)) 8 := by
  show crcBits (crcTo b i ^^^ b.getD i 0) 8 ^^^ crcBits (crcTo c i ^^^ c.getD i 0) 8 = _
  rw [← crcBits_xor, xor_four]
theorem crc_burst (b c : List Nat) (n p : Nat) (hb : b.length = n) (hc : c.length = n) (hp : p + 4 ≤ n) (M : Nat → Nat) (hM : ∀ j, M j < 256)
    (hd : ∀ i, b.getD i 0 ^^^ c.getD i 0 = if p ≤ i ∧ i < p + 4 then M (i - p) else 0) (hne : ¬ (M 0 = 0 ∧ M 1 = 0 ∧ M 2 = 0 ∧ M 3 = 0)) : crc b ≠ crc c := by
  have z : ∀ i, i ≤ p → crcTo b i ^^^ crcTo c i = 0 := by
    intro i
    induction i with
    | zero => intro _; exact Nat.xor_self _
    | succ i ih =>
      intro h
      rw [crc_dif, ih (by omega), hd i, if_neg (by omega)]
      rfl
  have e0 := z p (Nat.le_refl _)
  have e1 : crcTo b (p + 1) ^^^ crcTo c (p + 1) = crcBits (M 0) 8 := by
    rw [crc_dif, e0, hd p, if_pos (by omega), Nat.sub_self, Nat.zero_xor]
  have e2 : crcTo b (p + 2) ^^^ crcTo c (p + 2) = crcBits (crcBits (M 0) 8 ^^^ M 1) 8 := by
    rw [crc_dif, e1, hd (p + 1), if_pos (by omega), Nat.add_sub_cancel_left]
  have e3 : crcTo b (p + 3) ^^^ crcTo c (p + 3) = crcBits (crcBits (crcBits (M 0) 8 ^^^ M 1) 8 ^^^ M 2) 8 := by
    rw [crc_dif, e2, hd (p + 2), if_pos (by omega), Nat.add_sub_cancel_left]
  have e4 : crcTo b (p + 4) ^^^ crcTo c (p + 4) = crcBits (crcBits (crcBits (crcBits (M 0) 8 ^^^ M 1) 8 ^^^ M 2) 8 ^^^ M 3) 8 := by
    rw [crc_dif, e3, hd (p + 3), if_pos (by omega), Nat.add_sub_cancel_left]
  rw [crc_four] at e4
  have hlt := xor_bytes_lt (hM 0) (hM 1) (hM 2) (hM 3)
  have hn0 := xor_bytes_ne (hM 0) (hM 1) (hM 2) (hM 3) hne
  generalize M 0 ^^^ 256 * (M 1 ^^^ 256 * (M 2 ^^^ 256 * M 3)) = q at *
  have l1 := crcBits_lt hlt 8
  have n1 := crcBits_ne hn0 hlt 8
  have l2 := crcBits_lt l1 8
  have n2 := crcBits_ne n1 l1 8
  have l3 := crcBits_lt l2 8
  have n3 := crcBits_ne n2 l2 8
  have l4 := crcBits_lt l3 8
  have n4 := crcBits_ne n3 l3 8
  rw [← e4] at l4 n4
  have rest : ∀ k, crcTo b (p + 4 + k) ^^^ crcTo c (p + 4 + k) ≠ 0 ∧ crcTo b (p + 4 + k) ^^^ crcTo c (p + 4 + k) < 4294967296 := by
    intro k
    induction k with
    | zero => exact ⟨n4, l4⟩
    | succ k ih =>
      rw [← Nat.add_assoc, crc_dif, hd, if_neg (by omega), Nat.xor_zero]
      exact ⟨crcBits_ne ih.1 ih.2 8, crcBits_lt ih.2 8⟩
  intro e
  have hr := (rest (n - (p + 4))).1
  rw [show p + 4 + (n - (p + 4)) = n from by omega] at hr
  apply hr
  unfold crc at e
  rw [hb, hc] at e
  generalize crcTo b n = x at *
  generalize crcTo c n = y at *
  have h9 : x = y := by
    apply Nat.eq_of_testBit_eq
    intro i
    have h1 := congrArg (fun z : Nat => z.testBit i) e
    simp only [Nat.testBit_xor] at h1
    cases ha : x.testBit i <;> cases hb : y.testBit i <;> cases hc : (4294967295 : Nat).testBit i <;> simp_all
  rw [h9, Nat.xor_self]
end Go.Proofs.YthcgdpedjjhjpaaDoor
