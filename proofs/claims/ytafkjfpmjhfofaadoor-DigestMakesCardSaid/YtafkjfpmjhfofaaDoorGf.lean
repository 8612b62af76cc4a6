/-
  Plain arithmetic of the field GF(256) modulo 11D on natural numbers below 256: doubling, powers of 2, logarithms, products bit by bit, inverses, powers. Nothing of the program is named here.
-/
namespace Go.Proofs.YtafkjfpmjhfofaaDoor.Gf
/-- doubling in GF(256) modulo 11D, on natural numbers below 256 -/
def dbl (a : Nat) : Nat := if a < 128 then 2 * a else (2 * a - 256) ^^^ 29
def E : Nat → Nat | 0 => 1 | k + 1 => dbl (E k)
/-- one round of the product bit by bit -/
def tmStep (b i : Nat) (s : Nat × Nat) : Nat × Nat := (if b.testBit i then s.1 ^^^ s.2 else s.1, dbl s.2)
def tmTo (a b : Nat) : Nat → Nat × Nat | 0 => (0, a) | i + 1 => tmStep b i (tmTo a b i)
def tm (a b : Nat) : Nat := (tmTo a b 8).1

theorem dbl_lt (a : Nat) (h : a < 256) : dbl a < 256 := by
  revert a; decide +kernel
set_option maxRecDepth 100000 in
theorem dbl_xor : ∀ a, a < 256 → ∀ b, b < 256 → dbl (a ^^^ b) = dbl a ^^^ dbl b := by
  decide +kernel
theorem tm_one : ∀ b, b < 256 → tm 1 b = b := by decide +kernel
theorem E_255 : E 255 = 1 := by decide +kernel
theorem E_lt : ∀ k, E k < 256 | 0 => by decide | k + 1 => dbl_lt _ (E_lt k)
theorem dbl_pos : ∀ a, a < 256 → a ≠ 0 → dbl a ≠ 0 := by decide +kernel
theorem E_pos : ∀ k, E k ≠ 0 | 0 => by decide | k + 1 => dbl_pos _ (E_lt k) (E_pos k)
theorem E_per (k : Nat) : E (k + 255) = E k := by
  induction k with
  | zero => exact E_255
  | succ k ih => rw [show k + 1 + 255 = (k + 255) + 1 from by omega]; show dbl (E (k + 255)) = dbl (E k); rw [ih]
theorem E_perm (q : Nat) : ∀ k, E (k + 255 * q) = E k := by
  induction q with
  | zero => intro k; rfl
  | succ q ih => intro k; rw [show k + 255 * (q + 1) = (k + 255 * q) + 255 from by omega, E_per, ih]
theorem E_mod (k : Nat) : E (k % 255) = E k := by
  have := E_perm (k / 255) (k % 255)
  rw [show k % 255 + 255 * (k / 255) = k from by omega] at this
  exact this.symm
def lgTab : List Nat := [0, 0, 1, 25, 2, 50, 26, 198, 3, 223, 51, 238, 27, 104, 199, 75, 4, 100, 224, 14, 52, 141, 239, 129, 28, 193, 105, 248, 200, 8, 76, 113, 5, 138, 101, 47, 225, 36, 15, 33, 53, 147, 142, 218, 240, 18, 130, 69, 29, 181, 194, 125, 106, 39, 249, 185, 201, 154, 9, 120, 77, 228, 114, 166, 6, 191, 139, 98, 102, 221, 48, 253, 226, 152, 37, 179, 16, 145, 34, 136, 54, 208, 148, 206, 143, 150, 219, 189, 241, 210, 19, 92, 131, 56, 70, 64, 30, 66, 182, 163, 195, 72, 126, 110, 107, 58, 40, 84, 250, 133, 186, 61, 202, 94, 155, 159, 10, 21, 121, 43, 78, 212, 229, 172, 115, 243, 167, 87, 7, 112, 192, 247, 140, 128, 99, 13, 103, 74, 222, 237, 49, 197, 254, 24, 227, 165, 153, 119, 38, 184, 180, 124, 17, 68, 146, 217, 35, 32, 137, 46, 55, 63, 209, 91, 149, 188, 207, 205, 144, 135, 151, 178, 220, 252, 190, 97, 242, 86, 211, 171, 20, 42, 93, 158, 132, 60, 57, 83, 71, 109, 65, 162, 31, 45, 67, 216, 183, 123, 164, 118, 196, 23, 73, 236, 127, 12, 111, 246, 108, 161, 59, 82, 41, 157, 85, 170, 251, 96, 134, 177, 187, 204, 62, 90, 203, 89, 95, 176, 156, 169, 160, 81, 11, 245, 22, 235, 122, 117, 44, 215, 79, 174, 213, 233, 230, 231, 173, 232, 116, 214, 244, 234, 168, 80, 88, 175]
/-- the exponent of an element other than 0 -/
def L (a : Nat) : Nat := lgTab.getD a 0
theorem E_L : ∀ a, a < 256 → a ≠ 0 → E (L a) = a := by decide +kernel
theorem L_lt : ∀ a, a < 256 → L a < 255 := by decide +kernel
theorem L_E : ∀ i, i < 255 → L (E i) = i := by decide +kernel
theorem L_zero : L 0 = 0 := by decide +kernel
theorem L_ge (a : Nat) (h : 256 ≤ a) : L a = 0 := by
  unfold L; rw [List.getD_eq_getElem?_getD, List.getElem?_eq_none (by rw [show lgTab.length = 256 from by decide +kernel]; exact h)]; rfl
theorem E_inj {i j : Nat} (hi : i < 255) (hj : j < 255) (h : E i = E j) : i = j := by
  rw [← L_E i hi, ← L_E j hj, h]

theorem xor_lt {a b : Nat} (ha : a < 256) (hb : b < 256) : a ^^^ b < 256 := Nat.xor_lt_two_pow (n := 8) ha hb
theorem tmTo_lt (a b : Nat) (ha : a < 256) : ∀ i, (tmTo a b i).1 < 256 ∧ (tmTo a b i).2 < 256
  | 0 => ⟨by show 0 < 256; omega, ha⟩
  | i + 1 => by
    obtain ⟨h1, h2⟩ := tmTo_lt a b ha i
    refine ⟨?_, dbl_lt _ h2⟩
    show (if b.testBit i then (tmTo a b i).1 ^^^ (tmTo a b i).2 else (tmTo a b i).1) < 256
    split
    · exact xor_lt h1 h2
    · exact h1
theorem tm_lt (a b : Nat) (ha : a < 256) : tm a b < 256 := (tmTo_lt a b ha 8).1
theorem tmTo_dbl (a b : Nat) (ha : a < 256) : ∀ i, tmTo (dbl a) b i = (dbl (tmTo a b i).1, dbl (tmTo a b i).2)
  | 0 => by show (0, dbl a) = (dbl 0, dbl a); rfl
  | i + 1 => by
    obtain ⟨h1, h2⟩ := tmTo_lt a b ha i
    show tmStep b i (tmTo (dbl a) b i) = _
    rw [tmTo_dbl a b ha i]
    show tmStep b i _ = (dbl (tmStep b i (tmTo a b i)).1, dbl (tmStep b i (tmTo a b i)).2)
    unfold tmStep
    simp only
    split
    · rw [dbl_xor _ h1 _ h2]
    · rfl
theorem tm_dbl (a b : Nat) (ha : a < 256) : tm (dbl a) b = dbl (tm a b) := by
  unfold tm; rw [tmTo_dbl a b ha 8]
theorem xor_swap4 (a b c d : Nat) : (a ^^^ b) ^^^ (c ^^^ d) = (a ^^^ c) ^^^ (b ^^^ d) := by
  ac_rfl
theorem tmTo_xor (a c b : Nat) (ha : a < 256) (hc : c < 256) : ∀ i, tmTo (a ^^^ c) b i = ((tmTo a b i).1 ^^^ (tmTo c b i).1, (tmTo a b i).2 ^^^ (tmTo c b i).2)
  | 0 => by show (0, a ^^^ c) = (0 ^^^ 0, a ^^^ c); rfl
  | i + 1 => by
    obtain ⟨h1, h2⟩ := tmTo_lt a b ha i
    obtain ⟨k1, k2⟩ := tmTo_lt c b hc i
    show tmStep b i (tmTo (a ^^^ c) b i) = ((tmStep b i (tmTo a b i)).1 ^^^ (tmStep b i (tmTo c b i)).1, (tmStep b i (tmTo a b i)).2 ^^^ (tmStep b i (tmTo c b i)).2)
    rw [tmTo_xor a c b ha hc i]
    unfold tmStep
    simp only
    rw [dbl_xor _ h2 _ k2]
    split
    · rw [xor_swap4]
    · rfl
theorem tm_xor_left (a c b : Nat) (ha : a < 256) (hc : c < 256) : tm (a ^^^ c) b = tm a b ^^^ tm c b := by
  unfold tm; rw [tmTo_xor a c b ha hc 8]
theorem tm_E : ∀ (i : Nat) (b : Nat), b < 256 → b ≠ 0 → tm (E i) b = E (i + L b)
  | 0, b, hb, h0 => by
    show tm 1 b = _
    rw [tm_one b hb, Nat.zero_add, E_L b hb h0]
  | i + 1, b, hb, h0 => by
    show tm (dbl (E i)) b = _
    rw [tm_dbl _ _ (E_lt i), tm_E i b hb h0, show i + 1 + L b = (i + L b) + 1 from by omega]; rfl
theorem tm_zero_left (b : Nat) : tm 0 b = 0 := by
  have h : ∀ i, tmTo 0 b i = (0, 0) := by
    intro i
    induction i with
    | zero => rfl
    | succ i ih => show tmStep b i (tmTo 0 b i) = _; rw [ih]; unfold tmStep; simp [dbl]
  unfold tm; rw [h]
theorem tm_zero_right (a : Nat) : tm a 0 = 0 := by
  have h : ∀ i, (tmTo a 0 i).1 = 0 := by
    intro i
    induction i with
    | zero => rfl
    | succ i ih => show (tmStep 0 i (tmTo a 0 i)).1 = _; unfold tmStep; simp [ih]
  exact h 8
theorem tm_log (a b : Nat) (ha : a < 256) (hb : b < 256) (a0 : a ≠ 0) (b0 : b ≠ 0) : tm a b = E (L a + L b) := by
  have := tm_E (L a) b hb b0
  rwa [E_L a ha a0] at this
theorem tm_comm (a b : Nat) (ha : a < 256) (hb : b < 256) : tm a b = tm b a := by
  by_cases a0 : a = 0
  · rw [a0, tm_zero_left, tm_zero_right]
  by_cases b0 : b = 0
  · rw [b0, tm_zero_left, tm_zero_right]
  rw [tm_log a b ha hb a0 b0, tm_log b a hb ha b0 a0, Nat.add_comm]
theorem tm_pos (a b : Nat) (ha : a < 256) (hb : b < 256) (a0 : a ≠ 0) (b0 : b ≠ 0) : tm a b ≠ 0 := by
  rw [tm_log a b ha hb a0 b0]; exact E_pos _
theorem L_tm (a b : Nat) (ha : a < 256) (hb : b < 256) (a0 : a ≠ 0) (b0 : b ≠ 0) : L (tm a b) = (L a + L b) % 255 := by
  rw [tm_log a b ha hb a0 b0, ← E_mod, L_E _ (Nat.mod_lt _ (by omega))]
theorem tm_assoc (a b c : Nat) (ha : a < 256) (hb : b < 256) (hc : c < 256) : tm (tm a b) c = tm a (tm b c) := by
  by_cases a0 : a = 0
  · rw [a0, tm_zero_left, tm_zero_left, tm_zero_left]
  by_cases b0 : b = 0
  · rw [b0, tm_zero_right, tm_zero_left, tm_zero_right]
  by_cases c0 : c = 0
  · rw [c0, tm_zero_right, tm_zero_right, tm_zero_right]
  rw [tm_log _ c (tm_lt a b ha) hc (tm_pos a b ha hb a0 b0) c0, tm_log a _ ha (tm_lt b c hb) a0 (tm_pos b c hb hc b0 c0), L_tm a b ha hb a0 b0, L_tm b c hb hc b0 c0, ← E_mod, ← E_mod (L a + _)]
  congr 1; omega
theorem tm_xor_right (a b c : Nat) (ha : a < 256) (hb : b < 256) (hc : c < 256) : tm a (b ^^^ c) = tm a b ^^^ tm a c := by
  rw [tm_comm a _ ha (xor_lt hb hc), tm_xor_left b c a hb hc, tm_comm b a hb ha, tm_comm c a hc ha]
theorem tm_one_right (a : Nat) (ha : a < 256) : tm a 1 = a := by rw [tm_comm a 1 ha (by omega), tm_one a ha]
/-- the inverse of an element other than 0 -/
def iv (a : Nat) : Nat := E (255 - L a)
theorem iv_lt (a : Nat) : iv a < 256 := E_lt _
theorem iv_pos (a : Nat) : iv a ≠ 0 := E_pos _
theorem tm_iv (a : Nat) (ha : a < 256) (a0 : a ≠ 0) : tm a (iv a) = 1 := by
  have h := tm_E (L a) (iv a) (iv_lt a) (iv_pos a)
  rw [E_L a ha a0] at h
  rw [h]
  have hl := L_lt a ha
  by_cases h0 : L a = 0
  · unfold iv; rw [h0]; decide +kernel
  · unfold iv; rw [L_E _ (by omega), show L a + (255 - L a) = 0 + 255 from by omega, E_per]; rfl
theorem iv_unique (a b : Nat) (ha : a < 256) (hb : b < 256) (h : tm a b = 1) : b = iv a := by
  have a0 : a ≠ 0 := by rintro rfl; rw [tm_zero_left] at h; omega
  have h1 : tm (iv a) (tm a b) = iv a := by rw [h, tm_one_right _ (iv_lt a)]
  rw [← tm_assoc _ _ _ (iv_lt a) ha hb, tm_comm _ a (iv_lt a) ha, tm_iv a ha a0, tm_one b hb] at h1
  exact h1
/-- the product of e factors a -/
def pw (a : Nat) : Nat → Nat | 0 => 1 | e + 1 => tm (pw a e) a
theorem pw_lt (a : Nat) (h : a < 256) : ∀ e, pw a e < 256
  | 0 => by show 1 < 256; omega
  | e + 1 => tm_lt _ _ (pw_lt a h e)
theorem pw_zero_base (e : Nat) (h : 0 < e) : pw 0 e = 0 := by
  cases e with
  | zero => omega
  | succ e => exact tm_zero_right _
theorem pw_log (a : Nat) (ha : a < 256) (a0 : a ≠ 0) : ∀ e, pw a e = E (L a * e)
  | 0 => rfl
  | e + 1 => by
    show tm (pw a e) a = _
    rw [pw_log a ha a0 e, tm_E _ a ha a0, Nat.mul_succ]
theorem pw_mod (a : Nat) (ha : a < 256) (a0 : a ≠ 0) (e : Nat) : pw a (e % 255) = pw a e := by
  rw [pw_log a ha a0, pw_log a ha a0, ← E_mod, ← E_mod (L a * e), Nat.mul_mod_mod]

end Go.Proofs.YtafkjfpmjhfofaaDoor.Gf
