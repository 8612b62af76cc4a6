/-
  Closed facts about the loaded program that every law's step needs. · Plain arithmetic of the field GF(256) modulo 11D on natural numbers below 256: doubling, powers of 2, logarithms, products bit by bit, inverses, powers. Nothing of the program is named here. · The memory of a Field: which cells its block has before and after its tables are built; small lemmas on worlds and blocks. · math/bits.RotateLeft32, and SHA-256 on numbers. · SHA-256 on numbers: the schedule, the rounds, the padding. · A region that draws its order, whose operations read or call quietly until one forced tail (a store) ends it: one walk in the order of the text serves every order.
-/
import Derived.Test.YtehjikogdaclgaaDoorRows
import Derived.WalkKit
import Derived.ProofKit
import Derived.Test.YtehjikogdaclgaaDoorProg
import Derived.WalkLawsBesides
import Derived.OneCell
import Derived.ChangeAlike
import Derived.Laws.BitsAllLaws
import Derived.Deep.QuietTactic
import Derived.BigQuiet
import Derived.StillTailTactics
namespace Go.Proofs.YtehjikogdaclgaaDoor.Facts
theorem laidOut : laidOutB Tryd.prog = true := by kernel_rfl
theorem mapsR : mapsRowed Tryd.prog = true := by kernel_rfl
theorem stops : (Tryd.prog.stops == []) = true := by kernel_rfl
theorem knobs : (Tryd.prog.stopKnobs == []) = true := by kernel_rfl
theorem keys : (true == Tryd.prog.plainKeys) = true := by kernel_rfl
theorem heard : Tryd.prog.stopsHeard = true := by kernel_rfl
theorem enter : Tryd.prog.mayEnter = true := by kernel_rfl
theorem and2 {a b : Bool} (ha : a = true) (hb : b = true) : (a && b) = true := by rw [ha, hb]; rfl
end Go.Proofs.YtehjikogdaclgaaDoor.Facts

namespace Go.Proofs.YtehjikogdaclgaaDoor.Gf
/-- doubling in GF(256) modulo 11D, on natural numbers below 256 -/
def dbl (a : Nat) : Nat := if a < 128 then 2 * a else (2 * a - 256) ^^^ 29
def E : Nat → Nat | 0 => 1 | k + 1 => dbl (E k)
/-- one round of the product bit by bit -/
def tmStep (b i : Nat) (s : Nat × Nat) : Nat × Nat := (if b.testBit i then s.1 ^^^ s.2 else s.1, dbl s.2)
def tmTo (a b : Nat) : Nat → Nat × Nat | 0 => (0, a) | i + 1 => tmStep b i (tmTo a b i)
def tm (a b : Nat) : Nat := (tmTo a b 8).1

theorem dbl_lt (a : Nat) (h : a < 256) : dbl a < 256 := by
  revert a; decide +kernel
set_option maxRecDepth 100000 in
theorem dbl_xor : ∀ a, a < 256 → ∀ b, b < 256 → dbl (a ^^^ b) = dbl a ^^^ dbl b := by
  decide +kernel
theorem tm_one : ∀ b, b < 256 → tm 1 b = b := by decide +kernel
theorem E_255 : E 255 = 1 := by decide +kernel
theorem E_lt : ∀ k, E k < 256 | 0 => by decide | k + 1 => dbl_lt _ (E_lt k)
theorem dbl_pos : ∀ a, a < 256 → a ≠ 0 → dbl a ≠ 0 := by decide +kernel
theorem E_pos : ∀ k, E k ≠ 0 | 0 => by decide | k + 1 => dbl_pos _ (E_lt k) (E_pos k)
theorem E_per (k : Nat) : E (k + 255) = E k := by
  induction k with
  | zero => exact E_255
  | succ k ih => rw [show k + 1 + 255 = (k + 255) + 1 from by omega]; show dbl (E (k + 255)) = dbl (E k); rw [ih]
theorem E_perm (q : Nat) : ∀ k, E (k + 255 * q) = E k := by
  induction q with
  | zero => intro k; rfl
  | succ q ih => intro k; rw [show k + 255 * (q + 1) = (k + 255 * q) + 255 from by omega, E_per, ih]
theorem E_mod (k : Nat) : E (k % 255) = E k := by
  have := E_perm (k / 255) (k % 255)
  rw [show k % 255 + 255 * (k / 255) = k from by omega] at this
  exact this.symm
def lgTab : List Nat := [0, 0, 1, 25, 2, 50, 26, 198, 3, 223, 51, 238, 27, 104, 199, 75, 4, 100, 224, 14, 52, 141, 239, 129, 28, 193, 105, 248, 200, 8, 76, 113, 5, 138, 101, 47, 225, 36, 15, 33, 53, 147, 142, 218, 240, 18, 130, 69, 29, 181, 194, 125, 106, 39, 249, 185, 201, 154, 9, 120, 77, 228, 114, 166, 6, 191, 139, 98, 102, 221, 48, 253, 226, 152, 37, 179, 16, 145, 34, 136, 54, 208, 148, 206, 143, 150, 219, 189, 241, 210, 19, 92, 131, 56, 70, 64, 30, 66, 182, 163, 195, 72, 126, 110, 107, 58, 40, 84, 250, 133, 186, 61, 202, 94, 155, 159, 10, 21, 121, 43, 78, 212, 229, 172, 115, 243, 167, 87, 7, 112, 192, 247, 140, 128, 99, 13, 103, 74, 222, 237, 49, 197, 254, 24, 227, 165, 153, 119, 38, 184, 180, 124, 17, 68, 146, 217, 35, 32, 137, 46, 55, 63, 209, 91, 149, 188, 207, 205, 144, 135, 151, 178, 220, 252, 190, 97, 242, 86, 211, 171, 20, 42, 93, 158, 132, 60, 57, 83, 71, 109, 65, 162, 31, 45, 67, 216, 183, 123, 164, 118, 196, 23, 73, 236, 127, 12, 111, 246, 108, 161, 59, 82, 41, 157, 85, 170, 251, 96, 134, 177, 187, 204, 62, 90, 203, 89, 95, 176, 156, 169, 160, 81, 11, 245, 22, 235, 122, 117, 44, 215, 79, 174, 213, 233, 230, 231, 173, 232, 116, 214, 244, 234, 168, 80, 88, 175]
/-- the exponent of an element other than 0 -/
def L (a : Nat) : Nat := lgTab.getD a 0
theorem E_L : ∀ a, a < 256 → a ≠ 0 → E (L a) = a := by decide +kernel
theorem L_lt : ∀ a, a < 256 → L a < 255 := by decide +kernel
theorem L_E : ∀ i, i < 255 → L (E i) = i := by decide +kernel
theorem L_zero : L 0 = 0 := by decide +kernel
theorem L_ge (a : Nat) (h : 256 ≤ a) : L a = 0 := by
  unfold L; rw [List.getD_eq_getElem?_getD, List.getElem?_eq_none (by rw [show lgTab.length = 256 from by decide +kernel]; exact h)]; rfl
theorem E_inj {i j : Nat} (hi : i < 255) (hj : j < 255) (h : E i = E j) : i = j := by
  rw [← L_E i hi, ← L_E j hj, h]

theorem xor_lt {a b : Nat} (ha : a < 256) (hb : b < 256) : a ^^^ b < 256 := Nat.xor_lt_two_pow (n := 8) ha hb
theorem tmTo_lt (a b : Nat) (ha : a < 256) : ∀ i, (tmTo a b i).1 < 256 ∧ (tmTo a b i).2 < 256
  | 0 => ⟨by show 0 < 256; omega, ha⟩
  | i + 1 => by
    obtain ⟨h1, h2⟩ := tmTo_lt a b ha i
    refine ⟨?_, dbl_lt _ h2⟩
    show (if b.testBit i then (tmTo a b i).1 ^^^ (tmTo a b i).2 else (tmTo a b i).1) < 256
    split
    · exact xor_lt h1 h2
    · exact h1
theorem tm_lt (a b : Nat) (ha : a < 256) : tm a b < 256 := (tmTo_lt a b ha 8).1
theorem tmTo_dbl (a b : Nat) (ha : a < 256) : ∀ i, tmTo (dbl a) b i = (dbl (tmTo a b i).1, dbl (tmTo a b i).2)
  | 0 => by show (0, dbl a) = (dbl 0, dbl a); rfl
  | i + 1 => by
    obtain ⟨h1, h2⟩ := tmTo_lt a b ha i
    show tmStep b i (tmTo (dbl a) b i) = _
    rw [tmTo_dbl a b ha i]
    show tmStep b i _ = (dbl (tmStep b i (tmTo a b i)).1, dbl (tmStep b i (tmTo a b i)).2)
    unfold tmStep
    simp only
    split
    · rw [dbl_xor _ h1 _ h2]
    · rfl
theorem tm_dbl (a b : Nat) (ha : a < 256) : tm (dbl a) b = dbl (tm a b) := by
  unfold tm; rw [tmTo_dbl a b ha 8]
theorem xor_swap4 (a b c d : Nat) : (a ^^^ b) ^^^ (c ^^^ d) = (a ^^^ c) ^^^ (b ^^^ d) := by
  ac_rfl
theorem tmTo_xor (a c b : Nat) (ha : a < 256) (hc : c < 256) : ∀ i, tmTo (a ^^^ c) b i = ((tmTo a b i).1 ^^^ (tmTo c b i).1, (tmTo a b i).2 ^^^ (tmTo c b i).2)
  | 0 => by show (0, a ^^^ c) = (0 ^^^ 0, a ^^^ c); rfl
  | i + 1 => by
    obtain ⟨h1, h2⟩ := tmTo_lt a b ha i
    obtain ⟨k1, k2⟩ := tmTo_lt c b hc i
    show tmStep b i (tmTo (a ^^^ c) b i) = ((tmStep b i (tmTo a b i)).1 ^^^ (tmStep b i (tmTo c b i)).1, (tmStep b i (tmTo a b i)).2 ^^^ (tmStep b i (tmTo c b i)).2)
    rw [tmTo_xor a c b ha hc i]
    unfold tmStep
    simp only
    rw [dbl_xor _ h2 _ k2]
    split
    · rw [xor_swap4]
    · rfl
theorem tm_xor_left (a c b : Nat) (ha : a < 256) (hc : c < 256) : tm (a ^^^ c) b = tm a b ^^^ tm c b := by
  unfold tm; rw [tmTo_xor a c b ha hc 8]
theorem tm_E : ∀ (i : Nat) (b : Nat), b < 256 → b ≠ 0 → tm (E i) b = E (i + L b)
  | 0, b, hb, h0 => by
    show tm 1 b = _
    rw [tm_one b hb, Nat.zero_add, E_L b hb h0]
  | i + 1, b, hb, h0 => by
    show tm (dbl (E i)) b = _
    rw [tm_dbl _ _ (E_lt i), tm_E i b hb h0, show i + 1 + L b = (i + L b) + 1 from by omega]; rfl
theorem tm_zero_left (b : Nat) : tm 0 b = 0 := by
  have h : ∀ i, tmTo 0 b i = (0, 0) := by
    intro i
    induction i with
    | zero => rfl
    | succ i ih => show tmStep b i (tmTo 0 b i) = _; rw [ih]; unfold tmStep; simp [dbl]
  unfold tm; rw [h]
theorem tm_zero_right (a : Nat) : tm a 0 = 0 := by
  have h : ∀ i, (tmTo a 0 i).1 = 0 := by
    intro i
    induction i with
    | zero => rfl
    | succ i ih => show (tmStep 0 i (tmTo a 0 i)).1 = _; unfold tmStep; simp [ih]
  exact h 8
theorem tm_log (a b : Nat) (ha : a < 256) (hb : b < 256) (a0 : a ≠ 0) (b0 : b ≠ 0) : tm a b = E (L a + L b) := by
  have := tm_E (L a) b hb b0
  rwa [E_L a ha a0] at this
theorem tm_comm (a b : Nat) (ha : a < 256) (hb : b < 256) : tm a b = tm b a := by
  by_cases a0 : a = 0
  · rw [a0, tm_zero_left, tm_zero_right]
  by_cases b0 : b = 0
  · rw [b0, tm_zero_left, tm_zero_right]
  rw [tm_log a b ha hb a0 b0, tm_log b a hb ha b0 a0, Nat.add_comm]
theorem tm_pos (a b : Nat) (ha : a < 256) (hb : b < 256) (a0 : a ≠ 0) (b0 : b ≠ 0) : tm a b ≠ 0 := by
  rw [tm_log a b ha hb a0 b0]; exact E_pos _
theorem L_tm (a b : Nat) (ha : a < 256) (hb : b < 256) (a0 : a ≠ 0) (b0 : b ≠ 0) : L (tm a b) = (L a + L b) % 255 := by
  rw [tm_log a b ha hb a0 b0, ← E_mod, L_E _ (Nat.mod_lt _ (by omega))]
theorem tm_assoc (a b c : Nat) (ha : a < 256) (hb : b < 256) (hc : c < 256) : tm (tm a b) c = tm a (tm b c) := by
  by_cases a0 : a = 0
  · rw [a0, tm_zero_left, tm_zero_left, tm_zero_left]
  by_cases b0 : b = 0
  · rw [b0, tm_zero_right, tm_zero_left, tm_zero_right]
  by_cases c0 : c = 0
  · rw [c0, tm_zero_right, tm_zero_right, tm_zero_right]
  rw [tm_log _ c (tm_lt a b ha) hc (tm_pos a b ha hb a0 b0) c0, tm_log a _ ha (tm_lt b c hb) a0 (tm_pos b c hb hc b0 c0), L_tm a b ha hb a0 b0, L_tm b c hb hc b0 c0, ← E_mod, ← E_mod (L a + _)]
  congr 1; omega
theorem tm_xor_right (a b c : Nat) (ha : a < 256) (hb : b < 256) (hc : c < 256) : tm a (b ^^^ c) = tm a b ^^^ tm a c := by
  rw [tm_comm a _ ha (xor_lt hb hc), tm_xor_left b c a hb hc, tm_comm b a hb ha, tm_comm c a hc ha]
theorem tm_one_right (a : Nat) (ha : a < 256) : tm a 1 = a := by rw [tm_comm a 1 ha (by omega), tm_one a ha]
/-- the inverse of an element other than 0 -/
def iv (a : Nat) : Nat := E (255 - L a)
theorem iv_lt (a : Nat) : iv a < 256 := E_lt _
theorem iv_pos (a : Nat) : iv a ≠ 0 := E_pos _
theorem tm_iv (a : Nat) (ha : a < 256) (a0 : a ≠ 0) : tm a (iv a) = 1 := by
  have h := tm_E (L a) (iv a) (iv_lt a) (iv_pos a)
  rw [E_L a ha a0] at h
  rw [h]
  have hl := L_lt a ha
  by_cases h0 : L a = 0
  · unfold iv; rw [h0]; decide +kernel
  · unfold iv; rw [L_E _ (by omega), show L a + (255 - L a) = 0 + 255 from by omega, E_per]; rfl
theorem iv_unique (a b : Nat) (ha : a < 256) (hb : b < 256) (h : tm a b = 1) : b = iv a := by
  have a0 : a ≠ 0 := by rintro rfl; rw [tm_zero_left] at h; omega
  have h1 : tm (iv a) (tm a b) = iv a := by rw [h, tm_one_right _ (iv_lt a)]
  rw [← tm_assoc _ _ _ (iv_lt a) ha hb, tm_comm _ a (iv_lt a) ha, tm_iv a ha a0, tm_one b hb] at h1
  exact h1
/-- the product of e factors a -/
def pw (a : Nat) : Nat → Nat | 0 => 1 | e + 1 => tm (pw a e) a
theorem pw_lt (a : Nat) (h : a < 256) : ∀ e, pw a e < 256
  | 0 => by show 1 < 256; omega
  | e + 1 => tm_lt _ _ (pw_lt a h e)
theorem pw_zero_base (e : Nat) (h : 0 < e) : pw 0 e = 0 := by
  cases e with
  | zero => omega
  | succ e => exact tm_zero_right _
theorem pw_log (a : Nat) (ha : a < 256) (a0 : a ≠ 0) : ∀ e, pw a e = E (L a * e)
  | 0 => rfl
  | e + 1 => by
    show tm (pw a e) a = _
    rw [pw_log a ha a0 e, tm_E _ a ha a0, Nat.mul_succ]
theorem pw_mod (a : Nat) (ha : a < 256) (a0 : a ≠ 0) (e : Nat) : pw a (e % 255) = pw a e := by
  rw [pw_log a ha a0, pw_log a ha a0, ← E_mod, ← E_mod (L a * e), Nat.mul_mod_mod]

end Go.Proofs.YtehjikogdaclgaaDoor.Gf

namespace Go.Proofs.YtehjikogdaclgaaDoor
open Go.RowKit

theorem facts_and {a b : Bool} (ha : a = true) (hb : b = true) : (a && b) = true := by rw [ha, hb]; rfl
theorem hid {p : Prop} (h : p) : Hid p := h
/-- a list of bytes as cells -/
def u8s (l : List Nat) : List Value := l.map fun (n : Nat) => .int .u8 n
/-- the cells of a Field: its Once (done, the lock's two words), and 766 bytes of tables -/
def fcells (d m : Int) (tab : List Nat) : Array Value := (.int .u32 d :: .int .i32 m :: .int .u32 0 :: u8s tab).toArray
/-- the tables after k rounds -/
def tabTo : Nat → List Nat
  | 0 => List.replicate 766 0
  | k + 1 => (((tabTo k).set k (Gf.E k)).set (k + 255) (Gf.E k)).set (510 + Gf.E k) k
/-- block b is a Field whose tables are still to be built -/
def Fresh (w : World) (b : Nat) : Prop := w.heap[b]? = some (.cells (fcells 0 0 (tabTo 0)) 75 (0, 0))
/-- block b is a Field with its tables -/
def Built (w : World) (b : Nat) : Prop := w.heap[b]? = some (.cells (fcells 1 0 (tabTo 255)) 75 (0, 0))
/-- block b is a Field -/
def Fld (w : World) (b : Nat) : Prop := Fresh w b ∨ Built w b
/-- in w' all blocks of w but b are as they were -/
structure Kept (b : Nat) (w w' : World) : Prop where
  os : w'.os = w.os
  tape : w'.tape = w.tape
  output : w'.output = w.output
  size : w.heap.size ≤ w'.heap.size
  block : ∀ k, k < w.heap.size → k ≠ b → w'.heap[k]? = w.heap[k]?
theorem Kept.refl (b : Nat) (w : World) : Kept b w w := ⟨rfl, rfl, rfl, Nat.le_refl _, fun _ _ _ => rfl⟩
theorem Kept.trans {b : Nat} {x y z : World} (h : Kept b x y) (k : Kept b y z) : Kept b x z :=
  ⟨k.os.trans h.os, k.tape.trans h.tape, k.output.trans h.output, Nat.le_trans h.size k.size, fun i hi hb => (k.block i (Nat.lt_of_lt_of_le hi h.size) hb).trans (h.block i hi hb)⟩
theorem Kept.of_below {b : Nat} {w w' : World} (h : Below w.heap.size w w') : Kept b w w' := ⟨h.os, h.tape, h.output, h.size, fun k hk _ => h.block k hk⟩
theorem Kept.below {b B : Nat} {w w' : World} (h : Kept b w w') (hB : B ≤ w.heap.size) (hb : B ≤ b) : Below B w w' := ⟨h.os, h.tape, h.output, h.size, fun k hk => h.block k (by omega) (by omega)⟩
theorem Kept.drew {b : Nat} {w w' : World} (h : Kept b w w') : Kept b w w'.drew := ⟨h.os, h.tape, h.output, h.size, h.block⟩
theorem Kept.alloc {b : Nat} {w w' : World} (h : Kept b w w') (o : Obj) : Kept b w (w'.alloc o) :=
  h.trans (Kept.of_below ((Below.refl _ _).alloc (Nat.le_refl _) o))
theorem Kept.setCell {b : Nat} {w w' : World} (h : Kept b w w') {p : Addr} (hp : p.block = b) (u : Value) : Kept b w (w'.setCell p u) :=
  h.trans ⟨rfl, rfl, rfl, by simp [World.setCell], fun k _ hkb => Below.heap_setCell _ _ _ _ (by rw [hp]; exact hkb)⟩
theorem Kept.setNew {b : Nat} {w w' : World} (h : Kept b w w') {p : Addr} (hp : w.heap.size ≤ p.block) (u : Value) : Kept b w (w'.setCell p u) :=
  ⟨h.os, h.tape, h.output, by have := h.size; simpa using this, fun k hk hkb => (Below.heap_setCell _ _ _ _ (by omega)).trans (h.block k hk hkb)⟩

theorem lt_of_heap {w : World} {b : Nat} {o : Obj} (h : w.heap[b]? = some o) : b < w.heap.size := lt_of_block h
theorem cell_of_heap {w : World} {b : Nat} {cs : Array Value} {t : TypeId} (h : w.heap[b]? = some (.cells cs t (0, 0))) (i : Nat) : w.cell? ⟨b, i, none⟩ = cs[i]? := by simp [World.cell?, h]
theorem free_of_heap {w : World} {b : Nat} {cs : Array Value} {t : TypeId} (h : w.heap[b]? = some (.cells cs t (0, 0))) (i : Nat) : w.frozen? ⟨b, i, none⟩ = false := by simp [World.frozen?, h]
theorem heap_set {w : World} {b : Nat} {cs : Array Value} {t : TypeId} (h : w.heap[b]? = some (.cells cs t (0, 0))) (i : Nat) (u : Value) : (w.setCell ⟨b, i, none⟩ u).heap[b]? = some (.cells (cs.setIfInBounds i u) t (0, 0)) := by
  have hlt := lt_of_block h
  have h' : w.heap[b] = .cells cs t (0, 0) := by simpa [Array.getElem?_eq_getElem hlt] using h
  show (w.heap.modify b _)[b]? = _
  rw [Array.getElem?_eq_getElem (by simpa using hlt), Array.getElem_modify_self, h']
  rfl
theorem heap_alloc {w : World} {b : Nat} {o : Obj} (h : w.heap[b]? = some o) (o' : Obj) : (w.alloc o').heap[b]? = some o := by
  rw [Below.heap_alloc _ _ _ (lt_of_block h)]; exact h
theorem heap_new (w : World) (o : Obj) : (w.alloc o).heap[w.heap.size]? = some o := by show (w.heap.push o)[w.heap.size]? = _; simp
theorem Fld.lt {w : World} {b : Nat} (h : Fld w b) : b < w.heap.size := by rcases h with h | h <;> exact lt_of_block h
theorem Built.lt {w : World} {b : Nat} (h : Built w b) : b < w.heap.size := lt_of_block h
theorem Built.below {w w' : World} {b : Nat} (h : Built w b) {B : Nat} (k : Below B w w') (hb : b < B) : Built w' b := (k.block b hb).trans h
theorem Built.alloc {w : World} {b : Nat} (h : Built w b) (o : Obj) : Built (w.alloc o) b := heap_alloc h o
theorem Built.drew {w : World} {b : Nat} (h : Built w b) : Built w.drew b := h
theorem Built.setCell {w : World} {b : Nat} (h : Built w b) {p : Addr} (hp : p.block ≠ b) (u : Value) : Built (w.setCell p u) b := (Below.heap_setCell _ _ _ _ (fun e => hp e.symm)).trans h
theorem Fld.alloc {w : World} {b : Nat} (h : Fld w b) (o : Obj) : Fld (w.alloc o) b := h.elim (fun h => .inl (heap_alloc h o)) (fun h => .inr (heap_alloc h o))
theorem Fld.drew {w : World} {b : Nat} (h : Fld w b) : Fld w.drew b := h

theorem Kept.drewN {b : Nat} {w w' : World} (h : Kept b w w') (n : Nat) : Kept b w (w'.drewN n) := ⟨h.os, h.tape, h.output, h.size, h.block⟩
theorem Built.drewN {w : World} {b : Nat} (h : Built w b) (n : Nat) : Built (w.drewN n) b := h
theorem bel_drewN {B : Nat} {a w : World} (h : Below B a w) (n : Nat) : Below B a (w.drewN n) := ⟨h.os, h.tape, h.output, h.size, h.block⟩
/-! ### the tables -/
theorem tabTo_length : ∀ k, (tabTo k).length = 766
  | 0 => by simp only [tabTo, List.length_replicate]
  | k + 1 => by simp [tabTo, tabTo_length k]
theorem fcells_get (d m : Int) (tab : List Nat) (i : Nat) (h : i < tab.length) : (fcells d m tab)[3 + i]? = some (.int .u8 (tab.getD i 0)) := by
  have e : (fcells d m tab)[3 + i]? = (u8s tab)[i]? := by
    rw [show 3 + i = i + 3 from by omega]
    simp [fcells]
  rw [e]
  simp [u8s, List.getElem?_map, List.getElem?_eq_getElem h]
theorem fcells_set (d m : Int) (tab : List Nat) (i n : Nat) : (fcells d m tab).setIfInBounds (3 + i) (.int .u8 n) = fcells d m (tab.set i n) := by
  rw [show 3 + i = i + 3 from by omega]
  simp [fcells, u8s, List.map_set]
theorem tabTo_exp : ∀ k, k ≤ 255 → ∀ i, i < k → (tabTo k).getD i 0 = Gf.E i ∧ (tabTo k).getD (i + 255) 0 = Gf.E i
  | 0, _, i, hi => by omega
  | k + 1, hk, i, hi => by
    have hl := tabTo_length k
    by_cases e : i = k
    · subst e
      simp only [tabTo, List.getD_eq_getElem?_getD, List.getElem?_set, List.length_set, hl]
      constructor
      · rw [if_neg (by omega), if_neg (by omega), if_pos trivial, if_pos (by omega)]; rfl
      · rw [if_neg (by omega), if_pos trivial, if_pos (by omega)]; rfl
    · have ih := tabTo_exp k (by omega) i (by omega)
      simp only [List.getD_eq_getElem?_getD] at ih
      simp only [tabTo, List.getD_eq_getElem?_getD, List.getElem?_set, List.length_set, hl]
      constructor
      · rw [if_neg (by omega), if_neg (by omega), if_neg (by omega)]; exact ih.1
      · rw [if_neg (by omega), if_neg (by omega), if_neg (by omega)]; exact ih.2
theorem tabTo_log : ∀ k, k ≤ 255 → ∀ i, i < k → (tabTo k).getD (510 + Gf.E i) 0 = i
  | 0, _, i, hi => by omega
  | k + 1, hk, i, hi => by
    have hl := tabTo_length k
    have b1 := Gf.E_lt i
    have b2 := Gf.E_lt k
    by_cases e : i = k
    · subst e
      simp only [tabTo, List.getD_eq_getElem?_getD, List.getElem?_set, List.length_set, hl]
      rw [if_pos trivial, if_pos (by omega)]; rfl
    · have ih := tabTo_log k (by omega) i (by omega)
      have hne : Gf.E k ≠ Gf.E i := fun h => e (Gf.E_inj (by omega) (by omega) h.symm)
      simp only [List.getD_eq_getElem?_getD] at ih
      simp only [tabTo, List.getD_eq_getElem?_getD, List.getElem?_set, List.length_set, hl]
      rw [if_neg (by omega), if_neg (by omega), if_neg (by omega)]; exact ih
/-- a cell of the exponents -/
theorem built_exp {w : World} {b : Nat} (h : Built w b) (i : Nat) (hi : i < 510) : w.cell? ⟨b, 3 + i, none⟩ = some (.int .u8 (Gf.E i)) := by
  rw [cell_of_heap h, fcells_get _ _ _ _ (by rw [tabTo_length]; omega)]
  by_cases h2 : i < 255
  · rw [(tabTo_exp 255 (by omega) i h2).1]
  · have e := (tabTo_exp 255 (by omega) (i - 255) (by omega)).2
    rw [show i - 255 + 255 = i from by omega] at e
    rw [e]
    have p := Gf.E_per (i - 255)
    rw [show i - 255 + 255 = i from by omega] at p
    rw [p]
/-- a cell of the logarithms -/
theorem built_log {w : World} {b : Nat} (h : Built w b) (a : Nat) (ha : a < 256) (h0 : a ≠ 0) : w.cell? ⟨b, 513 + a, none⟩ = some (.int .u8 (Gf.L a)) := by
  rw [show 513 + a = 3 + (510 + a) from by omega, cell_of_heap h, fcells_get _ _ _ _ (by rw [tabTo_length]; omega)]
  have e := tabTo_log 255 (by omega) (Gf.L a) (Gf.L_lt a ha)
  rw [Gf.E_L a ha h0] at e
  rw [e]
end Go.Proofs.YtehjikogdaclgaaDoor

namespace Go.Proofs.YtehjikogdaclgaaDoor
open Go Go.RowKit
set_option linter.unusedVariables false

/-- x turned to the left by s bits -/
def rot (x s : Nat) : Nat := (x * 2 ^ s % 4294967296) ||| (x / 2 ^ (32 - s))
theorem div_lt32 {x : Nat} (hx : x < 4294967296) (n : Nat) : x / n < 4294967296 := Nat.lt_of_le_of_lt (Nat.div_le_self _ _) hx
theorem or_lt32 {a b : Nat} (ha : a < 4294967296) (hb : b < 4294967296) : a ||| b < 4294967296 := Nat.or_lt_two_pow (n := 32) ha hb
theorem xor_lt32 {a b : Nat} (ha : a < 4294967296) (hb : b < 4294967296) : a ^^^ b < 4294967296 := Nat.xor_lt_two_pow (n := 32) ha hb
theorem and_lt32 {a : Nat} (ha : a < 4294967296) (b : Nat) : a &&& b < 4294967296 := Nat.lt_of_le_of_lt Nat.and_le_left ha
theorem mod_lt32 (a : Nat) : a % 4294967296 < 4294967296 := Nat.mod_lt _ (by decide)
theorem rot_lt {x : Nat} (hx : x < 4294967296) (s : Nat) : rot x s < 4294967296 := or_lt32 (mod_lt32 _) (div_lt32 hx _)
theorem rot_any (x s : Nat) (k : Int) (hk : bits .and .u64 (IntKind.u64.wrap k) 31 = (s : Int)) (h1 : 1 ≤ s) (h2 : s ≤ 31) (hx : x < 4294967296) (w : World) :
    Calls Tryd.prog 78 #[.int .u32 x, .int .i64 k] w fun e w' => e = .returned (.int .u32 (rot x s : Nat)) ∧ w = w' := by
  have hv : bits .or .u32 ((x : Int) * 2 ^ s % 4294967296) ((x : Int) / 2 ^ (32 - s)) = ((rot x s : Nat) : Int) := by
    have e1 : (x : Int) * 2 ^ s % 4294967296 = ((x * 2 ^ s % 4294967296 : Nat) : Int) := by simp
    have e2 : (x : Int) / 2 ^ (32 - s) = ((x / 2 ^ (32 - s) : Nat) : Int) := by simp
    rw [e1, e2]
    exact u32_or_nat _ _ (mod_lt32 _) (div_lt32 hx _)
  have HV := hid hv
  clear hv
  go_enter Tryd.func78, Tryd.ntmps78
  go_wp2
  rw [HV.out]
  go_ret
  exact ⟨rfl, rfl⟩
end Go.Proofs.YtehjikogdaclgaaDoor

namespace Go.Proofs.YtehjikogdaclgaaDoor
open Go Go.RowKit
set_option linter.unusedVariables false

def M32 : Nat := 4294967296
def ad (a b : Nat) : Nat := (a + b) % 4294967296
theorem ad_lt (a b : Nat) : ad a b < 4294967296 := mod_lt32 _
def bsE (e : Nat) : Nat := (rot e 26 ^^^ rot e 21) ^^^ rot e 7
def bsA (a : Nat) : Nat := (rot a 30 ^^^ rot a 19) ^^^ rot a 10
def chs (e f g : Nat) : Nat := (e &&& f) ^^^ ((4294967295 ^^^ e) &&& g)
def maj (a b c : Nat) : Nat := ((a &&& b) ^^^ (a &&& c)) ^^^ (b &&& c)
def ssE (x : Nat) : Nat := (rot x 25 ^^^ rot x 14) ^^^ (x / 8)
def ssL (y : Nat) : Nat := (rot y 15 ^^^ rot y 13) ^^^ (y / 1024)
theorem bsE_lt {e : Nat} (h : e < 4294967296) : bsE e < 4294967296 := xor_lt32 (xor_lt32 (rot_lt h _) (rot_lt h _)) (rot_lt h _)
theorem bsA_lt {e : Nat} (h : e < 4294967296) : bsA e < 4294967296 := xor_lt32 (xor_lt32 (rot_lt h _) (rot_lt h _)) (rot_lt h _)
theorem ssE_lt {e : Nat} (h : e < 4294967296) : ssE e < 4294967296 := xor_lt32 (xor_lt32 (rot_lt h _) (rot_lt h _)) (div_lt32 h _)
theorem ssL_lt {e : Nat} (h : e < 4294967296) : ssL e < 4294967296 := xor_lt32 (xor_lt32 (rot_lt h _) (rot_lt h _)) (div_lt32 h _)
theorem chs_lt {e f g : Nat} (h : e < 4294967296) : chs e f g < 4294967296 := xor_lt32 (and_lt32 h _) (and_lt32 (xor_lt32 (by omega) h) _)
theorem maj_lt {a b c : Nat} (h : a < 4294967296) (h2 : b < 4294967296) : maj a b c < 4294967296 := xor_lt32 (xor_lt32 (and_lt32 h _) (and_lt32 h _)) (and_lt32 h2 _)
/-- a word of the chunk, after j of its bytes -/
def wj (c : Nat → Nat) (i : Nat) : Nat → Nat | 0 => 0 | j + 1 => (wj c i j * 256 % 4294967296) ||| c (4 * i + j)
theorem wj_lt {c : Nat → Nat} (hc : ∀ j, c j < 256) (i : Nat) : ∀ j, wj c i j < 4294967296
  | 0 => (by decide : (0 : Nat) < 4294967296)
  | j + 1 => or_lt32 (mod_lt32 _) (by have := hc (4 * i + j); omega)
/-- the next word of the schedule -/
def nx (l : List Nat) (i : Nat) : Nat := ad (ad (ad (l.getD (i - 16) 0) (ssE (l.getD (i - 15) 0))) (l.getD (i - 7) 0)) (ssL (l.getD (i - 2) 0))
/-- the schedule after k further words -/
def schL (c : Nat → Nat) : Nat → List Nat
  | 0 => (List.range 16).map fun i => wj c i 4
  | k + 1 => schL c k ++ [nx (schL c k) (16 + k)]
theorem schL_length (c : Nat → Nat) : ∀ k, (schL c k).length = 16 + k
  | 0 => by simp [schL]
  | k + 1 => by simp [schL, schL_length c k]; omega
theorem schL_lt {c : Nat → Nat} (hc : ∀ j, c j < 256) : ∀ k, ∀ n ∈ schL c k, n < 4294967296
  | 0, n, h => by
    obtain ⟨i, _, rfl⟩ := List.mem_map.1 h
    exact wj_lt hc i 4
  | k + 1, n, h => by
    rcases List.mem_append.1 h with h | h
    · exact schL_lt hc k n h
    · rw [List.mem_singleton.1 h]
      exact ad_lt _ _
/-- the eight variables of the rounds -/
structure St where
  a : Nat
  b : Nat
  c : Nat
  d : Nat
  e : Nat
  f : Nat
  g : Nat
  h : Nat
def St.t1 (s : St) (k w : Nat) : Nat := ad (ad (ad (ad s.h (bsE s.e)) (chs s.e s.f s.g)) k) w
def St.step (s : St) (k w : Nat) : St := ⟨ad (ad (s.t1 k w) (bsA s.a)) (maj s.a s.b s.c), s.a, s.b, s.c, ad s.d (s.t1 k w), s.e, s.f, s.g⟩
structure St.Ok (s : St) : Prop where
  a : s.a < 4294967296
  b : s.b < 4294967296
  c : s.c < 4294967296
  d : s.d < 4294967296
  e : s.e < 4294967296
  f : s.f < 4294967296
  g : s.g < 4294967296
  h : s.h < 4294967296
theorem St.Ok.step {s : St} (o : s.Ok) (k w : Nat) : (s.step k w).Ok := ⟨ad_lt _ _, o.a, o.b, o.c, ad_lt _ _, o.e, o.f, o.g⟩
theorem St.step_a (s : St) (k w : Nat) : (s.step k w).a = (s.h + bsE s.e + chs s.e s.f s.g + k + w + bsA s.a + maj s.a s.b s.c) % 4294967296 := by
  show ad (ad (ad (ad (ad (ad s.h (bsE s.e)) (chs s.e s.f s.g)) k) w) (bsA s.a)) (maj s.a s.b s.c) = _
  unfold ad
  omega
theorem St.step_e (s : St) (k w : Nat) : (s.step k w).e = (s.d + (s.h + bsE s.e + chs s.e s.f s.g + k + w)) % 4294967296 := by
  show ad s.d (ad (ad (ad (ad s.h (bsE s.e)) (chs s.e s.f s.g)) k) w) = _
  unfold ad
  omega
def rnd (s : St) (k w : Nat → Nat) : Nat → St | 0 => s | t + 1 => (rnd s k w t).step (k t) (w t)
theorem rnd_ok {s : St} (o : s.Ok) (k w : Nat → Nat) : ∀ t, (rnd s k w t).Ok | 0 => o | t + 1 => (rnd_ok o k w t).step _ _
def St.list (s : St) : List Nat := [s.a, s.b, s.c, s.d, s.e, s.f, s.g, s.h]
def stOf (l : List Nat) : St := ⟨l.getD 0 0, l.getD 1 0, l.getD 2 0, l.getD 3 0, l.getD 4 0, l.getD 5 0, l.getD 6 0, l.getD 7 0⟩
theorem stOf_ok {l : List Nat} (h : ∀ i, l.getD i 0 < 4294967296) : (stOf l).Ok := ⟨h 0, h 1, h 2, h 3, h 4, h 5, h 6, h 7⟩
/-- the state after one more chunk, of which i words are summed -/
def cmpTo (K : Nat → Nat) (h : List Nat) (c : Nat → Nat) (i : Nat) : List Nat :=
  (List.range 8).map fun j => if j < i then ad (h.getD j 0) ((rnd (stOf h) K (fun t => (schL c 48).getD t 0) 64).list.getD j 0) else h.getD j 0
def cmp (K : Nat → Nat) (h : List Nat) (c : Nat → Nat) : List Nat := cmpTo K h c 8
end Go.Proofs.YtehjikogdaclgaaDoor

namespace Go.Proofs.YtehjikogdaclgaaDoor
open Go

section
variable {P : Program} {ops : Array Oper} {C : World → Prop}

/-- whatever order is taken, f operations from below n come first, each quiet, and L holds behind them -/
def Quiets (P : Program) (ops : Array Oper) (C : World → Prop) (n : Nat) (L : Array Bool → Act → Prop) : Nat → Array Bool → Act → Prop
  | 0 => L
  | f + 1 => fun done a => Region.ready .any ops done ≠ [] ∧ ∀ i, i ∈ Region.ready .any ops done → i < n ∧ qOp P ops C i (Quiets P ops C n L f (done.setIfInBounds i true)) a

theorem Quiets.runs {n g : Nat} {L : Array Bool → Act → Prop} {Q : Exit → Act → World → Prop} (hL : ∀ done a w, C w → L done a → wpAny P .any ops Q g done a w) (f : Nat) :
    ∀ (done : Array Bool) (a : Act) (w : World), C w → Quiets P ops C n L f done a → wpAny P .any ops Q (f + g) done a w := by
  induction f with
  | zero => intro done a w hw h; rw [Nat.zero_add]; exact hL done a w hw h
  | succ f ih =>
    intro done a w hw h
    rw [Nat.add_right_comm]
    refine ⟨fun e => absurd e h.1, fun i hi => ?_⟩
    exact wpOp_of_qOp hw (fun a' w' hw' h' => ih _ a' w' hw' h') (h.2 i hi).2

/-- an operation that is ready, quiet and apart from all others may be taken first -/
theorem Quiets.first {n i : Nat} {o : Oper} {v : Value} {L : Array Bool → Act → Prop} (hi : ops[i]? = some o) (hsel : ∀ (j : Nat) (o' : Oper) cs b, ops[j]? = some o' → o'.op ≠ .select cs b)
    (hs : Region.sinkB .any ops n = true) (hc : Region.chainB .any ops n = true) (hn : n < ops.size) (hin : i < n) (hL : ∀ done a, L done a → ∀ j, j ∈ Region.ready .any ops done → n ≤ j) (f : Nat) :
    ∀ (done : Array Bool) (a : Act), HeadInv .any ops n done →
      (∀ j o', ops[j]? = some o' → j ≠ i → done.getD j true = false → (∀ e, e ∈ o'.after → Region.binds .any e = true → e.on ≠ i) → o.apart ops o' = true) →
      i ∈ Region.ready .any ops done → YieldsIn P ops C o v a → Quiets P ops C n L f (done.setIfInBounds i true) (a.put o.dst v) → Quiets P ops C n L (f + 1) done a := by
  induction f with
  | zero =>
    intro done a inv _ hr hy h
    refine ⟨List.ne_nil_of_mem hr, fun j hj => ?_⟩
    have hjn : j < n := Nat.lt_of_not_le fun hnj => tail_waits hs hc hn inv _ i rfl hin (mem_ready.1 hr).1 j hnj hj
    by_cases e : j = i
    · rw [e]; exact ⟨hin, hy.qOp hi h⟩
    · exact absurd (hL _ _ h j (ready_mono hj e)) (by omega)
  | succ f ih =>
    intro done a inv hap hr hy h
    refine ⟨List.ne_nil_of_mem hr, fun j hj => ?_⟩
    have hjn : j < n := Nat.lt_of_not_le fun hnj => tail_waits hs hc hn inv _ i rfl hin (mem_ready.1 hr).1 j hnj hj
    by_cases e : j = i
    · rw [e]; exact ⟨hin, hy.qOp hi h⟩
    · obtain ⟨hju, o', ho', hw'⟩ := mem_ready.1 hj
      have hnot : ∀ e', e' ∈ o'.after → Region.binds .any e' = true → e'.on ≠ i := by
        intro e' he' hb hon
        have h1 := hw' e' he' hb
        rw [hon, getD_both (mem_ready.1 hr).1] at h1
        cases h1
      refine ⟨hjn, qOp_mono ?_ (qOp_put ho' (hap j o' ho' e hju hnot) (fun cs b => hsel i o cs b hi) (fun cs b => hsel j o' cs b ho') hy (h.2 j (ready_mono hj e)).2)⟩
      rintro a' ⟨hy', h'⟩
      refine ih (done.setIfInBounds j true) a' (inv.set hj hjn) ?_ (ready_mono hr (Ne.symm e)) hy' (by rw [Array.setIfInBounds_comm _ _ e]; exact h')
      intro k ok hk hki hun hno
      refine hap k ok hk hki ?_ hno
      by_cases hjk : j = k
      · rw [← hjk]; exact hju
      · rwa [getD_set_ne true hjk] at hun

theorem Quiets.lex {n g : Nat} {K : Act → Prop} (hsel : Region.noSelect ops = true) (hs : Region.sinkB .any ops n = true) (hc : Region.chainB .any ops n = true) (hn : n < ops.size) (l : List Oper) :
    ∀ (k : Nat) (done : Array Bool) (a : Act), (∀ j, j < l.length → l[j]? = ops[k + j]?) → k + l.length = n → HeadInv .any ops n done → Region.lexHead .any ops g l.length k done = true →
      wpQuiet P ops C K l a → Quiets P ops C n (fun d b => Region.seqB .any ops g n d = true ∧ K b) l.length done a := by
  induction l with
  | nil =>
    intro k done a _ hk _ hB h
    obtain rfl : k = n := hk
    exact ⟨hB, h⟩
  | cons o l ih =>
    intro k done a hl hk inv hB h
    rw [List.length_cons] at hk
    have h0 : ops[k]? = some o := (hl 0 (Nat.succ_pos _)).symm
    simp only [List.length_cons, Region.lexHead, Bool.and_eq_true, List.contains_iff_mem] at hB
    obtain ⟨⟨hr, hfree⟩, hB⟩ := hB
    have hq : qOp P ops C k (wpQuiet P ops C K l) a := by unfold qOp; rw [h0]; exact h
    obtain ⟨v, hy, hnext⟩ := yieldsIn_of_qOp h0 hq
    refine Quiets.first h0 (Region.noSelect_spec hsel) hs hc hn (by omega) (fun d b hd => seqB_ready hd.1) l.length done a inv (Region.free_spec h0 hfree) hr hy ?_
    refine ih (k + 1) _ _ (fun j hj => ?_) (by omega) (inv.set hr (by omega)) hB hnext
    have := hl (j + 1) (by rw [List.length_cons]; omega)
    rwa [List.getElem?_cons_succ, show k + (j + 1) = k + 1 + j from by omega] at this

/-- THE REGION: n quiet operations in any order, then the rest one by one -/
theorem region_quiet_tail {id : Nat} {Q : Exit → Act → World → Prop} {a : Act} {w : World} {l : List Oper} (n : Nat) (hm : P.follows .mixedOrders = true) (hB : Region.lexTailB .any l.toArray n = true)
    (h : wpQuiet P l.toArray (fun w' => ∃ m, w' = w.drewN m) (fun b => ∀ m, wpList P l.toArray Q (l.drop n) b (w.drewN m)) (l.take n) a) : (Code.region id l.toArray true).wp P Q a w := by
  simp only [Region.lexTailB, Bool.and_eq_true, decide_eq_true_eq] at hB
  obtain ⟨⟨⟨⟨hsel, hn⟩, hs⟩, hc⟩, hlex⟩ := hB
  have hn' : n < l.length := by simpa using hn
  have htl : (l.take n).length = n := by rw [List.length_take]; omega
  have hdl : (l.drop n).length = l.toArray.size - n := by simp
  have inv : HeadInv .any l.toArray n (Array.replicate l.toArray.size false) :=
    ⟨by simp, fun j _ _ hl => (by rw [getD_replicate_false] at hl; cases hl), fun t _ ht => getD_in (by simpa using ht) (getD_replicate_false _ _)⟩
  have hlex' : Region.lexHead .any l.toArray (l.toArray.size - n) (l.take n).length 0 (Array.replicate l.toArray.size false) = true := by rw [htl]; exact hlex
  have H := Quiets.lex hsel hs hc hn (l.take n) 0 _ a (fun j hj => by rw [htl] at hj; simp [hj]) (by omega) inv hlex' h
  refine wp_region_any hm ?_
  have hC : ∃ m, ({ w with drawn := w.drawn + 1 } : World) = w.drewN m := ⟨1, rfl⟩
  have hrun := Quiets.runs (Q := Q) (g := l.toArray.size - n) (fun done b w' hw' hL => by
    obtain ⟨m, rfl⟩ := hw'
    have := wpAny_of_seq (md := .any) (Q' := Q) (l.drop n) n done b (w.drewN m) (fun j => by simp [List.getElem?_drop]) (by rw [hdl]; exact hL.1) (hL.2 m)
    rwa [hdl] at this) _ _ a _ hC H
  rw [htl, show n + (l.toArray.size - n) = l.toArray.size by omega] at hrun
  exact hrun
end
end Go.Proofs.YtehjikogdaclgaaDoor
