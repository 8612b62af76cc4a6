/-
  The reference's constants of SHA-256: roots of primes. · The reference's primes. · The reference's constants of SHA-256, and its Slow. · The reference's Slow and Crc.
-/
import Derived.Test.YtafkjfpmjhfofaaDoorRsha
import Derived.Laws.BitsAllLaws
import Derived.Test.YtafkjfpmjhfofaaDoorMkB
import Derived.Test.YtafkjfpmjhfofaaDoorCrc
import Derived.Test.YtafkjfpmjhfofaaDoorRva
namespace Go.Proofs.YtafkjfpmjhfofaaDoor
open Go Go.RowKit
set_option linter.unusedVariables false

theorem and32 (z : Nat) (h : z < 18446744073709551616) : bits .and .u64 (z : Int) 4294967295 = ((z % 4294967296 : Nat) : Int) := by
  have h1 := u64_and_nat z 4294967295 h (by omega)
  have h2 := Nat.and_two_pow_sub_one_eq_mod z 32
  rw [show (2 : Nat) ^ 32 - 1 = 4294967295 from by decide, show (2 : Nat) ^ 32 = 4294967296 from by decide] at h2
  rw [h2] at h1
  exact h1
def w64 (z : Nat) : Nat := z % 18446744073709551616
theorem wrap64 (z : Nat) : IntKind.u64.wrap (z : Int) = ((w64 z : Nat) : Int) := by rw [IntKind.wrap_u64]; unfold w64; omega
theorem wmul64 (x y : Nat) : IntKind.u64.wrap ((x : Int) * (y : Int)) = ((w64 (x * y) : Nat) : Int) := by rw [← Int.natCast_mul]; exact wrap64 _
theorem wadd64 (x y : Nat) : IntKind.u64.wrap ((x : Int) + (y : Int)) = ((w64 (x + y) : Nat) : Int) := by rw [← Int.natCast_add]; exact wrap64 _
theorem div32 (x : Nat) : (x : Int) / 4294967296 = ((x / 4294967296 : Nat) : Int) := by omega
theorem w64_lt (z : Nat) : w64 z < 18446744073709551616 := Nat.mod_lt _ (by decide)
/-- the words of a product -/
def mT (x0 x1 y0 : Nat) : Nat := w64 (w64 (x1 * y0) + w64 (x0 * y0) / 4294967296)
def mW (x0 y1 t : Nat) : Nat := w64 (t % 4294967296 + w64 (x0 * y1))
def mH (x1 y1 t u : Nat) : Nat := w64 (w64 (w64 (x1 * y1) + t / 4294967296) + u / 4294967296)
def mhi (x y : Nat) : Nat :=
  mH (x / 4294967296) (y / 4294967296) (mT (x % 4294967296) (x / 4294967296) (y % 4294967296)) (mW (x % 4294967296) (y / 4294967296) (mT (x % 4294967296) (x / 4294967296) (y % 4294967296)))
def mlo (x y : Nat) : Nat := w64 (x * y)

set_option maxRecDepth 100000 in
set_option maxHeartbeats 1000000 in
theorem mul64_any (x y : Nat) (hx : x < 18446744073709551616) (hy : y < 18446744073709551616) (w : World) :
    Calls Tryd.prog 101 #[.int .u64 (x : Int), .int .u64 (y : Int)] w fun e w' => e = .returned (.tuple #[.int .u64 ((mhi x y : Nat) : Int), .int .u64 ((mlo x y : Nat) : Int)]) ∧ w = w' := by
  have a1 := and32 x hx
  have a2 := and32 y hy
  have d1 := div32 x
  have d2 := div32 y
  have HR := hid (fun (_ : Unit) => (show mhi x y = mH (x / 4294967296) (y / 4294967296) (mT (x % 4294967296) (x / 4294967296) (y % 4294967296)) (mW (x % 4294967296) (y / 4294967296) (mT (x % 4294967296) (x / 4294967296) (y % 4294967296))) from rfl))
  generalize x % 4294967296 = x0 at *
  generalize x / 4294967296 = x1 at *
  generalize y % 4294967296 = y0 at *
  generalize y / 4294967296 = y1 at *
  have q1 := wmul64 x0 y0
  have q2 := wmul64 x1 y0
  have q5 := wmul64 x0 y1
  have q7 := wmul64 x1 y1
  have q10 := wmul64 x y
  rw [show w64 (x * y) = mlo x y from rfl] at q10
  have d3 := div32 (w64 (x0 * y0))
  have q3 := wadd64 (w64 (x1 * y0)) (w64 (x0 * y0) / 4294967296)
  rw [show w64 (w64 (x1 * y0) + w64 (x0 * y0) / 4294967296) = mT x0 x1 y0 from rfl] at q3
  have d4 := div32 (mT x0 x1 y0)
  have q4 := and32 (mT x0 x1 y0) (w64_lt _)
  have q6 := wadd64 (mT x0 x1 y0 % 4294967296) (w64 (x0 * y1))
  rw [show w64 (mT x0 x1 y0 % 4294967296 + w64 (x0 * y1)) = mW x0 y1 (mT x0 x1 y0) from rfl] at q6
  have d5 := div32 (mW x0 y1 (mT x0 x1 y0))
  have q8 := wadd64 (w64 (x1 * y1)) (mT x0 x1 y0 / 4294967296)
  have q9 := wadd64 (w64 (w64 (x1 * y1) + mT x0 x1 y0 / 4294967296)) (mW x0 y1 (mT x0 x1 y0) / 4294967296)
  rw [show w64 (w64 (w64 (x1 * y1) + mT x0 x1 y0 / 4294967296) + mW x0 y1 (mT x0 x1 y0) / 4294967296) = mH x1 y1 (mT x0 x1 y0) (mW x0 y1 (mT x0 x1 y0)) from rfl, ← HR.out ()] at q9
  generalize w64 (w64 (x1 * y1) + mT x0 x1 y0 / 4294967296) = p8 at *
  generalize mW x0 y1 (mT x0 x1 y0) / 4294967296 = u1 at *
  generalize mW x0 y1 (mT x0 x1 y0) = u at *
  generalize mT x0 x1 y0 / 4294967296 = t1 at *
  generalize mT x0 x1 y0 % 4294967296 = t0 at *
  generalize mT x0 x1 y0 = t at *
  generalize w64 (x0 * y0) / 4294967296 = p1 at *
  generalize w64 (x0 * y0) = p00 at *
  generalize w64 (x1 * y0) = p10 at *
  generalize w64 (x0 * y1) = p01 at *
  generalize w64 (x1 * y1) = p11 at *
  generalize mhi x y = hi at *
  generalize mlo x y = lo at *
  clear HR hx hy
  go_enter Tryd.func101, Tryd.ntmps101
  go_wp2
  go_ret2
  exact ⟨rfl, rfl⟩

/-- whether y is at most a root of p -/
def wiT (y : Nat) : Nat := w64 (w64 (mhi y y * y) + mhi (mlo y y) y)
def wiB (y p : Nat) (cube : Bool) : Bool :=
  if cube = true then decide (wiT y < w64 (p * 4294967296)) || (decide (wiT y = w64 (p * 4294967296)) && decide (mlo (mlo y y) y = 0)) else decide (mhi y y < p) || (decide (mhi y y = p) && decide (mlo y y = 0))
theorem eqI (a b : Nat) : ((a : Int) == (b : Int)) = decide (a = b) := by rw [Bool.eq_iff_iff]; simp; omega
theorem ltI (a b : Nat) : decide ((a : Int) < (b : Int)) = decide (a < b) := by simp

set_option maxRecDepth 100000 in
set_option maxHeartbeats 1000000 in
theorem within_any (y p : Nat) (cube : Bool) (hy : y < 18446744073709551616) (hp : p < 18446744073709551616) (w : World) :
    Calls Tryd.prog 94 #[.int .u64 (y : Int), .int .u64 (p : Int), .bool cube] w fun e w' => e = .returned (.bool (wiB y p cube)) ∧ w = w' := by
  have HA := hid (fun w => mul64_any y y hy hy w)
  have HB := hid (fun w => mul64_any (mlo y y) y (w64_lt _) hy w)
  have q0 : ((mlo y y : Nat) : Int) = 0 ↔ mlo y y = 0 := by omega
  cases cube with
  | false =>
    have HR := hid (fun (_ : Unit) => (show wiB y p false = (decide (mhi y y < p) || (decide (mhi y y = p) && decide (mlo y y = 0))) from rfl))
    generalize mhi y y = H at *
    generalize mlo y y = L at *
    clear HB hy hp q0
    by_cases h1 : H < p
    · have g1 : (H : Int) < (p : Int) := by omega
      go_enter Tryd.func94, Tryd.ntmps94
      go_wp2_with fail
      refine (HA.out _).mono ?_
      rintro e w' ⟨rfl, rfl⟩
      go_wp2
      go_ret
      exact ⟨by rw [HR.out ()]; simp [h1], rfl⟩
    have g1 : ¬ (H : Int) < (p : Int) := by omega
    by_cases h2 : H = p
    · have g2 : ((H : Int) == (p : Int)) = true := by rw [eqI]; exact decide_eq_true h2
      by_cases h3 : L = 0
      · have g3 : ((L : Int) == 0) = true := by rw [h3]; rfl
        go_enter Tryd.func94, Tryd.ntmps94
        go_wp2_with fail
        refine (HA.out _).mono ?_
        rintro e w' ⟨rfl, rfl⟩
        go_wp2
        go_ret
        exact ⟨by rw [HR.out ()]; simp [h2, h3], rfl⟩
      · have g3 : ((L : Int) == 0) = false := by rw [beq_eq_false_iff_ne]; omega
        go_enter Tryd.func94, Tryd.ntmps94
        go_wp2_with fail
        refine (HA.out _).mono ?_
        rintro e w' ⟨rfl, rfl⟩
        go_wp2
        go_ret
        exact ⟨by rw [HR.out ()]; simp [h2, h3], rfl⟩
    · have g2 : ((H : Int) == (p : Int)) = false := by rw [eqI]; exact decide_eq_false h2
      go_enter Tryd.func94, Tryd.ntmps94
      go_wp2_with fail
      refine (HA.out _).mono ?_
      rintro e w' ⟨rfl, rfl⟩
      go_wp2
      go_ret
      exact ⟨by rw [HR.out ()]; simp [h1, h2], rfl⟩
  | true =>
    have HR := hid (fun (_ : Unit) => (show wiB y p true = (decide (wiT y < w64 (p * 4294967296)) || (decide (wiT y = w64 (p * 4294967296)) && decide (mlo (mlo y y) y = 0))) from rfl))
    have t1 := wmul64 (mhi y y) y
    have t2 := wadd64 (w64 (mhi y y * y)) (mhi (mlo y y) y)
    rw [show w64 (w64 (mhi y y * y) + mhi (mlo y y) y) = wiT y from rfl] at t2
    have t3 : IntKind.u64.wrap ((p : Int) * 4294967296) = ((w64 (p * 4294967296) : Nat) : Int) := wmul64 p 4294967296
    have t3' : (p : Int) * 4294967296 % 18446744073709551616 = ((w64 (p * 4294967296) : Nat) : Int) := by unfold w64; omega
    generalize w64 (p * 4294967296) = Q at *
    generalize wiT y = T at *
    generalize mhi (mlo y y) y = H2 at *
    generalize mlo (mlo y y) y = L2 at *
    generalize w64 (mhi y y * y) = T0 at *
    generalize mhi y y = H at *
    generalize mlo y y = L at *
    clear hy hp q0
    by_cases h1 : T < Q
    · have g1 : (T : Int) < (Q : Int) := by omega
      go_enter Tryd.func94, Tryd.ntmps94
      go_wp2_with fail
      refine (HA.out _).mono ?_
      rintro e w' ⟨rfl, rfl⟩
      go_wp2_with fail
      refine (HB.out _).mono ?_
      rintro e w' ⟨rfl, rfl⟩
      go_wp2
      go_ret
      exact ⟨by rw [HR.out ()]; simp [h1], rfl⟩
    have g1 : ¬ (T : Int) < (Q : Int) := by omega
    by_cases h2 : T = Q
    · have g2 : ((T : Int) == (Q : Int)) = true := by rw [eqI]; exact decide_eq_true h2
      by_cases h3 : L2 = 0
      · have g3 : ((L2 : Int) == 0) = true := by rw [h3]; rfl
        go_enter Tryd.func94, Tryd.ntmps94
        go_wp2_with fail
        refine (HA.out _).mono ?_
        rintro e w' ⟨rfl, rfl⟩
        go_wp2_with fail
        refine (HB.out _).mono ?_
        rintro e w' ⟨rfl, rfl⟩
        go_wp2
        go_ret
        exact ⟨by rw [HR.out ()]; simp [h2, h3], rfl⟩
      · have g3 : ((L2 : Int) == 0) = false := by rw [beq_eq_false_iff_ne]; omega
        go_enter Tryd.func94, Tryd.ntmps94
        go_wp2_with fail
        refine (HA.out _).mono ?_
        rintro e w' ⟨rfl, rfl⟩
        go_wp2_with fail
        refine (HB.out _).mono ?_
        rintro e w' ⟨rfl, rfl⟩
        go_wp2
        go_ret
        exact ⟨by rw [HR.out ()]; simp [h2, h3], rfl⟩
    · have g2 : ((T : Int) == (Q : Int)) = false := by rw [eqI]; exact decide_eq_false h2
      go_enter Tryd.func94, Tryd.ntmps94
      go_wp2_with fail
      refine (HA.out _).mono ?_
      rintro e w' ⟨rfl, rfl⟩
      go_wp2_with fail
      refine (HB.out _).mono ?_
      rintro e w' ⟨rfl, rfl⟩
      go_wp2
      go_ret
      exact ⟨by rw [HR.out ()]; simp [h1, h2], rfl⟩

/-- the root after m rounds -/
def rtX (p : Nat) (cube : Bool) : Nat → Nat
  | 0 => 0
  | m + 1 => if wiB (rtX p cube m ||| 2 ^ (35 - m)) p cube = true then rtX p cube m ||| 2 ^ (35 - m) else rtX p cube m
theorem rtX_lt (p : Nat) (cube : Bool) : ∀ m, rtX p cube m < 2 ^ 36
  | 0 => (by decide : (0 : Nat) < 2 ^ 36)
  | m + 1 => by
    have h := rtX_lt p cube m
    have h2 : (2 : Nat) ^ (35 - m) < 2 ^ 36 := Nat.pow_lt_pow_right (by decide) (by omega)
    unfold rtX
    split
    · exact Nat.or_lt_two_pow h h2
    · exact h
set_option maxRecDepth 100000 in
set_option maxHeartbeats 1000000 in
theorem root_any (p : Nat) (cube : Bool) (hp : p < 18446744073709551616) (w : World) :
    Calls Tryd.prog 82 #[.int .u64 (p : Int), .bool cube] w fun e w' => e = .returned (.int .u32 ((rtX p cube 36 % 4294967296 : Nat) : Int)) ∧ w = w' := by
  go_enter Tryd.func82, Tryd.ntmps82
  go_wp2
  go_loop [5, 6] (fun xv iv => ∃ m : Nat, m ≤ 36 ∧ iv = .int .i64 ((35 : Int) - m) ∧ xv = .int .u64 ((rtX p cube m : Nat) : Int)) (fun _ iv => (intOf iv + 1).toNat)
  case atStart => exact ⟨0, by omega, rfl, rfl⟩
  case round =>
    obtain ⟨m, hm, rfl, rfl⟩ := hrel
    by_cases hlt : m < 36
    · obtain ⟨j, hj⟩ : ∃ j, j = 35 - m := ⟨_, rfl⟩
      rw [show (35 : Int) - (m : Int) = (j : Int) from by omega]
      have hj36 : j < 36 := by omega
      have hx := rtX_lt p cube m
      have h2 : (2 : Nat) ^ j < 2 ^ 36 := Nat.pow_lt_pow_right (by decide) hj36
      have hy : rtX p cube m ||| 2 ^ j < 2 ^ 36 := Nat.or_lt_two_pow hx h2
      have HS := hid (fun (_ : Unit) => (show rtX p cube (m + 1) = if wiB (rtX p cube m ||| 2 ^ j) p cube = true then rtX p cube m ||| 2 ^ j else rtX p cube m from by rw [hj]; rfl))
      have u1 : IntKind.u64.wrap (j : Int) = (j : Int) := by rw [IntKind.wrap_u64]; omega
      have u2 : IntKind.u64.wrap ((2 : Int) ^ j) = ((2 ^ j : Nat) : Int) := by
        rw [show (2 : Int) ^ j = ((2 ^ j : Nat) : Int) from by simp, wrap64]
        unfold w64
        rw [Nat.mod_eq_of_lt (by omega)]
      have u3 := u64_or_nat (rtX p cube m) (2 ^ j) (by omega) (by omega)
      have HW := hid (fun w => within_any (rtX p cube m ||| 2 ^ j) p cube (by omega) hp w)
      have t1 : IntKind.i64.wrap ((j : Int) - 1) = (35 : Int) - ((m + 1 : Nat) : Int) := by rw [IntKind.wrap_i64]; omega
      generalize hz : rtX p cube m ||| 2 ^ j = y at *
      generalize hx0 : rtX p cube m = x at *
      generalize hz2 : (2 : Nat) ^ j = z at *
      have HJ := hid (show (j : Int) + m = 35 from by omega)
      have HT := hid t1
      clear hx0 hx h2 hy hz hz2 hj
      go_wp2_with fail
      refine (HW.out _).mono ?_
      rintro e w' ⟨rfl, rfl⟩
      cases hb : wiB y p cube with
      | true =>
        have HS2 := hid (show rtX p cube (m + 1) = y from by rw [HS.out (), if_pos hb])
        go_wp2
        exact ⟨⟨m + 1, by omega, rfl, by rw [HS2.out]⟩, by have h1 := HJ.out; have h2 := HT.out; simp [intOf]; omega⟩
      | false =>
        have HS2 := hid (show rtX p cube (m + 1) = x from by rw [HS.out (), if_neg (by rw [hb]; decide)])
        go_wp2
        exact ⟨⟨m + 1, by omega, rfl, by rw [HS2.out]⟩, by have h1 := HJ.out; have h2 := HT.out; simp [intOf]; omega⟩
    · obtain rfl : m = 36 := by omega
      have hx := rtX_lt p cube 36
      have t0 : IntKind.u32.wrap ((rtX p cube 36 : Nat) : Int) = ((rtX p cube 36 % 4294967296 : Nat) : Int) := by rw [IntKind.wrap_u32]; omega
      generalize hz : rtX p cube 36 % 4294967296 = z at *
      have HZ := hid hz
      clear hz
      generalize hx0 : rtX p cube 36 = x at *
      have HX := hid hx0
      clear hx hx0
      go_wp2
      go_ret
      exact ⟨congrArg (fun q => Ending.returned (Value.int IntKind.u32 q)) (by have h := HZ.out; have h2 := HX.out; omega), rfl⟩
end Go.Proofs.YtafkjfpmjhfofaaDoor

namespace Go.Proofs.YtafkjfpmjhfofaaDoor
open Go Go.RowKit
set_option linter.unusedVariables false

theorem cell_of_newP (w : World) (x : Value) (t : TypeId) : ∀ (j : Nat) (u : Value), [x][j]? = some u → (w.alloc (.cells #[x] t)).cell? ((⟨w.heap.size, 0, none⟩ : Addr).add j) = some u := by
  intro j u h
  cases j with
  | zero =>
    simp at h
    subst h
    show (w.alloc (.cells #[x] t)).cell? ⟨w.heap.size, 0, none⟩ = some x
    simp
  | succ j => simp at h
def u64s (l : List Nat) : List Value := l.map fun (n : Nat) => Value.int .u64 (n : Int)
theorem u64s_snoc (l : List Nat) (x : Nat) : u64s l ++ [.int .u64 (x : Int)] = u64s (l ++ [x]) := by simp [u64s]
theorem info64 : (Tryd.prog.info? 125).map (fun i => (i.zero, i.size, i.bytes)) = some (some (.int .u64 0), 1, 8) := by kernel_rfl
/-- a row of numbers of 64 bits -/
structure Qr (w : World) (B : Nat) (v : Value) (n : Nat) (l : List Nat) : Prop where
  own : w.ownsRow B 125 1 v n (u64s l)
  len : n = l.length
theorem Qr.out {w : World} {B n : Nat} {v : Value} {l : List Nat} (h : Qr w B v n l) : ∃ a c, v = .slice a n c ∧ n ≤ c ∧ (0 < n → ∃ b, a = some ⟨b, 0, none⟩ ∧ ∀ i, i < n → w.cell? ⟨b, i, none⟩ = some (.int .u64 ((l.getD i 0 : Nat) : Int))) := by
  have hm := h.len
  rcases h.own.2 with ⟨rfl, h0⟩ | ⟨g, cap, cur, rfl, hg, hh, hc, _, hs, ht⟩
  · exact ⟨none, 0, by rw [h0], by omega, fun h1 => by omega⟩
  · refine ⟨_, cap, rfl, hc, fun _ => ⟨g, rfl, fun i hi => ?_⟩⟩
    rw [cell_of_heap hh]
    have h3 : (cur.toList.take (n * 1))[i]? = (u64s l)[i]? := by rw [ht]
    rw [List.getElem?_take_of_lt (by omega)] at h3
    rw [← Array.getElem?_toList, h3]
    have hil : i < l.length := by omega
    simp [u64s, List.getElem?_eq_getElem hil]
theorem Qr.below {w w' : World} {B n : Nat} {v : Value} {l : List Nat} (h : Qr w B v n l) (k : Below w.heap.size w w') : Qr w' B v n l := by
  refine ⟨⟨h.own.1, ?_⟩, h.len⟩
  rcases h.own.2 with h2 | ⟨q, cap, cur, h1, h2, h3, h4⟩
  · exact .inl h2
  · exact .inr ⟨q, cap, cur, h1, h2, (k.block q (lt_of_heap h3)).trans h3, h4⟩

/-- whether p is divided by one of l -/
def prB (l : List Nat) (p : Nat) : Nat → Bool
  | 0 => false
  | i + 1 => if p % l.getD i 0 = 0 then true else prB l p i
/-- the primes below m + 2 -/
def prTo : Nat → List Nat
  | 0 => []
  | m + 1 => if prB (prTo m) (m + 2) (prTo m).length = true then prTo m else prTo m ++ [m + 2]
theorem prTo_mono (m : Nat) : (prTo m).length ≤ (prTo (m + 1)).length := by
  rw [prTo]
  split
  · exact Nat.le_refl _
  · simp
theorem prTo_mono2 (m q : Nat) : (prTo m).length ≤ (prTo (m + q)).length := by
  induction q with
  | zero => exact Nat.le_refl _
  | succ q ih => exact Nat.le_trans ih (prTo_mono _)
theorem prTo_mem (m : Nat) : ∀ x ∈ prTo m, 2 ≤ x ∧ x ≤ m + 1 := by
  induction m with
  | zero => intro x hx; exact absurd hx List.not_mem_nil
  | succ m ih =>
    intro x hx
    rw [prTo] at hx
    split at hx
    · have := ih x hx; omega
    · rcases List.mem_append.1 hx with h | h
      · have := ih x h; omega
      · simp only [List.mem_singleton] at h; omega
theorem prTo_309 : (prTo 309).length = 63 := by decide +kernel
theorem prTo_310 : (prTo 310).length = 64 := by decide +kernel
theorem prTo_lt (m : Nat) (h : m < 310) : (prTo m).length < 64 := by
  have h1 := prTo_mono2 m (309 - m)
  rw [show m + (309 - m) = 309 from by omega, prTo_309] at h1
  omega

set_option maxRecDepth 100000 in
set_option maxHeartbeats 1000000 in
theorem primes_any (w : World) :
    Calls Tryd.prog 81 #[.int .i64 64] w fun e w' => ∃ v, e = .returned v ∧ Qr w' w.heap.size v 64 (prTo 310) ∧ Below w.heap.size w w' := by
  obtain ⟨i0, hi, hz0, hz1, hz2⟩ := info_parts info64
  have h0 : Qr (w.alloc (.cells #[] 125)) w.heap.size (.slice (some ⟨w.heap.size, 0, none⟩) 0 0) 0 (prTo 0) := ⟨⟨rfl, .inr ⟨w.heap.size, 0, #[], rfl, Nat.le_refl _, heap_new _ _, Nat.le_refl _, Nat.zero_le _, rfl, rfl⟩⟩, rfl⟩
  have H0 := hid h0
  have HB0 := hid (show Below w.heap.size w (w.alloc (.cells #[] 125)) from (Below.refl _ _).alloc (Nat.le_refl _) _)
  clear h0
  go_enter Tryd.func81, Tryd.ntmps81
  go_wp2
  go_loopw [3, 4] (fun v pv wr => ∃ m : Nat, m ≤ 310 ∧ pv = .int .u64 ((m + 2 : Nat) : Int) ∧ Hid (Qr wr w.heap.size v (prTo m).length (prTo m)) ∧ Hid (Below w.heap.size w wr)) (fun _ pv _ => 312 - (intOf pv).toNat)
  case atStart => exact ⟨0, by omega, rfl, H0, HB0⟩
  case round =>
    clear H0 HB0
    obtain ⟨m, hm, rfl, HQ, HB⟩ := hrel
    obtain ⟨a, c, rfl, hnc, hcell⟩ := HQ.out.out
    have HCELL := hid hcell
    clear hcell
    by_cases hlt : m < 310
    · have hl64 := prTo_lt m hlt
      have HS := hid (fun (_ : Unit) => (show prTo (m + 1) = if prB (prTo m) (m + 2) (prTo m).length = true then prTo m else prTo m ++ [m + 2] from rfl))
      have HMEM := hid (prTo_mem m)
      generalize hL : prTo m = L at *
      have HL := hid hL
      clear hL
      generalize hn : L.length = n at *
      have HN := hid hn
      clear hn
      obtain ⟨p, hp⟩ : ∃ p, p = m + 2 := ⟨_, rfl⟩
      rw [← hp] at HS ⊢
      have hp64 : p < 312 := by omega
      have HP := hid hp
      clear hp
      have g1 : (n : Int) < 64 := by omega
      go_wp2
      go_loop [5, 6] (fun dv iv => ∃ i : Nat, i ≤ n ∧ iv = .int .i64 i ∧ dv = .bool (prB L p i)) (fun _ iv => n - (intOf iv).toNat)
      case atStart => exact ⟨0, by omega, rfl, rfl⟩
      case round =>
        obtain ⟨i, hi', rfl, rfl⟩ := hrel
        by_cases hin : i < n
        · obtain ⟨b, rfl, hc0⟩ := HCELL.out (by omega)
          have hc := hc0 i hin
          clear hc0
          have hq2 := HMEM.out (L.getD i 0) (by rw [List.getD_eq_getElem?_getD, List.getElem?_eq_getElem (by rw [HN.out]; exact hin)]; exact List.getElem_mem _)
          have HST := hid (fun (_ : Unit) => (show prB L p (i + 1) = if p % L.getD i 0 = 0 then true else prB L p i from rfl))
          generalize L.getD i 0 = q at *
          have z1 : ((q : Int) == 0) = false := by rw [beq_eq_false_iff_ne]; omega
          have z2 : ¬ (q : Int) = 0 := by omega
          have z3 : (p : Int) % (q : Int) = ((p % q : Nat) : Int) := by simp
          have z4 : Int.tmod (p : Int) (q : Int) = ((p % q : Nat) : Int) := by rw [Int.tmod_eq_emod_of_nonneg (by omega)]; simp
          have hqp : p % q < 400 := Nat.lt_of_le_of_lt (Nat.mod_le _ _) (by omega)
          generalize p % q = r at *
          generalize prB L p i = dv at *
          clear hq2
          by_cases hr : r = 0
          · have z6 : ((p : Int).tmod (q : Int) == 0) = true := by rw [z4, hr]; rfl
            have z7 : ((p : Int) % (q : Int) == 0) = true := by rw [z3, hr]; rfl
            have HS2 := hid (show prB L p (i + 1) = true from by rw [HST.out (), if_pos hr])
            clear z3 z4
            go_wp2
            exact ⟨⟨i + 1, by omega, by go_num, by rw [HS2.out]⟩, by simp [intOf]; omega⟩
          · have HS2 := hid (show prB L p (i + 1) = dv from by rw [HST.out (), if_neg hr])
            have z6 : ((p : Int).tmod (q : Int) == 0) = false := by rw [z4, beq_eq_false_iff_ne]; omega
            have z7 : ((p : Int) % (q : Int) == 0) = false := by rw [z3, beq_eq_false_iff_ne]; omega
            clear z3 z4
            go_wp2
            exact ⟨⟨i + 1, by omega, by go_num, by rw [HS2.out]⟩, by simp [intOf]; omega⟩
        · obtain rfl : i = n := by omega
          cases hb : prB L p i with
          | true =>
            have HS2 := hid (show prTo (m + 1) = L from by rw [HS.out (), if_pos hb])
            go_wp2
            go_roundw
            case rel => exact ⟨m + 1, by omega, by have := HP.out; go_num, by rw [HS2.out, HN.out]; exact HQ, HB⟩
            case measure => have := HP.out; simp [intOf]; omega
          | false =>
            have HS2 := hid (show prTo (m + 1) = L ++ [p] from by rw [HS.out (), if_neg (by rw [hb]; decide)])
            have hown1 := HQ.out.own.alloc (.cells #[.int .u64 (p : Int)] 125)
            have hsz := HB.out.size
            go_wp2_with (refine wpList_append_own _ rfl (.tmp 29) (.tmp 31) _ rfl w.heap.size 125 i0 (.int .u64 0) 1 8 Tryd.underlying129 hi hz0 hz1 hz2 rfl (by decide) _ i (u64s L) rfl hown1 ⟨wr.heap.size, 0, none⟩ 1 1 [.int .u64 (p : Int)] rfl rfl (cell_of_newP _ _ _) (fun u hu => by simp only [List.mem_singleton] at hu; subst hu; rfl) (by unfold maxLen; omega) (by omega) (by simp; omega) ?_)
            intro v' w2 hown2 hg2 _
            rw [u64s_snoc] at hown2
            have hb2 : Below w.heap.size w w2 := (HB.out.alloc hsz _).grown hg2 (by simp; omega) (fun g hg => by
              obtain ⟨_, h2⟩ := hown1
              rcases h2 with ⟨h3, _⟩ | ⟨g', cap, cur, h3, h4, _⟩
              · rw [h3] at hg; cases hg
              · rw [h3] at hg; simp [Value.ownBlock] at hg; omega)
            have HO2 := hid (show Qr w2 w.heap.size v' (L ++ [p]).length (L ++ [p]) from ⟨by rw [show (L ++ [p]).length = i + 1 from by rw [List.length_append, HN.out]; rfl]; exact hown2, rfl⟩)
            have HB2 := hid hb2
            clear hown1 hg2 hown2 hb2
            go_wp2
            go_roundw
            case rel => exact ⟨m + 1, by omega, by have := HP.out; go_num, by rw [HS2.out]; exact HO2, HB2⟩
            case measure => have := HP.out; simp [intOf]; omega
    · obtain rfl : m = 310 := by omega
      have h64 := prTo_310
      have HQ2 := hid (show Qr wr w.heap.size (.slice a 64 c) 64 (prTo 310) from by have h := HQ.out; rw [h64] at h; exact h)
      rw [h64]
      clear HQ h64
      go_wp2
      go_ret
      exact ⟨_, rfl, HQ2.out, HB.out⟩
end Go.Proofs.YtafkjfpmjhfofaaDoor

namespace Go.Proofs.YtafkjfpmjhfofaaDoor
open Go Go.RowKit
set_option linter.unusedVariables false

theorem run_load_opK {P : Program} {ev : Operand → Value} {o : Oper} {ty : TypeId} {x : Operand} {w : World} {v : Value} {ad : Addr} (h : (loadVar ty ad).run P w = .ok v w) (ho : o.op = .load ty x := by rfl) (hx : ev x = .pointer (some ad) := by rfl) :
    (execOp ev o).run P w = .ok (.value v) w := by
  unfold execOp
  simp only [ho, hx, Instr.loadAt, Instr.sureAddr, Sem.run_bind, Sem.run_pure, Result.andThen_ok, h]
/-- the constants that are reckoned so far -/
def cF (cube : Bool) (j : Nat) : Nat := rtX ((prTo 310).getD j 0) cube 36 % 4294967296
def cTo (n : Nat) (cube : Bool) (i : Nat) : List Nat := upTo n (cF cube) i
theorem cTo_round : cTo 64 true 64 = shaRound := by kernel_rfl
theorem cTo_start : cTo 8 false 8 = shaStart := by kernel_rfl
theorem cTo_stop (i : Nat) (h : 8 ≤ i) : cTo 8 false i = cTo 8 false 8 := by
  unfold cTo upTo
  refine List.map_congr_left fun j hj => ?_
  have := List.mem_range.1 hj
  rw [if_pos (by omega), if_pos (by omega)]
theorem pr64 : ∀ i, (prTo 310).getD i 0 < 18446744073709551616 := fun i => by
  rw [List.getD_eq_getElem?_getD]
  by_cases h : i < (prTo 310).length
  · rw [List.getElem?_eq_getElem h]
    have := prTo_mem 310 _ (List.getElem_mem h)
    show (prTo 310)[i] < _
    omega
  · rw [List.getElem?_eq_none (by omega)]; decide
theorem OwnW.setC {w : World} {b : Nat} {l : List Nat} (h : OwnW w b l) (i n : Nat) : OwnW (w.setCell ⟨b, i, none⟩ (.int .u32 (n : Int))) b (l.set i n) := by
  have := heap_set h i (.int .u32 (n : Int))
  unfold OwnW
  rw [this]
  simp [u32s, List.map_set]
theorem OwnV.setC {w : World} {b : Nat} {l : List Nat} (h : OwnV w b l) (i n : Nat) : OwnV (w.setCell ⟨b, i, none⟩ (.int .u32 (n : Int))) b (l.set i n) := by
  have := heap_set h i (.int .u32 (n : Int))
  unfold OwnV
  rw [this]
  simp [u32s, List.map_set]
theorem cell_u32 {w : World} {b : Nat} {l : List Nat} {T : TypeId} (h : w.heap[b]? = some (.cells (u32s l).toArray T (0, 0))) (i : Nat) (hi : i < l.length) : w.cell? ⟨b, i, none⟩ = some (.int .u32 ((l.getD i 0 : Nat) : Int)) := by
  rw [cell_of_heap h]
  simp [u32s, List.getElem?_map, List.getElem?_eq_getElem hi]
theorem results_cc0 {fn : Func} {p q : Tmp} {ty uy : TypeId} (h : fn.results = #[.cell p ty, .cell q uy]) (tmps : Array Value) (P : Program) (w : World) :
    (results fn tmps).run P w = ((asAddr (tmps.getD p undef)).run P w).andThen fun a w₁ => ((loadVar ty a).run P w₁).andThen fun v w₂ => ((asAddr (tmps.getD q undef)).run P w₂).andThen fun b w₃ => ((loadVar uy b).run P w₃).andThen fun u w₄ => .ok (.tuple #[v, u]) w₄ := by
  simp only [results, h]
  simp [Sem.run_bind, Result.andThen]
theorem results_cc {fn : Func} {p q : Tmp} {ty uy : TypeId} (h : fn.results = #[.cell p ty, .cell q uy]) {tmps : Array Value} {P : Program} {w : World} {ad bd : Addr} {v u : Value} (hp : tmps.getD p undef = .pointer (some ad)) (hv : (loadVar ty ad).run P w = .ok v w) (hq : tmps.getD q undef = .pointer (some bd)) (hu : (loadVar uy bd).run P w = .ok u w) :
    (results fn tmps).run P w = .ok (.tuple #[v, u]) w := by
  rw [results_cc0 h, hp, hq]
  simp [asAddr, hv, hu, Result.andThen]

set_option maxRecDepth 100000 in
set_option maxHeartbeats 2000000 in
theorem constants_any (w : World) :
    Calls Tryd.prog 60 #[] w fun e w' => e = .returned (.tuple #[.agg (u32s shaRound).toArray, .agg (u32s shaStart).toArray]) ∧ Below w.heap.size w w' := by
  obtain ⟨w1, hw1⟩ : ∃ y, y = (w.alloc (.cells (u32s (List.replicate 64 0)).toArray 99)).alloc (.cells (u32s (List.replicate 8 0)).toArray 100) := ⟨_, rfl⟩
  have hs1 : w1.heap.size = w.heap.size + 2 := by rw [hw1]; simp
  have HB1 := hid (show Below w.heap.size w w1 from by rw [hw1]; exact ((Below.refl _ _).alloc (Nat.le_refl _) _).alloc (by simp) _)
  have HA1 := hid (show OwnW w1 w.heap.size (List.replicate 64 0) from by rw [hw1]; exact heap_alloc (heap_new _ _) _)
  have HV1 := hid (show OwnV w1 (w.heap.size + 1) (List.replicate 8 0) from by
    rw [hw1]
    have h := heap_new (w.alloc (.cells (u32s (List.replicate 64 0)).toArray 99)) (.cells (u32s (List.replicate 8 0)).toArray 100)
    rw [World.size_alloc] at h
    exact h)
  have HS1 := hid hs1
  clear hs1
  go_enter Tryd.func60, Tryd.ntmps60
  go_wp2_with fail
  change Calls _ _ _ ((w.alloc (.cells (u32s (List.replicate 64 0)).toArray 99)).alloc (.cells (u32s (List.replicate 8 0)).toArray 100)) _
  rw [← hw1]
  clear hw1
  refine (primes_any w1).mono ?_
  rintro e w2 ⟨v, rfl, hq2, hb2⟩
  obtain ⟨a, c, rfl, hc64, hcl⟩ := hq2.out
  obtain ⟨b, rfl, hcell⟩ := hcl (by decide)
  clear hcl
  have HC2 := hid hcell
  have hbl := World.block_lt_of_cell? _ _ (hcell 0 (by decide))
  have HB2 := hid (HB1.out.trans (hb2.mono HB1.out.size))
  have HA2 := hid ((hb2.block _ (lt_of_heap HA1.out)).trans HA1.out)
  have HV2 := hid ((hb2.block _ (lt_of_heap HV1.out)).trans HV1.out)
  have HSZ := hid (show w.heap.size + 2 ≤ w2.heap.size from by have := hb2.size; have := HS1.out; omega)
  obtain ⟨w4, hw4⟩ : ∃ y, y = (w2.alloc (.cells (u32s (List.replicate 64 0)).toArray 99)).alloc (.cells (u32s (List.replicate 8 0)).toArray 100) := ⟨_, rfl⟩
  have HB4 := hid (show Below w2.heap.size w2 w4 from by rw [hw4]; exact ((Below.refl _ _).alloc (Nat.le_refl _) _).alloc (by simp) _)
  have HA4 := hid (show OwnW w4 w2.heap.size (cTo 64 true 0) from by rw [hw4]; exact heap_alloc (heap_new _ _) _)
  have HV4 := hid (show OwnV w4 (w2.heap.size + 1) (cTo 8 false 0) from by
    rw [hw4]
    have h := heap_new (w2.alloc (.cells (u32s (List.replicate 64 0)).toArray 99)) (.cells (u32s (List.replicate 8 0)).toArray 100)
    rw [World.size_alloc] at h
    exact h)
  clear hcell hq2 hb2 HA1 HV1 HS1
  go_wp2
  change Code.wp _ _ _ _ ((w2.alloc (.cells (u32s (List.replicate 64 0)).toArray 99)).alloc (.cells (u32s (List.replicate 8 0)).toArray 100))
  rw [← hw4]
  clear hw4
  go_loopw [5] (fun iv wr => ∃ i : Nat, i ≤ 64 ∧ iv = .int .i64 i ∧ Hid (OwnW wr w2.heap.size (cTo 64 true i)) ∧ Hid (OwnV wr (w2.heap.size + 1) (cTo 8 false i)) ∧ Hid (Below w2.heap.size w2 wr)) (fun iv _ => 64 - (intOf iv).toNat)
  case atStart => exact ⟨0, by omega, rfl, HA4, HV4, HB4⟩
  case round =>
    clear HA4 HV4 HB4
    obtain ⟨i, hi, rfl, HA, HV, HB⟩ := hrel
    by_cases hlt : i < 64
    · have hci := HC2.out i hlt
      have hc : wr.cell? ⟨b, i, none⟩ = some (.int .u64 (((prTo 310).getD i 0 : Nat) : Int)) := (HB.out.cell (p := ⟨b, i, none⟩) hbl).trans hci
      have HR1 := hid (fun w => root_any ((prTo 310).getD i 0) true (pr64 i) w)
      have HR2 := hid (fun w => root_any ((prTo 310).getD i 0) false (pr64 i) w)
      have hF1 : rtX ((prTo 310).getD i 0) true 36 % 4294967296 = cF true i := rfl
      have hF2 : rtX ((prTo 310).getD i 0) false 36 % 4294967296 = cF false i := rfl
      rw [hF1] at HR1
      rw [hF2] at HR2
      have c3 := cell_u32 HA.out i (by simp [cTo, upTo_length]; omega)
      have f3 := free_of_heap HA.out i
      generalize (cTo 64 true i).getD i 0 = z at *
      obtain ⟨wS, hwS⟩ : ∃ y, y = wr.setCell ⟨w2.heap.size, i, none⟩ (.int .u32 ((cF true i : Nat) : Int)) := ⟨_, rfl⟩
      have HAS := hid (show OwnW wS w2.heap.size (cTo 64 true (i + 1)) from by
        rw [hwS]
        have h := HA.out.setC i (cF true i)
        rw [show (cTo 64 true i).set i (cF true i) = cTo 64 true (i + 1) from upTo_set _ _ _] at h
        exact h)
      have HVS := hid (show OwnV wS (w2.heap.size + 1) (cTo 8 false i) from by
        rw [hwS]
        exact (Below.heap_setCell _ _ _ _ (by show w2.heap.size + 1 ≠ w2.heap.size; omega)).trans HV.out)
      have HBS := hid (show Below w2.heap.size w2 wS from by rw [hwS]; exact HB.out.setCell (p := ⟨w2.heap.size, i, none⟩) (Nat.le_refl _) _)
      have hcS : wS.cell? ⟨b, i, none⟩ = some (.int .u64 (((prTo 310).getD i 0 : Nat) : Int)) := (HBS.out.cell (p := ⟨b, i, none⟩) hbl).trans hci
      clear hF1 hF2 hci
      generalize (prTo 310).getD i 0 = p at *
      generalize hf1 : cF true i = f1 at *
      have HF1 := hid hf1
      clear hf1
      generalize hf2 : cF false i = f2 at *
      have HF2 := hid hf2
      clear hf2
      go_wp2_with fail
      refine (HR1.out _).mono ?_
      rintro e w' ⟨rfl, rfl⟩
      go_upto_region 8 with fail
      rw [← hwS]
      clear hwS
      by_cases h8 : i < 8
      · have g8 : (i : Int) < 8 := by omega
        have c4 := cell_u32 HVS.out i (by simp [cTo, upTo_length]; omega)
        have f4 := free_of_heap HVS.out i
        generalize (cTo 8 false i).getD i 0 = z4 at *
        have HV5 := hid (show OwnV (wS.setCell ⟨w2.heap.size + 1, i, none⟩ (.int .u32 ((f2 : Nat) : Int))) (w2.heap.size + 1) (cTo 8 false (i + 1)) from by
          have h := HVS.out.setC i f2
          rw [← HF2.out, show (cTo 8 false i).set i (cF false i) = cTo 8 false (i + 1) from upTo_set _ _ _] at h
          rw [← HF2.out]
          exact h)
        have HA5 := hid (show OwnW (wS.setCell ⟨w2.heap.size + 1, i, none⟩ (.int .u32 ((f2 : Nat) : Int))) w2.heap.size (cTo 64 true (i + 1)) from (Below.heap_setCell _ _ _ _ (by show w2.heap.size ≠ w2.heap.size + 1; omega)).trans HAS.out)
        have HB5 := hid (show Below w2.heap.size w2 (wS.setCell ⟨w2.heap.size + 1, i, none⟩ (.int .u32 ((f2 : Nat) : Int))) from HBS.out.setCell (p := ⟨w2.heap.size + 1, i, none⟩) (Nat.le_succ _) _)
        go_wp2_with fail
        refine (HR2.out _).mono ?_
        rintro e w' ⟨rfl, rfl⟩
        go_wp2
        go_roundw
        case rel => exact ⟨i + 1, by omega, by go_num, HA5, HV5, HB5⟩
        case measure => simp [intOf]; omega
      · have g8 : ¬ (i : Int) < 8 := by omega
        have HV5 := hid (show OwnV wS (w2.heap.size + 1) (cTo 8 false (i + 1)) from by rw [cTo_stop (i + 1) (by omega), ← cTo_stop i (by omega)]; exact HVS.out)
        go_wp2
        go_roundw
        case rel => exact ⟨i + 1, by omega, by go_num, HAS, HV5, HBS⟩
        case measure => simp [intOf]; omega
    · obtain rfl : i = 64 := by omega
      have hK := HA.out
      have hH := HV.out
      rw [cTo_round] at hK
      rw [cTo_stop 64 (by decide), cTo_start] at hH
      have hA0 := (HB.out.block _ (lt_of_heap HA2.out)).trans HA2.out
      have hB0 := (HB.out.block _ (lt_of_heap HV2.out)).trans HV2.out
      have hkl : shaRound.length = 64 := by decide
      have hhl : shaStart.length = 8 := by decide
      generalize hKe : shaRound = K at *
      have HKE := hid (fun (_ : Unit) => hKe)
      clear hKe
      generalize hHe : shaStart = H at *
      have HHE := hid (fun (_ : Unit) => hHe)
      clear hHe
      obtain ⟨b0, hb0⟩ : ∃ y, y = w.heap.size := ⟨_, rfl⟩
      obtain ⟨b1, hb1⟩ : ∃ y, y = w.heap.size + 1 := ⟨_, rfl⟩
      obtain ⟨b3, hb3⟩ : ∃ y, y = w2.heap.size := ⟨_, rfl⟩
      obtain ⟨b4, hb4⟩ : ∃ y, y = w2.heap.size + 1 := ⟨_, rfl⟩
      have hsz := HSZ.out
      have HA := hid (show wr.heap[b0]? = some (.cells (u32s (List.replicate 64 0)).toArray 99 (0, 0)) from by rw [hb0]; exact hA0)
      have HB9 := hid (show wr.heap[b1]? = some (.cells (u32s (List.replicate 8 0)).toArray 100 (0, 0)) from by rw [hb1]; exact hB0)
      have H3 := hid (show wr.heap[b3]? = some (.cells (u32s K).toArray 99 (0, 0)) from by rw [hb3]; exact hK)
      have H4 := hid (show wr.heap[b4]? = some (.cells (u32s H).toArray 100 (0, 0)) from by rw [hb4]; exact hH)
      have HIFK := hid (show (Tryd.prog.info? 99).map (·.size) = some (u32s K).toArray.size from by rw [List.size_toArray, u32s_length, hkl]; kernel_rfl)
      have HIFH := hid (show (Tryd.prog.info? 100).map (·.size) = some (u32s H).toArray.size from by rw [List.size_toArray, u32s_length, hhl]; kernel_rfl)
      have HSK := hid (show (u32s (List.replicate 64 0)).toArray.size = (u32s K).toArray.size from by rw [List.size_toArray, List.size_toArray, u32s_length, u32s_length, hkl]; rfl)
      have HSH := hid (show (u32s (List.replicate 8 0)).toArray.size = (u32s H).toArray.size from by rw [List.size_toArray, List.size_toArray, u32s_length, u32s_length, hhl]; rfl)
      have HL1 := hid (lt_of_heap HB9.out)
      have HL3 := hid (lt_of_heap H3.out)
      have HL4 := hid (lt_of_heap H4.out)
      have HN10 := hid (show b1 ≠ b0 from by omega)
      have HN30 := hid (show b3 ≠ b0 from by omega)
      have HN40 := hid (show b4 ≠ b0 from by omega)
      have HN31 := hid (show b3 ≠ b1 from by omega)
      have HN41 := hid (show b4 ≠ b1 from by omega)
      have HBW := hid (HB2.out.trans (HB.out.mono HB2.out.size))
      have HKP := hid (show ∀ wx : World, wx.heap[b3]? = wr.heap[b3]? → wx.heap[b4]? = wr.heap[b4]? → (loadVar 99 ⟨b3, 0, none⟩).run Tryd.prog wx = .ok (.agg (u32s K).toArray) wx ∧ (loadVar 100 ⟨b4, 0, none⟩).run Tryd.prog wx = .ok (.agg (u32s H).toArray) wx from fun wx e3 e4 =>
        ⟨run_loadVar_row wx _ 99 99 _ (0, 0) _ (e3.trans H3.out) Tryd.underlying99 rfl HIFK.out, run_loadVar_row wx _ 100 100 _ (0, 0) _ (e4.trans H4.out) Tryd.underlying100 rfl HIFH.out⟩)
      have HLE := hid (show w.heap.size ≤ b0 ∧ w.heap.size ≤ b1 from by omega)
      rw [← hb1, ← hb0, ← hb4, ← hb3]
      clear hK hH hA0 hB0 hsz hb0 hb1 hb3 hb4 HB2 HB HV
      have HB := HB9
      clear HB9
      go_wp2
      refine wp_region_held_drew (S := fun wx => (loadVar 99 ⟨b3, 0, none⟩).run Tryd.prog wx = .ok (.agg (u32s K).toArray) wx ∧ (loadVar 100 ⟨b4, 0, none⟩).run Tryd.prog wx = .ok (.agg (u32s H).toArray) wx) (by kernel_rfl) (HKP.out _ rfl rfl) (fun hHeld => ?_)
      refine wpAnyH_take (i := 0) (oi := { dst := some 27, op := Op.load 99 (Operand.tmp 3), type := 99, pos := "ref.go:77", after := #[], guard := none }) (v := .agg (u32s K).toArray) rfl (by kernel_rfl) (by kernel_rfl) (by kernel_rfl) (fun _ _ _ h => h) (Or.inl ⟨by rfl, ?hy⟩) hHeld ?_
      case hy => (intro w hSw; exact run_load_opK hSw.1)
      try simp only [Act.put, List.setIfInBounds_toArray, List.set_cons_zero, List.set_cons_succ]
      refine wpAnyH_take (i := 1) (oi := { dst := some 28, op := Op.load 100 (Operand.tmp 4), type := 100, pos := "ref.go:77", after := #[{ on := 2, ground := Ground.gcOnly Departure.lateStores }], guard := none }) (v := .agg (u32s H).toArray) rfl (by kernel_rfl) (by kernel_rfl) (by kernel_rfl) (fun _ _ _ h => h) (Or.inl ⟨by rfl, ?hy⟩) hHeld ?_
      case hy => (intro w hSw; exact run_load_opK hSw.2)
      try simp only [Act.put, List.setIfInBounds_toArray, List.set_cons_zero, List.set_cons_succ]
      refine wpAnyH_ready (rs := [2]) (by kernel_rfl) (by simp) ?_
      refine AllReadyH.cons (o := { dst := none, op := Op.store 99 (Operand.tmp 0) (Operand.tmp 27), type := 0, pos := "ref.go:77", after := #[{ on := 0, ground := Ground.data }, { on := 0, ground := Ground.phase }, { on := 1, ground := Ground.textOnly Departure.lateStores }], guard := none }) rfl (fun K9 hK => ?_) AllReadyH.nil
      refine step_store_row rfl 99 (.tmp 0) (.tmp 27) rfl b0 (u32s (List.replicate 64 0)).toArray (u32s K).toArray 99 rfl rfl HA.out HIFK.out HSK.out (u32s_one K) ?_
      intro wA hA hkA
      have HAA := hid hA
      have HB2 := hid ((hkA.block _ HL1.out HN10.out).trans HB.out)
      refine hK.out _ _ (HKP.out _ (hkA.block _ HL3.out HN30.out) (hkA.block _ HL4.out HN40.out)) (fun hHeld => ?_)
      clear hK K9
      try simp only [Act.put]
      refine wpAnyH_ready (rs := [3]) (by kernel_rfl) (by simp) ?_
      refine AllReadyH.cons (o := { dst := none, op := Op.store 100 (Operand.tmp 1) (Operand.tmp 28), type := 0, pos := "ref.go:77", after := #[{ on := 1, ground := Ground.data }, { on := 2, ground := Ground.chain }, { on := 0, ground := Ground.phase }, { on := 1, ground := Ground.phase }, { on := 2, ground := Ground.phase }], guard := none }) rfl (fun K9 hK => ?_) AllReadyH.nil
      refine step_store_row rfl 100 (.tmp 1) (.tmp 28) rfl b1 (u32s (List.replicate 8 0)).toArray (u32s H).toArray 100 rfl rfl HB2.out HIFH.out HSH.out (u32s_one H) ?_
      intro wB hB hkB
      refine hK.out _ _ (HKP.out _ ((hkB.block _ (Nat.lt_of_lt_of_le HL3.out hkA.size) HN31.out).trans (hkA.block _ HL3.out HN30.out)) ((hkB.block _ (Nat.lt_of_lt_of_le HL4.out hkA.size) HN41.out).trans (hkA.block _ HL4.out HN40.out))) (fun hHeld => ?_)
      clear hK K9
      try simp only [Act.put]
      refine wpAnyH_done (by kernel_rfl) ?_ _
      go_wp2
      have hAB := (hkB.block b0 (lt_of_heap HAA.out) (fun e => HN10.out e.symm)).trans HAA.out
      have r1 : (loadVar 99 ⟨b0, 0, none⟩).run Tryd.prog wB = .ok (.agg (u32s K).toArray) wB := run_loadVar_row wB _ 99 99 _ (0, 0) _ hAB Tryd.underlying99 rfl HIFK.out
      have r2 : (loadVar 100 ⟨b1, 0, none⟩).run Tryd.prog wB = .ok (.agg (u32s H).toArray) wB := run_loadVar_row wB _ 100 100 _ (0, 0) _ hB Tryd.underlying100 rfl HIFH.out
      refine bodyPost_ret (v := .tuple #[.agg (u32s K).toArray, .agg (u32s H).toArray]) (results_cc Tryd.results60 rfl r1 rfl r2) rfl ⟨by rw [HKE.out (), HHE.out ()], ?_⟩
      exact ((bel_drewN HBW.out 1).trans (hkA.below HBW.out.size HLE.out.1)).trans (hkB.below (Nat.le_trans HBW.out.size hkA.size) HLE.out.2)
end Go.Proofs.YtafkjfpmjhfofaaDoor

namespace Go.Proofs.YtafkjfpmjhfofaaDoor
open Go Go.RowKit
set_option linter.unusedVariables false

set_option maxRecDepth 100000 in
set_option maxHeartbeats 2000000 in
theorem rslow_any (l : List Nat) (a : Option Addr) (n c : Nat) (w : World) (hb : Bs w (.slice a n c) l) (hnil : a = none → c = 0) (hn : n ≤ 900000000) :
    Calls Tryd.prog 33 #[.slice a n c] w fun e w' => e = .returned (.agg (u8s (dig shaRound shaStart l)).toArray) ∧ Below w.heap.size w w' := by
  obtain ⟨w1, hw1⟩ : ∃ q, q = w.alloc (.cells (u8s (List.replicate 32 0)).toArray 24) := ⟨_, rfl⟩
  have hB1 : Below w.heap.size w w1 := by rw [hw1]; exact (Below.refl _ _).alloc (Nat.le_refl _) _
  have HR := hid (show OwnD w1 w.heap.size (List.replicate 32 0) from by rw [hw1]; exact heap_new _ _)
  have HBS := hid hb
  have hkl : shaRound.length = 64 := by decide
  have hhl : shaStart.length = 8 := by decide
  have HF := hid (fun (wx : World) (b : Below w.heap.size w wx) => fold_any shaStart shaRound l a n c wx hhl (getD_of_all (by decide)) hkl (getD_of_all (by decide)) (hb.below b) hnil hn)
  have HCON := hid (fun w => constants_any w)
  have HB1 := hid hB1
  have HIFK := hid (show (Tryd.prog.info? 99).map (·.size) = some (u32s shaRound).toArray.size from by rw [List.size_toArray, u32s_length, hkl]; kernel_rfl)
  have HIFH := hid (show (Tryd.prog.info? 100).map (·.size) = some (u32s shaStart).toArray.size from by rw [List.size_toArray, u32s_length, hhl]; kernel_rfl)
  have HIFKl := hid (show (Tryd.prog.info? 99).map (·.size) = some (u32s shaRound).length from by rw [u32s_length, hkl]; kernel_rfl)
  have HIFHl := hid (show (Tryd.prog.info? 100).map (·.size) = some (u32s shaStart).length from by rw [u32s_length, hhl]; kernel_rfl)
  have HSK := hid (show (u32s (List.replicate 64 0)).toArray.size = (u32s shaRound).toArray.size from by rw [List.size_toArray, List.size_toArray, u32s_length, u32s_length, hkl]; rfl)
  have HSH := hid (show (u32s (List.replicate 8 0)).toArray.size = (u32s shaStart).toArray.size from by rw [List.size_toArray, List.size_toArray, u32s_length, u32s_length, hhl]; rfl)
  have HOK := hid (u32s_one shaRound)
  have HOH := hid (u32s_one shaStart)
  obtain ⟨DL, hDL⟩ : ∃ DL, DL = dig shaRound shaStart l := ⟨_, rfl⟩
  have HDL := hid hDL
  have h32 : (u8s DL).length = 32 := by rw [hDL]; simp [u8s, dig, digL]
  rw [← hDL] at HF
  have HIF2 := hid (show (Tryd.prog.info? 24).map (·.size) = some (u8s DL).toArray.size from by rw [List.size_toArray, h32]; kernel_rfl)
  have HSZ := hid (show (u8s (List.replicate 32 0)).toArray.size = (u8s DL).toArray.size from by rw [List.size_toArray, List.size_toArray, h32]; rfl)
  have HON := hid (show (u8s DL).toArray.all (·.oneCell') = true from all_oneCell_toArray (u8s_oneH DL))
  obtain ⟨KC, hKC⟩ : ∃ KC, KC = u32s shaRound := ⟨_, rfl⟩
  obtain ⟨KH, hKH⟩ : ∃ KH, KH = u32s shaStart := ⟨_, rfl⟩
  rw [← hKC] at HF HIFK HIFKl HSK HCON HOK
  rw [← hKH] at HF HIFH HIFHl HSH HCON HOH
  clear hB1 hDL h32 hb hKC hKH hkl hhl
  go_enter Tryd.func33, Tryd.ntmps33
  go_upto_region 1 with fail
  change Code.wp _ _ _ _ (w.alloc (.cells (u8s (List.replicate 32 0)).toArray 24))
  rw [← hw1]
  clear hw1
  go_wp2_with fail
  refine (HCON.out w1).mono ?_
  rintro e w2 ⟨rfl, hb2⟩
  have HR2 := hid ((hb2.block _ (lt_of_heap HR.out)).trans HR.out)
  have HB2 := hid (HB1.out.trans (hb2.mono HB1.out.size))
  obtain ⟨b3, hb3⟩ : ∃ y, y = w2.heap.size := ⟨_, rfl⟩
  obtain ⟨w4, hw4⟩ : ∃ y, y = (w2.alloc (.cells (u32s (List.replicate 64 0)).toArray 99)).alloc (.cells (u32s (List.replicate 8 0)).toArray 100) := ⟨_, rfl⟩
  have hs4 : w4.heap.size = w2.heap.size + 1 + 1 := by rw [hw4]; simp
  have HB4 := hid (show Below w2.heap.size w2 w4 from by rw [hw4]; exact ((Below.refl _ _).alloc (Nat.le_refl _) _).alloc (by simp) _)
  have HA4 := hid (show w4.heap[w2.heap.size]? = some (.cells (u32s (List.replicate 64 0)).toArray 99 (0, 0)) from by rw [hw4]; exact heap_alloc (heap_new _ _) _)
  have HV4 := hid (show w4.heap[w2.heap.size + 1]? = some (.cells (u32s (List.replicate 8 0)).toArray 100 (0, 0)) from by
    rw [hw4]
    have h := heap_new (w2.alloc (.cells (u32s (List.replicate 64 0)).toArray 99)) (.cells (u32s (List.replicate 8 0)).toArray 100)
    rw [World.size_alloc] at h
    exact h)
  clear hb2 hb3 hs4
  go_wp2_with (first
    | (refine wpList_store_row (by rfl) 99 (.tmp 3) (.tmp 7) (by rfl) w2.heap.size (u32s (List.replicate 64 0)).toArray KC.toArray 99 (by rfl) (by rfl) (heap_alloc (heap_new w2 (.cells (u32s (List.replicate 64 0)).toArray 99)) _) HIFK.out HSK.out HOK.out ?_
       intro w5 hw5 hk50
       have hk5 : Kept w2.heap.size w4 w5 := (by rw [hw4]; exact hk50)
       have HK5 := hid hw5
       have HV5 := hid (show w5.heap[w2.heap.size + 1]? = some (.cells (u32s (List.replicate 8 0)).toArray 100 (0, 0)) from ((hk5.block _ (lt_of_heap HV4.out) (Nat.succ_ne_self _)).trans HV4.out))
       have HB5 := hid (show Below w2.heap.size w2 w5 from (HB4.out.trans (hk5.below HB4.out.size (Nat.le_refl _))))
       clear hw5 hk5 hk50)
    | (refine wpList_store_row (by rfl) 100 (.tmp 4) (.tmp 8) (by rfl) (w2.heap.size + 1) (u32s (List.replicate 8 0)).toArray KH.toArray 100 (by rfl) (by rfl) HV5.out HIFH.out HSH.out HOH.out ?_
       intro w6 hw6 hk6
       have HH6 := hid (range_of_heapI hw6)
       have HK6 := hid (range_of_heapI ((hk6.block _ (lt_of_heap HK5.out) (Nat.ne_of_lt (Nat.lt_succ_self _))).trans HK5.out))
       have HB6 := hid (HB5.out.trans (hk6.below HB5.out.size (Nat.le_succ _)))
       have HBW6 := hid (HB2.out.trans (HB6.out.mono HB2.out.size))
       clear hw6 hk6)
    | (refine wpList_load_mid (by rfl) 99 (.tmp 3) (by rfl) w2.heap.size 0 (by rfl) KC _ HK6.out Tryd.underlying99 rfl HIFKl.out ?_)
    | (refine wpList_load_mid (by rfl) 100 (.tmp 4) (by rfl) (w2.heap.size + 1) 0 (by rfl) KH _ HH6.out Tryd.underlying100 rfl HIFHl.out ?_))
  refine (HF.out w6 HBW6.out).mono ?_
  rintro e w7 ⟨rfl, hb7⟩
  have HB7 := hid (HBW6.out.trans (hb7.mono HBW6.out.size))
  have HR7 := hid ((hb7.block _ (Nat.lt_of_lt_of_le (lt_of_heap HR2.out) HB6.out.size)).trans ((HB6.out.block _ (lt_of_heap HR2.out)).trans HR2.out))
  clear hb7
  go_wp2_with (refine wpList_store_row (by rfl) 24 (.tmp 2) (.tmp 12) (by rfl) w.heap.size _ (u8s DL).toArray _ (by rfl) (by rfl) HR7.out HIF2.out HSZ.out HON.out ?_
               intro w9 hw9 hk9)
  have hres : (loadVar 24 ⟨w.heap.size, 0, none⟩).run Tryd.prog w9 = .ok (.agg (u8s DL).toArray) w9 := run_loadVar_row _ _ 24 24 _ (0, 0) _ hw9 Tryd.underlying24 rfl HIF2.out
  refine bodyPost_ret (v := .agg (u8s DL).toArray) (results_at Tryd.results33 rfl hres) rfl ⟨by rw [HDL.out], ?_⟩
  exact HB7.out.trans (hk9.below HB7.out.size (Nat.le_refl _))

set_option maxRecDepth 100000 in
set_option maxHeartbeats 2000000 in
theorem rcrc_any (a : Option Addr) (n c : Nat) (l : List Nat) (w : World) (hl : Bs w (.slice a n c) l) (hn : n ≤ 900000000) :
    Calls Tryd.prog 35 #[.slice a n c] w fun e w' => e = .returned (.int .u32 ((crc l : Nat) : Int)) ∧ w = w' := by
  have HL := hid hl
  have HN := hid hl.len
  have HLT := hid hl.lt
  clear hl
  go_enter Tryd.func35, Tryd.ntmps35
  go_wp2
  go_loop [3, 4] (fun rv iv => ∃ i : Nat, i ≤ n ∧ iv = .int .i64 i ∧ rv = .int .u32 ((crcTo l i : Nat) : Int)) (fun _ iv => n - (intOf iv).toNat)
  case atStart => exact ⟨0, by omega, rfl, rfl⟩
  case round =>
    obtain ⟨i, hi, rfl, rfl⟩ := hrel
    by_cases hin : i < n
    · have hI : (i : Int) < (n : Int) := by omega
      obtain ⟨b, o, rfl⟩ : ∃ b o, a = some ⟨b, o, none⟩ := by
        rcases HL.out.addr with ⟨h1, _⟩ | ⟨h1, b, o, c', hv⟩
        · have := HN.out; rw [h1] at this; simp at this; omega
        · simp only [Value.slice.injEq] at hv
          exact ⟨b, o, hv.1⟩
      have c1 := HL.out.cell i (by rw [← HN.out]; exact hin)
      have hrl := crcTo_lt HLT.out i
      have hbl := HLT.out i
      have hst := hid (fun (_ : Unit) => (show crcTo l (i + 1) = crcBits (crcTo l i ^^^ l.getD i 0) 8 from rfl))
      generalize crcTo l i = r at *
      generalize l.getD i 0 = y at *
      have hx := u32_xor_nat r y hrl (by omega)
      have hxl : r ^^^ y < 4294967296 := xor_lt32 hrl (by omega)
      have hcv : IntKind.u32.wrap (y : Int) = (y : Int) := by rw [IntKind.wrap_u32']; omega
      generalize r ^^^ y = x at *
      go_wp2
      go_loop [3, 5] (fun rv jv => ∃ j : Nat, j ≤ 8 ∧ jv = .int .i64 j ∧ rv = .int .u32 ((crcBits x j : Nat) : Int)) (fun _ jv => 8 - (intOf jv).toNat)
      case atStart => exact ⟨0, by omega, rfl, rfl⟩
      case round =>
        obtain ⟨j, hj, rfl, rfl⟩ := hrel
        by_cases hj8 : j < 8
        · have hJ : (j : Int) < 8 := by omega
          have hql := crcBits_lt hxl j
          have hst2 := hid (fun (_ : Unit) => (show crcBits x (j + 1) = crcBit (crcBits x j) from rfl))
          generalize crcBits x j = q at *
          have h1 : bits .and .u32 (q : Int) 1 = ((q % 2 : Nat) : Int) := by
            have h := u32_and_nat q 1 hql (by omega)
            rw [Nat.and_one_is_mod] at h
            exact h
          have h2 : (q : Int) / 2 = ((q / 2 : Nat) : Int) := by omega
          have h3 := u32_xor_nat (q / 2) 2197175160 (by omega) (by omega)
          by_cases e : q % 2 = 1
          · have hst3 := hid (show crcBits x (j + 1) = (q / 2) ^^^ 2197175160 from by rw [hst2.out ()]; unfold crcBit; rw [if_pos e])
            have h4 : bits .and .u32 (q : Int) 1 = 1 := by rw [h1, e]; rfl
            have h5 : bits .xor .u32 ((q : Int) / 2) 2197175160 = (((q / 2) ^^^ 2197175160 : Nat) : Int) := by rw [h2]; exact h3
            generalize (q / 2) ^^^ 2197175160 = q2 at *
            clear h1 h2 h3
            go_wp2
            exact ⟨⟨j + 1, by omega, by rw [Int.natCast_add]; rfl, by rw [hst3.out]⟩, by simp only [intOf]; omega⟩
          · have hst3 := hid (show crcBits x (j + 1) = q / 2 from by rw [hst2.out ()]; unfold crcBit; rw [if_neg e])
            have h4 : bits .and .u32 (q : Int) 1 = 0 := by rw [h1, show q % 2 = 0 from by omega]; rfl
            generalize q / 2 = q2 at *
            clear h1 h3
            go_wp2
            exact ⟨⟨j + 1, by omega, by rw [Int.natCast_add]; rfl, by rw [hst3.out]⟩, by simp only [intOf]; omega⟩
        · obtain rfl : j = 8 := by omega
          go_wp2
          exact ⟨⟨i + 1, by omega, by rw [Int.natCast_add]; rfl, by rw [hst.out ()]⟩, by simp only [intOf]; omega⟩
    · obtain rfl : i = n := by omega
      have hcl := crcTo_lt HLT.out i
      have hx : bits .xor .u32 IntKind.u32.max ((crcTo l i : Nat) : Int) = ((4294967295 ^^^ crcTo l i : Nat) : Int) := u32_xor_nat 4294967295 (crcTo l i) (by omega) hcl
      have HC := hid (show crc l = 4294967295 ^^^ crcTo l i from by unfold crc; rw [← HN.out])
      go_wp2
      go_ret
      exact ⟨by rw [HC.out]; rfl, rfl⟩
end Go.Proofs.YtafkjfpmjhfofaaDoor
