/-
  CRC32C: the remainder, bit by bit.
-/
import Derived.Test.YtafkjfpmjhfofaaDoorRotSha
import Derived.Test.YtafkjfpmjhfofaaDoorBytes
namespace Go.Proofs.YtafkjfpmjhfofaaDoor
open Go Go.RowKit
set_option linter.unusedVariables false

/-- one bit -/
def crcBit (r : Nat) : Nat := if r % 2 = 1 then (r / 2) ^^^ 2197175160 else r / 2
def crcBits (r : Nat) : Nat → Nat | 0 => r | j + 1 => crcBit (crcBits r j)
/-- one byte -/
def crcByte (r b : Nat) : Nat := crcBits (r ^^^ b) 8
def crcTo (l : List Nat) : Nat → Nat | 0 => 4294967295 | i + 1 => crcByte (crcTo l i) (l.getD i 0)
def crc (l : List Nat) : Nat := 4294967295 ^^^ crcTo l l.length
theorem crcBit_lt {r : Nat} (h : r < 4294967296) : crcBit r < 4294967296 := by
  unfold crcBit
  split
  · exact xor_lt32 (by omega) (by omega)
  · omega
theorem crcBits_lt {r : Nat} (h : r < 4294967296) : ∀ j, crcBits r j < 4294967296 | 0 => h | j + 1 => crcBit_lt (crcBits_lt h j)
theorem crcTo_lt {l : List Nat} (h : ∀ i, l.getD i 0 < 256) : ∀ i, crcTo l i < 4294967296
  | 0 => (by decide : (4294967295 : Nat) < 4294967296)
  | i + 1 => crcBits_lt (xor_lt32 (crcTo_lt h i) (by have := h i; omega)) 8
theorem crc_step (q : Nat) (hq : q < 4294967296) : bits .xor .u32 ((q : Int) / 2) (bits .and .u32 2197175160 (-bits .and .u32 (q : Int) 1 % 4294967296)) = ((crcBit q : Nat) : Int) := by
  have h1 : bits .and .u32 (q : Int) 1 = ((q % 2 : Nat) : Int) := by
    have h := u32_and_nat q 1 hq (by omega)
    rw [Nat.and_one_is_mod] at h
    exact h
  have h2 : (q : Int) / 2 = ((q / 2 : Nat) : Int) := by omega
  rw [h1, h2]
  unfold crcBit
  by_cases e : q % 2 = 1
  · rw [if_pos e, e]
    have h3 : -((1 : Nat) : Int) % 4294967296 = ((4294967295 : Nat) : Int) := by decide
    have h4 : bits .and .u32 2197175160 ((4294967295 : Nat) : Int) = ((2197175160 : Nat) : Int) := u32_and_nat 2197175160 4294967295 (by omega) (by omega)
    rw [h3, h4]
    exact u32_xor_nat (q / 2) 2197175160 (by omega) (by omega)
  · rw [if_neg e, show q % 2 = 0 from by omega]
    have h3 : -((0 : Nat) : Int) % 4294967296 = ((0 : Nat) : Int) := by decide
    have h4 : bits .and .u32 2197175160 ((0 : Nat) : Int) = ((0 : Nat) : Int) := u32_and_nat 2197175160 0 (by omega) (by omega)
    rw [h3, h4]
    have h5 := u32_xor_nat (q / 2) 0 (by omega) (by omega)
    rwa [Nat.xor_zero] at h5

set_option maxRecDepth 100000 in
set_option maxHeartbeats 2000000 in
theorem CRC32C_any (a : Option Addr) (n c : Nat) (l : List Nat) (w : World) (hl : Bs w (.slice a n c) l) (hn : n ≤ 900000000) :
    Calls Tryd.prog 34 #[.slice a n c] w fun e w' => e = .returned (.int .u32 ((crc l : Nat) : Int)) ∧ w = w' := by
  have HL := hid hl
  have HN := hid hl.len
  have HLT := hid hl.lt
  clear hl
  go_enter Tryd.func34, Tryd.ntmps34
  go_wp2
  go_loop [3, 9] (fun rv iv => ∃ i : Nat, i ≤ n ∧ iv = .int .i64 i ∧ rv = .int .u32 ((crcTo l i : Nat) : Int)) (fun _ iv => n - (intOf iv).toNat)
  case atStart => exact ⟨0, by omega, rfl, rfl⟩
  case round =>
    obtain ⟨i, hi, rfl, rfl⟩ := hrel
    by_cases hin : i < n
    · have hI : (i : Int) < (n : Int) := by omega
      obtain ⟨b, o, rfl⟩ : ∃ b o, a = some ⟨b, o, none⟩ := by
        rcases HL.out.addr with ⟨h1, _⟩ | ⟨h1, b, o, c', hv⟩
        · have := HN.out; rw [h1] at this; simp at this; omega
        · simp only [Value.slice.injEq] at hv
          exact ⟨b, o, hv.1⟩
      have c1 := HL.out.cell i (by rw [← HN.out]; exact hin)
      have hrl := crcTo_lt HLT.out i
      have hbl := HLT.out i
      have hst := hid (fun (_ : Unit) => (show crcTo l (i + 1) = crcBits (crcTo l i ^^^ l.getD i 0) 8 from rfl))
      generalize crcTo l i = r at *
      generalize l.getD i 0 = y at *
      have hx := u32_xor_nat r y hrl (by omega)
      have hxl : r ^^^ y < 4294967296 := xor_lt32 hrl (by omega)
      have hcv : IntKind.u32.wrap (y : Int) = (y : Int) := by rw [IntKind.wrap_u32']; omega
      generalize r ^^^ y = x at *
      go_wp2
      go_loop [3, 17] (fun rv jv => ∃ j : Nat, j ≤ 8 ∧ jv = .int .i64 j ∧ rv = .int .u32 ((crcBits x j : Nat) : Int)) (fun _ jv => 8 - (intOf jv).toNat)
      case atStart => exact ⟨0, by omega, rfl, rfl⟩
      case round =>
        obtain ⟨j, hj, rfl, rfl⟩ := hrel
        by_cases hj8 : j < 8
        · have hJ : (j : Int) < 8 := by omega
          have hql := crcBits_lt hxl j
          have hst2 := hid (fun (_ : Unit) => (show crcBits x (j + 1) = crcBit (crcBits x j) from rfl))
          generalize crcBits x j = q at *
          go_wp2
          exact ⟨⟨j + 1, by omega, by rw [Int.natCast_add]; rfl, by rw [hst2.out (), crc_step q hql]⟩, by simp only [intOf]; omega⟩
        · obtain rfl : j = 8 := by omega
          go_wp2
          exact ⟨⟨i + 1, by omega, by rw [Int.natCast_add]; rfl, by rw [hst.out ()]⟩, by simp only [intOf]; omega⟩
    · obtain rfl : i = n := by omega
      have hcl := crcTo_lt HLT.out i
      have hx : bits .xor .u32 IntKind.u32.max ((crcTo l i : Nat) : Int) = ((4294967295 ^^^ crcTo l i : Nat) : Int) := u32_xor_nat 4294967295 (crcTo l i) (by omega) hcl
      have HC := hid (show crc l = 4294967295 ^^^ crcTo l i from by unfold crc; rw [← HN.out])
      go_wp2
      go_ret
      exact ⟨by rw [HC.out]; rfl, rfl⟩
end Go.Proofs.YtafkjfpmjhfofaaDoor
