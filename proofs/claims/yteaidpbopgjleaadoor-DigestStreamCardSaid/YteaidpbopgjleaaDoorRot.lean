/-
  math/bits.RotateLeft32, and SHA-256 on numbers.
-/
import Derived.Test.YteaidpbopgjleaaDoorBase
import Derived.WalkKit
import Derived.Laws.BitsAllLaws
namespace Go.Proofs.YteaidpbopgjleaaDoor
open Go Go.RowKit
set_option linter.unusedVariables false

/-- x turned to the left by s bits -/
def rot (x s : Nat) : Nat := (x * 2 ^ s % 4294967296) ||| (x / 2 ^ (32 - s))
theorem div_lt32 {x : Nat} (hx : x < 4294967296) (n : Nat) : x / n < 4294967296 := Nat.lt_of_le_of_lt (Nat.div_le_self _ _) hx
theorem or_lt32 {a b : Nat} (ha : a < 4294967296) (hb : b < 4294967296) : a ||| b < 4294967296 := Nat.or_lt_two_pow (n := 32) ha hb
theorem xor_lt32 {a b : Nat} (ha : a < 4294967296) (hb : b < 4294967296) : a ^^^ b < 4294967296 := Nat.xor_lt_two_pow (n := 32) ha hb
theorem and_lt32 {a : Nat} (ha : a < 4294967296) (b : Nat) : a &&& b < 4294967296 := Nat.lt_of_le_of_lt Nat.and_le_left ha
theorem mod_lt32 (a : Nat) : a % 4294967296 < 4294967296 := Nat.mod_lt _ (by decide)
theorem rot_lt {x : Nat} (hx : x < 4294967296) (s : Nat) : rot x s < 4294967296 := or_lt32 (mod_lt32 _) (div_lt32 hx _)
theorem rot_any (x s : Nat) (k : Int) (hk : bits .and .u64 (IntKind.u64.wrap k) 31 = (s : Int)) (h1 : 1 ≤ s) (h2 : s ≤ 31) (hx : x < 4294967296) (w : World) :
    Calls Tryd.prog 65 #[.int .u32 x, .int .i64 k] w fun e w' => e = .returned (.int .u32 (rot x s : Nat)) ∧ w = w' := by
  have hv : bits .or .u32 ((x : Int) * 2 ^ s % 4294967296) ((x : Int) / 2 ^ (32 - s)) = ((rot x s : Nat) : Int) := by
    have e1 : (x : Int) * 2 ^ s % 4294967296 = ((x * 2 ^ s % 4294967296 : Nat) : Int) := by simp
    have e2 : (x : Int) / 2 ^ (32 - s) = ((x / 2 ^ (32 - s) : Nat) : Int) := by simp
    rw [e1, e2]
    exact u32_or_nat _ _ (mod_lt32 _) (div_lt32 hx _)
  have HV := hid hv
  clear hv
  go_enter Tryd.func65, Tryd.ntmps65
  go_wp2
  rw [HV.out]
  go_ret
  exact ⟨rfl, rfl⟩
end Go.Proofs.YteaidpbopgjleaaDoor
