/-
  math/bits.RotateLeft32, and SHA-256 on numbers. · SHA-256 on numbers: the schedule, the rounds, the padding.
-/
import Derived.Test.YtafkjfpmjhfofaaDoorBase
import Derived.WalkKit
import Derived.Laws.BitsAllLaws
namespace Go.Proofs.YtafkjfpmjhfofaaDoor
open Go Go.RowKit
set_option linter.unusedVariables false

/-- x turned to the left by s bits -/
def rot (x s : Nat) : Nat := (x * 2 ^ s % 4294967296) ||| (x / 2 ^ (32 - s))
theorem div_lt32 {x : Nat} (hx : x < 4294967296) (n : Nat) : x / n < 4294967296 := Nat.lt_of_le_of_lt (Nat.div_le_self _ _) hx
theorem or_lt32 {a b : Nat} (ha : a < 4294967296) (hb : b < 4294967296) : a ||| b < 4294967296 := Nat.or_lt_two_pow (n := 32) ha hb
theorem xor_lt32 {a b : Nat} (ha : a < 4294967296) (hb : b < 4294967296) : a ^^^ b < 4294967296 := Nat.xor_lt_two_pow (n := 32) ha hb
theorem and_lt32 {a : Nat} (ha : a < 4294967296) (b : Nat) : a &&& b < 4294967296 := Nat.lt_of_le_of_lt Nat.and_le_left ha
theorem mod_lt32 (a : Nat) : a % 4294967296 < 4294967296 := Nat.mod_lt _ (by decide)
theorem rot_lt {x : Nat} (hx : x < 4294967296) (s : Nat) : rot x s < 4294967296 := or_lt32 (mod_lt32 _) (div_lt32 hx _)
theorem rot_any (x s : Nat) (k : Int) (hk : bits .and .u64 (IntKind.u64.wrap k) 31 = (s : Int)) (h1 : 1 ≤ s) (h2 : s ≤ 31) (hx : x < 4294967296) (w : World) :
    Calls Tryd.prog 91 #[.int .u32 x, .int .i64 k] w fun e w' => e = .returned (.int .u32 (rot x s : Nat)) ∧ w = w' := by
  have hv : bits .or .u32 ((x : Int) * 2 ^ s % 4294967296) ((x : Int) / 2 ^ (32 - s)) = ((rot x s : Nat) : Int) := by
    have e1 : (x : Int) * 2 ^ s % 4294967296 = ((x * 2 ^ s % 4294967296 : Nat) : Int) := by simp
    have e2 : (x : Int) / 2 ^ (32 - s) = ((x / 2 ^ (32 - s) : Nat) : Int) := by simp
    rw [e1, e2]
    exact u32_or_nat _ _ (mod_lt32 _) (div_lt32 hx _)
  have HV := hid hv
  clear hv
  go_enter Tryd.func91, Tryd.ntmps91
  go_wp2
  rw [HV.out]
  go_ret
  exact ⟨rfl, rfl⟩
end Go.Proofs.YtafkjfpmjhfofaaDoor

namespace Go.Proofs.YtafkjfpmjhfofaaDoor
open Go Go.RowKit
set_option linter.unusedVariables false

def M32 : Nat := 4294967296
def ad (a b : Nat) : Nat := (a + b) % 4294967296
theorem ad_lt (a b : Nat) : ad a b < 4294967296 := mod_lt32 _
def bsE (e : Nat) : Nat := (rot e 26 ^^^ rot e 21) ^^^ rot e 7
def bsA (a : Nat) : Nat := (rot a 30 ^^^ rot a 19) ^^^ rot a 10
def chs (e f g : Nat) : Nat := (e &&& f) ^^^ ((4294967295 ^^^ e) &&& g)
def maj (a b c : Nat) : Nat := ((a &&& b) ^^^ (a &&& c)) ^^^ (b &&& c)
def ssE (x : Nat) : Nat := (rot x 25 ^^^ rot x 14) ^^^ (x / 8)
def ssL (y : Nat) : Nat := (rot y 15 ^^^ rot y 13) ^^^ (y / 1024)
theorem bsE_lt {e : Nat} (h : e < 4294967296) : bsE e < 4294967296 := xor_lt32 (xor_lt32 (rot_lt h _) (rot_lt h _)) (rot_lt h _)
theorem bsA_lt {e : Nat} (h : e < 4294967296) : bsA e < 4294967296 := xor_lt32 (xor_lt32 (rot_lt h _) (rot_lt h _)) (rot_lt h _)
theorem ssE_lt {e : Nat} (h : e < 4294967296) : ssE e < 4294967296 := xor_lt32 (xor_lt32 (rot_lt h _) (rot_lt h _)) (div_lt32 h _)
theorem ssL_lt {e : Nat} (h : e < 4294967296) : ssL e < 4294967296 := xor_lt32 (xor_lt32 (rot_lt h _) (rot_lt h _)) (div_lt32 h _)
theorem chs_lt {e f g : Nat} (h : e < 4294967296) : chs e f g < 4294967296 := xor_lt32 (and_lt32 h _) (and_lt32 (xor_lt32 (by omega) h) _)
theorem maj_lt {a b c : Nat} (h : a < 4294967296) (h2 : b < 4294967296) : maj a b c < 4294967296 := xor_lt32 (xor_lt32 (and_lt32 h _) (and_lt32 h _)) (and_lt32 h2 _)
/-- a word of the chunk, after j of its bytes -/
def wj (c : Nat → Nat) (i : Nat) : Nat → Nat | 0 => 0 | j + 1 => (wj c i j * 256 % 4294967296) ||| c (4 * i + j)
theorem wj_lt {c : Nat → Nat} (hc : ∀ j, c j < 256) (i : Nat) : ∀ j, wj c i j < 4294967296
  | 0 => (by decide : (0 : Nat) < 4294967296)
  | j + 1 => or_lt32 (mod_lt32 _) (by have := hc (4 * i + j); omega)
/-- the next word of the schedule -/
def nx (l : List Nat) (i : Nat) : Nat := ad (ad (ad (l.getD (i - 16) 0) (ssE (l.getD (i - 15) 0))) (l.getD (i - 7) 0)) (ssL (l.getD (i - 2) 0))
/-- the schedule after k further words -/
def schL (c : Nat → Nat) : Nat → List Nat
  | 0 => (List.range 16).map fun i => wj c i 4
  | k + 1 => schL c k ++ [nx (schL c k) (16 + k)]
theorem schL_length (c : Nat → Nat) : ∀ k, (schL c k).length = 16 + k
  | 0 => by simp [schL]
  | k + 1 => by simp [schL, schL_length c k]; omega
theorem schL_lt {c : Nat → Nat} (hc : ∀ j, c j < 256) : ∀ k, ∀ n ∈ schL c k, n < 4294967296
  | 0, n, h => by
    obtain ⟨i, _, rfl⟩ := List.mem_map.1 h
    exact wj_lt hc i 4
  | k + 1, n, h => by
    rcases List.mem_append.1 h with h | h
    · exact schL_lt hc k n h
    · rw [List.mem_singleton.1 h]
      exact ad_lt _ _
/-- the eight variables of the rounds -/
structure St where
  a : Nat
  b : Nat
  c : Nat
  d : Nat
  e : Nat
  f : Nat
  g : Nat
  h : Nat
def St.t1 (s : St) (k w : Nat) : Nat := ad (ad (ad (ad s.h (bsE s.e)) (chs s.e s.f s.g)) k) w
def St.step (s : St) (k w : Nat) : St := ⟨ad (ad (s.t1 k w) (bsA s.a)) (maj s.a s.b s.c), s.a, s.b, s.c, ad s.d (s.t1 k w), s.e, s.f, s.g⟩
structure St.Ok (s : St) : Prop where
  a : s.a < 4294967296
  b : s.b < 4294967296
  c : s.c < 4294967296
  d : s.d < 4294967296
  e : s.e < 4294967296
  f : s.f < 4294967296
  g : s.g < 4294967296
  h : s.h < 4294967296
theorem St.Ok.step {s : St} (o : s.Ok) (k w : Nat) : (s.step k w).Ok := ⟨ad_lt _ _, o.a, o.b, o.c, ad_lt _ _, o.e, o.f, o.g⟩
theorem St.step_a (s : St) (k w : Nat) : (s.step k w).a = (s.h + bsE s.e + chs s.e s.f s.g + k + w + bsA s.a + maj s.a s.b s.c) % 4294967296 := by
  show ad (ad (ad (ad (ad (ad s.h (bsE s.e)) (chs s.e s.f s.g)) k) w) (bsA s.a)) (maj s.a s.b s.c) = _
  unfold ad
  omega
theorem St.step_e (s : St) (k w : Nat) : (s.step k w).e = (s.d + (s.h + bsE s.e + chs s.e s.f s.g + k + w)) % 4294967296 := by
  show ad s.d (ad (ad (ad (ad s.h (bsE s.e)) (chs s.e s.f s.g)) k) w) = _
  unfold ad
  omega
def rnd (s : St) (k w : Nat → Nat) : Nat → St | 0 => s | t + 1 => (rnd s k w t).step (k t) (w t)
theorem rnd_ok {s : St} (o : s.Ok) (k w : Nat → Nat) : ∀ t, (rnd s k w t).Ok | 0 => o | t + 1 => (rnd_ok o k w t).step _ _
def St.list (s : St) : List Nat := [s.a, s.b, s.c, s.d, s.e, s.f, s.g, s.h]
def stOf (l : List Nat) : St := ⟨l.getD 0 0, l.getD 1 0, l.getD 2 0, l.getD 3 0, l.getD 4 0, l.getD 5 0, l.getD 6 0, l.getD 7 0⟩
theorem stOf_ok {l : List Nat} (h : ∀ i, l.getD i 0 < 4294967296) : (stOf l).Ok := ⟨h 0, h 1, h 2, h 3, h 4, h 5, h 6, h 7⟩
/-- the state after one more chunk, of which i words are summed -/
def cmpTo (K : Nat → Nat) (h : List Nat) (c : Nat → Nat) (i : Nat) : List Nat :=
  (List.range 8).map fun j => if j < i then ad (h.getD j 0) ((rnd (stOf h) K (fun t => (schL c 48).getD t 0) 64).list.getD j 0) else h.getD j 0
def cmp (K : Nat → Nat) (h : List Nat) (c : Nat → Nat) : List Nat := cmpTo K h c 8
end Go.Proofs.YtafkjfpmjhfofaaDoor
