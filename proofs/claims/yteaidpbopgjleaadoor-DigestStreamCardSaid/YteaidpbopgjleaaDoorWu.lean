/-
  Writer: U8, U16, U32, U64, Raw.
-/
import Derived.Test.YteaidpbopgjleaaDoorWn
namespace Go.Proofs.YteaidpbopgjleaaDoor
open Go Go.RowKit
set_option linter.unusedVariables false

/-- what an addition to a Writer leaves -/
def Added (wb lim : Nat) (v : Value) (l : List Nat) (f : Bool) (bs : List Nat) (w w' : World) : Prop := ∃ v', WrAt w' wb lim v' (wadd lim l f bs).1 (wadd lim l f bs).2 ∧ KeptR wb v w w' ∧ SameRow w v v'

set_option maxRecDepth 100000 in
theorem U8_any (wb lim x : Nat) (v : Value) (l : List Nat) (f : Bool) (w : World) (W : WrAt w wb lim v l f) (hx : x < 2 ^ 8) :
    Calls Tryd.prog 40 #[.pointer (some ⟨wb, 0, none⟩), .int .u8 (x : Int)] w fun e w' => e = .returned (.tuple #[]) ∧ Added wb lim v l f (beL x 1) w w' := by
  have HN := hid (number_any wb lim x 1 v l f w W (by omega) (Nat.lt_of_lt_of_le hx (by decide)))
  have h0 : IntKind.u64.wrap (x : Int) = (x : Int) := by rw [IntKind.wrap_u64]; omega
  clear W
  go_enter Tryd.func40, Tryd.ntmps40
  go_wp2_with fail
  refine HN.out.mono ?_
  rintro e w2 ⟨rfl, h⟩
  go_wp2
  go_end0
  exact ⟨rfl, h⟩

set_option maxRecDepth 100000 in
theorem U16_any (wb lim x : Nat) (v : Value) (l : List Nat) (f : Bool) (w : World) (W : WrAt w wb lim v l f) (hx : x < 2 ^ 16) :
    Calls Tryd.prog 41 #[.pointer (some ⟨wb, 0, none⟩), .int .u16 (x : Int)] w fun e w' => e = .returned (.tuple #[]) ∧ Added wb lim v l f (beL x 2) w w' := by
  have HN := hid (number_any wb lim x 2 v l f w W (by omega) (Nat.lt_of_lt_of_le hx (by decide)))
  have h0 : IntKind.u64.wrap (x : Int) = (x : Int) := by rw [IntKind.wrap_u64]; omega
  clear W
  go_enter Tryd.func41, Tryd.ntmps41
  go_wp2_with fail
  refine HN.out.mono ?_
  rintro e w2 ⟨rfl, h⟩
  go_wp2
  go_end0
  exact ⟨rfl, h⟩

set_option maxRecDepth 100000 in
theorem U32_any (wb lim x : Nat) (v : Value) (l : List Nat) (f : Bool) (w : World) (W : WrAt w wb lim v l f) (hx : x < 2 ^ 32) :
    Calls Tryd.prog 42 #[.pointer (some ⟨wb, 0, none⟩), .int .u32 (x : Int)] w fun e w' => e = .returned (.tuple #[]) ∧ Added wb lim v l f (beL x 4) w w' := by
  have HN := hid (number_any wb lim x 4 v l f w W (by omega) (Nat.lt_of_lt_of_le hx (by decide)))
  have h0 : IntKind.u64.wrap (x : Int) = (x : Int) := by rw [IntKind.wrap_u64]; omega
  clear W
  go_enter Tryd.func42, Tryd.ntmps42
  go_wp2_with fail
  refine HN.out.mono ?_
  rintro e w2 ⟨rfl, h⟩
  go_wp2
  go_end0
  exact ⟨rfl, h⟩

set_option maxRecDepth 100000 in
theorem U64_any (wb lim x : Nat) (v : Value) (l : List Nat) (f : Bool) (w : World) (W : WrAt w wb lim v l f) (hx : x < 2 ^ 64) :
    Calls Tryd.prog 43 #[.pointer (some ⟨wb, 0, none⟩), .int .u64 (x : Int)] w fun e w' => e = .returned (.tuple #[]) ∧ Added wb lim v l f (beL x 8) w w' := by
  have HN := hid (number_any wb lim x 8 v l f w W (by omega) (Nat.lt_of_lt_of_le hx (by decide)))
  have h0 : IntKind.u64.wrap (x : Int) = (x : Int) := by rw [IntKind.wrap_u64]; omega
  clear W
  go_enter Tryd.func43, Tryd.ntmps43
  go_wp2_with fail
  refine HN.out.mono ?_
  rintro e w2 ⟨rfl, h⟩
  go_wp2
  go_end0
  exact ⟨rfl, h⟩
end Go.Proofs.YteaidpbopgjleaaDoor
