/-
  known: the calls whose results the examples give.
-/
import Derived.Test.YtfleplbdcpdphaaEnc
import Derived.Test.YtfleplbdcpdphaaField
import Derived.Test.YtfleplbdcpdphaaStr
namespace Go.Proofs.Ytfleplbdcpdphaa
open Go.RowKit

theorem known_row : encP [16, 32, 48] 2 2 2 = [80, 96] := by decide +kernel
set_option maxRecDepth 100000 in
set_option maxHeartbeats 1000000 in
theorem known_any (w : World) :
    Calls Try.prog 28 #[] w fun e w' => e = .returned (.bool true) ∧ Below w.heap.size w w' := by
  have hM : ∀ b w, Fld w b → Calls Try.prog 47 #[.pointer (some ⟨b, 0, none⟩), .int .u8 2, .int .u8 128] w fun e w' => e = .returned (.int .u8 29) ∧ Built w' b ∧ Kept b w w' := fun b w h => by
    have h1 := Mul_any b 2 128 (by omega) (by omega) w h
    rwa [show Gf.tm 2 128 = 29 from by decide +kernel] at h1
  have hA : ∀ w, Calls Try.prog 42 #[.int .u8 5, .int .u8 6] w fun e w' => e = .returned (.int .u8 3) ∧ w = w' := fun w => by
    have h1 := add_any 5 6 (by omega) (by omega) w
    rwa [show 5 ^^^ 6 = 3 from rfl] at h1
  have hP : ∀ b w, Fld w b → Calls Try.prog 50 #[.pointer (some ⟨b, 0, none⟩), .int .u8 2, .int .i64 8] w fun e w' => e = .returned (.int .u8 29) ∧ Built w' b ∧ Kept b w w' := fun b w h => by
    have h1 := Pow_any b 2 8 (by omega) w h
    rwa [show Gf.pw 2 (8 : Int).toNat = 29 from by decide +kernel] at h1
  have hI : ∀ b w, Fld w b → Calls Try.prog 45 #[.pointer (some ⟨b, 0, none⟩), .int .u8 2] w fun e w' => e = .returned (.tuple #[.int .u8 142, .int .i64 0]) ∧ Built w' b ∧ Kept b w w' := fun b w h => by
    have h1 := Inv_any b 2 (by omega) (by omega) w h
    rwa [show Gf.iv 2 = 142 from by decide +kernel] at h1
  have HM := hid hM
  have HA := hid hA
  have HP := hid hP
  have HI := hid hI
  clear hM hA hP hI
  go_enter Try.func28, Try.ntmps28
  go_wp2_with fail
  refine (newField_any _).mono ?_
  rintro e w1 ⟨rfl, hfr, hb1⟩
  generalize hfb : w.heap.size = fb at *
  have HFB := hid hfb
  clear hfb
  have hf1 : Fld w1 fb := .inl hfr
  go_wp2_with fail
  refine (HM.out fb _ hf1).mono ?_
  rintro e w2 ⟨rfl, hB2, hk2⟩
  go_wp2_with fail
  refine (HA.out _).mono ?_
  rintro e w' ⟨rfl, rfl⟩
  go_wp2_with fail
  refine (HP.out fb _ (.inr hB2)).mono ?_
  rintro e w3 ⟨rfl, hB3, hk3⟩
  go_wp2_with fail
  refine (HI.out fb _ (.inr hB3)).mono ?_
  rintro e w4 ⟨rfl, hB4, hk4⟩
  go_wp2_with fail
  have hbs : Bs (w4.alloc (Obj.cells #[Value.int .u8 16, Value.int .u8 32, Value.int .u8 48] 5)) (.slice (some ⟨w4.heap.size, 0, none⟩) 3 3) [16, 32, 48] := by
    have h5 : Own (w4.alloc (Obj.cells #[Value.int .u8 16, Value.int .u8 32, Value.int .u8 48] 5)) w4.heap.size [16, 32, 48] := heap_new _ _
    exact h5.bs (by decide) 3
  have hoff : Off fb (.slice (some ⟨w4.heap.size, 0, none⟩) 3 3) := by
    show w4.heap.size ≠ fb
    have := hB4.lt
    omega
  refine (Encode_any fb 2 3 _ 3 3 [16, 32, 48] _ (.inr (hB4.alloc _)) hbs hoff (by omega) (by omega) (by omega) (by omega) (by omega)).mono ?_
  rintro e w5 ⟨g, bf, hg, rfl, hp, hB5, hk5⟩
  have hrow := hp.row 2 (by omega)
  rw [show plen 2 3 = 2 from rfl, known_row] at hrow
  have hb5 : Bs w5 (.slice (some ⟨bf 2, 0, none⟩) 2 2) [80, 96] := hrow.bs (by decide) 2
  have hcv := conv_bs hb5
  rw [show bstr [80, 96] = ⟨#[80, 96]⟩ from rfl] at hcv
  have hc1 := hp.own.cell1 2 (by rw [mkps_length]; omega)
  rw [mkps_get _ _ _ _ _ _ (by omega), show plen 2 3 = 2 from rfl] at hc1
  have hkk : Kept fb w1 w5 := (((hk2.trans hk3).trans hk4).alloc _).trans hk5
  have hbel : Below fb w w5 := hb1.trans (hkk.below (by have := hb1.size; rw [← HFB.out]; exact this) (Nat.le_refl _))
  clear hbs hoff hrow hb5 hp hb1 hk2 hk3 hk4 hk5 hkk
  go_wp2
  go_ret
  exact ⟨rfl, by rw [HFB.out]; exact hbel⟩
end Go.Proofs.Ytfleplbdcpdphaa
