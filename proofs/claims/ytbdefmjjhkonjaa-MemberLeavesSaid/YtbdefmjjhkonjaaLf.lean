/-
  A machine that has left: it does nothing any more.
-/
import Derived.Test.YtbdefmjjhkonjaaRc
namespace Go.Proofs.Ytbdefmjjhkonjaa
open Go Go.RowKit
set_option linter.unusedVariables false

set_option maxRecDepth 100000 in
set_option maxHeartbeats 1000000 in
theorem Receive_left {mb tb sb n me : Nat} {L : List Ent} {Z : List Int} {ck : Int} {pv : Value} {last pg dare : Int} (M : List Value) (w : World) (h : Mc w mb tb sb n me L Z ck pv last pg dare) (hs : me < n) (h4 : (gd L me).2 = 4) :
    Calls Try.prog 58 #[.pointer (some ⟨mb, 0, none⟩), .agg M.toArray] w fun e w' => e = .returned (.tuple #[.slice none 0 0, .int .i64 30]) ∧ Below w.heap.size w w' := by
  have hb1 : Below w.heap.size w (w.alloc (.cells M.toArray 56)) := (Below.refl _ _).alloc (Nat.le_refl _) _
  have HM := hid (h.below hb1)
  have HL := hid (hasLeft_any _ HM.out hs)
  rw [show ((gd L me).2 == 4) = true from by rw [h4]; rfl] at HL
  have HB := hid hb1
  clear h h4 hb1
  go_enter Try.func58, Try.ntmps58
  go_wp2_with fail
  refine HL.out.mono ?_
  rintro e w1 ⟨rfl, q, hq⟩
  have HB1 := hid (show Below w.heap.size w w1 from by rw [hq]; exact bel_drewN HB.out q)
  clear hq
  go_wp2
  go_ret2
  exact ⟨rfl, HB1.out⟩
theorem Tick_left {mb tb sb n me : Nat} {L : List Ent} {Z : List Int} {ck : Int} {pv : Value} {last pg dare : Int} (draw : Int) (w : World) (h : Mc w mb tb sb n me L Z ck pv last pg dare) (hs : me < n) (h4 : (gd L me).2 = 4) :
    Calls Try.prog 36 #[.pointer (some ⟨mb, 0, none⟩), .int .u64 draw] w fun e w' => e = .returned (.slice none 0 0) ∧ ∃ q, w' = w.drewN q := by
  have HL := hid (hasLeft_any w h hs)
  rw [show ((gd L me).2 == 4) = true from by rw [h4]; rfl] at HL
  clear h h4
  go_enter Try.func36, Try.ntmps36
  go_wp2_with fail
  refine HL.out.mono ?_
  rintro e w1 ⟨rfl, q, hq⟩
  have HQ := hid hq
  clear hq
  go_wp2
  go_ret
  exact ⟨rfl, q, HQ.out⟩
theorem Leave_left {mb tb sb n me : Nat} {L : List Ent} {Z : List Int} {ck : Int} {pv : Value} {last pg dare : Int} (w : World) (h : Mc w mb tb sb n me L Z ck pv last pg dare) (hs : me < n) (h4 : (gd L me).2 = 4) :
    Calls Try.prog 42 #[.pointer (some ⟨mb, 0, none⟩)] w fun e w' => e = .returned (.slice none 0 0) ∧ ∃ q, w' = w.drewN q := by
  have HL := hid (hasLeft_any w h hs)
  rw [show ((gd L me).2 == 4) = true from by rw [h4]; rfl] at HL
  clear h h4
  go_enter Try.func42, Try.ntmps42
  go_wp2_with fail
  refine HL.out.mono ?_
  rintro e w1 ⟨rfl, q, hq⟩
  have HQ := hid hq
  clear hq
  go_wp2
  go_ret
  exact ⟨rfl, q, HQ.out⟩
theorem Reinc_left {mb tb sb n me : Nat} {L : List Ent} {Z : List Int} {ck : Int} {pv : Value} {last pg dare : Int} (inc : Int) (w : World) (h : Mc w mb tb sb n me L Z ck pv last pg dare) (hs : me < n) (h4 : (gd L me).2 = 4) :
    Calls Try.prog 40 #[.pointer (some ⟨mb, 0, none⟩), .int .u64 inc] w fun e w' => e = .returned (.int .i64 30) ∧ ∃ q, w' = w.drewN q := by
  have HL := hid (hasLeft_any w h hs)
  rw [show ((gd L me).2 == 4) = true from by rw [h4]; rfl] at HL
  clear h h4
  go_enter Try.func40, Try.ntmps40
  go_wp2_with fail
  refine HL.out.mono ?_
  rintro e w1 ⟨rfl, q, hq⟩
  have HQ := hid hq
  clear hq
  go_wp2
  go_ret
  exact ⟨rfl, q, HQ.out⟩
end Go.Proofs.Ytbdefmjjhkonjaa
