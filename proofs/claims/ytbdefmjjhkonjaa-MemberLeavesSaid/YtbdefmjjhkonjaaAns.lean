/-
  The answer to a Ping; Receive of a Ping.
-/
import Derived.Test.YtbdefmjjhkonjaaCpl
namespace Go.Proofs.Ytbdefmjjhkonjaa
open Go Go.RowKit
set_option linter.unusedVariables false

set_option maxRecDepth 100000 in
set_option maxHeartbeats 1000000 in
theorem answer_ping (mb : Nat) (f t : Int) (s o g : Int) (tv : Value) (R : List Value) (w : World) :
    Calls Try.prog 80 #[.pointer (some ⟨mb, 0, none⟩), .agg (msg 1 f t s o g tv R).toArray] w fun e w' => ∃ gb, e = .returned (.slice (some ⟨gb, 0, none⟩) 1 1) ∧ MsgAt w' gb 2 0 f s o 0 (.slice none 0 0) rest0 ∧ w.heap.size ≤ gb ∧ Below w.heap.size w w' := by
  obtain ⟨w1, hw1⟩ : ∃ y, y = w.alloc (.cells (msg 1 f t s o g tv R).toArray 56) := ⟨_, rfl⟩
  have hb1 : Below w.heap.size w w1 := by rw [hw1]; exact (Below.refl _ _).alloc (Nat.le_refl _) _
  have hx : w1.heap[w.heap.size]? = some (.cells (msg 1 f t s o g tv R).toArray 56 (0, 0)) := by rw [hw1]; exact heap_new _ _
  obtain ⟨x0, x1, x2, x3, x4, x5, x6⟩ := msg_cells hx
  have HB := hid hb1
  clear hx hb1
  go_enter Try.func80, Try.ntmps80
  go_upto_region 1 with fail
  rw [← hw1]
  clear hw1
  go_wp2_with fail
  go_ret
  have hs := HB.out.size
  exact ⟨_, rfl, ⟨_, _, heap_new _ _, by kernel_rfl⟩, by omega, HB.out.alloc hs _⟩
end Go.Proofs.Ytbdefmjjhkonjaa
