/-
  NewField.
-/
import Derived.Test.YtafkjfpmjhfofaaDoorOnce
import Derived.Deep.RegionWith
namespace Go.Proofs.YtafkjfpmjhfofaaDoor
open Go.RowKit

theorem zero98 : Tryd.zeroCells80 = fcells 0 0 (tabTo 0) := by kernel_rfl
/-- NewField -/
theorem newField_any (w : World) :
    Calls Tryd.prog 14 #[] w fun e w' => e = .returned (.pointer (some ⟨w.heap.size, 0, none⟩)) ∧ Fresh w' w.heap.size ∧ Below w.heap.size w w' := by
  go_enter Tryd.func14, Tryd.ntmps14
  go_wp2
  go_ret
  exact ⟨rfl, by rw [zero98]; exact heap_new _ _, (Below.refl _ _).alloc (Nat.le_refl _) _⟩
end Go.Proofs.YtafkjfpmjhfofaaDoor
