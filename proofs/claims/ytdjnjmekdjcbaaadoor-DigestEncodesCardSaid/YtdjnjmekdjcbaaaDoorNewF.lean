/-
  NewField.
-/
import Derived.Test.YtdjnjmekdjcbaaaDoorOnce
import Derived.Deep.RegionWith
namespace Go.Proofs.YtdjnjmekdjcbaaaDoor
open Go.RowKit

theorem zero98 : Tryd.zeroCells123 = fcells 0 0 (tabTo 0) := by kernel_rfl
/-- NewField -/
theorem newField_any (w : World) :
    Calls Tryd.prog 34 #[] w fun e w' => e = .returned (.pointer (some ⟨w.heap.size, 0, none⟩)) ∧ Fresh w' w.heap.size ∧ Below w.heap.size w w' := by
  go_enter Tryd.func34, Tryd.ntmps34
  go_wp2
  go_ret
  exact ⟨rfl, by rw [zero98]; exact heap_new _ _, (Below.refl _ _).alloc (Nat.le_refl _) _⟩
end Go.Proofs.YtdjnjmekdjcbaaaDoor
