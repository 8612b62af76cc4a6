/-
  Closed facts about the loaded program that every law's step needs.
-/
import Derived.Test.YtafkjfpmjhfofaaDoorRows
import Derived.WalkKit
import Derived.ProofKit
namespace Go.Proofs.YtafkjfpmjhfofaaDoor.Facts
theorem laidOut : laidOutB Tryd.prog = true := by kernel_rfl
theorem mapsR : mapsRowed Tryd.prog = true := by kernel_rfl
theorem stops : (Tryd.prog.stops == []) = true := by kernel_rfl
theorem knobs : (Tryd.prog.stopKnobs == []) = true := by kernel_rfl
theorem keys : (true == Tryd.prog.plainKeys) = true := by kernel_rfl
theorem heard : Tryd.prog.stopsHeard = true := by kernel_rfl
theorem enter : Tryd.prog.mayEnter = true := by kernel_rfl
theorem and2 {a b : Bool} (ha : a = true) (hb : b = true) : (a && b) = true := by rw [ha, hb]; rfl
end Go.Proofs.YtafkjfpmjhfofaaDoor.Facts
