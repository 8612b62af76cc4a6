/-
  Closed facts about the loaded program that every law's step needs.
-/
import Derived.Test.YtbdefmjjhkonjaaRows
import Derived.WalkKit
import Derived.ProofKit
namespace Go.Proofs.Ytbdefmjjhkonjaa.Facts
theorem laidOut : laidOutB Try.prog = true := by kernel_rfl
theorem mapsR : mapsRowed Try.prog = true := by kernel_rfl
theorem stops : (Try.prog.stops == []) = true := by kernel_rfl
theorem knobs : (Try.prog.stopKnobs == []) = true := by kernel_rfl
theorem keys : (true == Try.prog.plainKeys) = true := by kernel_rfl
theorem heard : Try.prog.stopsHeard = true := by kernel_rfl
theorem enter : Try.prog.mayEnter = true := by kernel_rfl
theorem and2 {a b : Bool} (ha : a = true) (hb : b = true) : (a && b) = true := by rw [ha, hb]; rfl
end Go.Proofs.Ytbdefmjjhkonjaa.Facts
