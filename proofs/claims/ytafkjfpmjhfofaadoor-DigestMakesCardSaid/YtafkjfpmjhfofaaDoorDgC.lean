/-
  What the condition of a row of chapter 2 gives: the two listed variables. · What the condition of a row of chapter 2 gives that lists the reference's variable too.
-/
import Derived.Test.YtafkjfpmjhfofaaDoorRows
import Derived.Test.YtafkjfpmjhfofaaDoorFacts
import Derived.Test.YtafkjfpmjhfofaaDoorVals
import Derived.WalkKit
import Derived.ProofKit
import Derived.LaidMore
import Derived.OpenShut
import Derived.Stop.Joined
import Derived.Stop.LaidErr
import Derived.Lib.LaidTab
import Derived.Test.YtafkjfpmjhfofaaDoorRsha
namespace Go.Proofs.YtafkjfpmjhfofaaDoor
open Go Go.RowKit Go.ChangeShapes Go.WideShapes Go.ChangeAt

abbrev laidA : List (String × DataW Unit) := [("stolon/digest.start", Rows.laid_stolon_digest_start), ("stolon/digest.roundConstants", Rows.laid_stolon_digest_roundConstants)]
theorem ownD : ownKnob Tryd.prog.godebug = none := by kernel_rfl
theorem gStart : Tryd.prog.globalNamed "stolon/digest.start" = some 1 := by kernel_rfl
theorem gRound : Tryd.prog.globalNamed "stolon/digest.roundConstants" = some 2 := by kernel_rfl
theorem tStart : (Tryd.prog.globals[1]?).map (·.type) = some 100 := by kernel_rfl
theorem tRound : (Tryd.prog.globals[2]?).map (·.type) = some 99 := by kernel_rfl
theorem cU32 : Tryd.prog.cellsOf 59 = 1 := by kernel_rfl
theorem cStart : Tryd.prog.cellsOf 100 = 8 := by kernel_rfl
theorem cRound : Tryd.prog.cellsOf 99 = 64 := by kernel_rfl
theorem dStart : Rows.laid_stolon_digest_start (H := Unit) = Lib.tabData .u32 (shaStart.map fun (n : Nat) => (n : Int)) := by kernel_rfl
theorem dRound : Rows.laid_stolon_digest_roundConstants (H := Unit) = Lib.tabData .u32 (shaRound.map fun (n : Nat) => (n : Int)) := by kernel_rfl
theorem range_of_tab {W : World} {name : String} {l : List Nat} {g : Nat} (h : Lib.TabIs Tryd.prog W name .u32 (l.map fun (n : Nat) => (n : Int))) (hg : Tryd.prog.globalNamed name = some g) : W.rangeAt g 0 (u32s l) := fun j v hj => by
  have hjl : j < l.length := by have := (List.getElem?_eq_some_iff.1 hj).1; simpa [u32s] using this
  have h1 := h.cell hg j (by simpa using hjl)
  rw [Nat.zero_add, h1, ← hj]
  simp [u32s, hjl]
theorem vars_of_laid {W : World} (h : laidMetH Tryd.prog laidA W) : Vars W shaRound shaStart := by
  rw [MakeChecks.laidMetH_plain _ _ _ (by kernel_rfl)] at h
  have h1 : laidMet Tryd.prog (("stolon/digest.start", Lib.tabData .u32 (shaStart.map fun (n : Nat) => (n : Int))) :: ("stolon/digest.roundConstants", Lib.tabData .u32 (shaRound.map fun (n : Nat) => (n : Int))) :: []) W := by
    rw [← dStart, ← dRound]; exact h
  have h2 := h1.tail
  have r1 := range_of_tab (Lib.tabIs_of_head gStart tStart Tryd.underlying100 Tryd.underlying59 cU32 cStart h1) gStart
  have r2 := range_of_tab (Lib.tabIs_of_head gRound tRound Tryd.underlying99 Tryd.underlying59 cU32 cRound h2) gRound
  have b1 : ∀ x ∈ shaStart, x < 4294967296 := by decide
  have b2 : ∀ x ∈ shaRound, x < 4294967296 := by decide
  have hg : ∀ (l : List Nat), (∀ x ∈ l, x < 4294967296) → ∀ i, l.getD i 0 < 4294967296 := fun l hl i => by
    rw [List.getD_eq_getElem?_getD]
    by_cases h : i < l.length
    · rw [List.getElem?_eq_getElem h]; exact hl _ (List.getElem_mem _)
    · rw [List.getElem?_eq_none (by omega)]; decide
  have hc := r2 0 (.int .u32 ((shaRound.getD 0 0 : Nat) : Int)) (by rfl)
  exact ⟨r1, r2, World.block_lt_of_cell? _ _ hc, rfl, rfl, hg _ b2, hg _ b1⟩
theorem door_metA (os : Os) (args : Array Value) : laidMetH Tryd.prog laidA ((World.doorLaid Tryd.prog 24 os).forCall (fun _ _ => 0) ⟨#[], args, []⟩).memory :=
  laidMetH_of_parts3 (fuel := 8) (laidMet_of_run' 8 (by kernel_rfl) (by kernel_rfl)) (by kernel_rfl) (by kernel_rfl)
end Go.Proofs.YtafkjfpmjhfofaaDoor

namespace Go.Proofs.YtafkjfpmjhfofaaDoor
open Go Go.RowKit Go.ChangeShapes Go.WideShapes Go.ChangeAt

abbrev laidB : List (String × DataW Unit) := [("stolon/stolonref02.rounds", Rows.laid_stolon_stolonref02_rounds), ("stolon/digest.start", Rows.laid_stolon_digest_start), ("stolon/digest.roundConstants", Rows.laid_stolon_digest_roundConstants)]
theorem gRef : Tryd.prog.globalNamed "stolon/stolonref02.rounds" = some 0 := by kernel_rfl
theorem tRef : (Tryd.prog.globals[0]?).map (·.type) = some 99 := by kernel_rfl
theorem dRef : Rows.laid_stolon_stolonref02_rounds (H := Unit) = Lib.tabData .u32 (shaRound.map fun (n : Nat) => (n : Int)) := by kernel_rfl
theorem both_of_laid {W : World} (h : laidMetH Tryd.prog laidB W) : Vars W shaRound shaStart ∧ Rnds W := by
  rw [MakeChecks.laidMetH_plain _ _ _ (by kernel_rfl)] at h
  have h0 : laidMet Tryd.prog (("stolon/stolonref02.rounds", Lib.tabData .u32 (shaRound.map fun (n : Nat) => (n : Int))) :: ("stolon/digest.start", Lib.tabData .u32 (shaStart.map fun (n : Nat) => (n : Int))) :: ("stolon/digest.roundConstants", Lib.tabData .u32 (shaRound.map fun (n : Nat) => (n : Int))) :: []) W := by
    rw [← dStart, ← dRound]
    exact h
  have h1 := h0.tail
  have h2 := h1.tail
  have r0 := range_of_tab (Lib.tabIs_of_head gRef tRef Tryd.underlying99 Tryd.underlying59 cU32 cRound h0) gRef
  have r1 := range_of_tab (Lib.tabIs_of_head gStart tStart Tryd.underlying100 Tryd.underlying59 cU32 cStart h1) gStart
  have r2 := range_of_tab (Lib.tabIs_of_head gRound tRound Tryd.underlying99 Tryd.underlying59 cU32 cRound h2) gRound
  have b1 : ∀ x ∈ shaStart, x < 4294967296 := by decide
  have b2 : ∀ x ∈ shaRound, x < 4294967296 := by decide
  have hg : ∀ (l : List Nat), (∀ x ∈ l, x < 4294967296) → ∀ i, l.getD i 0 < 4294967296 := fun l hl i => by
    rw [List.getD_eq_getElem?_getD]
    by_cases h : i < l.length
    · rw [List.getElem?_eq_getElem h]; exact hl _ (List.getElem_mem _)
    · rw [List.getElem?_eq_none (by omega)]; decide
  have hc := r2 0 (.int .u32 ((shaRound.getD 0 0 : Nat) : Int)) (by rfl)
  have hc0 := r0 0 (.int .u32 ((shaRound.getD 0 0 : Nat) : Int)) (by rfl)
  exact ⟨⟨r1, r2, World.block_lt_of_cell? _ _ hc, rfl, rfl, hg _ b2, hg _ b1⟩, ⟨r0, World.block_lt_of_cell? _ _ hc0⟩⟩
theorem vars_of_laidB {W : World} (h : laidMetH Tryd.prog laidB W) : Vars W shaRound shaStart := (both_of_laid h).1
theorem rnds_of_laidB {W : World} (h : laidMetH Tryd.prog laidB W) : Rnds W := (both_of_laid h).2
theorem door_metB (os : Os) (args : Array Value) : laidMetH Tryd.prog laidB ((World.doorLaid Tryd.prog 24 os).forCall (fun _ _ => 0) ⟨#[], args, []⟩).memory :=
  laidMetH_of_parts3 (fuel := 8) (laidMet_of_run' 8 (by kernel_rfl) (by kernel_rfl)) (by kernel_rfl) (by kernel_rfl)
end Go.Proofs.YtafkjfpmjhfofaaDoor
