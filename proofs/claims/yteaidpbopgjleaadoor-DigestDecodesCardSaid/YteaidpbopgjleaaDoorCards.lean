/-
  DERIVED. GIVEN WITH THE SEED: THE CARDS: each row of YteaidpbopgjleaaDoorRows.lean that lists a variable, with what it lists TIED to the program's text (the seventh form; the later family's looks); each row that meets fmt, with fmt's text TOLD by the authors' own Lean function (tested against real Go, not proved from fmt's source: count such statements apart). THE CARD IS WHAT COUNTS. Prove the row's statement (the work); the ties are given (YteaidpbopgjleaaDoorTie.lean); close each card by the builder's one call (the guide's Derived/Test/ToyasCard.lean, 'card_holds'). Laid BY PROGRAM, IN A SANDBOX (cutbox-door.mjs). By AI agents, Wed Nov 11 2026. No macro, syntax, notation, axiom, sorry.
-/
import Derived.Test.YteaidpbopgjleaaDoorRows
import GoSem.ClaimSeven
namespace Go.Proofs.YteaidpbopgjleaaDoor
namespace Rows

/-- THE TIED CARD OF 'stolonlaw02.DigestStream'. -/
def digestStreamCard : Claim7 := { stood := { row := digestStreamRow, standIns := [], harness := (true, "7f2234c58f24b9082392007b93b8295c30755409cec7bbde6eb1ff3ac509e80b"), looks := false }, kinds := [], alts := [], laidByText := true, laidKinds := [.data, .data], laidTests := true, laidLooks := .later }
def DigestStreamCardSaid : Prop := Claim7.holds Tryd.pinned (.plain (OpenSpec.ofChange digestStreamSpec)) digestStreamCard

/-- THE TIED CARD OF 'stolonlaw02.DigestReadBack'. -/
def digestReadBackCard : Claim7 := { stood := { row := digestReadBackRow, standIns := [], harness := (true, "7f2234c58f24b9082392007b93b8295c30755409cec7bbde6eb1ff3ac509e80b"), looks := false }, kinds := [], alts := [], laidByText := true, laidKinds := [.data, .data], laidTests := true, laidLooks := .later }
def DigestReadBackCardSaid : Prop := Claim7.holds Tryd.pinned (.plain (OpenSpec.ofChange digestReadBackSpec)) digestReadBackCard

/-- THE TIED CARD OF 'stolonlaw02.DigestWrites'. -/
def digestWritesCard : Claim7 := { stood := { row := digestWritesRow, standIns := [], harness := (true, "7f2234c58f24b9082392007b93b8295c30755409cec7bbde6eb1ff3ac509e80b"), looks := false }, kinds := [], alts := [], laidByText := true, laidKinds := [.data, .data], laidTests := true, laidLooks := .later }
def DigestWritesCardSaid : Prop := Claim7.holds Tryd.pinned (.plain (OpenSpec.ofChange digestWritesSpec)) digestWritesCard

/-- THE TIED CARD OF 'stolonlaw02.DigestReads'. -/
def digestReadsCard : Claim7 := { stood := { row := digestReadsRow, standIns := [], harness := (true, "7f2234c58f24b9082392007b93b8295c30755409cec7bbde6eb1ff3ac509e80b"), looks := false }, kinds := [], alts := [], laidByText := true, laidKinds := [.data, .data], laidTests := true, laidLooks := .later }
def DigestReadsCardSaid : Prop := Claim7.holds Tryd.pinned (.plain (OpenSpec.ofChange digestReadsSpec)) digestReadsCard

/-- THE TIED CARD OF 'stolonlaw02.DigestManifestBack'. -/
def digestManifestBackCard : Claim7 := { stood := { row := digestManifestBackRow, standIns := [], harness := (true, "7f2234c58f24b9082392007b93b8295c30755409cec7bbde6eb1ff3ac509e80b"), looks := false }, kinds := [], alts := [], laidByText := true, laidKinds := [.data, .data], laidTests := true, laidLooks := .later }
def DigestManifestBackCardSaid : Prop := Claim7.holds Tryd.pinned (.plain (OpenSpec.ofChange digestManifestBackSpec)) digestManifestBackCard

/-- THE TIED CARD OF 'stolonlaw02.DigestDecodes'. -/
def digestDecodesCard : Claim7 := { stood := { row := digestDecodesRow, standIns := [], harness := (true, "7f2234c58f24b9082392007b93b8295c30755409cec7bbde6eb1ff3ac509e80b"), looks := false }, kinds := [], alts := [], laidByText := true, laidKinds := [.data, .data], laidTests := true, laidLooks := .later }
def DigestDecodesCardSaid : Prop := Claim7.holds Tryd.pinned (.plain (OpenSpec.ofChange digestDecodesSpec)) digestDecodesCard

/-- THE SECOND FORM's CARD OF 'stolonlaw02.DigestStream'. -/
def digestStreamUptoCard : Claim7 := { stood := { row := digestStreamUptoRow, standIns := [], harness := (true, "7f2234c58f24b9082392007b93b8295c30755409cec7bbde6eb1ff3ac509e80b"), looks := false }, kinds := [], alts := [], laidByText := true, laidKinds := [.data, .data], laidTests := true, laidLooks := .later }
def DigestStreamUptoCardSaid : Prop := Claim7.holds Tryd.pinned (.plain (OpenSpec.upto digestStreamSpec)) digestStreamUptoCard

/-- THE SECOND FORM's CARD OF 'stolonlaw02.DigestReadBack'. -/
def digestReadBackUptoCard : Claim7 := { stood := { row := digestReadBackUptoRow, standIns := [], harness := (true, "7f2234c58f24b9082392007b93b8295c30755409cec7bbde6eb1ff3ac509e80b"), looks := false }, kinds := [], alts := [], laidByText := true, laidKinds := [.data, .data], laidTests := true, laidLooks := .later }
def DigestReadBackUptoCardSaid : Prop := Claim7.holds Tryd.pinned (.plain (OpenSpec.upto digestReadBackSpec)) digestReadBackUptoCard

/-- THE SECOND FORM's CARD OF 'stolonlaw02.DigestWrites'. -/
def digestWritesUptoCard : Claim7 := { stood := { row := digestWritesUptoRow, standIns := [], harness := (true, "7f2234c58f24b9082392007b93b8295c30755409cec7bbde6eb1ff3ac509e80b"), looks := false }, kinds := [], alts := [], laidByText := true, laidKinds := [.data, .data], laidTests := true, laidLooks := .later }
def DigestWritesUptoCardSaid : Prop := Claim7.holds Tryd.pinned (.plain (OpenSpec.upto digestWritesSpec)) digestWritesUptoCard

/-- THE SECOND FORM's CARD OF 'stolonlaw02.DigestReads'. -/
def digestReadsUptoCard : Claim7 := { stood := { row := digestReadsUptoRow, standIns := [], harness := (true, "7f2234c58f24b9082392007b93b8295c30755409cec7bbde6eb1ff3ac509e80b"), looks := false }, kinds := [], alts := [], laidByText := true, laidKinds := [.data, .data], laidTests := true, laidLooks := .later }
def DigestReadsUptoCardSaid : Prop := Claim7.holds Tryd.pinned (.plain (OpenSpec.upto digestReadsSpec)) digestReadsUptoCard

/-- THE SECOND FORM's CARD OF 'stolonlaw02.DigestManifestBack'. -/
def digestManifestBackUptoCard : Claim7 := { stood := { row := digestManifestBackUptoRow, standIns := [], harness := (true, "7f2234c58f24b9082392007b93b8295c30755409cec7bbde6eb1ff3ac509e80b"), looks := false }, kinds := [], alts := [], laidByText := true, laidKinds := [.data, .data], laidTests := true, laidLooks := .later }
def DigestManifestBackUptoCardSaid : Prop := Claim7.holds Tryd.pinned (.plain (OpenSpec.upto digestManifestBackSpec)) digestManifestBackUptoCard

/-- THE SECOND FORM's CARD OF 'stolonlaw02.DigestDecodes'. -/
def digestDecodesUptoCard : Claim7 := { stood := { row := digestDecodesUptoRow, standIns := [], harness := (true, "7f2234c58f24b9082392007b93b8295c30755409cec7bbde6eb1ff3ac509e80b"), looks := false }, kinds := [], alts := [], laidByText := true, laidKinds := [.data, .data], laidTests := true, laidLooks := .later }
def DigestDecodesUptoCardSaid : Prop := Claim7.holds Tryd.pinned (.plain (OpenSpec.upto digestDecodesSpec)) digestDecodesUptoCard
end Rows
end Go.Proofs.YteaidpbopgjleaaDoor
