/-
  DERIVED. GIVEN WITH THE SEED: THE CARDS: each row of YtdjnjmekdjcbaaaDoorRows.lean that lists a variable, with what it lists TIED to the program's text (the seventh form; the later family's looks); each row that meets fmt, with fmt's text TOLD by the authors' own Lean function (tested against real Go, not proved from fmt's source: count such statements apart). THE CARD IS WHAT COUNTS. Prove the row's statement (the work); the ties are given (YtdjnjmekdjcbaaaDoorTie.lean); close each card by the builder's one call (the guide's Derived/Test/ToyasCard.lean, 'card_holds'). Laid BY PROGRAM, IN A SANDBOX (cutbox-door.mjs). By AI agents, Wed Nov 11 2026. No macro, syntax, notation, axiom, sorry.
-/
import Derived.Test.YtdjnjmekdjcbaaaDoorRows
import GoSem.ClaimSeven
namespace Go.Proofs.YtdjnjmekdjcbaaaDoor
namespace Rows

/-- THE TIED CARD OF 'stolonlaw02.DigestWrites'. -/
def digestWritesCard : Claim7 := { stood := { row := digestWritesRow, standIns := [], harness := (true, "6e0ec144e707945af34c1acedf4eab758feb5e15be40d803df5394e2e82b4f57"), looks := false }, kinds := [], alts := [], laidByText := true, laidKinds := [.data, .data], laidTests := true, laidLooks := .later }
def DigestWritesCardSaid : Prop := Claim7.holds Tryd.pinned (.plain (OpenSpec.ofChange digestWritesSpec)) digestWritesCard

/-- THE TIED CARD OF 'stolonlaw02.DigestReads'. -/
def digestReadsCard : Claim7 := { stood := { row := digestReadsRow, standIns := [], harness := (true, "6e0ec144e707945af34c1acedf4eab758feb5e15be40d803df5394e2e82b4f57"), looks := false }, kinds := [], alts := [], laidByText := true, laidKinds := [.data, .data], laidTests := true, laidLooks := .later }
def DigestReadsCardSaid : Prop := Claim7.holds Tryd.pinned (.plain (OpenSpec.ofChange digestReadsSpec)) digestReadsCard

/-- THE TIED CARD OF 'stolonlaw02.DigestEncodes'. -/
def digestEncodesCard : Claim7 := { stood := { row := digestEncodesRow, standIns := [], harness := (true, "6e0ec144e707945af34c1acedf4eab758feb5e15be40d803df5394e2e82b4f57"), looks := false }, kinds := [], alts := [], laidByText := true, laidKinds := [.data, .data, .data], laidTests := true, laidLooks := .later }
def DigestEncodesCardSaid : Prop := Claim7.holds Tryd.pinned (.plain (OpenSpec.ofChange digestEncodesSpec)) digestEncodesCard

/-- THE TIED CARD OF 'stolonlaw02.DigestChecks'. -/
def digestChecksCard : Claim7 := { stood := { row := digestChecksRow, standIns := [], harness := (true, "6e0ec144e707945af34c1acedf4eab758feb5e15be40d803df5394e2e82b4f57"), looks := false }, kinds := [], alts := [], laidByText := true, laidKinds := [.data, .data, .data], laidTests := true, laidLooks := .later }
def DigestChecksCardSaid : Prop := Claim7.holds Tryd.pinned (.plain (OpenSpec.ofChange digestChecksSpec)) digestChecksCard

/-- THE TIED CARD OF 'stolonlaw02.DigestMemory'. -/
def digestMemoryCard : Claim7 := { stood := { row := digestMemoryRow, standIns := [], harness := (true, "6e0ec144e707945af34c1acedf4eab758feb5e15be40d803df5394e2e82b4f57"), looks := false }, kinds := [], alts := [], laidByText := true, laidKinds := [.data, .data], laidTests := true, laidLooks := .later }
def DigestMemoryCardSaid : Prop := Claim7.holds Tryd.pinned (.plain (OpenSpec.ofChange digestMemorySpec)) digestMemoryCard

/-- THE TIED CARD OF 'stolonlaw02.DigestSums'. -/
def digestSumsCard : Claim7 := { stood := { row := digestSumsRow, standIns := [], harness := (true, "6e0ec144e707945af34c1acedf4eab758feb5e15be40d803df5394e2e82b4f57"), looks := false }, kinds := [], alts := [], laidByText := true, laidKinds := [.data, .data, .data], laidTests := true, laidLooks := .later }
def DigestSumsCardSaid : Prop := Claim7.holds Tryd.pinned (.plain (OpenSpec.ofChange digestSumsSpec)) digestSumsCard

/-- THE SECOND FORM's CARD OF 'stolonlaw02.DigestWrites'. -/
def digestWritesUptoCard : Claim7 := { stood := { row := digestWritesUptoRow, standIns := [], harness := (true, "6e0ec144e707945af34c1acedf4eab758feb5e15be40d803df5394e2e82b4f57"), looks := false }, kinds := [], alts := [], laidByText := true, laidKinds := [.data, .data], laidTests := true, laidLooks := .later }
def DigestWritesUptoCardSaid : Prop := Claim7.holds Tryd.pinned (.plain (OpenSpec.upto digestWritesSpec)) digestWritesUptoCard

/-- THE SECOND FORM's CARD OF 'stolonlaw02.DigestReads'. -/
def digestReadsUptoCard : Claim7 := { stood := { row := digestReadsUptoRow, standIns := [], harness := (true, "6e0ec144e707945af34c1acedf4eab758feb5e15be40d803df5394e2e82b4f57"), looks := false }, kinds := [], alts := [], laidByText := true, laidKinds := [.data, .data], laidTests := true, laidLooks := .later }
def DigestReadsUptoCardSaid : Prop := Claim7.holds Tryd.pinned (.plain (OpenSpec.upto digestReadsSpec)) digestReadsUptoCard

/-- THE SECOND FORM's CARD OF 'stolonlaw02.DigestEncodes'. -/
def digestEncodesUptoCard : Claim7 := { stood := { row := digestEncodesUptoRow, standIns := [], harness := (true, "6e0ec144e707945af34c1acedf4eab758feb5e15be40d803df5394e2e82b4f57"), looks := false }, kinds := [], alts := [], laidByText := true, laidKinds := [.data, .data, .data], laidTests := true, laidLooks := .later }
def DigestEncodesUptoCardSaid : Prop := Claim7.holds Tryd.pinned (.plain (OpenSpec.upto digestEncodesSpec)) digestEncodesUptoCard

/-- THE SECOND FORM's CARD OF 'stolonlaw02.DigestChecks'. -/
def digestChecksUptoCard : Claim7 := { stood := { row := digestChecksUptoRow, standIns := [], harness := (true, "6e0ec144e707945af34c1acedf4eab758feb5e15be40d803df5394e2e82b4f57"), looks := false }, kinds := [], alts := [], laidByText := true, laidKinds := [.data, .data, .data], laidTests := true, laidLooks := .later }
def DigestChecksUptoCardSaid : Prop := Claim7.holds Tryd.pinned (.plain (OpenSpec.upto digestChecksSpec)) digestChecksUptoCard

/-- THE SECOND FORM's CARD OF 'stolonlaw02.DigestMemory'. -/
def digestMemoryUptoCard : Claim7 := { stood := { row := digestMemoryUptoRow, standIns := [], harness := (true, "6e0ec144e707945af34c1acedf4eab758feb5e15be40d803df5394e2e82b4f57"), looks := false }, kinds := [], alts := [], laidByText := true, laidKinds := [.data, .data], laidTests := true, laidLooks := .later }
def DigestMemoryUptoCardSaid : Prop := Claim7.holds Tryd.pinned (.plain (OpenSpec.upto digestMemorySpec)) digestMemoryUptoCard

/-- THE SECOND FORM's CARD OF 'stolonlaw02.DigestSums'. -/
def digestSumsUptoCard : Claim7 := { stood := { row := digestSumsUptoRow, standIns := [], harness := (true, "6e0ec144e707945af34c1acedf4eab758feb5e15be40d803df5394e2e82b4f57"), looks := false }, kinds := [], alts := [], laidByText := true, laidKinds := [.data, .data, .data], laidTests := true, laidLooks := .later }
def DigestSumsUptoCardSaid : Prop := Claim7.holds Tryd.pinned (.plain (OpenSpec.upto digestSumsSpec)) digestSumsUptoCard
end Rows
end Go.Proofs.YtdjnjmekdjcbaaaDoor
