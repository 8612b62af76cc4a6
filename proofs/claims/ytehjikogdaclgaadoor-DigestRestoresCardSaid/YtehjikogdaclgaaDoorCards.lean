/-
  DERIVED. GIVEN WITH THE SEED: THE CARDS: each row of YtehjikogdaclgaaDoorRows.lean that lists a variable, with what it lists TIED to the program's text (the seventh form; the later family's looks); each row that meets fmt, with fmt's text TOLD by the authors' own Lean function (tested against real Go, not proved from fmt's source: count such statements apart). THE CARD IS WHAT COUNTS. Prove the row's statement (the work); the ties are given (YtehjikogdaclgaaDoorTie.lean); close each card by the builder's one call (the guide's Derived/Test/ToyasCard.lean, 'card_holds'). Laid BY PROGRAM, IN A SANDBOX (cutbox-door.mjs). By AI agents, Wed Nov 11 2026. No macro, syntax, notation, axiom, sorry.
-/
import Derived.Test.YtehjikogdaclgaaDoorRows
import GoSem.ClaimSeven
namespace Go.Proofs.YtehjikogdaclgaaDoor
namespace Rows

/-- THE TIED CARD OF 'stolonlaw02.DigestAssembles'. -/
def digestAssemblesCard : Claim7 := { stood := { row := digestAssemblesRow, standIns := [], harness := (true, "48bf63a4ac8f49fd2bf19fc74a41542f9b69bd07c9d5103313011b9f93b68b52"), looks := false }, kinds := [], alts := [], laidByText := true, laidKinds := [.data, .data, .data], laidTests := true, laidLooks := .later }
def DigestAssemblesCardSaid : Prop := Claim7.holds Tryd.pinned (.plain (OpenSpec.ofChange digestAssemblesSpec)) digestAssemblesCard

/-- THE TIED CARD OF 'stolonlaw02.DigestRegenerates'. -/
def digestRegeneratesCard : Claim7 := { stood := { row := digestRegeneratesRow, standIns := [], harness := (true, "48bf63a4ac8f49fd2bf19fc74a41542f9b69bd07c9d5103313011b9f93b68b52"), looks := false }, kinds := [], alts := [], laidByText := true, laidKinds := [.data, .data, .data], laidTests := true, laidLooks := .later }
def DigestRegeneratesCardSaid : Prop := Claim7.holds Tryd.pinned (.plain (OpenSpec.ofChange digestRegeneratesSpec)) digestRegeneratesCard

/-- THE TIED CARD OF 'stolonlaw02.DigestSound'. -/
def digestSoundCard : Claim7 := { stood := { row := digestSoundRow, standIns := [], harness := (true, "48bf63a4ac8f49fd2bf19fc74a41542f9b69bd07c9d5103313011b9f93b68b52"), looks := false }, kinds := [], alts := [], laidByText := true, laidKinds := [.data, .data], laidTests := true, laidLooks := .later }
def DigestSoundCardSaid : Prop := Claim7.holds Tryd.pinned (.plain (OpenSpec.ofChange digestSoundSpec)) digestSoundCard

/-- THE TIED CARD OF 'stolonlaw02.DigestRestores'. -/
def digestRestoresCard : Claim7 := { stood := { row := digestRestoresRow, standIns := [], harness := (true, "48bf63a4ac8f49fd2bf19fc74a41542f9b69bd07c9d5103313011b9f93b68b52"), looks := false }, kinds := [], alts := [], laidByText := true, laidKinds := [.data, .data], laidTests := true, laidLooks := .later }
def DigestRestoresCardSaid : Prop := Claim7.holds Tryd.pinned (.plain (OpenSpec.ofChange digestRestoresSpec)) digestRestoresCard

/-- THE TIED CARD OF 'stolonlaw02.DigestMemory'. -/
def digestMemoryCard : Claim7 := { stood := { row := digestMemoryRow, standIns := [], harness := (true, "48bf63a4ac8f49fd2bf19fc74a41542f9b69bd07c9d5103313011b9f93b68b52"), looks := false }, kinds := [], alts := [], laidByText := true, laidKinds := [.data, .data], laidTests := true, laidLooks := .later }
def DigestMemoryCardSaid : Prop := Claim7.holds Tryd.pinned (.plain (OpenSpec.ofChange digestMemorySpec)) digestMemoryCard

/-- THE SECOND FORM's CARD OF 'stolonlaw02.DigestAssembles'. -/
def digestAssemblesUptoCard : Claim7 := { stood := { row := digestAssemblesUptoRow, standIns := [], harness := (true, "48bf63a4ac8f49fd2bf19fc74a41542f9b69bd07c9d5103313011b9f93b68b52"), looks := false }, kinds := [], alts := [], laidByText := true, laidKinds := [.data, .data, .data], laidTests := true, laidLooks := .later }
def DigestAssemblesUptoCardSaid : Prop := Claim7.holds Tryd.pinned (.plain (OpenSpec.upto digestAssemblesSpec)) digestAssemblesUptoCard

/-- THE SECOND FORM's CARD OF 'stolonlaw02.DigestRegenerates'. -/
def digestRegeneratesUptoCard : Claim7 := { stood := { row := digestRegeneratesUptoRow, standIns := [], harness := (true, "48bf63a4ac8f49fd2bf19fc74a41542f9b69bd07c9d5103313011b9f93b68b52"), looks := false }, kinds := [], alts := [], laidByText := true, laidKinds := [.data, .data, .data], laidTests := true, laidLooks := .later }
def DigestRegeneratesUptoCardSaid : Prop := Claim7.holds Tryd.pinned (.plain (OpenSpec.upto digestRegeneratesSpec)) digestRegeneratesUptoCard

/-- THE SECOND FORM's CARD OF 'stolonlaw02.DigestSound'. -/
def digestSoundUptoCard : Claim7 := { stood := { row := digestSoundUptoRow, standIns := [], harness := (true, "48bf63a4ac8f49fd2bf19fc74a41542f9b69bd07c9d5103313011b9f93b68b52"), looks := false }, kinds := [], alts := [], laidByText := true, laidKinds := [.data, .data], laidTests := true, laidLooks := .later }
def DigestSoundUptoCardSaid : Prop := Claim7.holds Tryd.pinned (.plain (OpenSpec.upto digestSoundSpec)) digestSoundUptoCard

/-- THE SECOND FORM's CARD OF 'stolonlaw02.DigestRestores'. -/
def digestRestoresUptoCard : Claim7 := { stood := { row := digestRestoresUptoRow, standIns := [], harness := (true, "48bf63a4ac8f49fd2bf19fc74a41542f9b69bd07c9d5103313011b9f93b68b52"), looks := false }, kinds := [], alts := [], laidByText := true, laidKinds := [.data, .data], laidTests := true, laidLooks := .later }
def DigestRestoresUptoCardSaid : Prop := Claim7.holds Tryd.pinned (.plain (OpenSpec.upto digestRestoresSpec)) digestRestoresUptoCard

/-- THE SECOND FORM's CARD OF 'stolonlaw02.DigestMemory'. -/
def digestMemoryUptoCard : Claim7 := { stood := { row := digestMemoryUptoRow, standIns := [], harness := (true, "48bf63a4ac8f49fd2bf19fc74a41542f9b69bd07c9d5103313011b9f93b68b52"), looks := false }, kinds := [], alts := [], laidByText := true, laidKinds := [.data, .data], laidTests := true, laidLooks := .later }
def DigestMemoryUptoCardSaid : Prop := Claim7.holds Tryd.pinned (.plain (OpenSpec.upto digestMemorySpec)) digestMemoryUptoCard
end Rows
end Go.Proofs.YtehjikogdaclgaaDoor
