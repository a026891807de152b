/-
  DERIVED. GIVEN WITH THE SEED: THE CARDS: each row of YtdndmhlmbpgdeaaGreatDoorRows.lean that lists a variable, with what it lists TIED to the program's text (the seventh form; the later family's looks); each row that meets fmt, with fmt's text TOLD by the authors' own Lean function (tested against real Go, not proved from fmt's source: count such statements apart). THE CARD IS WHAT COUNTS. Prove the row's statement (the work); the ties are given (YtdndmhlmbpgdeaaGreatDoorTie.lean); close each card by the builder's one call (the guide's Derived/Test/ToyasCard.lean, 'card_holds'). Laid BY PROGRAM, IN A SANDBOX (cutbox-door.mjs). By AI agents, Wed Nov 11 2026. No macro, syntax, notation, axiom, sorry.
-/
import Derived.Test.YtdndmhlmbpgdeaaGreatDoorRows
import GoSem.ClaimSeven
namespace Go.Proofs.YtdndmhlmbpgdeaaGreatDoor
namespace Rows

/-- THE TIED CARD OF 'evergreenlaw05.RecogniseMatchesReference'. -/
def recogniseMatchesReferenceCard : Claim7 := { stood := { row := recogniseMatchesReferenceRow, standIns := [], harness := (true, "94b87ce047830b01d3096e74744deaf576a7338c25edf59462acdbc58af6c68c"), looks := true }, kinds := [], alts := [], laidByText := true, laidKinds := [.data, .data, .data, .handle, .sentinel, .sentinel, .sentinel], laidTests := true, laidLooks := .later }
def RecogniseMatchesReferenceCardSaid : Prop := Claim7.holds Tryz.pinned (.plain (OpenSpec.ofChange recogniseMatchesReferenceSpec)) recogniseMatchesReferenceCard

/-- THE TIED CARD OF 'evergreenlaw05.RecogniseWriteMatchesReference'. -/
def recogniseWriteMatchesReferenceCard : Claim7 := { stood := { row := recogniseWriteMatchesReferenceRow, standIns := [], harness := (true, "94b87ce047830b01d3096e74744deaf576a7338c25edf59462acdbc58af6c68c"), looks := true }, kinds := [], alts := [], laidByText := true, laidKinds := [.data, .data, .data, .handle, .sentinel, .sentinel, .sentinel], laidTests := true, laidLooks := .later }
def RecogniseWriteMatchesReferenceCardSaid : Prop := Claim7.holds Tryz.pinned (.plain (OpenSpec.ofChange recogniseWriteMatchesReferenceSpec)) recogniseWriteMatchesReferenceCard

/-- THE TIED CARD OF 'evergreenlaw05.RecogniseParts'. -/
def recognisePartsCard : Claim7 := { stood := { row := recognisePartsRow, standIns := [], harness := (true, "94b87ce047830b01d3096e74744deaf576a7338c25edf59462acdbc58af6c68c"), looks := true }, kinds := [], alts := [], laidByText := true, laidKinds := [.data, .data, .data, .handle, .sentinel, .sentinel, .sentinel], laidTests := true, laidLooks := .later }
def RecognisePartsCardSaid : Prop := Claim7.holds Tryz.pinned (.plain (OpenSpec.ofChange recognisePartsSpec)) recognisePartsCard

/-- THE TIED CARD OF 'evergreenlaw05.RecogniseWrites'. -/
def recogniseWritesCard : Claim7 := { stood := { row := recogniseWritesRow, standIns := [], harness := (true, "94b87ce047830b01d3096e74744deaf576a7338c25edf59462acdbc58af6c68c"), looks := true }, kinds := [], alts := [], laidByText := true, laidKinds := [.data, .data, .data, .handle, .sentinel, .sentinel, .sentinel], laidTests := true, laidLooks := .later }
def RecogniseWritesCardSaid : Prop := Claim7.holds Tryz.pinned (.plain (OpenSpec.ofChange recogniseWritesSpec)) recogniseWritesCard

/-- THE TIED CARD OF 'evergreenlaw05.RecogniseReads'. -/
def recogniseReadsCard : Claim7 := { stood := { row := recogniseReadsRow, standIns := [], harness := (true, "94b87ce047830b01d3096e74744deaf576a7338c25edf59462acdbc58af6c68c"), looks := true }, kinds := [], alts := [], laidByText := true, laidKinds := [.data, .data, .data, .handle, .sentinel, .sentinel, .sentinel], laidTests := true, laidLooks := .later }
def RecogniseReadsCardSaid : Prop := Claim7.holds Tryz.pinned (.plain (OpenSpec.ofChange recogniseReadsSpec)) recogniseReadsCard

/-- THE TIED CARD OF 'evergreenlaw05.RecogniseReasons'. -/
def recogniseReasonsCard : Claim7 := { stood := { row := recogniseReasonsRow, standIns := [], harness := (true, "94b87ce047830b01d3096e74744deaf576a7338c25edf59462acdbc58af6c68c"), looks := true }, kinds := [], alts := [], laidByText := true, laidKinds := [.data, .data, .data, .handle, .sentinel, .sentinel, .sentinel], laidTests := true, laidLooks := .later }
def RecogniseReasonsCardSaid : Prop := Claim7.holds Tryz.pinned (.plain (OpenSpec.ofChange recogniseReasonsSpec)) recogniseReasonsCard

/-- THE TIED CARD OF 'evergreenlaw05.RecogniseTables'. -/
def recogniseTablesCard : Claim7 := { stood := { row := recogniseTablesRow, standIns := [], harness := (true, "94b87ce047830b01d3096e74744deaf576a7338c25edf59462acdbc58af6c68c"), looks := true }, kinds := [], alts := [], laidByText := true, laidKinds := [.data, .data, .data, .handle, .sentinel, .sentinel, .sentinel], laidTests := true, laidLooks := .later }
def RecogniseTablesCardSaid : Prop := Claim7.holds Tryz.pinned (.plain (OpenSpec.ofChange recogniseTablesSpec)) recogniseTablesCard

/-- THE TIED CARD OF 'evergreenlaw05.RecogniseNoticed'. -/
def recogniseNoticedCard : Claim7 := { stood := { row := recogniseNoticedRow, standIns := [], harness := (true, "94b87ce047830b01d3096e74744deaf576a7338c25edf59462acdbc58af6c68c"), looks := true }, kinds := [], alts := [], laidByText := true, laidKinds := [.data, .data, .data, .handle, .sentinel, .sentinel, .sentinel], laidTests := true, laidLooks := .later }
def RecogniseNoticedCardSaid : Prop := Claim7.holds Tryz.pinned (.plain (OpenSpec.ofChange recogniseNoticedSpec)) recogniseNoticedCard

/-- THE TIED CARD OF 'evergreenlaw05.RecogniseBounded'. -/
def recogniseBoundedCard : Claim7 := { stood := { row := recogniseBoundedRow, standIns := [], harness := (true, "94b87ce047830b01d3096e74744deaf576a7338c25edf59462acdbc58af6c68c"), looks := true }, kinds := [], alts := [], laidByText := true, laidKinds := [.data, .data, .data, .handle, .sentinel, .sentinel, .sentinel], laidTests := true, laidLooks := .later }
def RecogniseBoundedCardSaid : Prop := Claim7.holds Tryz.pinned (.plain (OpenSpec.ofChange recogniseBoundedSpec)) recogniseBoundedCard

/-- THE SECOND FORM's CARD OF 'evergreenlaw05.RecogniseMatchesReference'. -/
def recogniseMatchesReferenceUptoCard : Claim7 := { stood := { row := recogniseMatchesReferenceUptoRow, standIns := [], harness := (true, "94b87ce047830b01d3096e74744deaf576a7338c25edf59462acdbc58af6c68c"), looks := true }, kinds := [], alts := [], laidByText := true, laidKinds := [.data, .data, .data, .handle, .sentinel, .sentinel, .sentinel], laidTests := true, laidLooks := .later }
def RecogniseMatchesReferenceUptoCardSaid : Prop := Claim7.holds Tryz.pinned (.plain (OpenSpec.upto recogniseMatchesReferenceSpec)) recogniseMatchesReferenceUptoCard

/-- THE SECOND FORM's CARD OF 'evergreenlaw05.RecogniseWriteMatchesReference'. -/
def recogniseWriteMatchesReferenceUptoCard : Claim7 := { stood := { row := recogniseWriteMatchesReferenceUptoRow, standIns := [], harness := (true, "94b87ce047830b01d3096e74744deaf576a7338c25edf59462acdbc58af6c68c"), looks := true }, kinds := [], alts := [], laidByText := true, laidKinds := [.data, .data, .data, .handle, .sentinel, .sentinel, .sentinel], laidTests := true, laidLooks := .later }
def RecogniseWriteMatchesReferenceUptoCardSaid : Prop := Claim7.holds Tryz.pinned (.plain (OpenSpec.upto recogniseWriteMatchesReferenceSpec)) recogniseWriteMatchesReferenceUptoCard

/-- THE SECOND FORM's CARD OF 'evergreenlaw05.RecogniseParts'. -/
def recognisePartsUptoCard : Claim7 := { stood := { row := recognisePartsUptoRow, standIns := [], harness := (true, "94b87ce047830b01d3096e74744deaf576a7338c25edf59462acdbc58af6c68c"), looks := true }, kinds := [], alts := [], laidByText := true, laidKinds := [.data, .data, .data, .handle, .sentinel, .sentinel, .sentinel], laidTests := true, laidLooks := .later }
def RecognisePartsUptoCardSaid : Prop := Claim7.holds Tryz.pinned (.plain (OpenSpec.upto recognisePartsSpec)) recognisePartsUptoCard

/-- THE SECOND FORM's CARD OF 'evergreenlaw05.RecogniseWrites'. -/
def recogniseWritesUptoCard : Claim7 := { stood := { row := recogniseWritesUptoRow, standIns := [], harness := (true, "94b87ce047830b01d3096e74744deaf576a7338c25edf59462acdbc58af6c68c"), looks := true }, kinds := [], alts := [], laidByText := true, laidKinds := [.data, .data, .data, .handle, .sentinel, .sentinel, .sentinel], laidTests := true, laidLooks := .later }
def RecogniseWritesUptoCardSaid : Prop := Claim7.holds Tryz.pinned (.plain (OpenSpec.upto recogniseWritesSpec)) recogniseWritesUptoCard

/-- THE SECOND FORM's CARD OF 'evergreenlaw05.RecogniseReads'. -/
def recogniseReadsUptoCard : Claim7 := { stood := { row := recogniseReadsUptoRow, standIns := [], harness := (true, "94b87ce047830b01d3096e74744deaf576a7338c25edf59462acdbc58af6c68c"), looks := true }, kinds := [], alts := [], laidByText := true, laidKinds := [.data, .data, .data, .handle, .sentinel, .sentinel, .sentinel], laidTests := true, laidLooks := .later }
def RecogniseReadsUptoCardSaid : Prop := Claim7.holds Tryz.pinned (.plain (OpenSpec.upto recogniseReadsSpec)) recogniseReadsUptoCard

/-- THE SECOND FORM's CARD OF 'evergreenlaw05.RecogniseReasons'. -/
def recogniseReasonsUptoCard : Claim7 := { stood := { row := recogniseReasonsUptoRow, standIns := [], harness := (true, "94b87ce047830b01d3096e74744deaf576a7338c25edf59462acdbc58af6c68c"), looks := true }, kinds := [], alts := [], laidByText := true, laidKinds := [.data, .data, .data, .handle, .sentinel, .sentinel, .sentinel], laidTests := true, laidLooks := .later }
def RecogniseReasonsUptoCardSaid : Prop := Claim7.holds Tryz.pinned (.plain (OpenSpec.upto recogniseReasonsSpec)) recogniseReasonsUptoCard

/-- THE SECOND FORM's CARD OF 'evergreenlaw05.RecogniseTables'. -/
def recogniseTablesUptoCard : Claim7 := { stood := { row := recogniseTablesUptoRow, standIns := [], harness := (true, "94b87ce047830b01d3096e74744deaf576a7338c25edf59462acdbc58af6c68c"), looks := true }, kinds := [], alts := [], laidByText := true, laidKinds := [.data, .data, .data, .handle, .sentinel, .sentinel, .sentinel], laidTests := true, laidLooks := .later }
def RecogniseTablesUptoCardSaid : Prop := Claim7.holds Tryz.pinned (.plain (OpenSpec.upto recogniseTablesSpec)) recogniseTablesUptoCard

/-- THE SECOND FORM's CARD OF 'evergreenlaw05.RecogniseNoticed'. -/
def recogniseNoticedUptoCard : Claim7 := { stood := { row := recogniseNoticedUptoRow, standIns := [], harness := (true, "94b87ce047830b01d3096e74744deaf576a7338c25edf59462acdbc58af6c68c"), looks := true }, kinds := [], alts := [], laidByText := true, laidKinds := [.data, .data, .data, .handle, .sentinel, .sentinel, .sentinel], laidTests := true, laidLooks := .later }
def RecogniseNoticedUptoCardSaid : Prop := Claim7.holds Tryz.pinned (.plain (OpenSpec.upto recogniseNoticedSpec)) recogniseNoticedUptoCard

/-- THE SECOND FORM's CARD OF 'evergreenlaw05.RecogniseBounded'. -/
def recogniseBoundedUptoCard : Claim7 := { stood := { row := recogniseBoundedUptoRow, standIns := [], harness := (true, "94b87ce047830b01d3096e74744deaf576a7338c25edf59462acdbc58af6c68c"), looks := true }, kinds := [], alts := [], laidByText := true, laidKinds := [.data, .data, .data, .handle, .sentinel, .sentinel, .sentinel], laidTests := true, laidLooks := .later }
def RecogniseBoundedUptoCardSaid : Prop := Claim7.holds Tryz.pinned (.plain (OpenSpec.upto recogniseBoundedSpec)) recogniseBoundedUptoCard
end Rows
end Go.Proofs.YtdndmhlmbpgdeaaGreatDoor
