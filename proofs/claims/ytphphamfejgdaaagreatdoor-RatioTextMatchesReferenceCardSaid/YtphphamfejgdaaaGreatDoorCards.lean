/-
  DERIVED. GIVEN WITH THE SEED: THE CARDS: each row of YtphphamfejgdaaaGreatDoorRows.lean that lists a variable, with what it lists TIED to the program's text (the seventh form; the later family's looks); each row that meets fmt, with fmt's text TOLD by the authors' own Lean function (tested against real Go, not proved from fmt's source: count such statements apart). THE CARD IS WHAT COUNTS. Prove the row's statement (the work); the ties are given (YtphphamfejgdaaaGreatDoorTie.lean); close each card by the builder's one call (the guide's Derived/Test/ToyasCard.lean, 'card_holds'). Laid BY PROGRAM, IN A SANDBOX (cutbox-door.mjs). By AI agents, Wed Nov 11 2026. No macro, syntax, notation, axiom, sorry.
-/
import Derived.Test.YtphphamfejgdaaaGreatDoorRows
import GoSem.ClaimSeven
namespace Go.Proofs.YtphphamfejgdaaaGreatDoor
namespace Rows

/-- THE TIED CARD OF 'evergreenlaw03.RatioMatchesReference'. -/
def ratioMatchesReferenceCard : Claim7 := { stood := { row := ratioMatchesReferenceRow, standIns := [], harness := (true, "fb044f95ac506c64fb0e6a45dc69248ac66a8c70d781236a8f07e39f685bde4a"), looks := true }, kinds := [], alts := [], laidByText := true, laidKinds := [.data, .data, .data, .sentinel, .sentinel, .sentinel], laidTests := true, laidLooks := .later }
def RatioMatchesReferenceCardSaid : Prop := Claim7.holds Tryz.pinned (.plain (OpenSpec.ofChange ratioMatchesReferenceSpec)) ratioMatchesReferenceCard

/-- THE TIED CARD OF 'evergreenlaw03.RatioTextMatchesReference'. -/
def ratioTextMatchesReferenceCard : Claim7 := { stood := { row := ratioTextMatchesReferenceRow, standIns := [], harness := (true, "fb044f95ac506c64fb0e6a45dc69248ac66a8c70d781236a8f07e39f685bde4a"), looks := true }, kinds := [], alts := [], laidByText := true, laidKinds := [.data, .data, .data, .sentinel, .sentinel, .sentinel], laidTests := true, laidLooks := .later }
def RatioTextMatchesReferenceCardSaid : Prop := Claim7.holds Tryz.pinned (.plain (OpenSpec.ofChange ratioTextMatchesReferenceSpec)) ratioTextMatchesReferenceCard

/-- THE TIED CARD OF 'evergreenlaw03.RatioInverse'. -/
def ratioInverseCard : Claim7 := { stood := { row := ratioInverseRow, standIns := [], harness := (true, "fb044f95ac506c64fb0e6a45dc69248ac66a8c70d781236a8f07e39f685bde4a"), looks := true }, kinds := [], alts := [], laidByText := true, laidKinds := [.data, .data, .data, .sentinel, .sentinel, .sentinel], laidTests := true, laidLooks := .later }
def RatioInverseCardSaid : Prop := Claim7.holds Tryz.pinned (.plain (OpenSpec.ofChange ratioInverseSpec)) ratioInverseCard

/-- THE SECOND FORM's CARD OF 'evergreenlaw03.RatioMatchesReference'. -/
def ratioMatchesReferenceUptoCard : Claim7 := { stood := { row := ratioMatchesReferenceUptoRow, standIns := [], harness := (true, "fb044f95ac506c64fb0e6a45dc69248ac66a8c70d781236a8f07e39f685bde4a"), looks := true }, kinds := [], alts := [], laidByText := true, laidKinds := [.data, .data, .data, .sentinel, .sentinel, .sentinel], laidTests := true, laidLooks := .later }
def RatioMatchesReferenceUptoCardSaid : Prop := Claim7.holds Tryz.pinned (.plain (OpenSpec.upto ratioMatchesReferenceSpec)) ratioMatchesReferenceUptoCard

/-- THE SECOND FORM's CARD OF 'evergreenlaw03.RatioTextMatchesReference'. -/
def ratioTextMatchesReferenceUptoCard : Claim7 := { stood := { row := ratioTextMatchesReferenceUptoRow, standIns := [], harness := (true, "fb044f95ac506c64fb0e6a45dc69248ac66a8c70d781236a8f07e39f685bde4a"), looks := true }, kinds := [], alts := [], laidByText := true, laidKinds := [.data, .data, .data, .sentinel, .sentinel, .sentinel], laidTests := true, laidLooks := .later }
def RatioTextMatchesReferenceUptoCardSaid : Prop := Claim7.holds Tryz.pinned (.plain (OpenSpec.upto ratioTextMatchesReferenceSpec)) ratioTextMatchesReferenceUptoCard

/-- THE SECOND FORM's CARD OF 'evergreenlaw03.RatioInverse'. -/
def ratioInverseUptoCard : Claim7 := { stood := { row := ratioInverseUptoRow, standIns := [], harness := (true, "fb044f95ac506c64fb0e6a45dc69248ac66a8c70d781236a8f07e39f685bde4a"), looks := true }, kinds := [], alts := [], laidByText := true, laidKinds := [.data, .data, .data, .sentinel, .sentinel, .sentinel], laidTests := true, laidLooks := .later }
def RatioInverseUptoCardSaid : Prop := Claim7.holds Tryz.pinned (.plain (OpenSpec.upto ratioInverseSpec)) ratioInverseUptoCard
end Rows
end Go.Proofs.YtphphamfejgdaaaGreatDoor
