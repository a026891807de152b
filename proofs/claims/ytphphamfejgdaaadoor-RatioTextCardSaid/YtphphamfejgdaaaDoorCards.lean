/-
  DERIVED. GIVEN WITH THE SEED: THE CARDS: each row of YtphphamfejgdaaaDoorRows.lean that lists a variable, with what it lists TIED to the program's text (the seventh form; the later family's looks); each row that meets fmt, with fmt's text TOLD by the authors' own Lean function (tested against real Go, not proved from fmt's source: count such statements apart). THE CARD IS WHAT COUNTS. Prove the row's statement (the work); the ties are given (YtphphamfejgdaaaDoorTie.lean); close each card by the builder's one call (the guide's Derived/Test/ToyasCard.lean, 'card_holds'). Laid BY PROGRAM, IN A SANDBOX (cutbox-door.mjs). By AI agents, Wed Nov 11 2026. No macro, syntax, notation, axiom, sorry.
-/
import Derived.Test.YtphphamfejgdaaaDoorRows
import GoSem.ClaimSeven
namespace Go.Proofs.YtphphamfejgdaaaDoor
namespace Rows

/-- THE TIED CARD OF 'evergreenlaw03.RatioCommutes'. -/
def ratioCommutesCard : Claim7 := { stood := { row := ratioCommutesRow, standIns := [], harness := (true, "436e18b6e7896d908b6158532a8e1b6df04c9dd8ebe2c9e3055da594da30046d"), looks := true }, kinds := [], alts := [], laidByText := true, laidKinds := [.data, .data, .data, .sentinel, .sentinel, .sentinel], laidTests := true, laidLooks := .later }
def RatioCommutesCardSaid : Prop := Claim7.holds Tryd.pinned (.plain (OpenSpec.ofChange ratioCommutesSpec)) ratioCommutesCard

/-- THE TIED CARD OF 'evergreenlaw03.RatioDistributes'. -/
def ratioDistributesCard : Claim7 := { stood := { row := ratioDistributesRow, standIns := [], harness := (true, "436e18b6e7896d908b6158532a8e1b6df04c9dd8ebe2c9e3055da594da30046d"), looks := true }, kinds := [], alts := [], laidByText := true, laidKinds := [.data, .data, .data, .sentinel, .sentinel, .sentinel], laidTests := true, laidLooks := .later }
def RatioDistributesCardSaid : Prop := Claim7.holds Tryd.pinned (.plain (OpenSpec.ofChange ratioDistributesSpec)) ratioDistributesCard

/-- THE TIED CARD OF 'evergreenlaw03.RatioOrder'. -/
def ratioOrderCard : Claim7 := { stood := { row := ratioOrderRow, standIns := [], harness := (true, "436e18b6e7896d908b6158532a8e1b6df04c9dd8ebe2c9e3055da594da30046d"), looks := true }, kinds := [], alts := [], laidByText := true, laidKinds := [.data, .data, .data, .sentinel, .sentinel, .sentinel], laidTests := true, laidLooks := .later }
def RatioOrderCardSaid : Prop := Claim7.holds Tryd.pinned (.plain (OpenSpec.ofChange ratioOrderSpec)) ratioOrderCard

/-- THE TIED CARD OF 'evergreenlaw03.RatioFloor'. -/
def ratioFloorCard : Claim7 := { stood := { row := ratioFloorRow, standIns := [], harness := (true, "436e18b6e7896d908b6158532a8e1b6df04c9dd8ebe2c9e3055da594da30046d"), looks := true }, kinds := [], alts := [], laidByText := true, laidKinds := [.data, .data, .data, .sentinel, .sentinel, .sentinel], laidTests := true, laidLooks := .later }
def RatioFloorCardSaid : Prop := Claim7.holds Tryd.pinned (.plain (OpenSpec.ofChange ratioFloorSpec)) ratioFloorCard

/-- THE TIED CARD OF 'evergreenlaw03.RatioRound'. -/
def ratioRoundCard : Claim7 := { stood := { row := ratioRoundRow, standIns := [], harness := (true, "436e18b6e7896d908b6158532a8e1b6df04c9dd8ebe2c9e3055da594da30046d"), looks := true }, kinds := [], alts := [], laidByText := true, laidKinds := [.data, .data, .data, .sentinel, .sentinel, .sentinel], laidTests := true, laidLooks := .later }
def RatioRoundCardSaid : Prop := Claim7.holds Tryd.pinned (.plain (OpenSpec.ofChange ratioRoundSpec)) ratioRoundCard

/-- THE TIED CARD OF 'evergreenlaw03.RatioText'. -/
def ratioTextCard : Claim7 := { stood := { row := ratioTextRow, standIns := [], harness := (true, "436e18b6e7896d908b6158532a8e1b6df04c9dd8ebe2c9e3055da594da30046d"), looks := true }, kinds := [], alts := [], laidByText := true, laidKinds := [.data, .data, .data, .sentinel, .sentinel, .sentinel], laidTests := true, laidLooks := .later }
def RatioTextCardSaid : Prop := Claim7.holds Tryd.pinned (.plain (OpenSpec.ofChange ratioTextSpec)) ratioTextCard

/-- THE SECOND FORM's CARD OF 'evergreenlaw03.RatioCommutes'. -/
def ratioCommutesUptoCard : Claim7 := { stood := { row := ratioCommutesUptoRow, standIns := [], harness := (true, "436e18b6e7896d908b6158532a8e1b6df04c9dd8ebe2c9e3055da594da30046d"), looks := true }, kinds := [], alts := [], laidByText := true, laidKinds := [.data, .data, .data, .sentinel, .sentinel, .sentinel], laidTests := true, laidLooks := .later }
def RatioCommutesUptoCardSaid : Prop := Claim7.holds Tryd.pinned (.plain (OpenSpec.upto ratioCommutesSpec)) ratioCommutesUptoCard

/-- THE SECOND FORM's CARD OF 'evergreenlaw03.RatioDistributes'. -/
def ratioDistributesUptoCard : Claim7 := { stood := { row := ratioDistributesUptoRow, standIns := [], harness := (true, "436e18b6e7896d908b6158532a8e1b6df04c9dd8ebe2c9e3055da594da30046d"), looks := true }, kinds := [], alts := [], laidByText := true, laidKinds := [.data, .data, .data, .sentinel, .sentinel, .sentinel], laidTests := true, laidLooks := .later }
def RatioDistributesUptoCardSaid : Prop := Claim7.holds Tryd.pinned (.plain (OpenSpec.upto ratioDistributesSpec)) ratioDistributesUptoCard

/-- THE SECOND FORM's CARD OF 'evergreenlaw03.RatioOrder'. -/
def ratioOrderUptoCard : Claim7 := { stood := { row := ratioOrderUptoRow, standIns := [], harness := (true, "436e18b6e7896d908b6158532a8e1b6df04c9dd8ebe2c9e3055da594da30046d"), looks := true }, kinds := [], alts := [], laidByText := true, laidKinds := [.data, .data, .data, .sentinel, .sentinel, .sentinel], laidTests := true, laidLooks := .later }
def RatioOrderUptoCardSaid : Prop := Claim7.holds Tryd.pinned (.plain (OpenSpec.upto ratioOrderSpec)) ratioOrderUptoCard

/-- THE SECOND FORM's CARD OF 'evergreenlaw03.RatioFloor'. -/
def ratioFloorUptoCard : Claim7 := { stood := { row := ratioFloorUptoRow, standIns := [], harness := (true, "436e18b6e7896d908b6158532a8e1b6df04c9dd8ebe2c9e3055da594da30046d"), looks := true }, kinds := [], alts := [], laidByText := true, laidKinds := [.data, .data, .data, .sentinel, .sentinel, .sentinel], laidTests := true, laidLooks := .later }
def RatioFloorUptoCardSaid : Prop := Claim7.holds Tryd.pinned (.plain (OpenSpec.upto ratioFloorSpec)) ratioFloorUptoCard

/-- THE SECOND FORM's CARD OF 'evergreenlaw03.RatioRound'. -/
def ratioRoundUptoCard : Claim7 := { stood := { row := ratioRoundUptoRow, standIns := [], harness := (true, "436e18b6e7896d908b6158532a8e1b6df04c9dd8ebe2c9e3055da594da30046d"), looks := true }, kinds := [], alts := [], laidByText := true, laidKinds := [.data, .data, .data, .sentinel, .sentinel, .sentinel], laidTests := true, laidLooks := .later }
def RatioRoundUptoCardSaid : Prop := Claim7.holds Tryd.pinned (.plain (OpenSpec.upto ratioRoundSpec)) ratioRoundUptoCard

/-- THE SECOND FORM's CARD OF 'evergreenlaw03.RatioText'. -/
def ratioTextUptoCard : Claim7 := { stood := { row := ratioTextUptoRow, standIns := [], harness := (true, "436e18b6e7896d908b6158532a8e1b6df04c9dd8ebe2c9e3055da594da30046d"), looks := true }, kinds := [], alts := [], laidByText := true, laidKinds := [.data, .data, .data, .sentinel, .sentinel, .sentinel], laidTests := true, laidLooks := .later }
def RatioTextUptoCardSaid : Prop := Claim7.holds Tryd.pinned (.plain (OpenSpec.upto ratioTextSpec)) ratioTextUptoCard
end Rows
end Go.Proofs.YtphphamfejgdaaaDoor
