/-
  DERIVED. GIVEN WITH THE SEED: THE CARDS: each row of YtmgmndhibcgpdaaGreatDoorRows.lean that lists a variable, with what it lists TIED to the program's text (the seventh form; the later family's looks); each row that meets fmt, with fmt's text TOLD by the authors' own Lean function (tested against real Go, not proved from fmt's source: count such statements apart). THE CARD IS WHAT COUNTS. Prove the row's statement (the work); the ties are given (YtmgmndhibcgpdaaGreatDoorTie.lean); close each card by the builder's one call (the guide's Derived/Test/ToyasCard.lean, 'card_holds'). Laid BY PROGRAM, IN A SANDBOX (cutbox-door.mjs). By AI agents, Wed Nov 11 2026. No macro, syntax, notation, axiom, sorry.
-/
import Derived.Test.YtmgmndhibcgpdaaGreatDoorRows
import GoSem.ClaimSeven
namespace Go.Proofs.YtmgmndhibcgpdaaGreatDoor
namespace Rows

/-- THE TIED CARD OF 'sextantlaw04.ValueMakes'. -/
def valueMakesCard : Claim7 := { stood := { row := valueMakesRow, standIns := [], harness := (true, "6d33d6d0345e25db8dd641ef4ef5e31ea34b02c01894f41d457ea7a3ef8f8716"), looks := true }, kinds := [], alts := [], laidByText := true, laidKinds := [.data, .data, .data, .data], laidTests := true, laidLooks := .later }
def ValueMakesCardSaid : Prop := Claim7.holds Tryz.pinned (.plain (OpenSpec.ofChange valueMakesSpec)) valueMakesCard

/-- THE TIED CARD OF 'sextantlaw04.ValueParts'. -/
def valuePartsCard : Claim7 := { stood := { row := valuePartsRow, standIns := [], harness := (true, "6d33d6d0345e25db8dd641ef4ef5e31ea34b02c01894f41d457ea7a3ef8f8716"), looks := true }, kinds := [], alts := [], laidByText := true, laidKinds := [.data, .data, .data, .data], laidTests := true, laidLooks := .later }
def ValuePartsCardSaid : Prop := Claim7.holds Tryz.pinned (.plain (OpenSpec.ofChange valuePartsSpec)) valuePartsCard

/-- THE TIED CARD OF 'sextantlaw04.ValueEncodes'. -/
def valueEncodesCard : Claim7 := { stood := { row := valueEncodesRow, standIns := [], harness := (true, "6d33d6d0345e25db8dd641ef4ef5e31ea34b02c01894f41d457ea7a3ef8f8716"), looks := true }, kinds := [], alts := [], laidByText := true, laidKinds := [.data, .data, .data, .data], laidTests := true, laidLooks := .later }
def ValueEncodesCardSaid : Prop := Claim7.holds Tryz.pinned (.plain (OpenSpec.ofChange valueEncodesSpec)) valueEncodesCard

/-- THE TIED CARD OF 'sextantlaw04.ValuePrints'. -/
def valuePrintsCard : Claim7 := { stood := { row := valuePrintsRow, standIns := [], harness := (true, "6d33d6d0345e25db8dd641ef4ef5e31ea34b02c01894f41d457ea7a3ef8f8716"), looks := true }, kinds := [], alts := [], laidByText := true, laidKinds := [.data, .data, .data, .data], laidTests := true, laidLooks := .later }
def ValuePrintsCardSaid : Prop := Claim7.holds Tryz.pinned (.plain (OpenSpec.ofChange valuePrintsSpec)) valuePrintsCard

/-- THE TIED CARD OF 'sextantlaw05.ArithUnary'. -/
def arithUnaryCard : Claim7 := { stood := { row := arithUnaryRow, standIns := [], harness := (true, "6d33d6d0345e25db8dd641ef4ef5e31ea34b02c01894f41d457ea7a3ef8f8716"), looks := true }, kinds := [], alts := [], laidByText := true, laidKinds := [.data], laidTests := true, laidLooks := .later }
def ArithUnaryCardSaid : Prop := Claim7.holds Tryz.pinned (.plain (OpenSpec.ofChange arithUnarySpec)) arithUnaryCard

/-- THE TIED CARD OF 'sextantlaw05.ArithRings'. -/
def arithRingsCard : Claim7 := { stood := { row := arithRingsRow, standIns := [], harness := (true, "6d33d6d0345e25db8dd641ef4ef5e31ea34b02c01894f41d457ea7a3ef8f8716"), looks := true }, kinds := [], alts := [], laidByText := true, laidKinds := [.data], laidTests := true, laidLooks := .later }
def ArithRingsCardSaid : Prop := Claim7.holds Tryz.pinned (.plain (OpenSpec.ofChange arithRingsSpec)) arithRingsCard

/-- THE SECOND FORM's CARD OF 'sextantlaw04.ValueMakes'. -/
def valueMakesUptoCard : Claim7 := { stood := { row := valueMakesUptoRow, standIns := [], harness := (true, "6d33d6d0345e25db8dd641ef4ef5e31ea34b02c01894f41d457ea7a3ef8f8716"), looks := true }, kinds := [], alts := [], laidByText := true, laidKinds := [.data, .data, .data, .data], laidTests := true, laidLooks := .later }
def ValueMakesUptoCardSaid : Prop := Claim7.holds Tryz.pinned (.plain (OpenSpec.upto valueMakesSpec)) valueMakesUptoCard

/-- THE SECOND FORM's CARD OF 'sextantlaw04.ValueParts'. -/
def valuePartsUptoCard : Claim7 := { stood := { row := valuePartsUptoRow, standIns := [], harness := (true, "6d33d6d0345e25db8dd641ef4ef5e31ea34b02c01894f41d457ea7a3ef8f8716"), looks := true }, kinds := [], alts := [], laidByText := true, laidKinds := [.data, .data, .data, .data], laidTests := true, laidLooks := .later }
def ValuePartsUptoCardSaid : Prop := Claim7.holds Tryz.pinned (.plain (OpenSpec.upto valuePartsSpec)) valuePartsUptoCard

/-- THE SECOND FORM's CARD OF 'sextantlaw04.ValueEncodes'. -/
def valueEncodesUptoCard : Claim7 := { stood := { row := valueEncodesUptoRow, standIns := [], harness := (true, "6d33d6d0345e25db8dd641ef4ef5e31ea34b02c01894f41d457ea7a3ef8f8716"), looks := true }, kinds := [], alts := [], laidByText := true, laidKinds := [.data, .data, .data, .data], laidTests := true, laidLooks := .later }
def ValueEncodesUptoCardSaid : Prop := Claim7.holds Tryz.pinned (.plain (OpenSpec.upto valueEncodesSpec)) valueEncodesUptoCard

/-- THE SECOND FORM's CARD OF 'sextantlaw04.ValuePrints'. -/
def valuePrintsUptoCard : Claim7 := { stood := { row := valuePrintsUptoRow, standIns := [], harness := (true, "6d33d6d0345e25db8dd641ef4ef5e31ea34b02c01894f41d457ea7a3ef8f8716"), looks := true }, kinds := [], alts := [], laidByText := true, laidKinds := [.data, .data, .data, .data], laidTests := true, laidLooks := .later }
def ValuePrintsUptoCardSaid : Prop := Claim7.holds Tryz.pinned (.plain (OpenSpec.upto valuePrintsSpec)) valuePrintsUptoCard

/-- THE SECOND FORM's CARD OF 'sextantlaw05.ArithUnary'. -/
def arithUnaryUptoCard : Claim7 := { stood := { row := arithUnaryUptoRow, standIns := [], harness := (true, "6d33d6d0345e25db8dd641ef4ef5e31ea34b02c01894f41d457ea7a3ef8f8716"), looks := true }, kinds := [], alts := [], laidByText := true, laidKinds := [.data], laidTests := true, laidLooks := .later }
def ArithUnaryUptoCardSaid : Prop := Claim7.holds Tryz.pinned (.plain (OpenSpec.upto arithUnarySpec)) arithUnaryUptoCard

/-- THE SECOND FORM's CARD OF 'sextantlaw05.ArithRings'. -/
def arithRingsUptoCard : Claim7 := { stood := { row := arithRingsUptoRow, standIns := [], harness := (true, "6d33d6d0345e25db8dd641ef4ef5e31ea34b02c01894f41d457ea7a3ef8f8716"), looks := true }, kinds := [], alts := [], laidByText := true, laidKinds := [.data], laidTests := true, laidLooks := .later }
def ArithRingsUptoCardSaid : Prop := Claim7.holds Tryz.pinned (.plain (OpenSpec.upto arithRingsSpec)) arithRingsUptoCard
end Rows
end Go.Proofs.YtmgmndhibcgpdaaGreatDoor
