/-
  DERIVED. GIVEN WITH THE SEED: THE CARDS: each row of YtgglommnipbagaaGreatDoorRows.lean that lists a variable, with what it lists TIED to the program's text (the seventh form; the later family's looks); each row that meets fmt, with fmt's text TOLD by the authors' own Lean function (tested against real Go, not proved from fmt's source: count such statements apart). THE CARD IS WHAT COUNTS. Prove the row's statement (the work); the ties are given (YtgglommnipbagaaGreatDoorTie.lean); close each card by the builder's one call (the guide's Derived/Test/ToyasCard.lean, 'card_holds'). Laid BY PROGRAM, IN A SANDBOX (cutbox-door.mjs). By AI agents, Wed Nov 11 2026. No macro, syntax, notation, axiom, sorry.
-/
import Derived.Test.YtgglommnipbagaaGreatDoorRows
import GoSem.ClaimSeven
namespace Go.Proofs.YtgglommnipbagaaGreatDoor
namespace Rows

/-- THE TIED CARD OF 'sextantlaw04.ValueMakes'. -/
def valueMakesCard : Claim7 := { stood := { row := valueMakesRow, standIns := [], harness := (true, "4763c5c6dfc1234ba70bedaef4fb83e093a365948d83808bfc963c76b7a979ed"), looks := true }, kinds := [], alts := [], laidByText := true, laidKinds := [.data, .data, .data, .data], laidTests := true, laidLooks := .later }
def ValueMakesCardSaid : Prop := Claim7.holds Tryz.pinned (.plain (OpenSpec.ofChange valueMakesSpec)) valueMakesCard

/-- THE TIED CARD OF 'sextantlaw04.ValueParts'. -/
def valuePartsCard : Claim7 := { stood := { row := valuePartsRow, standIns := [], harness := (true, "4763c5c6dfc1234ba70bedaef4fb83e093a365948d83808bfc963c76b7a979ed"), looks := true }, kinds := [], alts := [], laidByText := true, laidKinds := [.data, .data, .data, .data], laidTests := true, laidLooks := .later }
def ValuePartsCardSaid : Prop := Claim7.holds Tryz.pinned (.plain (OpenSpec.ofChange valuePartsSpec)) valuePartsCard

/-- THE TIED CARD OF 'sextantlaw04.ValueDecodes'. -/
def valueDecodesCard : Claim7 := { stood := { row := valueDecodesRow, standIns := [], harness := (true, "4763c5c6dfc1234ba70bedaef4fb83e093a365948d83808bfc963c76b7a979ed"), looks := true }, kinds := [], alts := [], laidByText := true, laidKinds := [.data, .data, .data, .data], laidTests := true, laidLooks := .later }
def ValueDecodesCardSaid : Prop := Claim7.holds Tryz.pinned (.plain (OpenSpec.ofChange valueDecodesSpec)) valueDecodesCard

/-- THE TIED CARD OF 'sextantlaw05.ArithBinary'. -/
def arithBinaryCard : Claim7 := { stood := { row := arithBinaryRow, standIns := [], harness := (true, "4763c5c6dfc1234ba70bedaef4fb83e093a365948d83808bfc963c76b7a979ed"), looks := true }, kinds := [], alts := [], laidByText := true, laidKinds := [.data], laidTests := true, laidLooks := .later }
def ArithBinaryCardSaid : Prop := Claim7.holds Tryz.pinned (.plain (OpenSpec.ofChange arithBinarySpec)) arithBinaryCard

/-- THE TIED CARD OF 'sextantlaw05.ArithField'. -/
def arithFieldCard : Claim7 := { stood := { row := arithFieldRow, standIns := [], harness := (true, "4763c5c6dfc1234ba70bedaef4fb83e093a365948d83808bfc963c76b7a979ed"), looks := true }, kinds := [], alts := [], laidByText := true, laidKinds := [.data], laidTests := true, laidLooks := .later }
def ArithFieldCardSaid : Prop := Claim7.holds Tryz.pinned (.plain (OpenSpec.ofChange arithFieldSpec)) arithFieldCard

/-- THE TIED CARD OF 'sextantlaw05.ArithSets'. -/
def arithSetsCard : Claim7 := { stood := { row := arithSetsRow, standIns := [], harness := (true, "4763c5c6dfc1234ba70bedaef4fb83e093a365948d83808bfc963c76b7a979ed"), looks := true }, kinds := [], alts := [], laidByText := true, laidKinds := [.data], laidTests := true, laidLooks := .later }
def ArithSetsCardSaid : Prop := Claim7.holds Tryz.pinned (.plain (OpenSpec.ofChange arithSetsSpec)) arithSetsCard

/-- THE SECOND FORM's CARD OF 'sextantlaw04.ValueMakes'. -/
def valueMakesUptoCard : Claim7 := { stood := { row := valueMakesUptoRow, standIns := [], harness := (true, "4763c5c6dfc1234ba70bedaef4fb83e093a365948d83808bfc963c76b7a979ed"), looks := true }, kinds := [], alts := [], laidByText := true, laidKinds := [.data, .data, .data, .data], laidTests := true, laidLooks := .later }
def ValueMakesUptoCardSaid : Prop := Claim7.holds Tryz.pinned (.plain (OpenSpec.upto valueMakesSpec)) valueMakesUptoCard

/-- THE SECOND FORM's CARD OF 'sextantlaw04.ValueParts'. -/
def valuePartsUptoCard : Claim7 := { stood := { row := valuePartsUptoRow, standIns := [], harness := (true, "4763c5c6dfc1234ba70bedaef4fb83e093a365948d83808bfc963c76b7a979ed"), looks := true }, kinds := [], alts := [], laidByText := true, laidKinds := [.data, .data, .data, .data], laidTests := true, laidLooks := .later }
def ValuePartsUptoCardSaid : Prop := Claim7.holds Tryz.pinned (.plain (OpenSpec.upto valuePartsSpec)) valuePartsUptoCard

/-- THE SECOND FORM's CARD OF 'sextantlaw04.ValueDecodes'. -/
def valueDecodesUptoCard : Claim7 := { stood := { row := valueDecodesUptoRow, standIns := [], harness := (true, "4763c5c6dfc1234ba70bedaef4fb83e093a365948d83808bfc963c76b7a979ed"), looks := true }, kinds := [], alts := [], laidByText := true, laidKinds := [.data, .data, .data, .data], laidTests := true, laidLooks := .later }
def ValueDecodesUptoCardSaid : Prop := Claim7.holds Tryz.pinned (.plain (OpenSpec.upto valueDecodesSpec)) valueDecodesUptoCard

/-- THE SECOND FORM's CARD OF 'sextantlaw05.ArithBinary'. -/
def arithBinaryUptoCard : Claim7 := { stood := { row := arithBinaryUptoRow, standIns := [], harness := (true, "4763c5c6dfc1234ba70bedaef4fb83e093a365948d83808bfc963c76b7a979ed"), looks := true }, kinds := [], alts := [], laidByText := true, laidKinds := [.data], laidTests := true, laidLooks := .later }
def ArithBinaryUptoCardSaid : Prop := Claim7.holds Tryz.pinned (.plain (OpenSpec.upto arithBinarySpec)) arithBinaryUptoCard

/-- THE SECOND FORM's CARD OF 'sextantlaw05.ArithField'. -/
def arithFieldUptoCard : Claim7 := { stood := { row := arithFieldUptoRow, standIns := [], harness := (true, "4763c5c6dfc1234ba70bedaef4fb83e093a365948d83808bfc963c76b7a979ed"), looks := true }, kinds := [], alts := [], laidByText := true, laidKinds := [.data], laidTests := true, laidLooks := .later }
def ArithFieldUptoCardSaid : Prop := Claim7.holds Tryz.pinned (.plain (OpenSpec.upto arithFieldSpec)) arithFieldUptoCard

/-- THE SECOND FORM's CARD OF 'sextantlaw05.ArithSets'. -/
def arithSetsUptoCard : Claim7 := { stood := { row := arithSetsUptoRow, standIns := [], harness := (true, "4763c5c6dfc1234ba70bedaef4fb83e093a365948d83808bfc963c76b7a979ed"), looks := true }, kinds := [], alts := [], laidByText := true, laidKinds := [.data], laidTests := true, laidLooks := .later }
def ArithSetsUptoCardSaid : Prop := Claim7.holds Tryz.pinned (.plain (OpenSpec.upto arithSetsSpec)) arithSetsUptoCard
end Rows
end Go.Proofs.YtgglommnipbagaaGreatDoor
