/-
  DERIVED. GIVEN WITH THE SEED: THE CARDS: each row of YthmhcpghfbifiaaGreatDoorRows.lean that lists a variable, with what it lists TIED to the program's text (the seventh form; the later family's looks); each row that meets fmt, with fmt's text TOLD by the authors' own Lean function (tested against real Go, not proved from fmt's source: count such statements apart). THE CARD IS WHAT COUNTS. Prove the row's statement (the work); the ties are given (YthmhcpghfbifiaaGreatDoorTie.lean); close each card by the builder's one call (the guide's Derived/Test/ToyasCard.lean, 'card_holds'). Laid BY PROGRAM, IN A SANDBOX (cutbox-door.mjs). By AI agents, Wed Nov 11 2026. No macro, syntax, notation, axiom, sorry.
-/
import Derived.Test.YthmhcpghfbifiaaGreatDoorRows
import GoSem.ClaimSeven
namespace Go.Proofs.YthmhcpghfbifiaaGreatDoor
namespace Rows

/-- THE TIED CARD OF 'sextantlaw06.EventSilent'. -/
def eventSilentCard : Claim7 := { stood := { row := eventSilentRow, standIns := [], harness := (true, "9fbf8ca8b9d22d8af795748bff50990045e4ea34789675e37d69b09fe2579500"), looks := true }, kinds := [], alts := [], laidByText := true, laidKinds := [.data, .data, .data, .data, .data, .pinned], laidTests := true, laidLooks := .later }
def EventSilentCardSaid : Prop := Claim7.holds Tryz.pinned (.plain (OpenSpec.ofChange eventSilentSpec)) eventSilentCard

/-- THE SECOND FORM's CARD OF 'sextantlaw06.EventSilent'. -/
def eventSilentUptoCard : Claim7 := { stood := { row := eventSilentUptoRow, standIns := [], harness := (true, "9fbf8ca8b9d22d8af795748bff50990045e4ea34789675e37d69b09fe2579500"), looks := true }, kinds := [], alts := [], laidByText := true, laidKinds := [.data, .data, .data, .data, .data, .pinned], laidTests := true, laidLooks := .later }
def EventSilentUptoCardSaid : Prop := Claim7.holds Tryz.pinned (.plain (OpenSpec.upto eventSilentSpec)) eventSilentUptoCard
end Rows
end Go.Proofs.YthmhcpghfbifiaaGreatDoor
