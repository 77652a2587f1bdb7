/-
  DERIVED. GIVEN WITH THE SEED: THE CARDS: each row of YtjcmajdaebpejaaDoorRows.lean that lists a variable, with what it lists TIED to the program's text (the seventh form; the later family's looks); each row that meets fmt, with fmt's text TOLD by the authors' own Lean function (tested against real Go, not proved from fmt's source: count such statements apart). THE CARD IS WHAT COUNTS. Prove the row's statement (the work); the ties are given (YtjcmajdaebpejaaDoorTie.lean); close each card by the builder's one call (the guide's Derived/Test/ToyasCard.lean, 'card_holds'). Laid BY PROGRAM, IN A SANDBOX (cutbox-door.mjs). By AI agents, Wed Nov 11 2026. No macro, syntax, notation, axiom, sorry.
-/
import Derived.Test.YtjcmajdaebpejaaDoorRows
import GoSem.ClaimSeven
namespace Go.Proofs.YtjcmajdaebpejaaDoor
namespace Rows

/-- THE TIED CARD OF 'sextantlaw07.HistoryChecks'. -/
def historyChecksCard : Claim7 := { stood := { row := historyChecksRow, standIns := [], harness := (true, "5370c9215ac7bd508a42f8f939bd11ec62db2ca16c2b80b1a583764a649df456"), looks := false }, kinds := [], alts := [], laidByText := true, laidKinds := [.data], laidTests := true, laidLooks := .later }
def HistoryChecksCardSaid : Prop := Claim7.holds Tryd.pinned (.plain (OpenSpec.ofChange historyChecksSpec)) historyChecksCard

/-- THE SECOND FORM's CARD OF 'sextantlaw07.HistoryChecks'. -/
def historyChecksUptoCard : Claim7 := { stood := { row := historyChecksUptoRow, standIns := [], harness := (true, "5370c9215ac7bd508a42f8f939bd11ec62db2ca16c2b80b1a583764a649df456"), looks := false }, kinds := [], alts := [], laidByText := true, laidKinds := [.data], laidTests := true, laidLooks := .later }
def HistoryChecksUptoCardSaid : Prop := Claim7.holds Tryd.pinned (.plain (OpenSpec.upto historyChecksSpec)) historyChecksUptoCard
end Rows
end Go.Proofs.YtjcmajdaebpejaaDoor
