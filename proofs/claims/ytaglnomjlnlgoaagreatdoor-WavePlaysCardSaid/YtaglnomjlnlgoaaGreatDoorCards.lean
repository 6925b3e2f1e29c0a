/-
  DERIVED. GIVEN WITH THE SEED: THE CARDS: each row of YtaglnomjlnlgoaaGreatDoorRows.lean that lists a variable, with what it lists TIED to the program's text (the seventh form; the later family's looks); each row that meets fmt, with fmt's text TOLD by the authors' own Lean function (tested against real Go, not proved from fmt's source: count such statements apart). THE CARD IS WHAT COUNTS. Prove the row's statement (the work); the ties are given (YtaglnomjlnlgoaaGreatDoorTie.lean); close each card by the builder's one call (the guide's Derived/Test/ToyasCard.lean, 'card_holds'). Laid BY PROGRAM, IN A SANDBOX (cutbox-door.mjs). By AI agents, Wed Nov 11 2026. No macro, syntax, notation, axiom, sorry.
-/
import Derived.Test.YtaglnomjlnlgoaaGreatDoorRows
import GoSem.ClaimSeven
namespace Go.Proofs.YtaglnomjlnlgoaaGreatDoor
namespace Rows

/-- THE TIED CARD OF 'scrimshawlaw7.WavePlays'. -/
def wavePlaysCard : Claim7 := { stood := { row := wavePlaysRow, standIns := [], harness := (true, "40cdea4cdb259caeb486de273bfc8687bc09825f1cf607808443806f17395ca8"), looks := false }, kinds := [], alts := [], laidByText := true, laidKinds := [.data], laidTests := true, laidLooks := .later }
def WavePlaysCardSaid : Prop := Claim7.holds Tryz.pinned (.plain (OpenSpec.ofChange wavePlaysSpec)) wavePlaysCard

/-- THE SECOND FORM's CARD OF 'scrimshawlaw7.WavePlays'. -/
def wavePlaysUptoCard : Claim7 := { stood := { row := wavePlaysUptoRow, standIns := [], harness := (true, "40cdea4cdb259caeb486de273bfc8687bc09825f1cf607808443806f17395ca8"), looks := false }, kinds := [], alts := [], laidByText := true, laidKinds := [.data], laidTests := true, laidLooks := .later }
def WavePlaysUptoCardSaid : Prop := Claim7.holds Tryz.pinned (.plain (OpenSpec.upto wavePlaysSpec)) wavePlaysUptoCard
end Rows
end Go.Proofs.YtaglnomjlnlgoaaGreatDoor
