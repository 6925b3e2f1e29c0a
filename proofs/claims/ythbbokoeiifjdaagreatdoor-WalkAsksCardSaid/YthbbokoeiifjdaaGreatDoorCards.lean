/-
  DERIVED. GIVEN WITH THE SEED: THE CARDS: each row of YthbbokoeiifjdaaGreatDoorRows.lean that lists a variable, with what it lists TIED to the program's text (the seventh form; the later family's looks); each row that meets fmt, with fmt's text TOLD by the authors' own Lean function (tested against real Go, not proved from fmt's source: count such statements apart). THE CARD IS WHAT COUNTS. Prove the row's statement (the work); the ties are given (YthbbokoeiifjdaaGreatDoorTie.lean); close each card by the builder's one call (the guide's Derived/Test/ToyasCard.lean, 'card_holds'). Laid BY PROGRAM, IN A SANDBOX (cutbox-door.mjs). By AI agents, Wed Nov 11 2026. No macro, syntax, notation, axiom, sorry.
-/
import Derived.Test.YthbbokoeiifjdaaGreatDoorRows
import GoSem.ClaimSeven
namespace Go.Proofs.YthbbokoeiifjdaaGreatDoor
namespace Rows

/-- THE TIED CARD OF 'scrimshawlaw10.WalkAsks'. -/
def walkAsksCard : Claim7 := { stood := { row := walkAsksRow, standIns := [], harness := (true, "5ce4d4d889b3f0d62be3a99d19a80114117fd7548159a73df2dbf74565c216ef"), looks := false }, kinds := [], alts := [], laidByText := true, laidKinds := [.data], laidTests := true, laidLooks := .later }
def WalkAsksCardSaid : Prop := Claim7.holds Tryz.pinned (.plain (OpenSpec.ofChange walkAsksSpec)) walkAsksCard

/-- THE SECOND FORM's CARD OF 'scrimshawlaw10.WalkAsks'. -/
def walkAsksUptoCard : Claim7 := { stood := { row := walkAsksUptoRow, standIns := [], harness := (true, "5ce4d4d889b3f0d62be3a99d19a80114117fd7548159a73df2dbf74565c216ef"), looks := false }, kinds := [], alts := [], laidByText := true, laidKinds := [.data], laidTests := true, laidLooks := .later }
def WalkAsksUptoCardSaid : Prop := Claim7.holds Tryz.pinned (.plain (OpenSpec.upto walkAsksSpec)) walkAsksUptoCard
end Rows
end Go.Proofs.YthbbokoeiifjdaaGreatDoor
