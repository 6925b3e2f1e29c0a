/-
  DERIVED. GIVEN WITH THE SEED: THE CARDS: each row of YthbbokoeiifjdaaDoorRows.lean that lists a variable, with what it lists TIED to the program's text (the seventh form; the later family's looks); each row that meets fmt, with fmt's text TOLD by the authors' own Lean function (tested against real Go, not proved from fmt's source: count such statements apart). THE CARD IS WHAT COUNTS. Prove the row's statement (the work); the ties are given (YthbbokoeiifjdaaDoorTie.lean); close each card by the builder's one call (the guide's Derived/Test/ToyasCard.lean, 'card_holds'). Laid BY PROGRAM, IN A SANDBOX (cutbox-door.mjs). By AI agents, Wed Nov 11 2026. No macro, syntax, notation, axiom, sorry.
-/
import Derived.Test.YthbbokoeiifjdaaDoorRows
import GoSem.ClaimSeven
namespace Go.Proofs.YthbbokoeiifjdaaDoor
namespace Rows

/-- THE TIED CARD OF 'scrimshawlaw10.WalkNarrows'. -/
def walkNarrowsCard : Claim7 := { stood := { row := walkNarrowsRow, standIns := [], harness := (true, "97fd023712fb38cdafef3fbd9e06761ba764f446dc9c4d483bc191834ddf404a"), looks := false }, kinds := [], alts := [], laidByText := true, laidKinds := [.data], laidTests := true, laidLooks := .later }
def WalkNarrowsCardSaid : Prop := Claim7.holds Tryd.pinned (.plain (OpenSpec.ofChange walkNarrowsSpec)) walkNarrowsCard

/-- THE TIED CARD OF 'scrimshawlaw10.WalkRound'. -/
def walkRoundCard : Claim7 := { stood := { row := walkRoundRow, standIns := [], harness := (true, "97fd023712fb38cdafef3fbd9e06761ba764f446dc9c4d483bc191834ddf404a"), looks := false }, kinds := [], alts := [], laidByText := true, laidKinds := [.data], laidTests := true, laidLooks := .later }
def WalkRoundCardSaid : Prop := Claim7.holds Tryd.pinned (.plain (OpenSpec.ofChange walkRoundSpec)) walkRoundCard

/-- THE TIED CARD OF 'scrimshawlaw10.WalkFinds'. -/
def walkFindsCard : Claim7 := { stood := { row := walkFindsRow, standIns := [], harness := (true, "97fd023712fb38cdafef3fbd9e06761ba764f446dc9c4d483bc191834ddf404a"), looks := false }, kinds := [], alts := [], laidByText := true, laidKinds := [.data], laidTests := true, laidLooks := .later }
def WalkFindsCardSaid : Prop := Claim7.holds Tryd.pinned (.plain (OpenSpec.ofChange walkFindsSpec)) walkFindsCard

/-- THE TIED CARD OF 'scrimshawlaw10.WalkFirst'. -/
def walkFirstCard : Claim7 := { stood := { row := walkFirstRow, standIns := [], harness := (true, "97fd023712fb38cdafef3fbd9e06761ba764f446dc9c4d483bc191834ddf404a"), looks := false }, kinds := [], alts := [], laidByText := true, laidKinds := [.data], laidTests := true, laidLooks := .later }
def WalkFirstCardSaid : Prop := Claim7.holds Tryd.pinned (.plain (OpenSpec.ofChange walkFirstSpec)) walkFirstCard

/-- THE TIED CARD OF 'scrimshawlaw10.WalkSteps'. -/
def walkStepsCard : Claim7 := { stood := { row := walkStepsRow, standIns := [], harness := (true, "97fd023712fb38cdafef3fbd9e06761ba764f446dc9c4d483bc191834ddf404a"), looks := false }, kinds := [], alts := [], laidByText := true, laidKinds := [.data], laidTests := true, laidLooks := .later }
def WalkStepsCardSaid : Prop := Claim7.holds Tryd.pinned (.plain (OpenSpec.ofChange walkStepsSpec)) walkStepsCard

/-- THE SECOND FORM's CARD OF 'scrimshawlaw10.WalkNarrows'. -/
def walkNarrowsUptoCard : Claim7 := { stood := { row := walkNarrowsUptoRow, standIns := [], harness := (true, "97fd023712fb38cdafef3fbd9e06761ba764f446dc9c4d483bc191834ddf404a"), looks := false }, kinds := [], alts := [], laidByText := true, laidKinds := [.data], laidTests := true, laidLooks := .later }
def WalkNarrowsUptoCardSaid : Prop := Claim7.holds Tryd.pinned (.plain (OpenSpec.upto walkNarrowsSpec)) walkNarrowsUptoCard

/-- THE SECOND FORM's CARD OF 'scrimshawlaw10.WalkRound'. -/
def walkRoundUptoCard : Claim7 := { stood := { row := walkRoundUptoRow, standIns := [], harness := (true, "97fd023712fb38cdafef3fbd9e06761ba764f446dc9c4d483bc191834ddf404a"), looks := false }, kinds := [], alts := [], laidByText := true, laidKinds := [.data], laidTests := true, laidLooks := .later }
def WalkRoundUptoCardSaid : Prop := Claim7.holds Tryd.pinned (.plain (OpenSpec.upto walkRoundSpec)) walkRoundUptoCard

/-- THE SECOND FORM's CARD OF 'scrimshawlaw10.WalkFinds'. -/
def walkFindsUptoCard : Claim7 := { stood := { row := walkFindsUptoRow, standIns := [], harness := (true, "97fd023712fb38cdafef3fbd9e06761ba764f446dc9c4d483bc191834ddf404a"), looks := false }, kinds := [], alts := [], laidByText := true, laidKinds := [.data], laidTests := true, laidLooks := .later }
def WalkFindsUptoCardSaid : Prop := Claim7.holds Tryd.pinned (.plain (OpenSpec.upto walkFindsSpec)) walkFindsUptoCard

/-- THE SECOND FORM's CARD OF 'scrimshawlaw10.WalkFirst'. -/
def walkFirstUptoCard : Claim7 := { stood := { row := walkFirstUptoRow, standIns := [], harness := (true, "97fd023712fb38cdafef3fbd9e06761ba764f446dc9c4d483bc191834ddf404a"), looks := false }, kinds := [], alts := [], laidByText := true, laidKinds := [.data], laidTests := true, laidLooks := .later }
def WalkFirstUptoCardSaid : Prop := Claim7.holds Tryd.pinned (.plain (OpenSpec.upto walkFirstSpec)) walkFirstUptoCard

/-- THE SECOND FORM's CARD OF 'scrimshawlaw10.WalkSteps'. -/
def walkStepsUptoCard : Claim7 := { stood := { row := walkStepsUptoRow, standIns := [], harness := (true, "97fd023712fb38cdafef3fbd9e06761ba764f446dc9c4d483bc191834ddf404a"), looks := false }, kinds := [], alts := [], laidByText := true, laidKinds := [.data], laidTests := true, laidLooks := .later }
def WalkStepsUptoCardSaid : Prop := Claim7.holds Tryd.pinned (.plain (OpenSpec.upto walkStepsSpec)) walkStepsUptoCard
end Rows
end Go.Proofs.YthbbokoeiifjdaaDoor
