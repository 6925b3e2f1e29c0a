/-
  DERIVED. GIVEN WITH THE SEED: THE CARDS: each row of YtfbhcbcpeocmcaaDoorRows.lean that lists a variable, with what it lists TIED to the program's text (the seventh form; the later family's looks); each row that meets fmt, with fmt's text TOLD by the authors' own Lean function (tested against real Go, not proved from fmt's source: count such statements apart). THE CARD IS WHAT COUNTS. Prove the row's statement (the work); the ties are given (YtfbhcbcpeocmcaaDoorTie.lean); close each card by the builder's one call (the guide's Derived/Test/ToyasCard.lean, 'card_holds'). Laid BY PROGRAM, IN A SANDBOX (cutbox-door.mjs). By AI agents, Wed Nov 11 2026. No macro, syntax, notation, axiom, sorry.
-/
import Derived.Test.YtfbhcbcpeocmcaaDoorRows
import GoSem.ClaimSeven
namespace Go.Proofs.YtfbhcbcpeocmcaaDoor
namespace Rows

/-- THE TIED CARD OF 'scrimshawlaw5.TreePlays'. -/
def treePlaysCard : Claim7 := { stood := { row := treePlaysRow, standIns := [], harness := (true, "f0b38796033ccb533cc62bbcb66ba84ceb819aa7bd7672e00b4196a9a636fdf4"), looks := false }, kinds := [], alts := [], laidByText := true, laidKinds := [.data], laidTests := true, laidLooks := .later }
def TreePlaysCardSaid : Prop := Claim7.holds Tryd.pinned (.plain (OpenSpec.ofChange treePlaysSpec)) treePlaysCard

/-- THE TIED CARD OF 'scrimshawlaw5.TreeShrinks'. -/
def treeShrinksCard : Claim7 := { stood := { row := treeShrinksRow, standIns := [], harness := (true, "f0b38796033ccb533cc62bbcb66ba84ceb819aa7bd7672e00b4196a9a636fdf4"), looks := false }, kinds := [], alts := [], laidByText := true, laidKinds := [.data], laidTests := true, laidLooks := .later }
def TreeShrinksCardSaid : Prop := Claim7.holds Tryd.pinned (.plain (OpenSpec.ofChange treeShrinksSpec)) treeShrinksCard

/-- THE TIED CARD OF 'scrimshawlaw5.TreeGrows'. -/
def treeGrowsCard : Claim7 := { stood := { row := treeGrowsRow, standIns := [], harness := (true, "f0b38796033ccb533cc62bbcb66ba84ceb819aa7bd7672e00b4196a9a636fdf4"), looks := false }, kinds := [], alts := [], laidByText := true, laidKinds := [.data], laidTests := true, laidLooks := .later }
def TreeGrowsCardSaid : Prop := Claim7.holds Tryd.pinned (.plain (OpenSpec.ofChange treeGrowsSpec)) treeGrowsCard

/-- THE TIED CARD OF 'scrimshawlaw5.TreeBuilds'. -/
def treeBuildsCard : Claim7 := { stood := { row := treeBuildsRow, standIns := [], harness := (true, "f0b38796033ccb533cc62bbcb66ba84ceb819aa7bd7672e00b4196a9a636fdf4"), looks := false }, kinds := [], alts := [], laidByText := true, laidKinds := [.data], laidTests := true, laidLooks := .later }
def TreeBuildsCardSaid : Prop := Claim7.holds Tryd.pinned (.plain (OpenSpec.ofChange treeBuildsSpec)) treeBuildsCard

/-- THE TIED CARD OF 'scrimshawlaw5.TreeRanks'. -/
def treeRanksCard : Claim7 := { stood := { row := treeRanksRow, standIns := [], harness := (true, "f0b38796033ccb533cc62bbcb66ba84ceb819aa7bd7672e00b4196a9a636fdf4"), looks := false }, kinds := [], alts := [], laidByText := true, laidKinds := [.data], laidTests := true, laidLooks := .later }
def TreeRanksCardSaid : Prop := Claim7.holds Tryd.pinned (.plain (OpenSpec.ofChange treeRanksSpec)) treeRanksCard

/-- THE TIED CARD OF 'scrimshawlaw5.TreeUndo'. -/
def treeUndoCard : Claim7 := { stood := { row := treeUndoRow, standIns := [], harness := (true, "f0b38796033ccb533cc62bbcb66ba84ceb819aa7bd7672e00b4196a9a636fdf4"), looks := false }, kinds := [], alts := [], laidByText := true, laidKinds := [.data], laidTests := true, laidLooks := .later }
def TreeUndoCardSaid : Prop := Claim7.holds Tryd.pinned (.plain (OpenSpec.ofChange treeUndoSpec)) treeUndoCard

/-- THE TIED CARD OF 'scrimshawlaw5.TreeOwn'. -/
def treeOwnCard : Claim7 := { stood := { row := treeOwnRow, standIns := [], harness := (true, "f0b38796033ccb533cc62bbcb66ba84ceb819aa7bd7672e00b4196a9a636fdf4"), looks := false }, kinds := [], alts := [], laidByText := true, laidKinds := [.data], laidTests := true, laidLooks := .later }
def TreeOwnCardSaid : Prop := Claim7.holds Tryd.pinned (.plain (OpenSpec.ofChange treeOwnSpec)) treeOwnCard

/-- THE TIED CARD OF 'scrimshawlaw5.TreeHeaps'. -/
def treeHeapsCard : Claim7 := { stood := { row := treeHeapsRow, standIns := [], harness := (true, "f0b38796033ccb533cc62bbcb66ba84ceb819aa7bd7672e00b4196a9a636fdf4"), looks := false }, kinds := [], alts := [], laidByText := true, laidKinds := [.data], laidTests := true, laidLooks := .later }
def TreeHeapsCardSaid : Prop := Claim7.holds Tryd.pinned (.plain (OpenSpec.ofChange treeHeapsSpec)) treeHeapsCard

/-- THE SECOND FORM's CARD OF 'scrimshawlaw5.TreePlays'. -/
def treePlaysUptoCard : Claim7 := { stood := { row := treePlaysUptoRow, standIns := [], harness := (true, "f0b38796033ccb533cc62bbcb66ba84ceb819aa7bd7672e00b4196a9a636fdf4"), looks := false }, kinds := [], alts := [], laidByText := true, laidKinds := [.data], laidTests := true, laidLooks := .later }
def TreePlaysUptoCardSaid : Prop := Claim7.holds Tryd.pinned (.plain (OpenSpec.upto treePlaysSpec)) treePlaysUptoCard

/-- THE SECOND FORM's CARD OF 'scrimshawlaw5.TreeShrinks'. -/
def treeShrinksUptoCard : Claim7 := { stood := { row := treeShrinksUptoRow, standIns := [], harness := (true, "f0b38796033ccb533cc62bbcb66ba84ceb819aa7bd7672e00b4196a9a636fdf4"), looks := false }, kinds := [], alts := [], laidByText := true, laidKinds := [.data], laidTests := true, laidLooks := .later }
def TreeShrinksUptoCardSaid : Prop := Claim7.holds Tryd.pinned (.plain (OpenSpec.upto treeShrinksSpec)) treeShrinksUptoCard

/-- THE SECOND FORM's CARD OF 'scrimshawlaw5.TreeGrows'. -/
def treeGrowsUptoCard : Claim7 := { stood := { row := treeGrowsUptoRow, standIns := [], harness := (true, "f0b38796033ccb533cc62bbcb66ba84ceb819aa7bd7672e00b4196a9a636fdf4"), looks := false }, kinds := [], alts := [], laidByText := true, laidKinds := [.data], laidTests := true, laidLooks := .later }
def TreeGrowsUptoCardSaid : Prop := Claim7.holds Tryd.pinned (.plain (OpenSpec.upto treeGrowsSpec)) treeGrowsUptoCard

/-- THE SECOND FORM's CARD OF 'scrimshawlaw5.TreeBuilds'. -/
def treeBuildsUptoCard : Claim7 := { stood := { row := treeBuildsUptoRow, standIns := [], harness := (true, "f0b38796033ccb533cc62bbcb66ba84ceb819aa7bd7672e00b4196a9a636fdf4"), looks := false }, kinds := [], alts := [], laidByText := true, laidKinds := [.data], laidTests := true, laidLooks := .later }
def TreeBuildsUptoCardSaid : Prop := Claim7.holds Tryd.pinned (.plain (OpenSpec.upto treeBuildsSpec)) treeBuildsUptoCard

/-- THE SECOND FORM's CARD OF 'scrimshawlaw5.TreeRanks'. -/
def treeRanksUptoCard : Claim7 := { stood := { row := treeRanksUptoRow, standIns := [], harness := (true, "f0b38796033ccb533cc62bbcb66ba84ceb819aa7bd7672e00b4196a9a636fdf4"), looks := false }, kinds := [], alts := [], laidByText := true, laidKinds := [.data], laidTests := true, laidLooks := .later }
def TreeRanksUptoCardSaid : Prop := Claim7.holds Tryd.pinned (.plain (OpenSpec.upto treeRanksSpec)) treeRanksUptoCard

/-- THE SECOND FORM's CARD OF 'scrimshawlaw5.TreeUndo'. -/
def treeUndoUptoCard : Claim7 := { stood := { row := treeUndoUptoRow, standIns := [], harness := (true, "f0b38796033ccb533cc62bbcb66ba84ceb819aa7bd7672e00b4196a9a636fdf4"), looks := false }, kinds := [], alts := [], laidByText := true, laidKinds := [.data], laidTests := true, laidLooks := .later }
def TreeUndoUptoCardSaid : Prop := Claim7.holds Tryd.pinned (.plain (OpenSpec.upto treeUndoSpec)) treeUndoUptoCard

/-- THE SECOND FORM's CARD OF 'scrimshawlaw5.TreeOwn'. -/
def treeOwnUptoCard : Claim7 := { stood := { row := treeOwnUptoRow, standIns := [], harness := (true, "f0b38796033ccb533cc62bbcb66ba84ceb819aa7bd7672e00b4196a9a636fdf4"), looks := false }, kinds := [], alts := [], laidByText := true, laidKinds := [.data], laidTests := true, laidLooks := .later }
def TreeOwnUptoCardSaid : Prop := Claim7.holds Tryd.pinned (.plain (OpenSpec.upto treeOwnSpec)) treeOwnUptoCard

/-- THE SECOND FORM's CARD OF 'scrimshawlaw5.TreeHeaps'. -/
def treeHeapsUptoCard : Claim7 := { stood := { row := treeHeapsUptoRow, standIns := [], harness := (true, "f0b38796033ccb533cc62bbcb66ba84ceb819aa7bd7672e00b4196a9a636fdf4"), looks := false }, kinds := [], alts := [], laidByText := true, laidKinds := [.data], laidTests := true, laidLooks := .later }
def TreeHeapsUptoCardSaid : Prop := Claim7.holds Tryd.pinned (.plain (OpenSpec.upto treeHeapsSpec)) treeHeapsUptoCard
end Rows
end Go.Proofs.YtfbhcbcpeocmcaaDoor
