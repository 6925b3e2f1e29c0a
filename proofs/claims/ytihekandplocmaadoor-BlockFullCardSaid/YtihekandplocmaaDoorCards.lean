/-
  DERIVED. GIVEN WITH THE SEED: THE CARDS: each row of YtihekandplocmaaDoorRows.lean that lists a variable, with what it lists TIED to the program's text (the seventh form; the later family's looks); each row that meets fmt, with fmt's text TOLD by the authors' own Lean function (tested against real Go, not proved from fmt's source: count such statements apart). THE CARD IS WHAT COUNTS. Prove the row's statement (the work); the ties are given (YtihekandplocmaaDoorTie.lean); close each card by the builder's one call (the guide's Derived/Test/ToyasCard.lean, 'card_holds'). Laid BY PROGRAM, IN A SANDBOX (cutbox-door.mjs). By AI agents, Wed Nov 11 2026. No macro, syntax, notation, axiom, sorry.
-/
import Derived.Test.YtihekandplocmaaDoorRows
import GoSem.ClaimSeven
namespace Go.Proofs.YtihekandplocmaaDoor
namespace Rows

/-- THE TIED CARD OF 'scrimshawlaw2.BlockPlays'. -/
def blockPlaysCard : Claim7 := { stood := { row := blockPlaysRow, standIns := [], harness := (true, "8addffe65a539a1df90c211d9b8c0b3851eaba9ab418b96ab81234ce8b2d5f8e"), looks := false }, kinds := [], alts := [], laidByText := true, laidKinds := [.data], laidTests := true, laidLooks := .later }
def BlockPlaysCardSaid : Prop := Claim7.holds Tryd.pinned (.plain (OpenSpec.ofChange blockPlaysSpec)) blockPlaysCard

/-- THE TIED CARD OF 'scrimshawlaw2.BlockFull'. -/
def blockFullCard : Claim7 := { stood := { row := blockFullRow, standIns := [], harness := (true, "8addffe65a539a1df90c211d9b8c0b3851eaba9ab418b96ab81234ce8b2d5f8e"), looks := false }, kinds := [], alts := [], laidByText := true, laidKinds := [.data], laidTests := true, laidLooks := .later }
def BlockFullCardSaid : Prop := Claim7.holds Tryd.pinned (.plain (OpenSpec.ofChange blockFullSpec)) blockFullCard

/-- THE TIED CARD OF 'scrimshawlaw2.BlockRanks'. -/
def blockRanksCard : Claim7 := { stood := { row := blockRanksRow, standIns := [], harness := (true, "8addffe65a539a1df90c211d9b8c0b3851eaba9ab418b96ab81234ce8b2d5f8e"), looks := false }, kinds := [], alts := [], laidByText := true, laidKinds := [.data], laidTests := true, laidLooks := .later }
def BlockRanksCardSaid : Prop := Claim7.holds Tryd.pinned (.plain (OpenSpec.ofChange blockRanksSpec)) blockRanksCard

/-- THE TIED CARD OF 'scrimshawlaw2.BlockHalves'. -/
def blockHalvesCard : Claim7 := { stood := { row := blockHalvesRow, standIns := [], harness := (true, "8addffe65a539a1df90c211d9b8c0b3851eaba9ab418b96ab81234ce8b2d5f8e"), looks := false }, kinds := [], alts := [], laidByText := true, laidKinds := [.data], laidTests := true, laidLooks := .later }
def BlockHalvesCardSaid : Prop := Claim7.holds Tryd.pinned (.plain (OpenSpec.ofChange blockHalvesSpec)) blockHalvesCard

/-- THE TIED CARD OF 'scrimshawlaw2.BlockOwn'. -/
def blockOwnCard : Claim7 := { stood := { row := blockOwnRow, standIns := [], harness := (true, "8addffe65a539a1df90c211d9b8c0b3851eaba9ab418b96ab81234ce8b2d5f8e"), looks := false }, kinds := [], alts := [], laidByText := true, laidKinds := [.data], laidTests := true, laidLooks := .later }
def BlockOwnCardSaid : Prop := Claim7.holds Tryd.pinned (.plain (OpenSpec.ofChange blockOwnSpec)) blockOwnCard

/-- THE SECOND FORM's CARD OF 'scrimshawlaw2.BlockPlays'. -/
def blockPlaysUptoCard : Claim7 := { stood := { row := blockPlaysUptoRow, standIns := [], harness := (true, "8addffe65a539a1df90c211d9b8c0b3851eaba9ab418b96ab81234ce8b2d5f8e"), looks := false }, kinds := [], alts := [], laidByText := true, laidKinds := [.data], laidTests := true, laidLooks := .later }
def BlockPlaysUptoCardSaid : Prop := Claim7.holds Tryd.pinned (.plain (OpenSpec.upto blockPlaysSpec)) blockPlaysUptoCard

/-- THE SECOND FORM's CARD OF 'scrimshawlaw2.BlockFull'. -/
def blockFullUptoCard : Claim7 := { stood := { row := blockFullUptoRow, standIns := [], harness := (true, "8addffe65a539a1df90c211d9b8c0b3851eaba9ab418b96ab81234ce8b2d5f8e"), looks := false }, kinds := [], alts := [], laidByText := true, laidKinds := [.data], laidTests := true, laidLooks := .later }
def BlockFullUptoCardSaid : Prop := Claim7.holds Tryd.pinned (.plain (OpenSpec.upto blockFullSpec)) blockFullUptoCard

/-- THE SECOND FORM's CARD OF 'scrimshawlaw2.BlockRanks'. -/
def blockRanksUptoCard : Claim7 := { stood := { row := blockRanksUptoRow, standIns := [], harness := (true, "8addffe65a539a1df90c211d9b8c0b3851eaba9ab418b96ab81234ce8b2d5f8e"), looks := false }, kinds := [], alts := [], laidByText := true, laidKinds := [.data], laidTests := true, laidLooks := .later }
def BlockRanksUptoCardSaid : Prop := Claim7.holds Tryd.pinned (.plain (OpenSpec.upto blockRanksSpec)) blockRanksUptoCard

/-- THE SECOND FORM's CARD OF 'scrimshawlaw2.BlockHalves'. -/
def blockHalvesUptoCard : Claim7 := { stood := { row := blockHalvesUptoRow, standIns := [], harness := (true, "8addffe65a539a1df90c211d9b8c0b3851eaba9ab418b96ab81234ce8b2d5f8e"), looks := false }, kinds := [], alts := [], laidByText := true, laidKinds := [.data], laidTests := true, laidLooks := .later }
def BlockHalvesUptoCardSaid : Prop := Claim7.holds Tryd.pinned (.plain (OpenSpec.upto blockHalvesSpec)) blockHalvesUptoCard

/-- THE SECOND FORM's CARD OF 'scrimshawlaw2.BlockOwn'. -/
def blockOwnUptoCard : Claim7 := { stood := { row := blockOwnUptoRow, standIns := [], harness := (true, "8addffe65a539a1df90c211d9b8c0b3851eaba9ab418b96ab81234ce8b2d5f8e"), looks := false }, kinds := [], alts := [], laidByText := true, laidKinds := [.data], laidTests := true, laidLooks := .later }
def BlockOwnUptoCardSaid : Prop := Claim7.holds Tryd.pinned (.plain (OpenSpec.upto blockOwnSpec)) blockOwnUptoCard
end Rows
end Go.Proofs.YtihekandplocmaaDoor
