/-
  DERIVED. GIVEN WITH THE SEED: THE CARDS: each row of YtaglnomjlnlgoaaDoorRows.lean that lists a variable, with what it lists TIED to the program's text (the seventh form; the later family's looks); each row that meets fmt, with fmt's text TOLD by the authors' own Lean function (tested against real Go, not proved from fmt's source: count such statements apart). THE CARD IS WHAT COUNTS. Prove the row's statement (the work); the ties are given (YtaglnomjlnlgoaaDoorTie.lean); close each card by the builder's one call (the guide's Derived/Test/ToyasCard.lean, 'card_holds'). Laid BY PROGRAM, IN A SANDBOX (cutbox-door.mjs). By AI agents, Wed Nov 11 2026. No macro, syntax, notation, axiom, sorry.
-/
import Derived.Test.YtaglnomjlnlgoaaDoorRows
import GoSem.ClaimSeven
namespace Go.Proofs.YtaglnomjlnlgoaaDoor
namespace Rows

/-- THE TIED CARD OF 'scrimshawlaw7.WaveLevels'. -/
def waveLevelsCard : Claim7 := { stood := { row := waveLevelsRow, standIns := [], harness := (true, "a99564c40f224bbfb17a62a62cd6af012395f5ec7883f70985dedfa74dc59d69"), looks := false }, kinds := [], alts := [], laidByText := true, laidKinds := [.data], laidTests := true, laidLooks := .later }
def WaveLevelsCardSaid : Prop := Claim7.holds Tryd.pinned (.plain (OpenSpec.ofChange waveLevelsSpec)) waveLevelsCard

/-- THE TIED CARD OF 'scrimshawlaw7.WaveRanks'. -/
def waveRanksCard : Claim7 := { stood := { row := waveRanksRow, standIns := [], harness := (true, "a99564c40f224bbfb17a62a62cd6af012395f5ec7883f70985dedfa74dc59d69"), looks := false }, kinds := [], alts := [], laidByText := true, laidKinds := [.data], laidTests := true, laidLooks := .later }
def WaveRanksCardSaid : Prop := Claim7.holds Tryd.pinned (.plain (OpenSpec.ofChange waveRanksSpec)) waveRanksCard

/-- THE TIED CARD OF 'scrimshawlaw7.WaveUndo'. -/
def waveUndoCard : Claim7 := { stood := { row := waveUndoRow, standIns := [], harness := (true, "a99564c40f224bbfb17a62a62cd6af012395f5ec7883f70985dedfa74dc59d69"), looks := false }, kinds := [], alts := [], laidByText := true, laidKinds := [.data], laidTests := true, laidLooks := .later }
def WaveUndoCardSaid : Prop := Claim7.holds Tryd.pinned (.plain (OpenSpec.ofChange waveUndoSpec)) waveUndoCard

/-- THE TIED CARD OF 'scrimshawlaw7.WaveBuilds'. -/
def waveBuildsCard : Claim7 := { stood := { row := waveBuildsRow, standIns := [], harness := (true, "a99564c40f224bbfb17a62a62cd6af012395f5ec7883f70985dedfa74dc59d69"), looks := false }, kinds := [], alts := [], laidByText := true, laidKinds := [.data], laidTests := true, laidLooks := .later }
def WaveBuildsCardSaid : Prop := Claim7.holds Tryd.pinned (.plain (OpenSpec.ofChange waveBuildsSpec)) waveBuildsCard

/-- THE TIED CARD OF 'scrimshawlaw7.WaveCounts'. -/
def waveCountsCard : Claim7 := { stood := { row := waveCountsRow, standIns := [], harness := (true, "a99564c40f224bbfb17a62a62cd6af012395f5ec7883f70985dedfa74dc59d69"), looks := false }, kinds := [], alts := [], laidByText := true, laidKinds := [.data], laidTests := true, laidLooks := .later }
def WaveCountsCardSaid : Prop := Claim7.holds Tryd.pinned (.plain (OpenSpec.ofChange waveCountsSpec)) waveCountsCard

/-- THE SECOND FORM's CARD OF 'scrimshawlaw7.WaveLevels'. -/
def waveLevelsUptoCard : Claim7 := { stood := { row := waveLevelsUptoRow, standIns := [], harness := (true, "a99564c40f224bbfb17a62a62cd6af012395f5ec7883f70985dedfa74dc59d69"), looks := false }, kinds := [], alts := [], laidByText := true, laidKinds := [.data], laidTests := true, laidLooks := .later }
def WaveLevelsUptoCardSaid : Prop := Claim7.holds Tryd.pinned (.plain (OpenSpec.upto waveLevelsSpec)) waveLevelsUptoCard

/-- THE SECOND FORM's CARD OF 'scrimshawlaw7.WaveRanks'. -/
def waveRanksUptoCard : Claim7 := { stood := { row := waveRanksUptoRow, standIns := [], harness := (true, "a99564c40f224bbfb17a62a62cd6af012395f5ec7883f70985dedfa74dc59d69"), looks := false }, kinds := [], alts := [], laidByText := true, laidKinds := [.data], laidTests := true, laidLooks := .later }
def WaveRanksUptoCardSaid : Prop := Claim7.holds Tryd.pinned (.plain (OpenSpec.upto waveRanksSpec)) waveRanksUptoCard

/-- THE SECOND FORM's CARD OF 'scrimshawlaw7.WaveUndo'. -/
def waveUndoUptoCard : Claim7 := { stood := { row := waveUndoUptoRow, standIns := [], harness := (true, "a99564c40f224bbfb17a62a62cd6af012395f5ec7883f70985dedfa74dc59d69"), looks := false }, kinds := [], alts := [], laidByText := true, laidKinds := [.data], laidTests := true, laidLooks := .later }
def WaveUndoUptoCardSaid : Prop := Claim7.holds Tryd.pinned (.plain (OpenSpec.upto waveUndoSpec)) waveUndoUptoCard

/-- THE SECOND FORM's CARD OF 'scrimshawlaw7.WaveBuilds'. -/
def waveBuildsUptoCard : Claim7 := { stood := { row := waveBuildsUptoRow, standIns := [], harness := (true, "a99564c40f224bbfb17a62a62cd6af012395f5ec7883f70985dedfa74dc59d69"), looks := false }, kinds := [], alts := [], laidByText := true, laidKinds := [.data], laidTests := true, laidLooks := .later }
def WaveBuildsUptoCardSaid : Prop := Claim7.holds Tryd.pinned (.plain (OpenSpec.upto waveBuildsSpec)) waveBuildsUptoCard

/-- THE SECOND FORM's CARD OF 'scrimshawlaw7.WaveCounts'. -/
def waveCountsUptoCard : Claim7 := { stood := { row := waveCountsUptoRow, standIns := [], harness := (true, "a99564c40f224bbfb17a62a62cd6af012395f5ec7883f70985dedfa74dc59d69"), looks := false }, kinds := [], alts := [], laidByText := true, laidKinds := [.data], laidTests := true, laidLooks := .later }
def WaveCountsUptoCardSaid : Prop := Claim7.holds Tryd.pinned (.plain (OpenSpec.upto waveCountsSpec)) waveCountsUptoCard
end Rows
end Go.Proofs.YtaglnomjlnlgoaaDoor
