/-
  NARROWER THAN 'FOR EVERY INPUT', by the rows' own cells (each row's printed sentence says how): WaveLevels: laid · WaveRanks: laid · WaveUndo: laid · WaveBuilds: laid · WaveCounts: laid.
  DERIVED. THE GIVEN ROWS OF THIS SEAT. 5 by the template 'for every input the law returns true; each argument reads behind the call as it read before'; 0 by the template 'total and deterministic' (their statements: YtaglnomjlnlgoaaDoorTotals.lean).
  GIVEN WITH THE SEED: the statements are not yours to turn. If you find one false, say at which input.
  Laid BY PROGRAM, IN A SANDBOX (cutbox-rows.mjs): the forced cells as the released guide's own fill.sh prints them over the translation 264ed9bb7befb758… (all of the seat's roots in one cut). By AI agents, Wed Nov 11 2026. No macro, syntax, notation, axiom, sorry.
-/
import Derived.Test.YtaglnomjlnlgoaaDoorChecked
import GoSem.Claim
import GoSem.ClaimJoined
import GoSem.ClaimMapViews
import Derived.JoinedTies
import Derived.KernelRfl
namespace Go.Proofs.YtaglnomjlnlgoaaDoor
/- THE CELL 'sum', in the pinned program and in every row, IS THE sha256 OF THE DUMP (.gsa) THAT YtaglnomjlnlgoaaDoorProg.lean LOADS. Nothing in Lean hashes anything: it is a label: what it is worth is what the hold of that sum in a sandbox is worth. -/
noncomputable def Tryd.pinned : Pinned := { name := "ytaglnomjlnlgoaadoor", sum := "264ed9bb7befb7585194324650983a8525417c81a9c9a2d842a9800c53ff5ad7", checked := Tryd.checked }
namespace Rows
def none {H : Type} : Left H := { results := [], args := [] }

/- WHAT THE LISTED PACKAGE-LEVEL VARIABLES READ AS WHEN THE CALL BEGINS. Each datum BY PROGRAM (the guide's laid-datum.mjs) off the statement by which the dump's own 'gosem.cut.vars' lays the variable. In a bare row this is a premise. The card (YtaglnomjlnlgoaaDoorCards.lean) ties it to the program's text. -/
def laid_math_bits_deBruijn64tab {H : Type} : DataW H := .agg [.lit (.int .u8 0), .lit (.int .u8 1), .lit (.int .u8 56), .lit (.int .u8 2), .lit (.int .u8 57), .lit (.int .u8 49), .lit (.int .u8 28), .lit (.int .u8 3), .lit (.int .u8 61), .lit (.int .u8 58), .lit (.int .u8 42), .lit (.int .u8 50), .lit (.int .u8 38), .lit (.int .u8 29), .lit (.int .u8 17), .lit (.int .u8 4), .lit (.int .u8 62), .lit (.int .u8 47), .lit (.int .u8 59), .lit (.int .u8 36), .lit (.int .u8 45), .lit (.int .u8 43), .lit (.int .u8 51), .lit (.int .u8 22), .lit (.int .u8 53), .lit (.int .u8 39), .lit (.int .u8 33), .lit (.int .u8 30), .lit (.int .u8 24), .lit (.int .u8 18), .lit (.int .u8 12), .lit (.int .u8 5), .lit (.int .u8 63), .lit (.int .u8 55), .lit (.int .u8 48), .lit (.int .u8 27), .lit (.int .u8 60), .lit (.int .u8 41), .lit (.int .u8 37), .lit (.int .u8 16), .lit (.int .u8 46), .lit (.int .u8 35), .lit (.int .u8 44), .lit (.int .u8 21), .lit (.int .u8 52), .lit (.int .u8 32), .lit (.int .u8 23), .lit (.int .u8 11), .lit (.int .u8 54), .lit (.int .u8 26), .lit (.int .u8 40), .lit (.int .u8 15), .lit (.int .u8 34), .lit (.int .u8 20), .lit (.int .u8 31), .lit (.int .u8 10), .lit (.int .u8 25), .lit (.int .u8 14), .lit (.int .u8 19), .lit (.int .u8 9), .lit (.int .u8 13), .lit (.int .u8 8), .lit (.int .u8 7), .lit (.int .u8 6)]

/-- 'scrimshawlaw7.WaveLevels': WHATEVER THE INPUT: true; the input reads as it did. -/
def waveLevelsSpec : ChangeSpec := { name := "waveLevels", fn := fun _ => fun
  | [d1, d2, d3, d4] => { results := [.lit (.bool true)], args := [d1, d2, d3, d4] }
  | _ => none }
def waveLevelsRow : OpenClaim := { program := "ytaglnomjlnlgoaadoor", sum := "264ed9bb7befb7585194324650983a8525417c81a9c9a2d842a9800c53ff5ad7", func := "scrimshaw/scrimshawlaw7.WaveLevels", spec := "waveLevels", recurses := true, named := ["math/bits.deBruijn64tab"], apart := false, laid := [("math/bits.deBruijn64tab", laid_math_bits_deBruijn64tab)] }
def WaveLevelsSaid : Prop := waveLevelsRow.holds Tryd.pinned (OpenSpec.ofChange waveLevelsSpec)

/-- ITS FALSE NEIGHBOUR: 'it returns false'. Refute it at one input. -/
def waveLevelsWrong : ChangeSpec := { name := "waveLevels", fn := fun _ => fun
  | [d1, d2, d3, d4] => { results := [.lit (.bool false)], args := [d1, d2, d3, d4] }
  | _ => none }
def WaveLevelsWrongFalsely : Prop := waveLevelsRow.holds Tryd.pinned (OpenSpec.ofChange waveLevelsWrong)

/-- 'scrimshawlaw7.WaveRanks': WHATEVER THE INPUT: true; the input reads as it did. -/
def waveRanksSpec : ChangeSpec := { name := "waveRanks", fn := fun _ => fun
  | [d1, d2] => { results := [.lit (.bool true)], args := [d1, d2] }
  | _ => none }
def waveRanksRow : OpenClaim := { program := "ytaglnomjlnlgoaadoor", sum := "264ed9bb7befb7585194324650983a8525417c81a9c9a2d842a9800c53ff5ad7", func := "scrimshaw/scrimshawlaw7.WaveRanks", spec := "waveRanks", recurses := true, named := ["math/bits.deBruijn64tab"], apart := false, laid := [("math/bits.deBruijn64tab", laid_math_bits_deBruijn64tab)] }
def WaveRanksSaid : Prop := waveRanksRow.holds Tryd.pinned (OpenSpec.ofChange waveRanksSpec)

/-- ITS FALSE NEIGHBOUR: 'it returns false'. Refute it at one input. -/
def waveRanksWrong : ChangeSpec := { name := "waveRanks", fn := fun _ => fun
  | [d1, d2] => { results := [.lit (.bool false)], args := [d1, d2] }
  | _ => none }
def WaveRanksWrongFalsely : Prop := waveRanksRow.holds Tryd.pinned (OpenSpec.ofChange waveRanksWrong)

/-- 'scrimshawlaw7.WaveUndo': WHATEVER THE INPUT: true; the input reads as it did. -/
def waveUndoSpec : ChangeSpec := { name := "waveUndo", fn := fun _ => fun
  | [d1, d2, d3, d4] => { results := [.lit (.bool true)], args := [d1, d2, d3, d4] }
  | _ => none }
def waveUndoRow : OpenClaim := { program := "ytaglnomjlnlgoaadoor", sum := "264ed9bb7befb7585194324650983a8525417c81a9c9a2d842a9800c53ff5ad7", func := "scrimshaw/scrimshawlaw7.WaveUndo", spec := "waveUndo", recurses := true, named := ["math/bits.deBruijn64tab"], apart := false, laid := [("math/bits.deBruijn64tab", laid_math_bits_deBruijn64tab)] }
def WaveUndoSaid : Prop := waveUndoRow.holds Tryd.pinned (OpenSpec.ofChange waveUndoSpec)

/-- ITS FALSE NEIGHBOUR: 'it returns false'. Refute it at one input. -/
def waveUndoWrong : ChangeSpec := { name := "waveUndo", fn := fun _ => fun
  | [d1, d2, d3, d4] => { results := [.lit (.bool false)], args := [d1, d2, d3, d4] }
  | _ => none }
def WaveUndoWrongFalsely : Prop := waveUndoRow.holds Tryd.pinned (OpenSpec.ofChange waveUndoWrong)

/-- 'scrimshawlaw7.WaveBuilds': WHATEVER THE INPUT: true; the input reads as it did. -/
def waveBuildsSpec : ChangeSpec := { name := "waveBuilds", fn := fun _ => fun
  | [d1, d2] => { results := [.lit (.bool true)], args := [d1, d2] }
  | _ => none }
def waveBuildsRow : OpenClaim := { program := "ytaglnomjlnlgoaadoor", sum := "264ed9bb7befb7585194324650983a8525417c81a9c9a2d842a9800c53ff5ad7", func := "scrimshaw/scrimshawlaw7.WaveBuilds", spec := "waveBuilds", recurses := true, named := ["math/bits.deBruijn64tab"], apart := false, laid := [("math/bits.deBruijn64tab", laid_math_bits_deBruijn64tab)] }
def WaveBuildsSaid : Prop := waveBuildsRow.holds Tryd.pinned (OpenSpec.ofChange waveBuildsSpec)

/-- ITS FALSE NEIGHBOUR: 'it returns false'. Refute it at one input. -/
def waveBuildsWrong : ChangeSpec := { name := "waveBuilds", fn := fun _ => fun
  | [d1, d2] => { results := [.lit (.bool false)], args := [d1, d2] }
  | _ => none }
def WaveBuildsWrongFalsely : Prop := waveBuildsRow.holds Tryd.pinned (OpenSpec.ofChange waveBuildsWrong)

/-- 'scrimshawlaw7.WaveCounts': WHATEVER THE INPUT: true; the input reads as it did. -/
def waveCountsSpec : ChangeSpec := { name := "waveCounts", fn := fun _ => fun
  | [d1, d2, d3] => { results := [.lit (.bool true)], args := [d1, d2, d3] }
  | _ => none }
def waveCountsRow : OpenClaim := { program := "ytaglnomjlnlgoaadoor", sum := "264ed9bb7befb7585194324650983a8525417c81a9c9a2d842a9800c53ff5ad7", func := "scrimshaw/scrimshawlaw7.WaveCounts", spec := "waveCounts", recurses := true, named := ["math/bits.deBruijn64tab"], apart := false, laid := [("math/bits.deBruijn64tab", laid_math_bits_deBruijn64tab)] }
def WaveCountsSaid : Prop := waveCountsRow.holds Tryd.pinned (OpenSpec.ofChange waveCountsSpec)

/-- ITS FALSE NEIGHBOUR: 'it returns false'. Refute it at one input. -/
def waveCountsWrong : ChangeSpec := { name := "waveCounts", fn := fun _ => fun
  | [d1, d2, d3] => { results := [.lit (.bool false)], args := [d1, d2, d3] }
  | _ => none }
def WaveCountsWrongFalsely : Prop := waveCountsRow.holds Tryd.pinned (OpenSpec.ofChange waveCountsWrong)

/- THE SECOND FORM. 'bulk': how many values and letters a reading holds, each counted each time it is reached (what is shared counts as often as it is met; a slice's spare places count too). A statement '..UptoSaid' is the law's where the arguments, and the package variables that the reading takes, are together of bulk at most 1048576: NARROWER than '..Said'. Prove '..Said' where nothing that the law and all that it calls make is longer than what came in: it says more and counts as full. Else prove '..UptoSaid'. A law counts once. -/
mutual
def uptoBulk {H : Type} : DataW H → Nat
  | .lit (.string bytes) => bytes.length + 1
  | .lit _ => 1
  | .nil => 1
  | .ptr d => uptoBulk d + 1
  | .slice elems spare => uptoBulkAll elems + uptoBulkAll spare + 1
  | .agg parts => uptoBulkAll parts + 1
  | .iface _ d => uptoBulk d + 1
  | .map entries => uptoBulkEntries entries + 1
  | .held _ => 1
def uptoBulkAll {H : Type} : List (DataW H) → Nat
  | [] => 0
  | d :: r => uptoBulk d + uptoBulkAll r
def uptoBulkEntries {H : Type} : List (Lit × DataW H) → Nat
  | [] => 0
  | x :: r => uptoBulkEntry x + uptoBulkEntries r
def uptoBulkEntry {H : Type} : Lit × DataW H → Nat
  | (.string bytes, d) => bytes.length + uptoBulk d + 1
  | (_, d) => uptoBulk d + 1
 end
def uptoSmall : (H : Type) → List (DataW H) → Bool := fun _ ds => decide (uptoBulkAll ds ≤ 1048576)
def OpenSpec.upto (s : _root_.Go.ChangeSpec) : _root_.Go.OpenSpec := { _root_.Go.OpenSpec.ofChange s with cond := some uptoSmall }

/-- 'scrimshawlaw7.WaveLevels', WHERE WHAT IT READS IS OF BULK AT MOST 1048576: true; the input reads as it did. -/
def waveLevelsUptoRow : OpenClaim := { program := "ytaglnomjlnlgoaadoor", sum := "264ed9bb7befb7585194324650983a8525417c81a9c9a2d842a9800c53ff5ad7", func := "scrimshaw/scrimshawlaw7.WaveLevels", spec := "waveLevels", recurses := true, named := ["math/bits.deBruijn64tab"], apart := false, laid := [("math/bits.deBruijn64tab", laid_math_bits_deBruijn64tab)], narrowed := true }
def WaveLevelsUptoSaid : Prop := waveLevelsUptoRow.holds Tryd.pinned (OpenSpec.upto waveLevelsSpec)

/-- 'scrimshawlaw7.WaveRanks', WHERE WHAT IT READS IS OF BULK AT MOST 1048576: true; the input reads as it did. -/
def waveRanksUptoRow : OpenClaim := { program := "ytaglnomjlnlgoaadoor", sum := "264ed9bb7befb7585194324650983a8525417c81a9c9a2d842a9800c53ff5ad7", func := "scrimshaw/scrimshawlaw7.WaveRanks", spec := "waveRanks", recurses := true, named := ["math/bits.deBruijn64tab"], apart := false, laid := [("math/bits.deBruijn64tab", laid_math_bits_deBruijn64tab)], narrowed := true }
def WaveRanksUptoSaid : Prop := waveRanksUptoRow.holds Tryd.pinned (OpenSpec.upto waveRanksSpec)

/-- 'scrimshawlaw7.WaveUndo', WHERE WHAT IT READS IS OF BULK AT MOST 1048576: true; the input reads as it did. -/
def waveUndoUptoRow : OpenClaim := { program := "ytaglnomjlnlgoaadoor", sum := "264ed9bb7befb7585194324650983a8525417c81a9c9a2d842a9800c53ff5ad7", func := "scrimshaw/scrimshawlaw7.WaveUndo", spec := "waveUndo", recurses := true, named := ["math/bits.deBruijn64tab"], apart := false, laid := [("math/bits.deBruijn64tab", laid_math_bits_deBruijn64tab)], narrowed := true }
def WaveUndoUptoSaid : Prop := waveUndoUptoRow.holds Tryd.pinned (OpenSpec.upto waveUndoSpec)

/-- 'scrimshawlaw7.WaveBuilds', WHERE WHAT IT READS IS OF BULK AT MOST 1048576: true; the input reads as it did. -/
def waveBuildsUptoRow : OpenClaim := { program := "ytaglnomjlnlgoaadoor", sum := "264ed9bb7befb7585194324650983a8525417c81a9c9a2d842a9800c53ff5ad7", func := "scrimshaw/scrimshawlaw7.WaveBuilds", spec := "waveBuilds", recurses := true, named := ["math/bits.deBruijn64tab"], apart := false, laid := [("math/bits.deBruijn64tab", laid_math_bits_deBruijn64tab)], narrowed := true }
def WaveBuildsUptoSaid : Prop := waveBuildsUptoRow.holds Tryd.pinned (OpenSpec.upto waveBuildsSpec)

/-- 'scrimshawlaw7.WaveCounts', WHERE WHAT IT READS IS OF BULK AT MOST 1048576: true; the input reads as it did. -/
def waveCountsUptoRow : OpenClaim := { program := "ytaglnomjlnlgoaadoor", sum := "264ed9bb7befb7585194324650983a8525417c81a9c9a2d842a9800c53ff5ad7", func := "scrimshaw/scrimshawlaw7.WaveCounts", spec := "waveCounts", recurses := true, named := ["math/bits.deBruijn64tab"], apart := false, laid := [("math/bits.deBruijn64tab", laid_math_bits_deBruijn64tab)], narrowed := true }
def WaveCountsUptoSaid : Prop := waveCountsUptoRow.holds Tryd.pinned (OpenSpec.upto waveCountsSpec)

end Rows
end Go.Proofs.YtaglnomjlnlgoaaDoor
