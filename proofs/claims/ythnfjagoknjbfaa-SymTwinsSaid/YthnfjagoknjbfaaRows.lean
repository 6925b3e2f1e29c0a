/-
  No cell of these rows narrows 'for every input' (looked for: loops, veiled, ifaces, maps, wideKeys, modest, calm, conditions, laid).
  DERIVED. THE GIVEN ROWS OF THIS SEAT. 6 by the template 'for every input the law returns true; each argument reads behind the call as it read before'; 0 by the template 'total and deterministic' (their statements: YthnfjagoknjbfaaTotals.lean).
  GIVEN WITH THE SEED: the statements are not yours to turn. If you find one false, say at which input.
  Laid BY PROGRAM, IN A SANDBOX (cutbox-rows.mjs): the forced cells as the released guide's own fill.sh prints them over the translation 91146f6f238588ec… (all of the seat's roots in one cut). By AI agents, Wed Nov 11 2026. No macro, syntax, notation, axiom, sorry.
-/
import Derived.Test.YthnfjagoknjbfaaChecked
import GoSem.Claim
import GoSem.ClaimJoined
import GoSem.ClaimMapViews
import Derived.JoinedTies
import Derived.KernelRfl
namespace Go.Proofs.Ythnfjagoknjbfaa
/- THE CELL 'sum', in the pinned program and in every row, IS THE sha256 OF THE DUMP (.gsa) THAT YthnfjagoknjbfaaProg.lean LOADS. Nothing in Lean hashes anything: it is a label: what it is worth is what the hold of that sum in a sandbox is worth. -/
noncomputable def Try.pinned : Pinned := { name := "ythnfjagoknjbfaa", sum := "91146f6f238588ec2752b61eab12d5dc69fc3be887880a8ec26819221fae9544", checked := Try.checked }
namespace Rows
def none {H : Type} : Left H := { results := [], args := [] }

/-- 'scrimshawlaw6.SymLevels': WHATEVER THE INPUT: true; the input reads as it did. -/
def symLevelsSpec : ChangeSpec := { name := "symLevels", fn := fun _ => fun
  | [d1, d2, d3] => { results := [.lit (.bool true)], args := [d1, d2, d3] }
  | _ => none }
def symLevelsRow : OpenClaim := { program := "ythnfjagoknjbfaa", sum := "91146f6f238588ec2752b61eab12d5dc69fc3be887880a8ec26819221fae9544", func := "scrimshaw/scrimshawlaw6.SymLevels", spec := "symLevels", apart := false }
def SymLevelsSaid : Prop := symLevelsRow.holds Try.pinned (OpenSpec.ofChange symLevelsSpec)

/-- ITS FALSE NEIGHBOUR: 'it returns false'. Refute it at one input. -/
def symLevelsWrong : ChangeSpec := { name := "symLevels", fn := fun _ => fun
  | [d1, d2, d3] => { results := [.lit (.bool false)], args := [d1, d2, d3] }
  | _ => none }
def SymLevelsWrongFalsely : Prop := symLevelsRow.holds Try.pinned (OpenSpec.ofChange symLevelsWrong)

/-- 'scrimshawlaw6.SymAsks': WHATEVER THE INPUT: true; the input reads as it did. -/
def symAsksSpec : ChangeSpec := { name := "symAsks", fn := fun _ => fun
  | [d1, d2, d3, d4, d5] => { results := [.lit (.bool true)], args := [d1, d2, d3, d4, d5] }
  | _ => none }
def symAsksRow : OpenClaim := { program := "ythnfjagoknjbfaa", sum := "91146f6f238588ec2752b61eab12d5dc69fc3be887880a8ec26819221fae9544", func := "scrimshaw/scrimshawlaw6.SymAsks", spec := "symAsks", apart := false }
def SymAsksSaid : Prop := symAsksRow.holds Try.pinned (OpenSpec.ofChange symAsksSpec)

/-- ITS FALSE NEIGHBOUR: 'it returns false'. Refute it at one input. -/
def symAsksWrong : ChangeSpec := { name := "symAsks", fn := fun _ => fun
  | [d1, d2, d3, d4, d5] => { results := [.lit (.bool false)], args := [d1, d2, d3, d4, d5] }
  | _ => none }
def SymAsksWrongFalsely : Prop := symAsksRow.holds Try.pinned (OpenSpec.ofChange symAsksWrong)

/-- 'scrimshawlaw6.SymPaths': WHATEVER THE INPUT: true; the input reads as it did. -/
def symPathsSpec : ChangeSpec := { name := "symPaths", fn := fun _ => fun
  | [d] => { results := [.lit (.bool true)], args := [d] }
  | _ => none }
def symPathsRow : OpenClaim := { program := "ythnfjagoknjbfaa", sum := "91146f6f238588ec2752b61eab12d5dc69fc3be887880a8ec26819221fae9544", func := "scrimshaw/scrimshawlaw6.SymPaths", spec := "symPaths", apart := false }
def SymPathsSaid : Prop := symPathsRow.holds Try.pinned (OpenSpec.ofChange symPathsSpec)

/-- ITS FALSE NEIGHBOUR: 'it returns false'. Refute it at one input. -/
def symPathsWrong : ChangeSpec := { name := "symPaths", fn := fun _ => fun
  | [d] => { results := [.lit (.bool false)], args := [d] }
  | _ => none }
def SymPathsWrongFalsely : Prop := symPathsRow.holds Try.pinned (OpenSpec.ofChange symPathsWrong)

/-- 'scrimshawlaw6.SymOrder': WHATEVER THE INPUT: true; the input reads as it did. -/
def symOrderSpec : ChangeSpec := { name := "symOrder", fn := fun _ => fun
  | [d1, d2] => { results := [.lit (.bool true)], args := [d1, d2] }
  | _ => none }
def symOrderRow : OpenClaim := { program := "ythnfjagoknjbfaa", sum := "91146f6f238588ec2752b61eab12d5dc69fc3be887880a8ec26819221fae9544", func := "scrimshaw/scrimshawlaw6.SymOrder", spec := "symOrder", apart := false }
def SymOrderSaid : Prop := symOrderRow.holds Try.pinned (OpenSpec.ofChange symOrderSpec)

/-- ITS FALSE NEIGHBOUR: 'it returns false'. Refute it at one input. -/
def symOrderWrong : ChangeSpec := { name := "symOrder", fn := fun _ => fun
  | [d1, d2] => { results := [.lit (.bool false)], args := [d1, d2] }
  | _ => none }
def SymOrderWrongFalsely : Prop := symOrderRow.holds Try.pinned (OpenSpec.ofChange symOrderWrong)

/-- 'scrimshawlaw6.SymParts': WHATEVER THE INPUT: true; the input reads as it did. -/
def symPartsSpec : ChangeSpec := { name := "symParts", fn := fun _ => fun
  | [d1, d2] => { results := [.lit (.bool true)], args := [d1, d2] }
  | _ => none }
def symPartsRow : OpenClaim := { program := "ythnfjagoknjbfaa", sum := "91146f6f238588ec2752b61eab12d5dc69fc3be887880a8ec26819221fae9544", func := "scrimshaw/scrimshawlaw6.SymParts", spec := "symParts", apart := false }
def SymPartsSaid : Prop := symPartsRow.holds Try.pinned (OpenSpec.ofChange symPartsSpec)

/-- ITS FALSE NEIGHBOUR: 'it returns false'. Refute it at one input. -/
def symPartsWrong : ChangeSpec := { name := "symParts", fn := fun _ => fun
  | [d1, d2] => { results := [.lit (.bool false)], args := [d1, d2] }
  | _ => none }
def SymPartsWrongFalsely : Prop := symPartsRow.holds Try.pinned (OpenSpec.ofChange symPartsWrong)

/-- 'scrimshawlaw6.SymTwins': WHATEVER THE INPUT: true; the input reads as it did. -/
def symTwinsSpec : ChangeSpec := { name := "symTwins", fn := fun _ => fun
  | [d1, d2] => { results := [.lit (.bool true)], args := [d1, d2] }
  | _ => none }
def symTwinsRow : OpenClaim := { program := "ythnfjagoknjbfaa", sum := "91146f6f238588ec2752b61eab12d5dc69fc3be887880a8ec26819221fae9544", func := "scrimshaw/scrimshawlaw6.SymTwins", spec := "symTwins", apart := false }
def SymTwinsSaid : Prop := symTwinsRow.holds Try.pinned (OpenSpec.ofChange symTwinsSpec)

/-- ITS FALSE NEIGHBOUR: 'it returns false'. Refute it at one input. -/
def symTwinsWrong : ChangeSpec := { name := "symTwins", fn := fun _ => fun
  | [d1, d2] => { results := [.lit (.bool false)], args := [d1, d2] }
  | _ => none }
def SymTwinsWrongFalsely : Prop := symTwinsRow.holds Try.pinned (OpenSpec.ofChange symTwinsWrong)

/- THE SECOND FORM. 'bulk': how many values and letters a reading holds, each counted each time it is reached (what is shared counts as often as it is met; a slice's spare places count too). A statement '..UptoSaid' is the law's where the arguments, and the package variables that the reading takes, are together of bulk at most 1048576: NARROWER than '..Said'. Prove '..Said' where nothing that the law and all that it calls make is longer than what came in: it says more and counts as full. Else prove '..UptoSaid'. A law counts once. -/
mutual
def uptoBulk {H : Type} : DataW H → Nat
  | .lit (.string bytes) => bytes.length + 1
  | .lit _ => 1
  | .nil => 1
  | .ptr d => uptoBulk d + 1
  | .slice elems spare => uptoBulkAll elems + uptoBulkAll spare + 1
  | .agg parts => uptoBulkAll parts + 1
  | .iface _ d => uptoBulk d + 1
  | .map entries => uptoBulkEntries entries + 1
  | .held _ => 1
def uptoBulkAll {H : Type} : List (DataW H) → Nat
  | [] => 0
  | d :: r => uptoBulk d + uptoBulkAll r
def uptoBulkEntries {H : Type} : List (Lit × DataW H) → Nat
  | [] => 0
  | x :: r => uptoBulkEntry x + uptoBulkEntries r
def uptoBulkEntry {H : Type} : Lit × DataW H → Nat
  | (.string bytes, d) => bytes.length + uptoBulk d + 1
  | (_, d) => uptoBulk d + 1
 end
def uptoSmall : (H : Type) → List (DataW H) → Bool := fun _ ds => decide (uptoBulkAll ds ≤ 1048576)
def OpenSpec.upto (s : _root_.Go.ChangeSpec) : _root_.Go.OpenSpec := { _root_.Go.OpenSpec.ofChange s with cond := some uptoSmall }

/-- 'scrimshawlaw6.SymLevels', WHERE WHAT IT READS IS OF BULK AT MOST 1048576: true; the input reads as it did. -/
def symLevelsUptoRow : OpenClaim := { program := "ythnfjagoknjbfaa", sum := "91146f6f238588ec2752b61eab12d5dc69fc3be887880a8ec26819221fae9544", func := "scrimshaw/scrimshawlaw6.SymLevels", spec := "symLevels", apart := false, narrowed := true }
def SymLevelsUptoSaid : Prop := symLevelsUptoRow.holds Try.pinned (OpenSpec.upto symLevelsSpec)

/-- 'scrimshawlaw6.SymAsks', WHERE WHAT IT READS IS OF BULK AT MOST 1048576: true; the input reads as it did. -/
def symAsksUptoRow : OpenClaim := { program := "ythnfjagoknjbfaa", sum := "91146f6f238588ec2752b61eab12d5dc69fc3be887880a8ec26819221fae9544", func := "scrimshaw/scrimshawlaw6.SymAsks", spec := "symAsks", apart := false, narrowed := true }
def SymAsksUptoSaid : Prop := symAsksUptoRow.holds Try.pinned (OpenSpec.upto symAsksSpec)

/-- 'scrimshawlaw6.SymPaths', WHERE WHAT IT READS IS OF BULK AT MOST 1048576: true; the input reads as it did. -/
def symPathsUptoRow : OpenClaim := { program := "ythnfjagoknjbfaa", sum := "91146f6f238588ec2752b61eab12d5dc69fc3be887880a8ec26819221fae9544", func := "scrimshaw/scrimshawlaw6.SymPaths", spec := "symPaths", apart := false, narrowed := true }
def SymPathsUptoSaid : Prop := symPathsUptoRow.holds Try.pinned (OpenSpec.upto symPathsSpec)

/-- 'scrimshawlaw6.SymOrder', WHERE WHAT IT READS IS OF BULK AT MOST 1048576: true; the input reads as it did. -/
def symOrderUptoRow : OpenClaim := { program := "ythnfjagoknjbfaa", sum := "91146f6f238588ec2752b61eab12d5dc69fc3be887880a8ec26819221fae9544", func := "scrimshaw/scrimshawlaw6.SymOrder", spec := "symOrder", apart := false, narrowed := true }
def SymOrderUptoSaid : Prop := symOrderUptoRow.holds Try.pinned (OpenSpec.upto symOrderSpec)

/-- 'scrimshawlaw6.SymParts', WHERE WHAT IT READS IS OF BULK AT MOST 1048576: true; the input reads as it did. -/
def symPartsUptoRow : OpenClaim := { program := "ythnfjagoknjbfaa", sum := "91146f6f238588ec2752b61eab12d5dc69fc3be887880a8ec26819221fae9544", func := "scrimshaw/scrimshawlaw6.SymParts", spec := "symParts", apart := false, narrowed := true }
def SymPartsUptoSaid : Prop := symPartsUptoRow.holds Try.pinned (OpenSpec.upto symPartsSpec)

/-- 'scrimshawlaw6.SymTwins', WHERE WHAT IT READS IS OF BULK AT MOST 1048576: true; the input reads as it did. -/
def symTwinsUptoRow : OpenClaim := { program := "ythnfjagoknjbfaa", sum := "91146f6f238588ec2752b61eab12d5dc69fc3be887880a8ec26819221fae9544", func := "scrimshaw/scrimshawlaw6.SymTwins", spec := "symTwins", apart := false, narrowed := true }
def SymTwinsUptoSaid : Prop := symTwinsUptoRow.holds Try.pinned (OpenSpec.upto symTwinsSpec)

end Rows
end Go.Proofs.Ythnfjagoknjbfaa
