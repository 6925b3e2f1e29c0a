/- Lists of bools of the call's own. No function of the program stands in it. -/
import Derived.Test.YtfncjkkdemeclaaFrame
namespace Go.Proofs.Ytfncjkkdemeclaa
open Go Go.RowKit

theorem infoB : (Try.prog.info? 4).map (fun i => (i.zero, i.size, i.bytes)) = some (some (.bool false), 1, 1) := by kernel_rfl
/-- A slice of bools of the call's own. -/
abbrev OwnB (base : Nat) (w : World) (v : Value) (l : List Bool) : Prop := w.ownsRow base 4 1 v l.length (l.map Value.bool)
theorem OwnB.push {base : Nat} {w : World} {v : Value} {l : List Bool} {b : Bool} (h : w.ownsRow base 4 1 v (l.length + 1) (l.map Value.bool ++ [Value.bool b])) : OwnB base w v (l ++ [b]) := by
  unfold OwnB
  rw [List.length_append, List.map_append]
  exact h
end Go.Proofs.Ytfncjkkdemeclaa
