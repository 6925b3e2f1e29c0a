/- The walks of layer 1's statements in the form that a row's proof hands them. -/
import Derived.Test.YtbchcppmbpnabaaDoorLawA
import Derived.Test.YtbchcppmbpnabaaDoorLaidB
import Derived.Test.YtbchcppmbpnabaaDoorOpen
namespace Go.Proofs.YtbchcppmbpnabaaDoor
open Go Go.RowKit

theorem back_w (a0 a1 : Int) (a2 : Bool) (W : World) (w0 : (Lit.int .u64 a0).wf = true) (_ : (Lit.int .i64 a1).wf = true) (hL : LaidFact W) :
    Calls Tryd.prog 5 #[.int .u64 a0, .int .i64 a1, .bool a2] W fun e w' => e = .returned (.bool true) ∧ Below W.heap.size W w' := by
  obtain ⟨x, rfl, hx⟩ := wf_u64 w0
  exact back_walk x a1 a2 W hx hL.tab hL.pos
theorem sums_w (a0 a1 : Int) (W : World) (w0 : (Lit.int .u64 a0).wf = true) (_ : (Lit.int .i64 a1).wf = true) (hL : LaidFact W) :
    Calls Tryd.prog 7 #[.int .u64 a0, .int .i64 a1] W fun e w' => e = .returned (.bool true) ∧ Below W.heap.size W w' := by
  obtain ⟨x, rfl, hx⟩ := wf_u64 w0
  exact sums_walk x a1 W hx hL.tab hL.pos
theorem chain_w (a0 a1 a2 : Int) (a3 : Bool) (W : World) (w0 : (Lit.int .u64 a0).wf = true) (w1 : (Lit.int .u64 a1).wf = true) (_ : (Lit.int .i64 a2).wf = true) (hL : LaidFact W) :
    Calls Tryd.prog 8 #[.int .u64 a0, .int .u64 a1, .int .i64 a2, .bool a3] W fun e w' => e = .returned (.bool true) ∧ Below W.heap.size W w' := by
  obtain ⟨x, rfl, hx⟩ := wf_u64 w0
  obtain ⟨y, rfl, hy⟩ := wf_u64 w1
  exact chain_walk x y a2 a3 W hx hy hL.tab hL.pos
end Go.Proofs.YtbchcppmbpnabaaDoor
