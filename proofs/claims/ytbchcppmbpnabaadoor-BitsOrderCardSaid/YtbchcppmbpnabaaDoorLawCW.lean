/- BitsPlaces and BitsOrder in the form that a row's proof hands them. -/
import Derived.Test.YtbchcppmbpnabaaDoorLawC
import Derived.Test.YtbchcppmbpnabaaDoorLaidB
import Derived.Test.YtbchcppmbpnabaaDoorOpen
namespace Go.Proofs.YtbchcppmbpnabaaDoor
open Go Go.RowKit

theorem places_w (a0 : Int) (W : World) (w0 : (Lit.int .u64 a0).wf = true) (hL : LaidFact W) :
    Calls Tryd.prog 6 #[.int .u64 a0] W fun e w' => e = .returned (.bool true) ∧ Below W.heap.size W w' := by
  obtain ⟨x, rfl, hx⟩ := wf_u64 w0
  exact places_walk x W hx hL.tab hL.pos
theorem order_w (a0 : Int) (W : World) (w0 : (Lit.int .u64 a0).wf = true) (hL : LaidFact W) :
    Calls Tryd.prog 3 #[.int .u64 a0] W fun e w' => e = .returned (.bool true) ∧ Below W.heap.size W w' := by
  obtain ⟨x, rfl, hx⟩ := wf_u64 w0
  exact order_walk x W hx hL.tab hL.pos
end Go.Proofs.YtbchcppmbpnabaaDoor
