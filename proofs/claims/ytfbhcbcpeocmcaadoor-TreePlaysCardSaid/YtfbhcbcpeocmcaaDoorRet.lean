/- Answers that are equal. No function of the program stands in it. -/
import Derived.Test.YtfbhcbcpeocmcaaDoorChecked
import Derived.WalkKit
namespace Go.Proofs.YtfbhcbcpeocmcaaDoor
open Go Go.RowKit

theorem ret_int {k : IntKind} {a b : Int} (h : a = b) : Ending.returned (.int k a) = .returned (.int k b) := by rw [h]
theorem ret_bool {a b : Bool} (h : a = b) : Ending.returned (.bool a) = .returned (.bool b) := by rw [h]
end Go.Proofs.YtfbhcbcpeocmcaaDoor
