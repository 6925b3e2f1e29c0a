/- Stage 7's statements as walks, over the contracts that are asked of waves: WaveCounts. -/
import Derived.Test.YtaglnomjlnlgoaaGreatDoorLwB
namespace Go.Proofs.YtaglnomjlnlgoaaGreatDoor
open Go Go.RowKit Go.ChangeAt

end Go.Proofs.YtaglnomjlnlgoaaGreatDoor
