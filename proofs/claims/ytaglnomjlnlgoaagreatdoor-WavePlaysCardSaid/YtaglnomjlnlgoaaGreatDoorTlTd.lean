/- Stage 5's told: a walk. -/
import Derived.Test.YtaglnomjlnlgoaaGreatDoorTrg
namespace Go.Proofs.YtaglnomjlnlgoaaGreatDoor
open Go Go.RowKit Go.ChangeAt Tr

end Go.Proofs.YtaglnomjlnlgoaaGreatDoor
