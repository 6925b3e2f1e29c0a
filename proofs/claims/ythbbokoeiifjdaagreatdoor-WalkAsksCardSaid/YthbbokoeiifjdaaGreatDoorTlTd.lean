/- Stage 5's told: a walk. -/
import Derived.Test.YthbbokoeiifjdaaGreatDoorTrg
namespace Go.Proofs.YthbbokoeiifjdaaGreatDoor
open Go Go.RowKit Go.ChangeAt Tr

end Go.Proofs.YthbbokoeiifjdaaGreatDoor
