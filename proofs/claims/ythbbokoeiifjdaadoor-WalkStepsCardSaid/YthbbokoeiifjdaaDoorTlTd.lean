/- Stage 5's told: a walk. -/
import Derived.Test.YthbbokoeiifjdaaDoorTrg
namespace Go.Proofs.YthbbokoeiifjdaaDoor
open Go Go.RowKit Go.ChangeAt Tr

end Go.Proofs.YthbbokoeiifjdaaDoor
