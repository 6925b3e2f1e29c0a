/- Stage 5's told: a walk. -/
import Derived.Test.YtaglnomjlnlgoaaDoorTrg
namespace Go.Proofs.YtaglnomjlnlgoaaDoor
open Go Go.RowKit Go.ChangeAt Tr

end Go.Proofs.YtaglnomjlnlgoaaDoor
