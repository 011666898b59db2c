/- What the listed package variables hold. -/
import Derived.Test.YtmgoabhffobglaaPlayCut
import Derived.Test.YtmgoabhffobglaaRows
namespace Go.Proofs.Ytmgoabhffobglaa.solveNames
open Go.Play
set_option linter.unusedVariables false
def gl  : Glob := []
end Go.Proofs.Ytmgoabhffobglaa.solveNames
