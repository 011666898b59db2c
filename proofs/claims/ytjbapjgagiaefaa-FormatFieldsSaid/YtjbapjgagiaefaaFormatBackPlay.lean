/- The run of FormatBack, by the kernel, over Play's evaluator; with what the listed package variables hold. -/
import Derived.Test.YtjbapjgagiaefaaPlayCut
import Derived.Test.YtjbapjgagiaefaaRows
import Derived.KernelRfl
namespace Go.Proofs.Ytjbapjgagiaefaa.formatBack
open Go.Play Go.RowKit
set_option linter.unusedVariables false
set_option maxRecDepth 1000000
def gl  : Glob := []
theorem run  : isTrue (Go.Play.start Try.prog (gl) 10000000 20 [] (.mk .e .nil)) = true := by kernel_rfl
theorem alive_walk (W : World) : Calls Try.prog 20 #[] W fun e w' => e = .returned (.bool true) ∧ Below W.heap.size W w' := play_true run W fun g cs hg => by cases hg
end Go.Proofs.Ytjbapjgagiaefaa.formatBack
