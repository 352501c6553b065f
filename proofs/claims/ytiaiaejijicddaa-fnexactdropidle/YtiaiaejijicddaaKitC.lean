/- Rows of cells: a struct in a block of its own. -/
import Derived.Test.YtiaiaejijicddaaK1
namespace Go.Proofs.Ytiaiaejijicddaa
open Go.RowKit
set_option linter.unusedVariables false
set_option linter.unusedSimpArgs false
set_option maxRecDepth 100000

theorem own : ownKnob Try.prog.godebug = none := by kernel_rfl
end Go.Proofs.Ytiaiaejijicddaa
