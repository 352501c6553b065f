/- The model's search for a way round. -/
import Derived.Test.YtiadmmnnbnamjaaJ2
import Derived.Test.YtiadmmnnbnamjaaSback8
namespace Go.Proofs.Ytiadmmnnbnamjaa
open Go.RowKit
set_option linter.unusedVariables false
set_option linter.unusedSimpArgs false
set_option maxRecDepth 100000

def lenV (v : Value) : Nat := match v with | .slice _ n _ => n | _ => 0
end Go.Proofs.Ytiadmmnnbnamjaa
