/- The model's DominatorsIn. -/
import Derived.Test.YtiadmmnnbnamjaaGreatSdom7
namespace Go.Proofs.YtiadmmnnbnamjaaGreat
open Go.RowKit
set_option linter.unusedVariables false
set_option linter.unusedSimpArgs false
set_option maxRecDepth 100000

end Go.Proofs.YtiadmmnnbnamjaaGreat
