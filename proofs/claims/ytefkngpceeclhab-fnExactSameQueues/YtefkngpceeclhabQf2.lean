/- The fault of a queue, by the program and by the model. -/
import Derived.Test.YtefkngpceeclhabQf1
namespace Go.Proofs.Ytefkngpceeclhab
open Go.RowKit
set_option linter.unusedVariables false

end Go.Proofs.Ytefkngpceeclhab
