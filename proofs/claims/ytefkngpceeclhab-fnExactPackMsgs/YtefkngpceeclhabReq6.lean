/- RequestFault: the law's walk. -/
import Derived.Test.YtefkngpceeclhabReq5
import Derived.Test.YtefkngpceeclhabHeld0
namespace Go.Proofs.Ytefkngpceeclhab
open Go.RowKit
set_option linter.unusedVariables false

end Go.Proofs.Ytefkngpceeclhab
