/- Requests: how great, whether two are the same; RequestFault of the model, and the law's walk. -/
import Derived.Test.YtefkngpceeclhabSz
import Derived.Test.YtefkngpceeclhabReq1
import Derived.Test.YtefkngpceeclhabReq3
import Derived.Test.YtefkngpceeclhabReq4
namespace Go.Proofs.Ytefkngpceeclhab
open Go.RowKit
set_option linter.unusedVariables false

end Go.Proofs.Ytefkngpceeclhab
