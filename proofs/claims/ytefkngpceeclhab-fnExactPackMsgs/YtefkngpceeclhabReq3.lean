/- RequestFault of the program: the numbers gone through. -/
import Derived.Test.YtefkngpceeclhabReq2
namespace Go.Proofs.Ytefkngpceeclhab
open Go.RowKit
set_option linter.unusedVariables false

end Go.Proofs.Ytefkngpceeclhab
