/- RequestFault: the law's walk. -/
import Derived.Test.YtngimmankmcnfaaDoorReq5
import Derived.Test.YtngimmankmcnfaaDoorHeld0
namespace Go.Proofs.YtngimmankmcnfaaDoor
open Go.RowKit
set_option linter.unusedVariables false

end Go.Proofs.YtngimmankmcnfaaDoor
