/- Requests: how great, whether two are the same; RequestFault of the model, and the law's walk. -/
import Derived.Test.YtbceacnadkhdoaaGreatDoorSz
import Derived.Test.YtbceacnadkhdoaaGreatDoorReq1
import Derived.Test.YtbceacnadkhdoaaGreatDoorReq3
import Derived.Test.YtbceacnadkhdoaaGreatDoorReq4
namespace Go.Proofs.YtbceacnadkhdoaaGreatDoor
open Go.RowKit
set_option linter.unusedVariables false

end Go.Proofs.YtbceacnadkhdoaaGreatDoor
