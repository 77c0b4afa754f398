/- RequestFault: the law's walk. -/
import Derived.Test.YtbceacnadkhdoaaGreatDoorReq5
import Derived.Test.YtbceacnadkhdoaaGreatDoorHeld0
namespace Go.Proofs.YtbceacnadkhdoaaGreatDoor
open Go.RowKit
set_option linter.unusedVariables false

end Go.Proofs.YtbceacnadkhdoaaGreatDoor
