/- PackRequest of the model. -/
import Derived.Test.YtbceacnadkhdoabDoorPck2
namespace Go.Proofs.YtbceacnadkhdoabDoor
open Go.RowKit
set_option linter.unusedVariables false

end Go.Proofs.YtbceacnadkhdoabDoor
