/- PackRequest of the model. -/
import Derived.Test.YtlagcanbmenglajDoorPck2
namespace Go.Proofs.YtlagcanbmenglajDoor
open Go.RowKit
set_option linter.unusedVariables false

end Go.Proofs.YtlagcanbmenglajDoor
