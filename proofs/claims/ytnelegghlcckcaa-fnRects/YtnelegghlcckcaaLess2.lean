/- LessRect: the model's, at every two rectangles. -/
import Derived.Test.YtnelegghlcckcaaLess1
import Derived.Deep.Cut
namespace Go.Proofs.Ytnelegghlcckcaa
open Go.RowKit
set_option linter.unusedVariables false

end Go.Proofs.Ytnelegghlcckcaa
