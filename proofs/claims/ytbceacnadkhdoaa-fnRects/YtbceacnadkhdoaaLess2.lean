/- LessRect: the model's, at every two rectangles. -/
import Derived.Test.YtbceacnadkhdoaaLess1
import Derived.Deep.Cut
namespace Go.Proofs.Ytbceacnadkhdoaa
open Go.RowKit
set_option linter.unusedVariables false

end Go.Proofs.Ytbceacnadkhdoaa
