/- Small functions of the laws over lists of rectangles: how great a list is; whether two numbers' results are the same. -/
import Derived.Test.YtbceacnadkhdoaaAr1
namespace Go.Proofs.Ytbceacnadkhdoaa
open Go.RowKit
set_option linter.unusedVariables false

end Go.Proofs.Ytbceacnadkhdoaa
