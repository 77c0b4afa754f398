/- Lists of rectangles: whether two are the same; faults of lists; marks. -/
import Derived.Test.YtnelegghlcckcaaLst1
import Derived.Test.YtnelegghlcckcaaGrow2
namespace Go.Proofs.Ytnelegghlcckcaa
open Go.RowKit
set_option linter.unusedVariables false

end Go.Proofs.Ytnelegghlcckcaa
