/- Frames cut by the program: a piece copied; the machine. -/
import Derived.Test.YtefkngpceeclhabBod
import Derived.Test.YtefkngpceeclhabFr1
import Derived.Test.YtefkngpceeclhabJmp
import Derived.Test.YtefkngpceeclhabHeld0
import Derived.Laws.CopyOwn
namespace Go.Proofs.Ytefkngpceeclhab
open Go.RowKit
set_option linter.unusedVariables false
attribute [local go_sem high] sl_from sl_upto

end Go.Proofs.Ytefkngpceeclhab
