/- StackFault: the law's walk. -/
import Derived.Test.YtoipcnpemmajaaaWi7
import Derived.Test.YtoipcnpemmajaaaWiC
namespace Go.Proofs.Ytoipcnpemmajaaa
open Go.RowKit Go.Maps
set_option linter.unusedVariables false

end Go.Proofs.Ytoipcnpemmajaaa
