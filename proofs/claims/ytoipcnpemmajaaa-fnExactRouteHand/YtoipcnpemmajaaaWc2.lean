/- Stacks as the program works on them: panes of its own, and back. -/
import Derived.Test.YtoipcnpemmajaaaWc1
import Derived.Test.YtoipcnpemmajaaaMades
namespace Go.Proofs.Ytoipcnpemmajaaa
open Go.RowKit
set_option linter.unusedVariables false
attribute [local go_sem] growUpon growAt

end Go.Proofs.Ytoipcnpemmajaaa
