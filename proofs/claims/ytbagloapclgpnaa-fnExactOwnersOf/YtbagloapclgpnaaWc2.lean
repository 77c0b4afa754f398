/- Stacks as the program works on them: panes of its own, and back. -/
import Derived.Test.YtbagloapclgpnaaWc1
import Derived.Test.YtbagloapclgpnaaMades
namespace Go.Proofs.Ytbagloapclgpnaa
open Go.RowKit
set_option linter.unusedVariables false
attribute [local go_sem] growUpon growAt

end Go.Proofs.Ytbagloapclgpnaa
