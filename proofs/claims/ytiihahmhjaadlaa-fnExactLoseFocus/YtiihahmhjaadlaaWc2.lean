/- Stacks as the program works on them: panes of its own, and back. -/
import Derived.Test.YtiihahmhjaadlaaWc1
import Derived.Test.YtiihahmhjaadlaaMades
namespace Go.Proofs.Ytiihahmhjaadlaa
open Go.RowKit
set_option linter.unusedVariables false
attribute [local go_sem] growUpon growAt

end Go.Proofs.Ytiihahmhjaadlaa
