/- StackFault: the law's walk. -/
import Derived.Test.YtiihahmhjaadlaaWi7
import Derived.Test.YtiihahmhjaadlaaWiC
namespace Go.Proofs.Ytiihahmhjaadlaa
open Go.RowKit Go.Maps
set_option linter.unusedVariables false

end Go.Proofs.Ytiihahmhjaadlaa
