/- PackRequest of the model. -/
import Derived.Test.YtefkngpceeclhabPck2
namespace Go.Proofs.Ytefkngpceeclhab
open Go.RowKit
set_option linter.unusedVariables false

end Go.Proofs.Ytefkngpceeclhab
