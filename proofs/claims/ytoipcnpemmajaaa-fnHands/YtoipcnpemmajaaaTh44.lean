/- Contracts of chapter 1's small functions, and the walks of Dominates at every argument. -/
import Derived.Test.YtoipcnpemmajaaaRows
import Derived.Test.YtoipcnpemmajaaaTh0
import Derived.Test.YtoipcnpemmajaaaTh43
import Derived.WalkKit
import Derived.WalkSpells
import Derived.WalkLawsBesides
import Derived.Handy
import Derived.BigQuiet
namespace Go.Proofs.Ytoipcnpemmajaaa
open Go.RowKit
set_option linter.unusedVariables false

def fltOf (b : Bool) : Int := if b then 3 else 0

end Go.Proofs.Ytoipcnpemmajaaa
