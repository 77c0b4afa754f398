/- Contracts of chapter 1's small functions, and the walks of Dominates at every argument. -/
import Derived.Test.YtodiekkehbeojahDoorRows
import Derived.Test.YtodiekkehbeojahDoorKeep
import Derived.Test.YtodiekkehbeojahDoorLabMath
import Derived.WalkKit
import Derived.WalkSpells
import Derived.WalkLawsBesides
import Derived.Handy
import Derived.BigQuiet
namespace Go.Proofs.YtodiekkehbeojahDoor
open Go.RowKit
set_option linter.unusedVariables false

def fltOf (b : Bool) : Int := if b then 3 else 0

end Go.Proofs.YtodiekkehbeojahDoor
