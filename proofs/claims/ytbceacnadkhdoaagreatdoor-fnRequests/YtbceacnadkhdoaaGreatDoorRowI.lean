/- Rows of int64 numbers: copied, held against each other, marked. -/
import Derived.Test.YtbceacnadkhdoaaGreatDoorRow0
namespace Go.Proofs.YtbceacnadkhdoaaGreatDoor
open Go.RowKit
set_option linter.unusedVariables false

theorem Tryz.infoI : (Tryz.prog.info? 2).map (fun i => (i.zero, i.size, i.bytes)) = some (some (.int .i64 0), 1, 8) := by kernel_rfl

/-- What number a place is marked with. -/
def mkI (k : Int) (i : Nat) : Int := k + i

end Go.Proofs.YtbceacnadkhdoaaGreatDoor
