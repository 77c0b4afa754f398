/- Rows of bytes: copied, held against each other, marked. -/
import Derived.Test.YtbceacnadkhdoaaGreatDoorRow0
namespace Go.Proofs.YtbceacnadkhdoaaGreatDoor
open Go.RowKit
set_option linter.unusedVariables false

theorem Tryz.infoB : (Tryz.prog.info? 5).map (fun i => (i.zero, i.size, i.bytes)) = some (some (.int .u8 0), 1, 1) := by kernel_rfl

/-- What number a place is marked with. -/
def mkB (k : Int) (i : Nat) : Int := (k + i) % 256

end Go.Proofs.YtbceacnadkhdoaaGreatDoor
