/- Rows of bytes: copied, held against each other, marked. -/
import Derived.Test.YtfklmpfjllonpabRow0
namespace Go.Proofs.Ytfklmpfjllonpab
open Go.RowKit
set_option linter.unusedVariables false

theorem Try.infoB : (Try.prog.info? 5).map (fun i => (i.zero, i.size, i.bytes)) = some (some (.int .u8 0), 1, 1) := by kernel_rfl

/-- What number a place is marked with. -/
def mkB (k : Int) (i : Nat) : Int := (k + i) % 256

end Go.Proofs.Ytfklmpfjllonpab
