/- Sizes of slices, told by the laws' own functions. -/
import Derived.Test.YtmmjannkfmiohaaTs2
namespace Go.Proofs.Ytmmjannkfmiohaa
open Go.RowKit
set_option linter.unusedVariables false

/-- What is left of a size. -/
def szV (l : Int) (n : Nat) : Int := if (n : Int) ≤ l then l - n else -1
theorem szV_yes {l : Int} {n : Nat} (h : (n : Int) ≤ l) : szV l n = l - n := by unfold szV; rw [if_pos h]
theorem szV_no {l : Int} {n : Nat} (h : l < (n : Int)) : szV l n = -1 := by unfold szV; rw [if_neg (by omega)]

end Go.Proofs.Ytmmjannkfmiohaa
