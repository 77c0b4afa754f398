/- RequestFault: the program's and the model's. -/
import Derived.Test.YtefkngpceeclhabReqA
namespace Go.Proofs.Ytefkngpceeclhab
open Go.RowKit
set_option linter.unusedVariables false

theorem mny_yes {k : Int} {na nd : Nat} (h : na ≠ aN k ∨ mD k < nd) : mny k na nd = true := by simpa only [mny, decide_eq_true_eq] using h
theorem mny_no {k : Int} {na nd : Nat} (h : na = aN k) (h2 : nd ≤ mD k) : mny k na nd = false := by
  simp only [mny, decide_eq_false_iff_not]; omega

end Go.Proofs.Ytefkngpceeclhab
