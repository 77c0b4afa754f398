/- RequestText: the model's. -/
import Derived.Test.YtbceacnadkhdoaaGreatDoorRt2
import Derived.Test.YtbceacnadkhdoaaGreatDoorPck2
namespace Go.Proofs.YtbceacnadkhdoaaGreatDoor
open Go.RowKit
set_option linter.unusedVariables false

/-- A request's text; none, where it has a fault. -/
def tX (k : Int) (A D : List Int) : ByteArray := if rF k A D.length = 0 then tS (bod k A D) else ⟨#[]⟩
theorem tX_yes {k : Int} {A D : List Int} (h : rF k A D.length = 0) : tX k A D = tS (bod k A D) := by unfold tX; rw [if_pos h]
theorem tX_no {k : Int} {A D : List Int} (h : rF k A D.length ≠ 0) : tX k A D = ⟨#[]⟩ := by unfold tX; rw [if_neg h]

end Go.Proofs.YtbceacnadkhdoaaGreatDoor
