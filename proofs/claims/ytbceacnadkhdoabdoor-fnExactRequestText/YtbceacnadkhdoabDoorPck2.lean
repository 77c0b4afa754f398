/- PackRequest of the program. -/
import Derived.Test.YtbceacnadkhdoabDoorPck1
import Derived.Test.YtbceacnadkhdoabDoorReq3
namespace Go.Proofs.YtbceacnadkhdoabDoor
open Go.RowKit
set_option linter.unusedVariables false

/-- A request's bytes; nothing, where it has a fault. -/
def pkL (k : Int) (A D : List Int) : List Int := if rF k A D.length = 0 then ((bod k A D).length : Int) :: bod k A D else []
theorem pkL_yes {k : Int} {A D : List Int} (h : rF k A D.length = 0) : pkL k A D = ((bod k A D).length : Int) :: bod k A D := by unfold pkL; rw [if_pos h]
theorem pkL_no {k : Int} {A D : List Int} (h : rF k A D.length ≠ 0) : pkL k A D = [] := by unfold pkL; rw [if_neg h]
theorem rF_lens {k : Int} {A : List Int} {nd : Nat} (h : rF k A nd = 0) : A.length ≤ 7 ∧ nd ≤ 24 ∧ 1 ≤ k ∧ k ≤ 13 ∧ A.all isB = true := by
  obtain ⟨h1, h2, h3, h4⟩ := rF_ok h
  have := aN_le k
  have := mD_le k
  exact ⟨by omega, by omega, h1.1, h1.2, h4⟩

theorem pkL_len (k : Int) (A D : List Int) : (pkL k A D).length ≤ 33 := by
  by_cases h : rF k A D.length = 0
  · obtain ⟨h1, h2, _⟩ := rF_lens h
    rw [pkL_yes h, List.length_cons, bod_len]; omega
  · rw [pkL_no h]; simp

end Go.Proofs.YtbceacnadkhdoabDoor
