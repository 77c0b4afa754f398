/- ReadBody: the law's walk. -/
import Derived.Test.YtlagcanbmenglajDoorRd5
namespace Go.Proofs.YtlagcanbmenglajDoor
open Go.RowKit
set_option linter.unusedVariables false

theorem rd_lens (L : List Int) : (rdA L).length ≤ 7 ∧ (rdD L).length ≤ 24 := by
  cases L with
  | nil => exact ⟨by simp [rdA], by simp [rdD]⟩
  | cons k r =>
    by_cases h : aC k = 0 ∧ aN k ≤ r.length ∧ r.length - aN k ≤ mD k
    · obtain ⟨_, _, h3, h4⟩ := rd_yes h
      have := aN_le k
      have := mD_le k
      rw [h3, h4]
      simp
      omega
    · obtain ⟨_, _, h3, h4⟩ := rd_no h
      rw [h3, h4]; simp
theorem kalR (w : World) (o : Obj) : Below w.heap.size w (w.alloc o) := (Below.refl _ _).alloc (Nat.le_refl _) o

end Go.Proofs.YtlagcanbmenglajDoor
