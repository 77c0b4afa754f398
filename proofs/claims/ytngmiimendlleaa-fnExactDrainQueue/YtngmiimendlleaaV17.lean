/- RestFault of the program and of the model. -/
import Derived.Test.YtngmiimendlleaaV6
import Derived.Test.YtngmiimendlleaaV7
namespace Go.Proofs.Ytngmiimendlleaa
open Go.RowKit
set_option linter.unusedVariables false

/-- The slice's first byte is x, and n more lie behind it. -/
theorem Row.head {k : IntKind} {w : World} {lo hi : Nat} {ao : Option Addr} {x : Int} {L : List Int} (h : Row k w lo hi ao (x :: L)) : ∃ g o, ao = some ⟨g, o, none⟩ ∧ lo ≤ g ∧ g < hi ∧ w.cell? ⟨g, o, none⟩ = some (.int k x) := by
  rcases h with h | ⟨g, o, ha, h1, h2, hc⟩
  · cases h
  · have h0 := hc 0 (by simp)
    rw [Nat.add_zero] at h0
    exact ⟨g, o, ha, h1, h2, h0⟩

end Go.Proofs.Ytngmiimendlleaa
