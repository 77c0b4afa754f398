/- A body copied by the program, whatever it has. -/
import Derived.Test.YtefkngpceeclhabMs2
import Derived.Test.YtefkngpceeclhabFr3
import Derived.Laws.IdiomCopy
namespace Go.Proofs.Ytefkngpceeclhab
open Go.RowKit
set_option linter.unusedVariables false
attribute [local go_sem] growUpon growAt

/-- A new body. -/
structure NewB (w w' : World) (D : List Int) (b : Bd) : Prop where
  le : b.L = D
  on : b.on w'
  inn : b.L ≠ [] → w.heap.size ≤ b.g ∧ b.g < w'.heap.size
theorem NewB.keep {w w1 w' : World} {D : List Int} {b : Bd} (h : NewB w w1 D b) (k : Below w1.heap.size w1 w') : NewB w w' D b :=
  ⟨h.le, Bd.on_keep h.on k (fun e => (h.inn e).2), fun e => ⟨(h.inn e).1, Nat.lt_of_lt_of_le (h.inn e).2 k.size⟩⟩
theorem NewB.of_own {w w' : World} {ao : Option Addr} {cap : Nat} {D : List Int} (h : OwnR .u8 5 w' w.heap.size ao cap D) : ∃ g, NewB w w' D ⟨ao, cap, g, D⟩ := by
  obtain ⟨g, h1, h2⟩ := Bd.of_own h
  exact ⟨g, rfl, h1, h2⟩

end Go.Proofs.Ytefkngpceeclhab
