/- The topmost window that is mapped and has a point: the specification. -/
import Derived.Test.YtclfobpmafkgfaaWi7
import Derived.Test.YtclfobpmafkgfaaRec2
import Derived.Test.YtclfobpmafkgfaaWc3
namespace Go.Proofs.Ytclfobpmafkgfaa
open Go.RowKit Go.Maps
set_option linter.unusedVariables false

def hitW (p q : Int) (v : Wn) : Bool := v.m && inB v.x v.y v.w v.h p q
/-- The topmost one that is hit. -/
structure Top (p q : Int) (L A : List Wn) (r : Wn) (B : List Wn) : Prop where
  eq : L = A ++ r :: B
  yes : hitW p q r = true
  no : ∀ v ∈ B, hitW p q v = false
theorem top_or (p q : Int) (L : List Wn) : (∀ v ∈ L, hitW p q v = false) ∨ ∃ A r B, Top p q L A r B := by
  induction L with
  | nil => exact .inl fun v h => by simp at h
  | cons r L ih =>
    rcases ih with h | ⟨A, s, B, h⟩
    · cases hr : hitW p q r
      · refine .inl fun v hv => ?_
        rcases List.mem_cons.1 hv with rfl | hv
        · exact hr
        · exact h v hv
      · exact .inr ⟨[], r, L, rfl, hr, h⟩
    · exact .inr ⟨r :: A, s, B, by rw [h.eq]; rfl, h.yes, h.no⟩
theorem ws_rect {w : World} {lo hi g o : Nat} {A B : List Wn} {r : Wn} (hc : Cl Wn.vals w g o r) : IsRect w g (o + 1) r.x r.y r.w r.h := by
  obtain ⟨a0, a1, a2, a3, a4, a5, a6⟩ := hc.seven
  exact ⟨a1, a2, a3, a4⟩

end Go.Proofs.Ytclfobpmafkgfaa
