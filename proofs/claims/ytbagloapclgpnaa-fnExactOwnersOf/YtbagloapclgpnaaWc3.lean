/- A window asked for by its id: the model's, and the program's. -/
import Derived.Test.YtbagloapclgpnaaWc2
import Derived.Test.YtbagloapclgpnaaWi7
namespace Go.Proofs.Ytbagloapclgpnaa
open Go.RowKit Go.Maps
set_option linter.unusedVariables false

/-- The first window of an id stands behind X and ahead of Y. -/
structure Fst (id : Int) (L X : List Wn) (r : Wn) (Y : List Wn) : Prop where
  eq : L = X ++ r :: Y
  at' : r.i = id
  no : ∀ v ∈ X, v.i ≠ id
theorem fst_or (id : Int) (L : List Wn) : (∀ v ∈ L, v.i ≠ id) ∨ ∃ X r Y, Fst id L X r Y := by
  induction L with
  | nil => exact .inl fun v h => by simp at h
  | cons v L ih =>
    by_cases e : v.i = id
    · exact .inr ⟨[], v, L, rfl, e, fun v h => by simp at h⟩
    · rcases ih with ih | ⟨X, r, Y, h⟩
      · refine .inl fun u hu => ?_
        rcases List.mem_cons.1 hu with rfl | hu
        · exact e
        · exact ih u hu
      · refine .inr ⟨v :: X, r, Y, by rw [h.eq]; rfl, h.at', fun u hu => ?_⟩
        rcases List.mem_cons.1 hu with rfl | hu
        · exact e
        · exact h.no u hu
/-- The code of asking for a window. -/
def askW (C : List Wc) (id : Int) : Int := if stF C = 0 then (if (C.map Wc.i).contains id then 0 else 4) else stF C
theorem askW_bad {C : List Wc} {id : Int} (h : ¬ stF C = 0) : askW C id = stF C := by unfold askW; rw [if_neg h]
theorem mapI (L : List Wn) : (L.map Wn.ct).map Wc.i = L.map Wn.i := by simp [Wn.ct]
theorem askW_none {L : List Wn} {id : Int} (h : stF (L.map Wn.ct) = 0) (hn : ∀ v ∈ L, v.i ≠ id) : askW (L.map Wn.ct) id = 4 := by
  unfold askW
  rw [if_pos h, if_neg]
  rw [mapI]
  simp only [List.contains_eq_mem, List.mem_map, decide_eq_true_eq]
  rintro ⟨v, hv, e⟩
  exact hn v hv e
theorem askW_yes {L X Y : List Wn} {r : Wn} {id : Int} (h : stF (L.map Wn.ct) = 0) (hf : Fst id L X r Y) : askW (L.map Wn.ct) id = 0 := by
  unfold askW
  rw [if_pos h, if_pos]
  rw [mapI, hf.eq]
  simp [hf.at']

end Go.Proofs.Ytbagloapclgpnaa
