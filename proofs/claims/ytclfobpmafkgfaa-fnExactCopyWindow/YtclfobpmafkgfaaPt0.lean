/- Painting: what the cells are when some of them are painted anew. -/
import Derived.Test.YtclfobpmafkgfaaWi5
namespace Go.Proofs.Ytclfobpmafkgfaa
open Go.RowKit Go.Maps
set_option linter.unusedVariables false

/-- Cells of rows of p, those of P painted as f says. -/
def pntL (p : Int) (P : Int → Int → Bool) (f : Int → Int → Int) (C : List Int) : List Int := C.mapIdx fun j c => if P ((j : Int) % p) ((j : Int) / p) then f ((j : Int) % p) ((j : Int) / p) else c
section
variable {p h x y : Int} {P P' : Int → Int → Bool} {f : Int → Int → Int} {C : List Int}
theorem pntL_len : (pntL p P f C).length = C.length := by simp [pntL]
theorem at_mod (hx : 0 ≤ x) (hp : x < p) : (y * p + x) % p = x ∧ (y * p + x) / p = y := by
  have hp0 : p ≠ 0 := by omega
  constructor
  · rw [Int.add_comm, Int.add_mul_emod_self_right]; exact Int.emod_eq_of_lt hx hp
  · rw [Int.add_comm, Int.add_mul_ediv_right _ _ hp0, Int.ediv_eq_zero_of_lt hx hp]; omega
theorem in_rows (hp : 0 < p) {j : Nat} (hC : (C.length : Int) ≤ h * p) (hj : j < C.length) : 0 ≤ (j : Int) % p ∧ (j : Int) % p < p ∧ 0 ≤ (j : Int) / p ∧ (j : Int) / p < h := by
  have h1 := Int.emod_nonneg (j : Int) (show p ≠ 0 by omega)
  have h2 := Int.emod_lt_of_pos (j : Int) hp
  have h3 : 0 ≤ (j : Int) / p := Int.ediv_nonneg (by omega) (by omega)
  refine ⟨h1, h2, h3, ?_⟩
  apply Int.ediv_lt_of_lt_mul hp
  omega
theorem pntL_congr (hp : 0 < p) (hC : (C.length : Int) ≤ h * p) (he : ∀ a b, 0 ≤ a → a < p → 0 ≤ b → b < h → P a b = P' a b) : pntL p P f C = pntL p P' f C := by
  unfold pntL
  apply List.ext_getElem
  · simp
  · intro j h1 h2
    have hj : j < C.length := by simpa using h1
    obtain ⟨a1, a2, a3, a4⟩ := in_rows hp hC hj
    simp only [List.getElem_mapIdx]
    rw [he _ _ a1 a2 a3 a4]
theorem pntL_set (hx : 0 ≤ x) (hxp : x < p) (hC : (C.length : Int) ≤ h * p) (hP : P' x y = true) (he : ∀ a b, 0 ≤ a → a < p → 0 ≤ b → b < h → ¬ (a = x ∧ b = y) → P a b = P' a b) {n : Nat} (hn : (n : Int) = y * p + x) : (pntL p P f C).set n (f x y) = pntL p P' f C := by
  unfold pntL
  have hm := at_mod (y := y) hx hxp
  have hp : 0 < p := by omega
  apply List.ext_getElem
  · simp
  · intro j h1 h2
    have hj : j < C.length := by simpa using h1
    obtain ⟨a1, a2, a3, a4⟩ := in_rows hp hC hj
    rw [List.getElem_set]
    by_cases e : n = j
    · rw [if_pos e]
      have ej : (j : Int) = y * p + x := by rw [← e]; exact hn
      simp only [List.getElem_mapIdx]
      rw [ej, hm.1, hm.2, hP]
      rfl
    · rw [if_neg e]
      simp only [List.getElem_mapIdx]
      rw [he _ _ a1 a2 a3 a4]
      rintro ⟨b1, b2⟩
      have := Int.emod_add_mul_ediv (j : Int) p
      apply e
      have : (n : Int) = (j : Int) := by rw [hn, ← b1, ← b2, Int.mul_comm]; omega
      omega
theorem pntL_none (hn : ∀ a b, P a b = false) : pntL p P f C = C := by
  unfold pntL
  apply List.ext_getElem
  · simp
  · intro j h1 h2
    simp [hn]
theorem pntL_at {n : Nat} (hn : n < C.length) (hx : 0 ≤ x) (hxp : x < p) (e : (n : Int) = y * p + x) : (pntL p P f C)[n]'(by rw [pntL_len]; exact hn) = if P x y then f x y else C[n] := by
  have hm := at_mod (y := y) hx hxp
  unfold pntL
  simp only [List.getElem_mapIdx]
  rw [e, hm.1, hm.2]
theorem pntL_all {Q : Int → Bool} (hC : C.all Q = true) (hf : ∀ a b, P a b = true → Q (f a b) = true) : (pntL p P f C).all Q = true := by
  rw [List.all_eq_true]
  intro v hv
  obtain ⟨j, hj, rfl⟩ := List.getElem_of_mem hv
  have hj' : j < C.length := by rw [pntL_len] at hj; exact hj
  simp only [pntL, List.getElem_mapIdx]
  split
  · exact hf _ _ ‹_›
  · exact List.all_eq_true.1 hC _ (List.getElem_mem hj')
/-- Which points of a rectangle come ahead of this one, row by row. -/
def ahB (x y a b : Int) : Bool := decide (b < y ∨ (b = y ∧ a < x))
end
end Go.Proofs.Ytclfobpmafkgfaa
