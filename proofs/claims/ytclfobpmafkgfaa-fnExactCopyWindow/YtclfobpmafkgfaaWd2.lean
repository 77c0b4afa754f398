/- Windows moved. -/
import Derived.Test.YtclfobpmafkgfaaWd1
namespace Go.Proofs.Ytclfobpmafkgfaa
open Go.RowKit Go.Maps
set_option linter.unusedVariables false

/-- Where a rectangle may begin. -/
def nearB (x y : Int) : Bool := decide (-20 ≤ x ∧ x ≤ 20 ∧ -20 ≤ y ∧ y ≤ 20)
def moveC (x y : Int) (c : Wc) : Wc := ⟨c.i, x, y, c.w, c.h, c.m, c.L⟩
def moveZ (C : List Wc) (id x y : Int) : Int := if askW C id = 0 then (if nearB x y then 0 else 3) else askW C id
def moveP (C : List Wc) (id x y : Int) : List Wc := if moveZ C id x y = 0 then modW id (moveC x y) C else []
theorem moveZ_bad {C : List Wc} {id x y : Int} (h : askW C id ≠ 0) : moveZ C id x y = askW C id := by unfold moveZ; rw [if_neg h]
theorem moveP_bad {C : List Wc} {id x y : Int} (h : askW C id ≠ 0) : moveP C id x y = [] := by unfold moveP; rw [moveZ_bad h, if_neg h]
theorem moveZ_far {C : List Wc} {id x y : Int} (h : askW C id = 0) (hn : nearB x y = false) : moveZ C id x y = 3 := by unfold moveZ; rw [if_pos h, hn]; rfl
theorem moveP_far {C : List Wc} {id x y : Int} (h : askW C id = 0) (hn : nearB x y = false) : moveP C id x y = [] := by unfold moveP; rw [moveZ_far h hn, if_neg (by decide)]
theorem moveZ_yes {C : List Wc} {id x y : Int} (h : askW C id = 0) (hn : nearB x y = true) : moveZ C id x y = 0 := by unfold moveZ; rw [if_pos h, hn]; rfl
theorem moveP_yes {L X Y : List Wn} {r : Wn} {id x y : Int} (h : stF (L.map Wn.ct) = 0) (hf : Fst id L X r Y) (hn : nearB x y = true) : moveP (L.map Wn.ct) id x y = X.map Wn.ct ++ moveC x y r.ct :: Y.map Wn.ct := by
  unfold moveP; rw [moveZ_yes (askW_yes h hf) hn, if_pos rfl, modW_at hf]
theorem near_yes {x y : Int} (h : nearB x y = true) : -20 ≤ x ∧ x ≤ 20 ∧ -20 ≤ y ∧ y ≤ 20 := by unfold nearB at h; simpa using h
theorem near_no {x y : Int} (h : nearB x y = false) : x < -20 ∨ 20 < x ∨ y < -20 ∨ 20 < y := by unfold nearB at h; simp at h; omega
theorem small_move {L : List Wn} (id x y : Int) (h : L.length + wzs L ≤ 1048576) : ∀ N : List Wn, N.map Wn.ct = moveP (L.map Wn.ct) id x y → N.length + wzs N ≤ 1048576 :=
  small_of (L := L) (by
    unfold moveP
    split
    · rw [modW_len, cz_mod (f := moveC x y) (fun c => rfl), cz_wzs, List.length_map]; exact h
    · simp [cz])

end Go.Proofs.Ytclfobpmafkgfaa
