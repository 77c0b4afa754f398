/- HasPoint: the model's and the program's, and the law's walk. The topmost window that is mapped and has a point: the specification. TopAt by the specification. -/
import Derived.Test.YtejgcheddloffaaTr8
import Derived.Test.YtejgcheddloffaaTr17
import Derived.Test.YtejgcheddloffaaTr18
namespace Go.Proofs.Ytejgcheddloffaa
open Go.RowKit
set_option linter.unusedVariables false

end Go.Proofs.Ytejgcheddloffaa

namespace Go.Proofs.Ytejgcheddloffaa
open Go.RowKit Go.Maps
set_option linter.unusedVariables false

def hitW (p q : Int) (v : Wn) : Bool := v.m && inB v.x v.y v.w v.h p q
/-- The topmost one that is hit. -/
structure Top (p q : Int) (L A : List Wn) (r : Wn) (B : List Wn) : Prop where
  eq : L = A ++ r :: B
  yes : hitW p q r = true
  no : ∀ v ∈ B, hitW p q v = false
theorem top_or (p q : Int) (L : List Wn) : (∀ v ∈ L, hitW p q v = false) ∨ ∃ A r B, Top p q L A r B := by
  induction L with
  | nil => exact .inl fun v h => by simp at h
  | cons r L ih =>
    rcases ih with h | ⟨A, s, B, h⟩
    · cases hr : hitW p q r
      · refine .inl fun v hv => ?_
        rcases List.mem_cons.1 hv with rfl | hv
        · exact hr
        · exact h v hv
      · exact .inr ⟨[], r, L, rfl, hr, h⟩
    · exact .inr ⟨r :: A, s, B, by rw [h.eq]; rfl, h.yes, h.no⟩
theorem ws_rect {w : World} {lo hi g o : Nat} {A B : List Wn} {r : Wn} (hc : Cl Wn.vals w g o r) : IsRect w g (o + 1) r.x r.y r.w r.h := by
  obtain ⟨a0, a1, a2, a3, a4, a5, a6⟩ := hc.seven
  exact ⟨a1, a2, a3, a4⟩

end Go.Proofs.Ytejgcheddloffaa

namespace Go.Proofs.Ytejgcheddloffaa
open Go.RowKit Go.Maps
set_option linter.unusedVariables false

def hitC (p q : Int) (c : Wc) : Bool := c.m && inB c.x c.y c.w c.h p q
/-- The id of the topmost one that is hit. -/
def topR (p q : Int) : List Wc → Option Int
  | [] => none
  | c :: C => match topR p q C with
    | some i => some i
    | none => if hitC p q c then some c.i else none
theorem topR_none {p q : Int} {L : List Wn} (h : ∀ v ∈ L, hitW p q v = false) : topR p q (L.map Wn.ct) = none := by
  induction L with
  | nil => rfl
  | cons v L ih =>
    have h1 : hitC p q v.ct = false := h v (by simp)
    simp only [List.map_cons, topR, ih fun u hu => h u (by simp [hu]), h1]
    rfl
theorem topR_some {p q : Int} {L A B : List Wn} {r : Wn} (h : Top p q L A r B) : topR p q (L.map Wn.ct) = some r.i := by
  rw [h.eq]
  have hy := h.yes
  have hn := topR_none h.no
  clear h
  induction A with
  | nil =>
    have h1 : hitC p q r.ct = true := hy
    simp only [List.nil_append, List.map_cons, topR, hn, h1, if_true]
    rfl
  | cons v A ih => simp only [List.cons_append, List.map_cons, topR, ih]
def topZ (C : List Wc) (p q : Int) : Int := if stF C = 0 then (if (topR p q C).isSome then 0 else 4) else stF C
def topV (C : List Wc) (p q : Int) : Int := if stF C = 0 then (topR p q C).getD 0 else 0
theorem top_bad {C : List Wc} {p q : Int} (h : ¬ stF C = 0) : topZ C p q = stF C ∧ topV C p q = 0 := by unfold topZ topV; rw [if_neg h, if_neg h]; exact ⟨rfl, rfl⟩
theorem top_none {L : List Wn} {p q : Int} (h : stF (L.map Wn.ct) = 0) (hn : ∀ v ∈ L, hitW p q v = false) : topZ (L.map Wn.ct) p q = 4 ∧ topV (L.map Wn.ct) p q = 0 := by
  unfold topZ topV; rw [if_pos h, if_pos h, topR_none hn]; exact ⟨rfl, rfl⟩
theorem top_some {L A B : List Wn} {r : Wn} {p q : Int} (h : stF (L.map Wn.ct) = 0) (ht : Top p q L A r B) : topZ (L.map Wn.ct) p q = 0 ∧ topV (L.map Wn.ct) p q = r.i := by
  unfold topZ topV; rw [if_pos h, if_pos h, topR_some ht]; exact ⟨rfl, rfl⟩
/-- No window of a right stack has a wrong rectangle. -/
theorem st_rect {L : List Wn} (h : stF (L.map Wn.ct) = 0) : ∀ v ∈ L, rfB v.x v.y v.w v.h = false := by
  intro v hv
  have h1 := wsF_mem (stF_ok h).2 v.ct (List.mem_map_of_mem hv)
  exact (wrB_no (winF_no h1).1).2.2.2.2

end Go.Proofs.Ytejgcheddloffaa
