/- How many of what both have and what one has alone hold a point: one where that one has it, else none. -/
import Derived.Test.YtbceacnadkhdoaaLess1
namespace Go.Proofs.Ytbceacnadkhdoaa
set_option linter.unusedVariables false

def ind (x y r b p q : Int) : Int := if x ≤ p ∧ p < r ∧ y ≤ q ∧ q < b then 1 else 0
def cntL : List Rc → Int → Int → Int
  | [], _, _ => 0
  | r :: L, p, q => (if inB r.x r.y r.w r.h p q then 1 else 0) + cntL L p q
theorem cntL_app (L M : List Rc) (p q : Int) : cntL (L ++ M) p q = cntL L p q + cntL M p q := by
  induction L with
  | nil => simp [cntL]
  | cons r L ih => simp only [List.cons_append, cntL, ih]; omega
theorem cntL_take (L : List Rc) (p q : Int) (k : Nat) (h : k < L.length) : cntL (L.take (k + 1)) p q = cntL (L.take k) p q + (if inB L[k].x L[k].y L[k].w L[k].h p q then 1 else 0) := by
  rw [List.take_succ_eq_append_getElem h, cntL_app]
  simp [cntL]
theorem cntL_bd (L : List Rc) (p q : Int) : 0 ≤ cntL L p q ∧ cntL L p q ≤ L.length := by
  induction L with
  | nil => simp [cntL]
  | cons r L ih => simp only [cntL, List.length_cons]; split <;> omega
theorem cnt_put (L : List Rc) (x y r b p q : Int) : cntL (putR L x y r b) p q = cntL L p q + ind x y r b p q := by
  unfold putR ind
  split
  · rename_i h
    rw [if_neg (by omega)]; omega
  · rename_i h
    rw [cntL_app]
    simp only [cntL, inB, decide_eq_true_eq]
    (repeat' split) <;> omega

theorem lt_mn (a b p : Int) : p < mnI a b ↔ p < a ∧ p < b := by have := mnI_eq a b; omega
theorem mx_le (a b p : Int) : mxI a b ≤ p ↔ a ≤ p ∧ b ≤ p := by have := mxI_eq a b; omega

theorem cnt_all (a b : Rc) (h : (a.flt || b.flt) = false) (p q : Int) : cntL (cutL a b ++ lessL a b) p q = if inB a.x a.y a.w a.h p q then 1 else 0 := by
  obtain ⟨ha, hb⟩ := rfB_of h
  obtain ⟨h1, h2, h3, h4⟩ := rfB_no ha
  obtain ⟨g1, g2, g3, g4⟩ := rfB_no hb
  rw [← less_eq a b h, cntL_app]
  unfold cutL lessI lessI3 lessI2 lessI1
  rw [cnt_put, cnt_put, cnt_put, cnt_put, cnt_put]
  simp only [ind, lt_mn, mx_le, cntL, inB, decide_eq_true_eq]
  by_cases e : a.x ≤ p ∧ p < a.x + a.w ∧ a.y ≤ q ∧ q < a.y + a.h
  · rw [if_pos e]
    obtain ⟨e1, e2, e3, e4⟩ := e
    by_cases c1 : b.y ≤ q
    · by_cases c2 : q < b.y + b.h
      · by_cases c3 : b.x ≤ p
        · by_cases c4 : p < b.x + b.w
          all_goals (repeat' split) <;> omega
        · (repeat' split) <;> omega
      · (repeat' split) <;> omega
    · (repeat' split) <;> omega
  · rw [if_neg e]
    (repeat' split) <;> omega

theorem cut_in (a b r : Rc) (h : (a.flt || b.flt) = false) (hc : cutL a b = [r]) (p q : Int) : inB r.x r.y r.w r.h p q = (inB a.x a.y a.w a.h p q && inB b.x b.y b.w b.h p q) := by
  unfold cutL putR at hc
  split at hc
  · cases hc
  · rename_i hn
    simp only [List.nil_append, List.cons.injEq, and_true] at hc
    subst hc
    simp only [inB]
    rw [Bool.eq_iff_iff]
    have e1 := mxI_eq a.x b.x
    have e2 := mxI_eq a.y b.y
    have e3 := mnI_eq (a.x + a.w) (b.x + b.w)
    have e4 := mnI_eq (a.y + a.h) (b.y + b.h)
    simp
    omega

theorem cutL_len (a b : Rc) : (cutL a b).length ≤ 1 := putR_len _ _ _ _ _

end Go.Proofs.Ytbceacnadkhdoaa
