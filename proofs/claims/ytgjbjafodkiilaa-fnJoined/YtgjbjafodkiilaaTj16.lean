/- Frames cut out of bytes: the mathematics. -/
import Derived.Handy
namespace Go.Proofs.Ytgjbjafodkiilaa
set_option linter.unusedVariables false

/-- A wrong length. -/
def isW (x : Int) : Bool := x == 0 || decide (25 < x)

/-- The bodies that a stream has, a wrong length as an empty one, and what is left. -/
def cut : List Int → List (List Int) × List Int
  | [] => ([], [])
  | x :: L => if isW x then ([] :: (cut L).1, (cut L).2) else if (L.length : Int) < x then ([], x :: L) else (L.take x.toNat :: (cut (L.drop x.toNat)).1, (cut (L.drop x.toNat)).2)
termination_by L => L.length
decreasing_by all_goals (simp; try omega)

theorem cut_nil : cut [] = ([], []) := by rw [cut]
theorem cut_wrong {x : Int} {L : List Int} (h : isW x = true) : cut (x :: L) = ([] :: (cut L).1, (cut L).2) := by rw [cut, if_pos h]
theorem cut_part {x : Int} {L : List Int} (h : isW x = false) (h1 : (L.length : Int) < x) : cut (x :: L) = ([], x :: L) := by rw [cut, if_neg (by simp [h]), if_pos h1]
theorem cut_whole {x : Int} {L : List Int} (h : isW x = false) (h1 : ¬ (L.length : Int) < x) : cut (x :: L) = (L.take x.toNat :: (cut (L.drop x.toNat)).1, (cut (L.drop x.toNat)).2) := by rw [cut, if_neg (by simp [h]), if_neg h1]

/-- How many wrong lengths there are among bodies. -/
def nW (B : List (List Int)) : Int := ((B.filter (fun b => b.isEmpty)).length : Int)
theorem nW_nil : nW [] = 0 := rfl
theorem nW_snoc_nil (B : List (List Int)) : nW (B ++ [[]]) = nW B + 1 := by simp [nW]
theorem nW_snoc {B : List (List Int)} {b : List Int} (h : b ≠ []) : nW (B ++ [b]) = nW B := by
  have : b.isEmpty = false := by cases b with | nil => exact absurd rfl h | cons _ _ => rfl
  simp [nW, this]
theorem nW_nonneg (B : List (List Int)) : 0 ≤ nW B := by unfold nW; omega
theorem nW_le (B : List (List Int)) : nW B ≤ B.length := by unfold nW; have := List.length_filter_le (fun b : List Int => b.isEmpty) B; omega
theorem nW_app (A B : List (List Int)) : nW (A ++ B) = nW A + nW B := by simp [nW]

/-- M is cut off already, S is still to be cut: all. -/
def Mid (A : List Int) (M : List (List Int)) (S : List Int) : Prop := (cut A).1 = M ++ (cut S).1 ∧ (cut A).2 = (cut S).2
theorem Mid.start (A : List Int) : Mid A [] A := ⟨rfl, rfl⟩
theorem Mid.wrong {A : List Int} {M : List (List Int)} {x : Int} {L : List Int} (h : Mid A M (x :: L)) (hw : isW x = true) : Mid A (M ++ [[]]) L := by
  obtain ⟨h1, h2⟩ := h
  rw [cut_wrong hw] at h1 h2
  exact ⟨by rw [h1]; simp, h2⟩
theorem Mid.whole {A : List Int} {M : List (List Int)} {x : Int} {L : List Int} (h : Mid A M (x :: L)) (hw : isW x = false) (hl : ¬ (L.length : Int) < x) : Mid A (M ++ [L.take x.toNat]) (L.drop x.toNat) := by
  obtain ⟨h1, h2⟩ := h
  rw [cut_whole hw hl] at h1 h2
  exact ⟨by rw [h1]; simp, h2⟩
theorem Mid.part {A : List Int} {M : List (List Int)} {x : Int} {L : List Int} (h : Mid A M (x :: L)) (hw : isW x = false) (hl : (L.length : Int) < x) : cut A = (M, x :: L) := by
  obtain ⟨h1, h2⟩ := h
  rw [cut_part hw hl] at h1 h2
  exact Prod.ext (by simpa using h1) h2
theorem Mid.done {A : List Int} {M : List (List Int)} (h : Mid A M []) : cut A = (M, []) := by
  obtain ⟨h1, h2⟩ := h
  rw [cut_nil] at h1 h2
  exact Prod.ext (by simpa using h1) h2

/-- What is not right with a rest. -/
def rsF : List Int → Int
  | [] => 0
  | x :: L => if 25 < L.length + 1 then 2 else if isW x || decide (x < (L.length : Int) + 1) then 1 else 0
theorem rsF_nil : rsF [] = 0 := rfl
theorem rsF_many {L : List Int} (h : 25 < L.length) : rsF L = 2 := by
  cases L with
  | nil => simp at h
  | cons x L => exact if_pos (by simpa using h)
theorem rsF_cons {x : Int} {L : List Int} (h : ¬ 25 < L.length + 1) : rsF (x :: L) = if isW x || decide (x < (L.length : Int) + 1) then 1 else 0 := if_neg h
theorem rsF_len {L : List Int} (h : rsF L = 0) : L.length ≤ 25 := by
  by_cases hl : 25 < L.length
  · rw [rsF_many hl] at h; omega
  · omega
/-- A rest that is right is all left. -/
theorem rsF_cut {L : List Int} (h : rsF L = 0) : cut L = ([], L) := by
  cases L with
  | nil => exact cut_nil
  | cons x L =>
    have hl := rsF_len h
    rw [rsF_cons (by simpa using hl)] at h
    by_cases hw : (isW x || decide (x < (L.length : Int) + 1)) = true
    · rw [if_pos hw] at h; omega
    · simp only [Bool.or_eq_true, decide_eq_true_eq, not_or] at hw
      exact cut_part (by simpa using hw.1) (by omega)
/-- What is left is a right rest. -/
theorem cut_rest (n : Nat) : ∀ L : List Int, L.length ≤ n → rsF (cut L).2 = 0 := by
  induction n with
  | zero =>
    intro L hl
    obtain rfl : L = [] := by simpa using hl
    rw [cut_nil]; rfl
  | succ n ih =>
    intro L hl
    cases L with
    | nil => rw [cut_nil]; rfl
    | cons x L =>
      simp only [List.length_cons] at hl
      cases hw : isW x with
      | true => rw [cut_wrong hw]; exact ih L (by omega)
      | false =>
        by_cases hp : (L.length : Int) < x
        · rw [cut_part hw hp]
          have hx : x ≤ 25 := by simp [isW] at hw; omega
          rw [rsF_cons (by omega), if_neg (by simp [hw]; omega)]
        · rw [cut_whole hw hp]
          exact ih _ (by simp; omega)
theorem cut_app (n : Nat) : ∀ A B : List Int, A.length ≤ n → (cut (A ++ B)).1 = (cut A).1 ++ (cut ((cut A).2 ++ B)).1 ∧ (cut (A ++ B)).2 = (cut ((cut A).2 ++ B)).2 := by
  induction n with
  | zero =>
    intro A B hl
    obtain rfl : A = [] := by simpa using hl
    rw [cut_nil]; simp
  | succ n ih =>
    intro A B hl
    cases A with
    | nil => rw [cut_nil]; simp
    | cons x L =>
      simp only [List.length_cons] at hl
      cases hw : isW x with
      | true =>
        obtain ⟨h1, h2⟩ := ih L B (by omega)
        rw [List.cons_append, cut_wrong hw, cut_wrong hw]
        simp only
        rw [h1, h2]
        exact ⟨by simp, rfl⟩
      | false =>
        by_cases hp : (L.length : Int) < x
        · rw [cut_part hw hp]; simp
        · obtain ⟨h1, h2⟩ := ih (L.drop x.toNat) B (by simp; omega)
          rw [List.cons_append, cut_whole (L := L ++ B) hw (by simp; omega), cut_whole hw hp]
          have e1 : (L ++ B).take x.toNat = L.take x.toNat := by rw [List.take_append_of_le_length (by omega)]
          have e2 : (L ++ B).drop x.toNat = L.drop x.toNat ++ B := by rw [List.drop_append_of_le_length (by omega)]
          rw [e1, e2]
          simp only
          rw [h1, h2]
          exact ⟨by simp, rfl⟩
theorem cut_len (n : Nat) : ∀ L : List Int, L.length ≤ n → (cut L).1.length ≤ L.length ∧ (cut L).2.length ≤ L.length := by
  induction n with
  | zero =>
    intro L hl
    obtain rfl : L = [] := by simpa using hl
    rw [cut_nil]; simp
  | succ n ih =>
    intro L hl
    cases L with
    | nil => rw [cut_nil]; simp
    | cons x L =>
      simp only [List.length_cons] at hl
      cases hw : isW x with
      | true =>
        have := ih L (by omega)
        rw [cut_wrong hw]; simp; omega
      | false =>
        by_cases hp : (L.length : Int) < x
        · rw [cut_part hw hp]; simp
        · have := ih (L.drop x.toNat) (by simp; omega)
          simp at this
          rw [cut_whole hw hp]; simp; omega

end Go.Proofs.Ytgjbjafodkiilaa
