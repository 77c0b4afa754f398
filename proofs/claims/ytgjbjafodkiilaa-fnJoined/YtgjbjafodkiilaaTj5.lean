/- Numbers of chapter 3: how many numbers each kind has, faults, bodies. ArgsOf: the program's, the model's, and the law's walk. -/
import Derived.WalkKit
import Derived.Test.YtgjbjafodkiilaaTj3
namespace Go.Proofs.Ytgjbjafodkiilaa

/-- The code of ArgsOf. -/
def aC (k : Int) : Int := if 1 ≤ k ∧ k ≤ 13 then 0 else 3
/-- How many numbers a kind has. -/
def aN (k : Int) : Nat := if k = 1 then 4 else if k = 6 ∨ k = 9 then 3 else if k = 7 then 6 else if k = 8 then 7 else if k = 10 ∨ k = 11 then 0 else if 1 ≤ k ∧ k ≤ 13 then 1 else 0
/-- How much data it may have. -/
def mD (k : Int) : Nat := if k = 11 then 24 else 0

theorem aC_yes {k : Int} (h1 : 1 ≤ k) (h2 : k ≤ 13) : aC k = 0 := by unfold aC; rw [if_pos ⟨h1, h2⟩]
theorem aC_no {k : Int} (h : k < 1 ∨ 13 < k) : aC k = 3 := by unfold aC; rw [if_neg (by omega)]
theorem aN_no {k : Int} (h : k < 1 ∨ 13 < k) : aN k = 0 := by
  unfold aN
  rw [if_neg (by omega), if_neg (by omega), if_neg (by omega), if_neg (by omega), if_neg (by omega), if_neg (by omega)]
theorem aN_le (k : Int) : aN k ≤ 7 := by unfold aN; split <;> (try split) <;> (try split) <;> (try split) <;> (try split) <;> (try split) <;> omega
theorem mD_le (k : Int) : mD k ≤ 24 := by unfold mD; split <;> omega
theorem mD_clip : mD 11 = 24 := rfl
theorem mD_no {k : Int} (h : k ≠ 11) : mD k = 0 := by unfold mD; rw [if_neg h]
theorem kinds {k : Int} (h1 : 1 ≤ k) (h2 : k ≤ 13) : k = 1 ∨ k = 2 ∨ k = 3 ∨ k = 4 ∨ k = 5 ∨ k = 6 ∨ k = 7 ∨ k = 8 ∨ k = 9 ∨ k = 10 ∨ k = 11 ∨ k = 12 ∨ k = 13 := by omega

/-- Is it a byte? -/
def isB (n : Int) : Bool := decide (0 ≤ n ∧ n ≤ 255)
theorem isB_yes {n : Int} (h : isB n = true) : 0 ≤ n ∧ n ≤ 255 := by simpa [isB] using h
theorem isB_no {n : Int} (h : isB n = false) : n < 0 ∨ 255 < n := by
  have : ¬ (0 ≤ n ∧ n ≤ 255) := by simpa [isB] using h
  omega
/-- The fault of numbers that are not bytes. -/
def aF (A : List Int) : Int := if A.all isB then 0 else 3
theorem aF_yes {A : List Int} (h : A.all isB = true) : aF A = 0 := by unfold aF; rw [if_pos h]
theorem aF_no {A : List Int} (h : A.all isB = false) : aF A = 3 := by unfold aF; rw [h]; rfl
/-- Are there too many, or not as many? -/
def mny (k : Int) (na nd : Nat) : Bool := decide (na ≠ aN k ∨ mD k < nd)
/-- The fault of a request. -/
def rF (k : Int) (A : List Int) (nd : Nat) : Int := if aC k = 0 then (if mny k A.length nd then 2 else if A.all isB then 0 else 3) else 3

theorem rF_none {k : Int} {A : List Int} {nd : Nat} (h : k < 1 ∨ 13 < k) : rF k A nd = 3 := by unfold rF; rw [aC_no h]; rfl
theorem rF_many {k : Int} {A : List Int} {nd : Nat} (h1 : 1 ≤ k) (h2 : k ≤ 13) (h : mny k A.length nd = true) : rF k A nd = 2 := by unfold rF; rw [aC_yes h1 h2, h]; rfl
theorem rF_args {k : Int} {A : List Int} {nd : Nat} (h1 : 1 ≤ k) (h2 : k ≤ 13) (h : mny k A.length nd = false) : rF k A nd = aF A := by unfold rF aF; rw [aC_yes h1 h2, h]; rfl
theorem rF_ok {k : Int} {A : List Int} {nd : Nat} (h : rF k A nd = 0) : (1 ≤ k ∧ k ≤ 13) ∧ A.length = aN k ∧ nd ≤ mD k ∧ A.all isB = true := by
  by_cases hk : 1 ≤ k ∧ k ≤ 13
  · cases hm : mny k A.length nd
    · rw [rF_args hk.1 hk.2 hm] at h
      have hm' : ¬ (A.length ≠ aN k ∨ mD k < nd) := by simpa only [mny, decide_eq_false_iff_not] using hm
      refine ⟨hk, by omega, by omega, ?_⟩
      cases ha : A.all isB
      · rw [aF_no ha] at h; omega
      · rfl
    · rw [rF_many hk.1 hk.2 hm] at h; omega
  · rw [rF_none (by omega)] at h; omega
theorem rF_cases (k : Int) (A : List Int) (nd : Nat) : rF k A nd = 0 ∨ rF k A nd = 2 ∨ rF k A nd = 3 := by
  unfold rF
  split
  · split
    · right; left; rfl
    · split
      · left; rfl
      · right; right; rfl
  · right; right; rfl
theorem all_at {A : List Int} (h : A.all isB = true) (i : Nat) (hi : i < A.length) : 0 ≤ A[i] ∧ A[i] ≤ 255 := isB_yes (List.all_eq_true.1 h A[i] (List.getElem_mem _))
theorem all_hit {A : List Int} {i : Nat} (hi : i < A.length) (h : isB A[i] = false) : A.all isB = false := by
  cases e : A.all isB
  · rfl
  · have := List.all_eq_true.1 e A[i] (List.getElem_mem _); rw [h] at this; cases this
theorem all_none {A : List Int} (h : ∀ i (hi : i < A.length), isB A[i] = true) : A.all isB = true := by
  refine List.all_eq_true.2 fun x hx => ?_
  obtain ⟨i, hi, rfl⟩ := List.mem_iff_getElem.1 hx
  exact h i hi

/-- What stands behind the first byte. -/
def bod (k : Int) (A D : List Int) : List Int := k :: (A ++ D)
theorem bod_len (k : Int) (A D : List Int) : (bod k A D).length = A.length + D.length + 1 := by simp [bod]

/-- What is read out of a body: a code, a kind, numbers, data. -/
def rdC (L : List Int) : Int := match L with
  | [] => 5
  | k :: r => if aC k = 0 ∧ aN k ≤ r.length ∧ r.length - aN k ≤ mD k then 0 else 5
def rdK (L : List Int) : Int := match L with
  | [] => 0
  | k :: r => if rdC (k :: r) = 0 then k else 0
def rdA (L : List Int) : List Int := match L with
  | [] => []
  | k :: r => if rdC (k :: r) = 0 then r.take (aN k) else []
def rdD (L : List Int) : List Int := match L with
  | [] => []
  | k :: r => if rdC (k :: r) = 0 then r.drop (aN k) else []

end Go.Proofs.Ytgjbjafodkiilaa

namespace Go.Proofs.Ytgjbjafodkiilaa
open Go.RowKit
set_option linter.unusedVariables false

set_option maxHeartbeats 2000000 in
theorem iArgs_yes (k : Int) (w : World) (h1 : 1 ≤ k) (h2 : k ≤ 13) :
    Calls Try.prog 28 #[.int .i64 k] w fun e w' => e = .returned (.agg #[.int .i64 0, .int .i64 (aN k)]) ∧ Below w.heap.size w w' := by
  rcases kinds h1 h2 with rfl | rfl | rfl | rfl | rfl | rfl | rfl | rfl | rfl | rfl | rfl | rfl | rfl
  all_goals
    clear h1 h2
    go_enter Try.func28, Try.ntmps28
    go_wp2
    go_returns
    exact ⟨rfl, by go_grown⟩

set_option maxHeartbeats 1000000 in
theorem iArgs_no (k : Int) (w : World) (h : k < 1 ∨ 13 < k) :
    Calls Try.prog 28 #[.int .i64 k] w fun e w' => e = .returned (.agg #[.int .i64 3, .int .i64 0]) ∧ Below w.heap.size w w' := by
  have e1 : (k == 1) = false := by simp; omega
  have e2 : (k == 2) = false := by simp; omega
  have e3 : (k == 3) = false := by simp; omega
  have e4 : (k == 4) = false := by simp; omega
  have e5 : (k == 5) = false := by simp; omega
  have e6 : (k == 6) = false := by simp; omega
  have e7 : (k == 7) = false := by simp; omega
  have e8 : (k == 8) = false := by simp; omega
  have e9 : (k == 9) = false := by simp; omega
  have e10 : (k == 10) = false := by simp; omega
  have e11 : (k == 11) = false := by simp; omega
  have e12 : (k == 12) = false := by simp; omega
  have e13 : (k == 13) = false := by simp; omega
  clear h
  go_enter Try.func28, Try.ntmps28
  go_wp2
  go_returns
  exact ⟨rfl, by go_grown⟩

theorem iArgs_any (k : Int) (w : World) :
    Calls Try.prog 28 #[.int .i64 k] w fun e w' => e = .returned (.agg #[.int .i64 (aC k), .int .i64 (aN k)]) ∧ Below w.heap.size w w' := by
  by_cases h : 1 ≤ k ∧ k ≤ 13
  · rw [aC_yes h.1 h.2]; exact iArgs_yes k w h.1 h.2
  · rw [aC_no (by omega), aN_no (by omega)]; exact iArgs_no k w (by omega)

set_option maxHeartbeats 400000 in
theorem in_yes (n a b : Int) (w : World) (h : a ≤ n) (h2 : n ≤ b) :
    Calls Try.prog 51 #[.int .i64 n, .int .i64 a, .int .i64 b] w fun e w' => e = .returned (.bool true) ∧ w' = w := by
  go_enter Try.func51, Try.ntmps51
  go_wp2
  go_returns
  exact ⟨rfl, rfl⟩

set_option maxHeartbeats 400000 in
theorem in_no (n a b : Int) (w : World) (h : n < a ∨ b < n) :
    Calls Try.prog 51 #[.int .i64 n, .int .i64 a, .int .i64 b] w fun e w' => e = .returned (.bool false) ∧ w' = w := by
  by_cases h1 : a ≤ n
  · have h2 : ¬ n ≤ b := by omega
    clear h
    go_enter Try.func51, Try.ntmps51
    go_wp2
    go_returns
    exact ⟨congrArg (fun b => Ending.returned (.bool b)) (by first | rfl | (simp; omega)), rfl⟩
  · clear h
    go_enter Try.func51, Try.ntmps51
    go_wp2
    go_returns
    exact ⟨congrArg (fun b => Ending.returned (.bool b)) (by first | rfl | (simp; omega)), rfl⟩

set_option maxHeartbeats 400000 in
theorem kind_yes (k : Int) (w : World) (h1 : 1 ≤ k) (h2 : k ≤ 13) :
    Calls Try.prog 40 #[.int .i64 k] w fun e w' => e = .returned (.bool true) ∧ w' = w := by
  go_enter Try.func40, Try.ntmps40
  go_wp2_with (go_at_call 51; refine Calls.mono (in_yes _ _ _ _ (by omega) (by omega)) ?_; rintro e w1 ⟨rfl, rfl⟩)
  go_returns
  exact ⟨rfl, rfl⟩

set_option maxHeartbeats 400000 in
theorem kind_no (k : Int) (w : World) (h : k < 1 ∨ 13 < k) :
    Calls Try.prog 40 #[.int .i64 k] w fun e w' => e = .returned (.bool false) ∧ w' = w := by
  go_enter Try.func40, Try.ntmps40
  go_wp2_with (go_at_call 51; refine Calls.mono (in_no _ _ _ _ (by omega)) ?_; rintro e w1 ⟨rfl, rfl⟩)
  go_returns
  exact ⟨rfl, rfl⟩

set_option maxHeartbeats 2000000 in
theorem sArgN_any (k : Int) (w : World) (h1 : 1 ≤ k) (h2 : k ≤ 13) :
    Calls Try.prog 41 #[.int .i64 k] w fun e w' => e = .returned (.int .i64 (aN k)) ∧ Below w.heap.size w w' := by
  rcases kinds h1 h2 with rfl | rfl | rfl | rfl | rfl | rfl | rfl | rfl | rfl | rfl | rfl | rfl | rfl
  all_goals
    clear h1 h2
    go_enter Try.func41, Try.ntmps41
    go_wp2
    go_returns
    exact ⟨rfl, by go_grown⟩

end Go.Proofs.Ytgjbjafodkiilaa
