/- Messages and queues: whether one is a reply; faults, by the program and by the model. -/
import Derived.Test.YtefkngpceeclhaaMs3
import Derived.Test.YtefkngpceeclhaaReqA
namespace Go.Proofs.Ytefkngpceeclhaa
open Go.RowKit
set_option linter.unusedVariables false

def isRep (k : Int) : Bool := decide (1 ≤ k ∧ k ≤ 3)
theorem isRep_yes {k : Int} (h : 1 ≤ k ∧ k ≤ 3) : isRep k = true := by simp [isRep, h]
theorem isRep_no {k : Int} (h : ¬ (1 ≤ k ∧ k ≤ 3)) : isRep k = false := by simp only [isRep, decide_eq_false_iff_not]; exact h

set_option maxHeartbeats 400000 in
theorem iRep_any (k : Int) (w : World) : Calls Try.prog 14 #[.int .i64 k] w fun e w' => e = .returned (.bool (isRep k)) ∧ Below w.heap.size w w' := by
  by_cases h : 1 ≤ k ∧ k ≤ 3
  · rw [isRep_yes h]
    by_cases h1 : k = 1
    · subst h1
      go_enter Try.func14, Try.ntmps14
      go_wp2
      go_returns
      exact ⟨rfl, Below.refl _ _⟩
    · have e1 : (k == 1) = false := by simpa using h1
      by_cases h2 : k = 2
      · subst h2
        go_enter Try.func14, Try.ntmps14
        go_wp2
        go_returns
        exact ⟨rfl, Below.refl _ _⟩
      · obtain rfl : k = 3 := by omega
        go_enter Try.func14, Try.ntmps14
        go_wp2
        go_returns
        exact ⟨rfl, Below.refl _ _⟩
  · rw [isRep_no h]
    have e1 : (k == 1) = false := by simp; omega
    have e2 : (k == 2) = false := by simp; omega
    have e3 : (k == 3) = false := by simp; omega
    clear h
    go_enter Try.func14, Try.ntmps14
    go_wp2
    go_returns
    exact ⟨rfl, Below.refl _ _⟩

set_option maxHeartbeats 400000 in
theorem l6Rep_any (k : Int) (w : World) : Calls Try.prog 48 #[.int .i64 k] w fun e w' => e = .returned (.bool (isRep k)) ∧ Below w.heap.size w w' := by
  by_cases h : 1 ≤ k ∧ k ≤ 3
  · rw [isRep_yes h]
    go_enter Try.func48, Try.ntmps48
    go_wp2_with fail
    refine Calls.mono (in_yes k 1 3 _ h.1 h.2) ?_
    rintro e w1 ⟨rfl, rfl⟩
    go_wp2
    go_returns
    exact ⟨rfl, Below.refl _ _⟩
  · rw [isRep_no h]
    go_enter Try.func48, Try.ntmps48
    go_wp2_with fail
    refine Calls.mono (in_no k 1 3 _ (by omega)) ?_
    rintro e w1 ⟨rfl, rfl⟩
    go_wp2
    go_returns
    exact ⟨rfl, Below.refl _ _⟩

set_option maxHeartbeats 400000 in
theorem sRep_any (k : Int) (w : World) : Calls Try.prog 15 #[.int .i64 k] w fun e w' => e = .returned (.bool (isRep k)) ∧ Below w.heap.size w w' := by
  go_enter Try.func15, Try.ntmps15
  go_wp2_with fail
  refine Calls.mono (l6Rep_any k _) ?_
  rintro e w1 ⟨rfl, k1⟩
  go_wp2
  go_returns
  exact ⟨rfl, k1⟩

set_option maxHeartbeats 400000 in
theorem iMF_any (k : Int) (ao : Option Addr) (ca : Nat) (D : List Int) (w : World) (hl : D.length ≤ 1048576) : Calls Try.prog 50 #[.agg #[.int .i64 k, .slice ao D.length ca]] w fun e w' => e = .returned (.int .i64 (mF (k, D))) ∧ Below w.heap.size w w' := by
  have hl' : (D.length : Int) ≤ 1048576 := by omega
  by_cases h1 : k < 1
  · have hv : mF (k, D) = 3 := by unfold mF; rw [if_pos (.inl h1)]
    rw [hv]
    go_enter Try.func50, Try.ntmps50
    go_wp2
    go_returns
    exact ⟨rfl, by go_grown⟩
  by_cases h2 : 7 < k
  · have hv : mF (k, D) = 3 := by unfold mF; rw [if_pos (.inr h2)]
    rw [hv]
    go_enter Try.func50, Try.ntmps50
    go_wp2
    go_returns
    exact ⟨rfl, by go_grown⟩
  by_cases h3 : 30 < (D.length : Int)
  · have hv : mF (k, D) = 2 := by unfold mF; rw [if_neg (by simp only; omega), if_pos (by simp only; omega)]
    rw [hv]
    go_enter Try.func50, Try.ntmps50
    go_wp2
    go_returns
    exact ⟨rfl, by go_grown⟩
  · have hv : mF (k, D) = 0 := by unfold mF; rw [if_neg (by simp only; omega), if_neg (by simp only; omega)]
    rw [hv]
    go_enter Try.func50, Try.ntmps50
    go_wp2
    go_returns
    exact ⟨rfl, by go_grown⟩

set_option maxHeartbeats 400000 in
theorem sMF_any (g o : Nat) (m : Mg) (w : World) (hc : m.cells w g o) (hl : m.b.L.length ≤ 1048576) : Calls Try.prog 56 #[.pointer (some ⟨g, o, none⟩)] w fun e w' => e = .returned (.int .i64 (mF m.ct)) ∧ Below w.heap.size w w' := by
  obtain ⟨k, ao, cap, gb, D⟩ := m
  simp only at hl
  obtain ⟨c0, c1⟩ := hc
  simp only at c0 c1
  have hg : g < w.heap.size := World.block_lt_of_cell? w _ c0
  have hl' : (D.length : Int) ≤ 1048576 := by omega
  show Calls _ _ _ _ fun e w' => e = .returned (.int .i64 (mF (k, D))) ∧ _
  by_cases h1 : k < 1 ∨ 7 < k
  · have hv : mF (k, D) = 3 := by unfold mF; rw [if_pos h1]
    rw [hv]
    go_enter Try.func56, Try.ntmps56
    go_wp2_with fail
    refine Calls.mono (in_no k 1 7 _ h1) ?_
    rintro e w1 ⟨rfl, rfl⟩
    go_wp2
    go_returns
    exact ⟨rfl, Below.refl _ _⟩
  · by_cases h3 : 30 < (D.length : Int)
    · have hv : mF (k, D) = 2 := by unfold mF; rw [if_neg h1, if_pos (by simp only; omega)]
      rw [hv]
      go_enter Try.func56, Try.ntmps56
      go_wp2_with fail
      refine Calls.mono (in_yes k 1 7 _ (by omega) (by omega)) ?_
      rintro e w1 ⟨rfl, rfl⟩
      go_wp2
      go_returns
      exact ⟨rfl, Below.refl _ _⟩
    · have hv : mF (k, D) = 0 := by unfold mF; rw [if_neg h1, if_neg (by simp only; omega)]
      rw [hv]
      go_enter Try.func56, Try.ntmps56
      go_wp2_with fail
      refine Calls.mono (in_yes k 1 7 _ (by omega) (by omega)) ?_
      rintro e w1 ⟨rfl, rfl⟩
      go_wp2
      go_returns
      exact ⟨rfl, Below.refl _ _⟩
end Go.Proofs.Ytefkngpceeclhaa
