/- ArgsOf: the program's, the model's, and the law's walk. Messages and queues: whether one is a reply; faults, by the program and by the model. -/
import Derived.Test.YtngmiimendlleaaV3
import Derived.Test.YtngmiimendlleaaV27
import Derived.Test.YtngmiimendlleaaV23
namespace Go.Proofs.Ytngmiimendlleaa
open Go.RowKit
set_option linter.unusedVariables false

set_option maxHeartbeats 400000 in
theorem in_yes (n a b : Int) (w : World) (h : a ≤ n) (h2 : n ≤ b) :
    Calls Try.prog 15 #[.int .i64 n, .int .i64 a, .int .i64 b] w fun e w' => e = .returned (.bool true) ∧ w' = w := by
  go_enter Try.func15, Try.ntmps15
  go_wp2
  go_returns
  exact ⟨rfl, rfl⟩

set_option maxHeartbeats 400000 in
theorem in_no (n a b : Int) (w : World) (h : n < a ∨ b < n) :
    Calls Try.prog 15 #[.int .i64 n, .int .i64 a, .int .i64 b] w fun e w' => e = .returned (.bool false) ∧ w' = w := by
  by_cases h1 : a ≤ n
  · have h2 : ¬ n ≤ b := by omega
    clear h
    go_enter Try.func15, Try.ntmps15
    go_wp2
    go_returns
    exact ⟨congrArg (fun b => Ending.returned (.bool b)) (by first | rfl | (simp; omega)), rfl⟩
  · clear h
    go_enter Try.func15, Try.ntmps15
    go_wp2
    go_returns
    exact ⟨congrArg (fun b => Ending.returned (.bool b)) (by first | rfl | (simp; omega)), rfl⟩

end Go.Proofs.Ytngmiimendlleaa

namespace Go.Proofs.Ytngmiimendlleaa
open Go.RowKit
set_option linter.unusedVariables false

def isRep (k : Int) : Bool := decide (1 ≤ k ∧ k ≤ 3)
theorem isRep_yes {k : Int} (h : 1 ≤ k ∧ k ≤ 3) : isRep k = true := by simp [isRep, h]
theorem isRep_no {k : Int} (h : ¬ (1 ≤ k ∧ k ≤ 3)) : isRep k = false := by simp only [isRep, decide_eq_false_iff_not]; exact h

set_option maxHeartbeats 400000 in
theorem iMF_any (k : Int) (ao : Option Addr) (ca : Nat) (D : List Int) (w : World) (hl : D.length ≤ 1048576) : Calls Try.prog 32 #[.agg #[.int .i64 k, .slice ao D.length ca]] w fun e w' => e = .returned (.int .i64 (mF (k, D))) ∧ Below w.heap.size w w' := by
  have hl' : (D.length : Int) ≤ 1048576 := by omega
  by_cases h1 : k < 1
  · have hv : mF (k, D) = 3 := by unfold mF; rw [if_pos (.inl h1)]
    rw [hv]
    go_enter Try.func32, Try.ntmps32
    go_wp2
    go_returns
    exact ⟨rfl, by go_grown⟩
  by_cases h2 : 7 < k
  · have hv : mF (k, D) = 3 := by unfold mF; rw [if_pos (.inr h2)]
    rw [hv]
    go_enter Try.func32, Try.ntmps32
    go_wp2
    go_returns
    exact ⟨rfl, by go_grown⟩
  by_cases h3 : 30 < (D.length : Int)
  · have hv : mF (k, D) = 2 := by unfold mF; rw [if_neg (by simp only; omega), if_pos (by simp only; omega)]
    rw [hv]
    go_enter Try.func32, Try.ntmps32
    go_wp2
    go_returns
    exact ⟨rfl, by go_grown⟩
  · have hv : mF (k, D) = 0 := by unfold mF; rw [if_neg (by simp only; omega), if_neg (by simp only; omega)]
    rw [hv]
    go_enter Try.func32, Try.ntmps32
    go_wp2
    go_returns
    exact ⟨rfl, by go_grown⟩

set_option maxHeartbeats 400000 in
theorem sMF_any (g o : Nat) (m : Mg) (w : World) (hc : m.cells w g o) (hl : m.b.L.length ≤ 1048576) : Calls Try.prog 28 #[.pointer (some ⟨g, o, none⟩)] w fun e w' => e = .returned (.int .i64 (mF m.ct)) ∧ Below w.heap.size w w' := by
  obtain ⟨k, ao, cap, gb, D⟩ := m
  simp only at hl
  obtain ⟨c0, c1⟩ := hc
  simp only at c0 c1
  have hg : g < w.heap.size := World.block_lt_of_cell? w _ c0
  have hl' : (D.length : Int) ≤ 1048576 := by omega
  show Calls _ _ _ _ fun e w' => e = .returned (.int .i64 (mF (k, D))) ∧ _
  by_cases h1 : k < 1 ∨ 7 < k
  · have hv : mF (k, D) = 3 := by unfold mF; rw [if_pos h1]
    rw [hv]
    go_enter Try.func28, Try.ntmps28
    go_wp2_with fail
    refine Calls.mono (in_no k 1 7 _ h1) ?_
    rintro e w1 ⟨rfl, rfl⟩
    go_wp2
    go_returns
    exact ⟨rfl, Below.refl _ _⟩
  · by_cases h3 : 30 < (D.length : Int)
    · have hv : mF (k, D) = 2 := by unfold mF; rw [if_neg h1, if_pos (by simp only; omega)]
      rw [hv]
      go_enter Try.func28, Try.ntmps28
      go_wp2_with fail
      refine Calls.mono (in_yes k 1 7 _ (by omega) (by omega)) ?_
      rintro e w1 ⟨rfl, rfl⟩
      go_wp2
      go_returns
      exact ⟨rfl, Below.refl _ _⟩
    · have hv : mF (k, D) = 0 := by unfold mF; rw [if_neg h1, if_neg (by simp only; omega)]
      rw [hv]
      go_enter Try.func28, Try.ntmps28
      go_wp2_with fail
      refine Calls.mono (in_yes k 1 7 _ (by omega) (by omega)) ?_
      rintro e w1 ⟨rfl, rfl⟩
      go_wp2
      go_returns
      exact ⟨rfl, Below.refl _ _⟩
end Go.Proofs.Ytngmiimendlleaa
