/- CodeOf and LabelOf at every argument: the program's answer is the model's. Walks. -/
import Derived.Test.YtodiekkehbeojagRows
import Derived.WalkKit
import Derived.WalkSpells
import Derived.WalkLawsBesides
import Derived.Handy
namespace Go.Proofs.Ytodiekkehbeojag
open Go.RowKit

set_option maxHeartbeats 400000 in
theorem labelOf_lo (c : Int) (w : World) (h : c < 0) :
    Calls Try.prog 7 #[.int .i64 c] w fun e w' => e = .returned (.bool true) ∧ Below w.heap.size w w' := by
  go_enter Try.func7, Try.ntmps7
  go_wp2
  go_returns
  exact ⟨rfl, by go_grown⟩

set_option maxHeartbeats 400000 in
theorem labelOf_hi (c : Int) (w : World) (h : 63 < c) :
    Calls Try.prog 7 #[.int .i64 c] w fun e w' => e = .returned (.bool true) ∧ Below w.heap.size w w' := by
  have b1 : decide (c ≤ 63) = false := by simp; omega
  have b2 : (0 ≤ c) := by omega
  go_enter Try.func7, Try.ntmps7
  go_wp2
  go_returns
  exact ⟨rfl, by go_grown⟩

set_option maxHeartbeats 400000 in
theorem labelOf_in (c : Int) (w : World) (h : 0 ≤ c) (h2 : c ≤ 63) :
    Calls Try.prog 7 #[.int .i64 c] w fun e w' => e = .returned (.bool true) ∧ Below w.heap.size w w' := by
  go_enter Try.func7, Try.ntmps7
  go_wp2
  go_returns
  exact ⟨rfl, by go_grown⟩

theorem labelOf_any (c : Int) (w : World) :
    Calls Try.prog 7 #[.int .i64 c] w fun e w' => e = .returned (.bool true) ∧ Below w.heap.size w w' := by
  by_cases h : c < 0
  · exact labelOf_lo c w h
  · by_cases h2 : 63 < c
    · exact labelOf_hi c w h2
    · exact labelOf_in c w (by omega) (by omega)

set_option maxHeartbeats 400000 in
theorem codeOf_ok (l p : Int) (w : World) (h1 : 0 ≤ l) (h2 : l ≤ 3) (h3 : 0 ≤ p) (h4 : p ≤ 15) :
    Calls Try.prog 6 #[.agg #[.int .i64 l, .int .i64 p]] w fun e w' => e = .returned (.bool true) ∧ Below w.heap.size w w' := by
  go_enter Try.func6, Try.ntmps6
  go_wp2
  go_returns
  exact ⟨rfl, by go_grown⟩

set_option maxHeartbeats 400000 in
theorem codeOf_no1 (l p : Int) (w : World) (h1 : l < 0) :
    Calls Try.prog 6 #[.agg #[.int .i64 l, .int .i64 p]] w fun e w' => e = .returned (.bool true) ∧ Below w.heap.size w w' := by
  go_enter Try.func6, Try.ntmps6
  go_wp2
  go_returns
  exact ⟨rfl, by go_grown⟩
set_option maxHeartbeats 400000 in
theorem codeOf_no2 (l p : Int) (w : World) (h1 : 3 < l) :
    Calls Try.prog 6 #[.agg #[.int .i64 l, .int .i64 p]] w fun e w' => e = .returned (.bool true) ∧ Below w.heap.size w w' := by
  go_enter Try.func6, Try.ntmps6
  go_wp2
  go_returns
  exact ⟨rfl, by go_grown⟩
set_option maxHeartbeats 400000 in
theorem codeOf_no3 (l p : Int) (w : World) (h1 : 0 ≤ l) (h2 : l ≤ 3) (h3 : p < 0) :
    Calls Try.prog 6 #[.agg #[.int .i64 l, .int .i64 p]] w fun e w' => e = .returned (.bool true) ∧ Below w.heap.size w w' := by
  go_enter Try.func6, Try.ntmps6
  go_wp2
  go_returns
  exact ⟨rfl, by go_grown⟩
set_option maxHeartbeats 400000 in
theorem codeOf_no4 (l p : Int) (w : World) (h1 : 0 ≤ l) (h2 : l ≤ 3) (h3 : 15 < p) :
    Calls Try.prog 6 #[.agg #[.int .i64 l, .int .i64 p]] w fun e w' => e = .returned (.bool true) ∧ Below w.heap.size w w' := by
  have b1 : decide (p ≤ 15) = false := by simp; omega
  have b2 : 0 ≤ p := by omega
  go_enter Try.func6, Try.ntmps6
  go_wp2
  go_returns
  exact ⟨rfl, by go_grown⟩

theorem codeOf_any (l p : Int) (w : World) :
    Calls Try.prog 6 #[.agg #[.int .i64 l, .int .i64 p]] w fun e w' => e = .returned (.bool true) ∧ Below w.heap.size w w' := by
  by_cases h1 : l < 0
  · exact codeOf_no1 l p w h1
  by_cases h2 : 3 < l
  · exact codeOf_no2 l p w h2
  by_cases h3 : p < 0
  · exact codeOf_no3 l p w (by omega) (by omega) h3
  by_cases h4 : 15 < p
  · exact codeOf_no4 l p w (by omega) (by omega) h4
  exact codeOf_ok l p w (by omega) (by omega) (by omega) (by omega)
end Go.Proofs.Ytodiekkehbeojag
