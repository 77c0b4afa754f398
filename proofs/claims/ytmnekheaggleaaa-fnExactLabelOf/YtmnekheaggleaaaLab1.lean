/- CodeOf and LabelOf at every argument: the program's answer is the model's. Walks. -/
import Derived.Test.YtmnekheaggleaaaRows
import Derived.WalkKit
import Derived.WalkSpells
import Derived.WalkLawsBesides
import Derived.Handy
namespace Go.Proofs.Ytmnekheaggleaaa
open Go.RowKit

set_option maxHeartbeats 400000 in
theorem labelOf_lo (c : Int) (w : World) (h : c < 0) :
    Calls Try.prog 4 #[.int .i64 c] w fun e w' => e = .returned (.bool true) ∧ Below w.heap.size w w' := by
  go_enter Try.func4, Try.ntmps4
  go_wp2
  go_returns
  exact ⟨rfl, by go_grown⟩

set_option maxHeartbeats 400000 in
theorem labelOf_hi (c : Int) (w : World) (h : 63 < c) :
    Calls Try.prog 4 #[.int .i64 c] w fun e w' => e = .returned (.bool true) ∧ Below w.heap.size w w' := by
  have b1 : decide (c ≤ 63) = false := by simp; omega
  have b2 : (0 ≤ c) := by omega
  go_enter Try.func4, Try.ntmps4
  go_wp2
  go_returns
  exact ⟨rfl, by go_grown⟩

set_option maxHeartbeats 400000 in
theorem labelOf_in (c : Int) (w : World) (h : 0 ≤ c) (h2 : c ≤ 63) :
    Calls Try.prog 4 #[.int .i64 c] w fun e w' => e = .returned (.bool true) ∧ Below w.heap.size w w' := by
  go_enter Try.func4, Try.ntmps4
  go_wp2
  go_returns
  exact ⟨rfl, by go_grown⟩

theorem labelOf_any (c : Int) (w : World) :
    Calls Try.prog 4 #[.int .i64 c] w fun e w' => e = .returned (.bool true) ∧ Below w.heap.size w w' := by
  by_cases h : c < 0
  · exact labelOf_lo c w h
  · by_cases h2 : 63 < c
    · exact labelOf_hi c w h2
    · exact labelOf_in c w (by omega) (by omega)

end Go.Proofs.Ytmnekheaggleaaa
