/- Contracts of chapter 1's small functions, and the walks of Dominates at every argument. -/
import Derived.Test.YtmnekheaggleaaaDoorRows
import Derived.Test.YtmnekheaggleaaaDoorKeep
import Derived.Test.YtmnekheaggleaaaDoorLabMath
import Derived.WalkKit
import Derived.WalkSpells
import Derived.WalkLawsBesides
import Derived.Handy
import Derived.BigQuiet
namespace Go.Proofs.YtmnekheaggleaaaDoor
open Go.RowKit
set_option linter.unusedVariables false

def fltOf (b : Bool) : Int := if b then 3 else 0

set_option maxHeartbeats 400000 in
theorem bitsOf_any (l p : Int) (w : World) (h1 : 0 ≤ p) (h2 : p ≤ 15) :
    Calls Tryd.prog 27 #[.agg #[.int .i64 l, .int .i64 p]] w fun e w' => e = .returned (.int .u8 p) ∧ Below w.heap.size w w' := by
  go_enter Tryd.func27, Tryd.ntmps27
  go_wp2
  go_returns
  exact ⟨rfl, by go_grown⟩

set_option maxHeartbeats 400000 in
theorem lf_ok (l p : Int) (w : World) (h : fltB l p = false) :
    Calls Tryd.prog 15 #[.agg #[.int .i64 l, .int .i64 p]] w fun e w' => e = .returned (.int .i64 0) ∧ Below w.heap.size w w' := by
  obtain ⟨h1, h2, h3, h4⟩ := fltB_no h
  clear h
  go_enter Tryd.func15, Tryd.ntmps15
  go_wp2
  go_returns
  exact ⟨rfl, by go_grown⟩

set_option maxHeartbeats 400000 in
theorem lf_no (l p : Int) (w : World) (h : fltB l p = true) :
    Calls Tryd.prog 15 #[.agg #[.int .i64 l, .int .i64 p]] w fun e w' => e = .returned (.int .i64 3) ∧ Below w.heap.size w w' := by
  rcases fltB_yes h with h | ⟨h1, h2⟩ | ⟨h1, h2, h3⟩ | ⟨h1, h2, h3, h4⟩
  all_goals
    go_enter Tryd.func15, Tryd.ntmps15
    go_wp2
    go_returns
    exact ⟨rfl, by go_grown⟩

set_option maxHeartbeats 400000 in
theorem sf_ok (l p : Int) (w : World) (h : fltB l p = false) :
    Calls Tryd.prog 31 #[.agg #[.int .i64 l, .int .i64 p]] w fun e w' => e = .returned (.int .i64 0) ∧ Below w.heap.size w w' := by
  obtain ⟨h1, h2, h3, h4⟩ := fltB_no h
  clear h
  go_enter Tryd.func31, Tryd.ntmps31
  go_wp2
  go_returns
  exact ⟨rfl, by go_grown⟩

set_option maxHeartbeats 400000 in
theorem sf_no (l p : Int) (w : World) (h : fltB l p = true) :
    Calls Tryd.prog 31 #[.agg #[.int .i64 l, .int .i64 p]] w fun e w' => e = .returned (.int .i64 3) ∧ Below w.heap.size w w' := by
  rcases fltB_yes h with h1 | ⟨h1, h2⟩ | ⟨h1, h2, h3⟩ | ⟨h1, h2, h3, h4⟩
  · clear h
    go_enter Tryd.func31, Tryd.ntmps31
    go_wp2
    go_returns
    exact ⟨rfl, by go_grown⟩
  · have b1 : decide (l ≤ 3) = false := by simp; omega
    clear h
    go_enter Tryd.func31, Tryd.ntmps31
    go_wp2
    go_returns
    exact ⟨rfl, by go_grown⟩
  · clear h
    go_enter Tryd.func31, Tryd.ntmps31
    go_wp2
    go_returns
    exact ⟨rfl, by go_grown⟩
  · have b1 : decide (p ≤ 15) = false := by simp; omega
    clear h
    go_enter Tryd.func31, Tryd.ntmps31
    go_wp2
    go_returns
    exact ⟨rfl, by go_grown⟩

theorem sf_any (l p : Int) (w : World) :
    Calls Tryd.prog 31 #[.agg #[.int .i64 l, .int .i64 p]] w fun e w' => e = .returned (.int .i64 (fltOf (fltB l p))) ∧ Below w.heap.size w w' := by
  cases h : fltB l p
  · exact sf_ok l p w h
  · exact sf_no l p w h

theorem lf_any (l p : Int) (w : World) :
    Calls Tryd.prog 15 #[.agg #[.int .i64 l, .int .i64 p]] w fun e w' => e = .returned (.int .i64 (fltOf (fltB l p))) ∧ Below w.heap.size w w' := by
  cases h : fltB l p
  · exact lf_ok l p w h
  · exact lf_no l p w h

end Go.Proofs.YtmnekheaggleaaaDoor
