/- Small functions of the laws over lists of rectangles: how great a list is; whether two numbers' results are the same. -/
import Derived.Test.YtbceacnadkhdoabAr1
namespace Go.Proofs.Ytbceacnadkhdoab
open Go.RowKit
set_option linter.unusedVariables false

set_option maxHeartbeats 400000 in
theorem sz_any (ao : Option Addr) (n ca : Nat) (w : World) (hn : n ≤ maxLen) :
    Calls Try.prog 14 #[.slice ao n ca, .int .i64 1048576] w fun e w' => e = .returned (.int .i64 (if n ≤ 1048576 then 1048576 - (n : Int) else -1)) ∧ w' = w := by
  unfold maxLen at hn
  by_cases h : n ≤ 1048576
  · have h' : (n : Int) ≤ 1048576 := by omega
    rw [if_pos h]
    go_enter Try.func14, Try.ntmps14
    go_wp2
    go_returns
    exact ⟨rfl, rfl⟩
  · have h' : (1048576 : Int) < (n : Int) := by omega
    have h2 : (n : Int) ≤ 9223372036854775807 := by omega
    rw [if_neg h]
    go_enter Try.func14, Try.ntmps14
    go_wp2
    go_returns
    exact ⟨rfl, rfl⟩

set_option maxHeartbeats 400000 in
theorem eqIR_same (c v : Int) (w : World) :
    Calls Try.prog 18 #[.agg #[.int .i64 c, .int .i64 v], .agg #[.int .i64 c, .int .i64 v]] w fun e w' => e = .returned (.bool true) ∧ Below w.heap.size w w' := by
  go_enter Try.func18, Try.ntmps18
  go_wp2
  go_returns
  exact ⟨rfl, by go_grown⟩

end Go.Proofs.Ytbceacnadkhdoab
