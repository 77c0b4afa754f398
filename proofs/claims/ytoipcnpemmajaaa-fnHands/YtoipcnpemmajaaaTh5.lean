/- Sizes of slices, told by the laws' own functions. -/
import Derived.Test.YtoipcnpemmajaaaTh2
namespace Go.Proofs.Ytoipcnpemmajaaa
open Go.RowKit
set_option linter.unusedVariables false

/-- What is left of a size. -/
def szV (l : Int) (n : Nat) : Int := if (n : Int) ≤ l then l - n else -1
theorem szV_yes {l : Int} {n : Nat} (h : (n : Int) ≤ l) : szV l n = l - n := by unfold szV; rw [if_pos h]
theorem szV_no {l : Int} {n : Nat} (h : l < (n : Int)) : szV l n = -1 := by unfold szV; rw [if_neg (by omega)]

set_option maxHeartbeats 400000 in
theorem szI_any (ao : Option Addr) (n ca : Nat) (l : Int) (w : World) (hn : n ≤ maxLen) (h0 : 0 ≤ l) (h1 : l ≤ 1048576) :
    Calls Try.prog 85 #[.slice ao n ca, .int .i64 l] w fun e w' => e = .returned (.int .i64 (szV l n)) ∧ w' = w := by
  unfold maxLen at hn
  by_cases h : (n : Int) ≤ l
  · rw [szV_yes h]
    go_enter Try.func85, Try.ntmps85
    go_wp2
    go_returns
    exact ⟨rfl, rfl⟩
  · have h' : l < (n : Int) := by omega
    have h2 : (n : Int) ≤ 9223372036854775807 := by omega
    rw [szV_no h']
    go_enter Try.func85, Try.ntmps85
    go_wp2
    go_returns
    exact ⟨rfl, rfl⟩

end Go.Proofs.Ytoipcnpemmajaaa
