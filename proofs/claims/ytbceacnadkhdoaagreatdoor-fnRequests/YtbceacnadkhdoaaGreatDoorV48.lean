/- FnRequests: the law. -/
import Derived.Test.YtbceacnadkhdoaaGreatDoorV47
namespace Go.Proofs.YtbceacnadkhdoaaGreatDoor
open Go.RowKit

theorem requests_law (a : Option Addr) (len cap : Nat) (zs : List Int) (w : World) (hr : IsRow .u8 w a len cap zs) (E : Env w) :
    Calls Tryz.prog 3 #[.slice a len cap] w fun e w' => e = .returned (.bool true) ∧ Below w.heap.size w w' := by
  have hlm : len ≤ maxLen := by
    rcases hr with ⟨_, rfl, _⟩ | ⟨_, _, h1, h2, _⟩
    · exact Nat.zero_le _
    · omega
  by_cases h : len ≤ 1048576
  · exact requests_small a len cap _ w hr.bytes hlm h E
  · exact requests_big a len cap w hlm (by omega)
end Go.Proofs.YtbceacnadkhdoaaGreatDoor
