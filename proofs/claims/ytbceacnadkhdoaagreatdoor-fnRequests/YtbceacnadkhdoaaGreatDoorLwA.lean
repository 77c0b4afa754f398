/- What the laws over streams call beside the program: lwBig, lwAt, lwBytes. -/
import Derived.Test.YtbceacnadkhdoaaGreatDoorDraw1
import Derived.Test.YtbceacnadkhdoaaGreatDoorRd0
import Derived.Laws.BytesArg
import Derived.Laws.IdiomStrings
namespace Go.Proofs.YtbceacnadkhdoaaGreatDoor
open Go.RowKit
set_option linter.unusedVariables false

set_option maxHeartbeats 400000 in
theorem bigQ (w : World) (a : Option Addr) (len cap : Nat) (hl : len ≤ maxLen) :
    Calls Tryz.prog 4 #[.slice a len cap] w fun e w' => e = .returned (.bool (decide ((1048576 : Int) < (len : Int)))) ∧ w' = w := by
  go_enter Tryz.func4, Tryz.ntmps4
  go_wp2
  go_returns
  exact ⟨rfl, rfl⟩

theorem conv_rowL {w : World} {lo hi : Nat} {ao : Option Addr} {ca : Nat} {L : List Int} (h : Row .u8 w lo hi ao L) : (convert 22 9 (.slice ao L.length ca)).run Tryz.prog w = .ok (.string (strOfNums L)) w := by
  rcases h with rfl | ⟨g, o, rfl, _, _, hc⟩
  · cases ao with
    | none => exact run_convert_bytes_nil w 22 5 Tryz.underlying22 Tryz.underlying5 _ _ 9 Tryz.underlying9
    | some ad => exact run_convert_bytes_back w 22 9 5 ad ca [] Tryz.underlying22 Tryz.underlying5 Tryz.underlying9 (fun j hj => by simp at hj)
  · exact run_convert_bytes_arg w 22 5 Tryz.underlying22 Tryz.underlying5 g o L.length ca L rfl (fun i hi => by rw [hc i hi]; simp [List.getD, hi]) 9 Tryz.underlying9

set_option maxHeartbeats 400000 in
theorem bytes_same (lo hi lo2 hi2 : Nat) (ao bo : Option Addr) (ca cb : Nat) (L : List Int) (w : World) (ha : Row .u8 w lo hi ao L) (hb : Row .u8 w lo2 hi2 bo L) :
    Calls Tryz.prog 12 #[.slice ao L.length ca, .slice bo L.length cb] w fun e w' => e = .returned (.bool true) ∧ w' = w := by
  have h1 := conv_rowL (ca := ca) ha
  have h2 := conv_rowL (ca := cb) hb
  clear ha hb
  generalize strOfNums L = s at *
  go_enter Tryz.func12, Tryz.ntmps12
  go_wp2
  go_returns
  exact ⟨rfl, rfl⟩

end Go.Proofs.YtbceacnadkhdoaaGreatDoor
