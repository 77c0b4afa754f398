/- LessRect: the law's walk. -/
import Derived.Test.YtbceacnadkhdoaaCut4
import Derived.Test.YtbceacnadkhdoaaLess2
import Derived.Test.YtbceacnadkhdoaaLess3
import Derived.Deep.Cut
namespace Go.Proofs.Ytbceacnadkhdoaa
open Go.RowKit
set_option linter.unusedVariables false
attribute [local go_sem] growUpon growAt madeUpon madeAt

theorem less_any_i (a b : Rc) (w : World) :
    Calls Try.prog 11 #[.agg #[.int .i64 a.x, .int .i64 a.y, .int .i64 a.w, .int .i64 a.h], .agg #[.int .i64 b.x, .int .i64 b.y, .int .i64 b.w, .int .i64 b.h]] w fun e w' => ∃ v, e = .returned v ∧ Below w.heap.size w w' ∧ Res (rfOf (a.flt || b.flt)) (lessR a b) w v w' := by
  cases h : (a.flt || b.flt)
  · have e : lessR a b = lessL a b := by unfold lessR; rw [h]; rfl
    rw [e]; exact iLess_ok a b w h
  · have e : lessR a b = [] := by unfold lessR; rw [h]; rfl
    rw [e]; exact iLess_no a b w h

theorem lessR_len (a b : Rc) : (lessR a b).length ≤ 4 := by
  unfold lessR
  split
  · simp
  · exact (lessL_len a b).2.2.2

end Go.Proofs.Ytbceacnadkhdoaa
