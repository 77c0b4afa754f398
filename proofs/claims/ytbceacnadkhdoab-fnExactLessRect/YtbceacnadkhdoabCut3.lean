/- CutRects: the program's, at every two rectangles. -/
import Derived.Test.YtbceacnadkhdoabCut2
namespace Go.Proofs.Ytbceacnadkhdoab
open Go.RowKit
set_option linter.unusedVariables false
attribute [local go_sem high] run_max_mx run_min_mn

theorem lst_two (W : World) (a b : Rc) (n : Nat) (h : n = W.heap.size) :
    Lst (W.alloc (.cells #[.int .i64 a.x, .int .i64 a.y, .int .i64 a.w, .int .i64 a.h, .int .i64 b.x, .int .i64 b.y, .int .i64 b.w, .int .i64 b.h] 28)) n (n + 1) (some ⟨n, 0, none⟩) [a, b] := by
  subst h
  refine .inr ⟨_, 0, rfl, Nat.le_refl _, Nat.lt_succ_self _, fun i hi => ?_⟩
  have : i = 0 ∨ i = 1 := by simp at hi; omega
  rcases this with rfl | rfl
  · exact ⟨by simp [go_sem], by simp [go_sem], by simp [go_sem], by simp [go_sem]⟩
  · exact ⟨by simp [go_sem], by simp [go_sem], by simp [go_sem], by simp [go_sem]⟩
theorem fltL_two (a b : Rc) : fltL [a, b] = (a.flt || b.flt) := by simp [fltL]

end Go.Proofs.Ytbceacnadkhdoab
