/- CutRects: the program's, at every two rectangles. -/
import Derived.Test.YtmmjannkfmiohaaTs38
namespace Go.Proofs.Ytmmjannkfmiohaa
open Go.RowKit
set_option linter.unusedVariables false
attribute [local go_sem high] run_max_mx run_min_mn

theorem lst_two (W : World) (a b : Rc) (n : Nat) (h : n = W.heap.size) :
    Lst (W.alloc (.cells #[.int .i64 a.x, .int .i64 a.y, .int .i64 a.w, .int .i64 a.h, .int .i64 b.x, .int .i64 b.y, .int .i64 b.w, .int .i64 b.h] 45)) n (n + 1) (some ⟨n, 0, none⟩) [a, b] := by
  subst h
  refine .inr ⟨_, 0, rfl, Nat.le_refl _, Nat.lt_succ_self _, fun i hi => ?_⟩
  have : i = 0 ∨ i = 1 := by simp at hi; omega
  rcases this with rfl | rfl
  · exact ⟨by simp [go_sem], by simp [go_sem], by simp [go_sem], by simp [go_sem]⟩
  · exact ⟨by simp [go_sem], by simp [go_sem], by simp [go_sem], by simp [go_sem]⟩
theorem fltL_two (a b : Rc) : fltL [a, b] = (a.flt || b.flt) := by simp [fltL]

set_option maxHeartbeats 1000000 in
theorem iCut_no (a b : Rc) (w : World) (h : (a.flt || b.flt) = true) :
    Calls Try.prog 47 #[.agg #[.int .i64 a.x, .int .i64 a.y, .int .i64 a.w, .int .i64 a.h], .agg #[.int .i64 b.x, .int .i64 b.y, .int .i64 b.w, .int .i64 b.h]] w fun e w' => ∃ v, e = .returned v ∧ Below w.heap.size w w' ∧ Res 3 [] w v w' := by
  have H := hideP (show rfOf (fltL [a, b]) = 3 by rw [fltL_two, h]; rfl)
  clear h
  go_enter Try.func47, Try.ntmps47
  go_wp2_with fail
  refine Calls.mono (fo_any (w.heap.size + 3) (w.heap.size + 3 + 1) _ 2 [a, b] _ (lst_two _ a b _ (by first | (simp; done) | (simp; omega) | omega)) (by first | (simp; done) | (simp; omega) | omega) (by simp)) ?_
  rintro e w1 ⟨rfl, k1⟩
  rw [H.out]
  replace k1 := Kept.below k1
  have hc1 := Kept.cell k1
  have hf1 := Kept.frozen k1
  have hz1 := k1.size
  try simp only [World.size_alloc] at hz1
  try simp only [World.size_setCell] at hz1
  try simp only [World.size_drew] at hz1
  have hb1_0 : w.heap.size < w1.heap.size ∧ w.heap.size ≤ w1.heap.size ∧ w.heap.size ≤ w1.heap.size + 1 ∧ ¬ w.heap.size = w1.heap.size ∧ ¬ w.heap.size = w1.heap.size + 1 := by omega
  have hb1_1 : w.heap.size + 1 < w1.heap.size ∧ w.heap.size + 1 ≤ w1.heap.size ∧ w.heap.size + 1 ≤ w1.heap.size + 1 ∧ ¬ w.heap.size + 1 = w1.heap.size ∧ ¬ w.heap.size + 1 = w1.heap.size + 1 := by omega
  have hb1_2 : w.heap.size + 2 < w1.heap.size ∧ w.heap.size + 2 ≤ w1.heap.size ∧ w.heap.size + 2 ≤ w1.heap.size + 1 ∧ ¬ w.heap.size + 2 = w1.heap.size ∧ ¬ w.heap.size + 2 = w1.heap.size + 1 := by omega
  go_wp2
  refine bodyPost_ret (v := .agg #[.int .i64 3, .slice none 0 0]) (by simp [results, Try.results47, go_sem, *]; done) rfl ⟨_, rfl, ?_, none, 0, rfl, own_nil _ _⟩
  repeat' (first | (with_reducible exact Below.refl _ _) | (with_reducible refine kept_below ?_ (by assumption) ?_) | (with_reducible refine Below.alloc ?_ ?_ _) | (with_reducible refine Below.drew ?_) | (with_reducible refine Below.setCell ?_ ?_ _) | go_size)

set_option maxHeartbeats 2000000 in
theorem iCut_ok (a b : Rc) (w : World) (h : (a.flt || b.flt) = false) :
    Calls Try.prog 47 #[.agg #[.int .i64 a.x, .int .i64 a.y, .int .i64 a.w, .int .i64 a.h], .agg #[.int .i64 b.x, .int .i64 b.y, .int .i64 b.w, .int .i64 b.h]] w fun e w' => ∃ v, e = .returned v ∧ Below w.heap.size w w' ∧ Res 0 (cutL a b) w v w' := by
  have H := hideP (show rfOf (fltL [a, b]) = 0 by rw [fltL_two, h]; rfl)
  obtain ⟨ha, hb⟩ := rfB_of h
  have B0 := hideP (rfB_no ha)
  have B1 := hideP (rfB_no hb)
  have M1 := hideP (mxI_eq a.x b.x)
  have M2 := hideP (mxI_eq a.y b.y)
  have M3 := hideP (mnI_eq (a.x + a.w) (b.x + b.w))
  have M4 := hideP (mnI_eq (a.y + a.h) (b.y + b.h))
  clear h
  go_enter Try.func47, Try.ntmps47
  go_wp2_with fail
  refine Calls.mono (fo_any (w.heap.size + 3) (w.heap.size + 3 + 1) _ 2 [a, b] _ (lst_two _ a b _ (by first | (simp; done) | (simp; omega) | omega)) (by first | (simp; done) | (simp; omega) | omega) (by simp)) ?_
  rintro e w1 ⟨rfl, k1⟩
  rw [H.out]
  replace k1 := Kept.below k1
  have hc1 := Kept.cell k1
  have hf1 := Kept.frozen k1
  have hz1 := k1.size
  try simp only [World.size_alloc] at hz1
  try simp only [World.size_setCell] at hz1
  try simp only [World.size_drew] at hz1
  have hb1_0 : w.heap.size < w1.heap.size ∧ w.heap.size ≤ w1.heap.size ∧ w.heap.size ≤ w1.heap.size + 1 ∧ ¬ w.heap.size = w1.heap.size ∧ ¬ w.heap.size = w1.heap.size + 1 := by omega
  have hb1_1 : w.heap.size + 1 < w1.heap.size ∧ w.heap.size + 1 ≤ w1.heap.size ∧ w.heap.size + 1 ≤ w1.heap.size + 1 ∧ ¬ w.heap.size + 1 = w1.heap.size ∧ ¬ w.heap.size + 1 = w1.heap.size + 1 := by omega
  have hb1_2 : w.heap.size + 2 < w1.heap.size ∧ w.heap.size + 2 ≤ w1.heap.size ∧ w.heap.size + 2 ≤ w1.heap.size + 1 ∧ ¬ w.heap.size + 2 = w1.heap.size ∧ ¬ w.heap.size + 2 = w1.heap.size + 1 := by omega
  go_wp2
  refine wp_region_kept_tail 20 (by kernel_rfl) (by kernel_rfl) ?_
  simp only [List.take_succ_cons, List.take_zero, List.drop_succ_cons, List.drop_zero]
  repeat (refine kept_step (by rfl) ?_; apply Exists.intro; refine ⟨fun w1 k1 => ?_, fun K hK => ?_⟩; (focus (have hc := Kept.cell k1; go_simp; first | done | rfl | (go_at_call 50; exact kept_call k1 (re_any _ _ _ _ _ (by assumption))) | (go_at_call 49; exact kept_call k1 (le_any _ _ _ _ _ (by assumption))))); (go_simp; refine hK _ ?_; clear hK K))
  refine wpQuiet_nil ?_
  intro w5 k5
  replace k5 := Kept.below k5
  have hc5 := Kept.cell k5
  have hf5 := Kept.frozen k5
  have hz5 := k5.size
  try simp only [World.size_alloc] at hz5
  try simp only [World.size_setCell] at hz5
  try simp only [World.size_drew] at hz5
  have hb5_0 : w.heap.size < w5.heap.size ∧ w.heap.size ≤ w5.heap.size ∧ w.heap.size ≤ w5.heap.size + 1 ∧ ¬ w.heap.size = w5.heap.size ∧ ¬ w.heap.size = w5.heap.size + 1 := by omega
  have hb5_1 : w.heap.size + 1 < w5.heap.size ∧ w.heap.size + 1 ≤ w5.heap.size ∧ w.heap.size + 1 ≤ w5.heap.size + 1 ∧ ¬ w.heap.size + 1 = w5.heap.size ∧ ¬ w.heap.size + 1 = w5.heap.size + 1 := by omega
  have hb5_2 : w.heap.size + 2 < w5.heap.size ∧ w.heap.size + 2 ≤ w5.heap.size ∧ w.heap.size + 2 ≤ w5.heap.size + 1 ∧ ¬ w.heap.size + 2 = w5.heap.size ∧ ¬ w.heap.size + 2 = w5.heap.size + 1 := by omega
  go_wp2_with fail
  refine Calls.mono (iPut_any w5.heap.size none 0 [] (cutL a b) _ _ _ _ _ rfl (own_nil _ _) (Nat.le_refl _) (by simp) (by have := M1.out; have := B0.out; have := B1.out; omega) (by have := M2.out; have := B0.out; have := B1.out; omega) (by have := M3.out; have := B0.out; have := B1.out; omega) (by have := M4.out; have := B0.out; have := B1.out; omega)) ?_
  rintro e w6 ⟨ao, cap, rfl, O1, k6⟩
  have O2 := hideP O1
  clear O1
  replace k6 := Kept.below k6
  have hc6 := Kept.cell k6
  have hf6 := Kept.frozen k6
  have hz6 := k6.size
  try simp only [World.size_alloc] at hz6
  try simp only [World.size_setCell] at hz6
  try simp only [World.size_drew] at hz6
  have hb6_0 : w.heap.size < w6.heap.size ∧ w.heap.size ≤ w6.heap.size ∧ w.heap.size ≤ w6.heap.size + 1 ∧ ¬ w.heap.size = w6.heap.size ∧ ¬ w.heap.size = w6.heap.size + 1 := by omega
  have hb6_1 : w.heap.size + 1 < w6.heap.size ∧ w.heap.size + 1 ≤ w6.heap.size ∧ w.heap.size + 1 ≤ w6.heap.size + 1 ∧ ¬ w.heap.size + 1 = w6.heap.size ∧ ¬ w.heap.size + 1 = w6.heap.size + 1 := by omega
  have hb6_2 : w.heap.size + 2 < w6.heap.size ∧ w.heap.size + 2 ≤ w6.heap.size ∧ w.heap.size + 2 ≤ w6.heap.size + 1 ∧ ¬ w.heap.size + 2 = w6.heap.size ∧ ¬ w.heap.size + 2 = w6.heap.size + 1 := by omega
  go_wp2
  refine bodyPost_ret (v := .agg #[.int .i64 0, .slice ao (cutL a b).length cap]) (by simp [results, Try.results47, go_sem, *]; done) rfl ⟨_, rfl, ?_, ao, cap, rfl, ?_⟩
  · repeat' (first | (with_reducible exact Below.refl _ _) | (with_reducible refine kept_below ?_ (by assumption) ?_) | (with_reducible refine Below.alloc ?_ ?_ _) | (with_reducible refine Below.drew ?_) | (with_reducible refine Below.setCell ?_ ?_ _) | go_size)
  · exact ((O2.out.set _ 0 _ (by omega)).set _ 1 _ (by omega)).base (by omega)

end Go.Proofs.Ytmmjannkfmiohaa
