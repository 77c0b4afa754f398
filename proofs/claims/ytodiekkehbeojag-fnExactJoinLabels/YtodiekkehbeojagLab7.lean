/- JoinLabels, MeetLabels: the laws' walks. -/
import Derived.Test.YtodiekkehbeojagLab6
import Derived.Test.YtodiekkehbeojagGrow
namespace Go.Proofs.Ytodiekkehbeojag
open Go.RowKit
set_option linter.unusedVariables false
attribute [local go_sem] growUpon growAt

set_option maxHeartbeats 400000 in
theorem j_law (al ap bl bp : Int) (w : World) :
    Calls Try.prog 4 #[.agg #[.int .i64 al, .int .i64 ap], .agg #[.int .i64 bl, .int .i64 bp]] w fun e w' => e = .returned (.bool true) ∧ Below w.heap.size w w' := by
  go_enter Try.func4, Try.ntmps4
  go_wp2
  refine wp_region_made 5 (by kernel_rfl) (by kernel_rfl) ?_
  simp only [List.take_succ_cons, List.take_zero, List.drop_succ_cons, List.drop_zero]
  repeat (refine grow_step (by rfl) ?_; apply Exists.intro; refine ⟨fun w1 k1 => ?_, fun K hK => ?_⟩; (focus (have hc := Kept.cell k1; go_simp; first | done | rfl | (go_at_call 9; exact toLabel_any _ _ _) | (go_at_call 11; exact sj_any _ _ _ _ _))); (go_simp; refine hK _ ?_; clear hK K))
  refine grow_nil ?_
  intro o ho
  cases ho
  refine ⟨by rfl, fun w5 k5 => ?_⟩
  replace k5 := Kept.below k5
  have hc5 := Kept.cell k5
  have hf5 := Kept.frozen k5
  have hz5 := k5.size
  try simp only [World.size_alloc] at hz5
  try simp only [World.size_setCell] at hz5
  try simp only [World.size_drew] at hz5
  have hb5_0 : w.heap.size < w5.heap.size ∧ w.heap.size ≤ w5.heap.size ∧ w.heap.size ≤ w5.heap.size + 1 ∧ ¬ w.heap.size = w5.heap.size ∧ ¬ w.heap.size = w5.heap.size + 1 := by omega
  have hb5_1 : w.heap.size + 1 < w5.heap.size ∧ w.heap.size + 1 ≤ w5.heap.size ∧ w.heap.size + 1 ≤ w5.heap.size + 1 ∧ ¬ w.heap.size + 1 = w5.heap.size ∧ ¬ w.heap.size + 1 = w5.heap.size + 1 := by omega
  refine made_alloc (by go_simp; first | rfl | exact ⟨rfl, rfl⟩) ?_
  intro w5m k5m
  replace k5m := Kept.below k5m
  have hc5m := Kept.cell k5m
  have hf5m := Kept.frozen k5m
  have hz5m := k5m.size
  try simp only [World.size_alloc] at hz5m
  try simp only [World.size_setCell] at hz5m
  try simp only [World.size_drew] at hz5m
  have hb5m_0 : w.heap.size < w5m.heap.size ∧ w.heap.size ≤ w5m.heap.size ∧ w.heap.size ≤ w5m.heap.size + 1 ∧ ¬ w.heap.size = w5m.heap.size ∧ ¬ w.heap.size = w5m.heap.size + 1 := by omega
  have hb5m_1 : w.heap.size + 1 < w5m.heap.size ∧ w.heap.size + 1 ≤ w5m.heap.size ∧ w.heap.size + 1 ≤ w5m.heap.size + 1 ∧ ¬ w.heap.size + 1 = w5m.heap.size ∧ ¬ w.heap.size + 1 = w5m.heap.size + 1 := by omega
  have hb5m_2 : w5.heap.size < w5m.heap.size ∧ w5.heap.size ≤ w5m.heap.size ∧ w5.heap.size ≤ w5m.heap.size + 1 ∧ ¬ w5.heap.size = w5m.heap.size ∧ ¬ w5.heap.size = w5m.heap.size + 1 := by omega
  go_simp
  go_wp2
  refine wp_region_made 5 (by kernel_rfl) (by kernel_rfl) ?_
  simp only [List.take_succ_cons, List.take_zero, List.drop_succ_cons, List.drop_zero]
  repeat (refine grow_step (by rfl) ?_; apply Exists.intro; refine ⟨fun w1 k1 => ?_, fun K hK => ?_⟩; (focus (have hc := Kept.cell k1; go_simp; first | done | rfl | (go_at_call 9; exact toLabel_any _ _ _) | (go_at_call 12; exact ij_any _ _ _ _ _))); (go_simp; refine hK _ ?_; clear hK K))
  refine grow_nil ?_
  intro o ho
  cases ho
  refine ⟨by rfl, fun w6 k6 => ?_⟩
  replace k6 := Kept.below k6
  have hc6 := Kept.cell k6
  have hf6 := Kept.frozen k6
  have hz6 := k6.size
  try simp only [World.size_alloc] at hz6
  try simp only [World.size_setCell] at hz6
  try simp only [World.size_drew] at hz6
  have hb6_0 : w.heap.size < w6.heap.size ∧ w.heap.size ≤ w6.heap.size ∧ w.heap.size ≤ w6.heap.size + 1 ∧ ¬ w.heap.size = w6.heap.size ∧ ¬ w.heap.size = w6.heap.size + 1 := by omega
  have hb6_1 : w.heap.size + 1 < w6.heap.size ∧ w.heap.size + 1 ≤ w6.heap.size ∧ w.heap.size + 1 ≤ w6.heap.size + 1 ∧ ¬ w.heap.size + 1 = w6.heap.size ∧ ¬ w.heap.size + 1 = w6.heap.size + 1 := by omega
  have hb6_2 : w5.heap.size < w6.heap.size ∧ w5.heap.size ≤ w6.heap.size ∧ w5.heap.size ≤ w6.heap.size + 1 ∧ ¬ w5.heap.size = w6.heap.size ∧ ¬ w5.heap.size = w6.heap.size + 1 := by omega
  refine made_alloc (by go_simp; first | rfl | exact ⟨rfl, rfl⟩) ?_
  intro w6m k6m
  replace k6m := Kept.below k6m
  have hc6m := Kept.cell k6m
  have hf6m := Kept.frozen k6m
  have hz6m := k6m.size
  try simp only [World.size_alloc] at hz6m
  try simp only [World.size_setCell] at hz6m
  try simp only [World.size_drew] at hz6m
  have hb6m_0 : w.heap.size < w6m.heap.size ∧ w.heap.size ≤ w6m.heap.size ∧ w.heap.size ≤ w6m.heap.size + 1 ∧ ¬ w.heap.size = w6m.heap.size ∧ ¬ w.heap.size = w6m.heap.size + 1 := by omega
  have hb6m_1 : w.heap.size + 1 < w6m.heap.size ∧ w.heap.size + 1 ≤ w6m.heap.size ∧ w.heap.size + 1 ≤ w6m.heap.size + 1 ∧ ¬ w.heap.size + 1 = w6m.heap.size ∧ ¬ w.heap.size + 1 = w6m.heap.size + 1 := by omega
  have hb6m_2 : w5.heap.size < w6m.heap.size ∧ w5.heap.size ≤ w6m.heap.size ∧ w5.heap.size ≤ w6m.heap.size + 1 ∧ ¬ w5.heap.size = w6m.heap.size ∧ ¬ w5.heap.size = w6m.heap.size + 1 := by omega
  have hb6m_3 : w6.heap.size < w6m.heap.size ∧ w6.heap.size ≤ w6m.heap.size ∧ w6.heap.size ≤ w6m.heap.size + 1 ∧ ¬ w6.heap.size = w6m.heap.size ∧ ¬ w6.heap.size = w6m.heap.size + 1 := by omega
  go_simp
  go_wp2_with (first | (go_at_call 13; refine Calls.mono (eqLR_same _ _ _ _) ?_; (all_goals try (first | (with_reducible assumption) | omega)); rintro e w1 ⟨rfl, k1⟩; (try replace k1 := kept_join (by assumption) k1); have hc1 := Kept.cell k1; have hf1 := Kept.frozen k1; have hz1 := k1.size; (try simp only [World.size_alloc] at hz1); (try simp only [World.size_setCell] at hz1); (try simp only [World.size_drew] at hz1); (have hb1_0 : w.heap.size < w1.heap.size ∧ w.heap.size ≤ w1.heap.size ∧ w.heap.size ≤ w1.heap.size + 1 ∧ ¬ w.heap.size = w1.heap.size ∧ ¬ w.heap.size = w1.heap.size + 1 := by omega); (have hb1_1 : w.heap.size + 1 < w1.heap.size ∧ w.heap.size + 1 ≤ w1.heap.size ∧ w.heap.size + 1 ≤ w1.heap.size + 1 ∧ ¬ w.heap.size + 1 = w1.heap.size ∧ ¬ w.heap.size + 1 = w1.heap.size + 1 := by omega); (have hb1_2 : w5.heap.size < w1.heap.size ∧ w5.heap.size ≤ w1.heap.size ∧ w5.heap.size ≤ w1.heap.size + 1 ∧ ¬ w5.heap.size = w1.heap.size ∧ ¬ w5.heap.size = w1.heap.size + 1 := by omega); (have hb1_3 : w6.heap.size < w1.heap.size ∧ w6.heap.size ≤ w1.heap.size ∧ w6.heap.size ≤ w1.heap.size + 1 ∧ ¬ w6.heap.size = w1.heap.size ∧ ¬ w6.heap.size = w1.heap.size + 1 := by omega)))
  go_returns
  refine ⟨rfl, ?_⟩
  repeat' (first | (with_reducible exact Below.refl _ _) | (with_reducible refine kept_below ?_ (by assumption) ?_) | (with_reducible refine Below.alloc ?_ ?_ _) | (with_reducible refine Below.drew ?_) | (with_reducible refine Below.setCell ?_ ?_ _) | go_size)

set_option maxHeartbeats 400000 in
theorem m_law (al ap bl bp : Int) (w : World) :
    Calls Try.prog 5 #[.agg #[.int .i64 al, .int .i64 ap], .agg #[.int .i64 bl, .int .i64 bp]] w fun e w' => e = .returned (.bool true) ∧ Below w.heap.size w w' := by
  go_enter Try.func5, Try.ntmps5
  go_wp2
  refine wp_region_made 5 (by kernel_rfl) (by kernel_rfl) ?_
  simp only [List.take_succ_cons, List.take_zero, List.drop_succ_cons, List.drop_zero]
  repeat (refine grow_step (by rfl) ?_; apply Exists.intro; refine ⟨fun w1 k1 => ?_, fun K hK => ?_⟩; (focus (have hc := Kept.cell k1; go_simp; first | done | rfl | (go_at_call 9; exact toLabel_any _ _ _) | (go_at_call 14; exact sm_any _ _ _ _ _))); (go_simp; refine hK _ ?_; clear hK K))
  refine grow_nil ?_
  intro o ho
  cases ho
  refine ⟨by rfl, fun w5 k5 => ?_⟩
  replace k5 := Kept.below k5
  have hc5 := Kept.cell k5
  have hf5 := Kept.frozen k5
  have hz5 := k5.size
  try simp only [World.size_alloc] at hz5
  try simp only [World.size_setCell] at hz5
  try simp only [World.size_drew] at hz5
  have hb5_0 : w.heap.size < w5.heap.size ∧ w.heap.size ≤ w5.heap.size ∧ w.heap.size ≤ w5.heap.size + 1 ∧ ¬ w.heap.size = w5.heap.size ∧ ¬ w.heap.size = w5.heap.size + 1 := by omega
  have hb5_1 : w.heap.size + 1 < w5.heap.size ∧ w.heap.size + 1 ≤ w5.heap.size ∧ w.heap.size + 1 ≤ w5.heap.size + 1 ∧ ¬ w.heap.size + 1 = w5.heap.size ∧ ¬ w.heap.size + 1 = w5.heap.size + 1 := by omega
  refine made_alloc (by go_simp; first | rfl | exact ⟨rfl, rfl⟩) ?_
  intro w5m k5m
  replace k5m := Kept.below k5m
  have hc5m := Kept.cell k5m
  have hf5m := Kept.frozen k5m
  have hz5m := k5m.size
  try simp only [World.size_alloc] at hz5m
  try simp only [World.size_setCell] at hz5m
  try simp only [World.size_drew] at hz5m
  have hb5m_0 : w.heap.size < w5m.heap.size ∧ w.heap.size ≤ w5m.heap.size ∧ w.heap.size ≤ w5m.heap.size + 1 ∧ ¬ w.heap.size = w5m.heap.size ∧ ¬ w.heap.size = w5m.heap.size + 1 := by omega
  have hb5m_1 : w.heap.size + 1 < w5m.heap.size ∧ w.heap.size + 1 ≤ w5m.heap.size ∧ w.heap.size + 1 ≤ w5m.heap.size + 1 ∧ ¬ w.heap.size + 1 = w5m.heap.size ∧ ¬ w.heap.size + 1 = w5m.heap.size + 1 := by omega
  have hb5m_2 : w5.heap.size < w5m.heap.size ∧ w5.heap.size ≤ w5m.heap.size ∧ w5.heap.size ≤ w5m.heap.size + 1 ∧ ¬ w5.heap.size = w5m.heap.size ∧ ¬ w5.heap.size = w5m.heap.size + 1 := by omega
  go_simp
  go_wp2
  refine wp_region_made 5 (by kernel_rfl) (by kernel_rfl) ?_
  simp only [List.take_succ_cons, List.take_zero, List.drop_succ_cons, List.drop_zero]
  repeat (refine grow_step (by rfl) ?_; apply Exists.intro; refine ⟨fun w1 k1 => ?_, fun K hK => ?_⟩; (focus (have hc := Kept.cell k1; go_simp; first | done | rfl | (go_at_call 9; exact toLabel_any _ _ _) | (go_at_call 15; exact im_any _ _ _ _ _))); (go_simp; refine hK _ ?_; clear hK K))
  refine grow_nil ?_
  intro o ho
  cases ho
  refine ⟨by rfl, fun w6 k6 => ?_⟩
  replace k6 := Kept.below k6
  have hc6 := Kept.cell k6
  have hf6 := Kept.frozen k6
  have hz6 := k6.size
  try simp only [World.size_alloc] at hz6
  try simp only [World.size_setCell] at hz6
  try simp only [World.size_drew] at hz6
  have hb6_0 : w.heap.size < w6.heap.size ∧ w.heap.size ≤ w6.heap.size ∧ w.heap.size ≤ w6.heap.size + 1 ∧ ¬ w.heap.size = w6.heap.size ∧ ¬ w.heap.size = w6.heap.size + 1 := by omega
  have hb6_1 : w.heap.size + 1 < w6.heap.size ∧ w.heap.size + 1 ≤ w6.heap.size ∧ w.heap.size + 1 ≤ w6.heap.size + 1 ∧ ¬ w.heap.size + 1 = w6.heap.size ∧ ¬ w.heap.size + 1 = w6.heap.size + 1 := by omega
  have hb6_2 : w5.heap.size < w6.heap.size ∧ w5.heap.size ≤ w6.heap.size ∧ w5.heap.size ≤ w6.heap.size + 1 ∧ ¬ w5.heap.size = w6.heap.size ∧ ¬ w5.heap.size = w6.heap.size + 1 := by omega
  refine made_alloc (by go_simp; first | rfl | exact ⟨rfl, rfl⟩) ?_
  intro w6m k6m
  replace k6m := Kept.below k6m
  have hc6m := Kept.cell k6m
  have hf6m := Kept.frozen k6m
  have hz6m := k6m.size
  try simp only [World.size_alloc] at hz6m
  try simp only [World.size_setCell] at hz6m
  try simp only [World.size_drew] at hz6m
  have hb6m_0 : w.heap.size < w6m.heap.size ∧ w.heap.size ≤ w6m.heap.size ∧ w.heap.size ≤ w6m.heap.size + 1 ∧ ¬ w.heap.size = w6m.heap.size ∧ ¬ w.heap.size = w6m.heap.size + 1 := by omega
  have hb6m_1 : w.heap.size + 1 < w6m.heap.size ∧ w.heap.size + 1 ≤ w6m.heap.size ∧ w.heap.size + 1 ≤ w6m.heap.size + 1 ∧ ¬ w.heap.size + 1 = w6m.heap.size ∧ ¬ w.heap.size + 1 = w6m.heap.size + 1 := by omega
  have hb6m_2 : w5.heap.size < w6m.heap.size ∧ w5.heap.size ≤ w6m.heap.size ∧ w5.heap.size ≤ w6m.heap.size + 1 ∧ ¬ w5.heap.size = w6m.heap.size ∧ ¬ w5.heap.size = w6m.heap.size + 1 := by omega
  have hb6m_3 : w6.heap.size < w6m.heap.size ∧ w6.heap.size ≤ w6m.heap.size ∧ w6.heap.size ≤ w6m.heap.size + 1 ∧ ¬ w6.heap.size = w6m.heap.size ∧ ¬ w6.heap.size = w6m.heap.size + 1 := by omega
  go_simp
  go_wp2_with (first | (go_at_call 13; refine Calls.mono (eqLR_same _ _ _ _) ?_; (all_goals try (first | (with_reducible assumption) | omega)); rintro e w1 ⟨rfl, k1⟩; (try replace k1 := kept_join (by assumption) k1); have hc1 := Kept.cell k1; have hf1 := Kept.frozen k1; have hz1 := k1.size; (try simp only [World.size_alloc] at hz1); (try simp only [World.size_setCell] at hz1); (try simp only [World.size_drew] at hz1); (have hb1_0 : w.heap.size < w1.heap.size ∧ w.heap.size ≤ w1.heap.size ∧ w.heap.size ≤ w1.heap.size + 1 ∧ ¬ w.heap.size = w1.heap.size ∧ ¬ w.heap.size = w1.heap.size + 1 := by omega); (have hb1_1 : w.heap.size + 1 < w1.heap.size ∧ w.heap.size + 1 ≤ w1.heap.size ∧ w.heap.size + 1 ≤ w1.heap.size + 1 ∧ ¬ w.heap.size + 1 = w1.heap.size ∧ ¬ w.heap.size + 1 = w1.heap.size + 1 := by omega); (have hb1_2 : w5.heap.size < w1.heap.size ∧ w5.heap.size ≤ w1.heap.size ∧ w5.heap.size ≤ w1.heap.size + 1 ∧ ¬ w5.heap.size = w1.heap.size ∧ ¬ w5.heap.size = w1.heap.size + 1 := by omega); (have hb1_3 : w6.heap.size < w1.heap.size ∧ w6.heap.size ≤ w1.heap.size ∧ w6.heap.size ≤ w1.heap.size + 1 ∧ ¬ w6.heap.size = w1.heap.size ∧ ¬ w6.heap.size = w1.heap.size + 1 := by omega)))
  go_returns
  refine ⟨rfl, ?_⟩
  repeat' (first | (with_reducible exact Below.refl _ _) | (with_reducible refine kept_below ?_ (by assumption) ?_) | (with_reducible refine Below.alloc ?_ ?_ _) | (with_reducible refine Below.drew ?_) | (with_reducible refine Below.setCell ?_ ?_ _) | go_size)

end Go.Proofs.Ytodiekkehbeojag
