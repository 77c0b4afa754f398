/- Dominates, JoinLabels, MeetLabels: the laws' walks at every argument. -/
import Derived.Test.YtodiekkehbeojagLab4
namespace Go.Proofs.Ytodiekkehbeojag
open Go.RowKit
set_option linter.unusedVariables false

theorem sd_any (al ap bl bp : Int) (w : World) : Calls Try.prog 8 #[.agg #[.int .i64 al, .int .i64 ap], .agg #[.int .i64 bl, .int .i64 bp]] w fun e w' => e = .returned (.bool (domB al ap bl bp)) ∧ Below w.heap.size w w' := by
  unfold domB
  cases h : fltB al ap
  · cases h2 : fltB bl bp
    · by_cases h3 : bl ≤ al
      · simpa [h3] using sd_4 al ap bl bp w h h2 h3
      · simpa [h3] using sd_3 al ap bl bp w h h2 (by omega)
    · simpa using sd_2 al ap bl bp w h h2
  · simpa using sd_1 al ap bl bp w h
theorem id_any (al ap bl bp : Int) (w : World) : Calls Try.prog 10 #[.agg #[.int .i64 al, .int .i64 ap], .agg #[.int .i64 bl, .int .i64 bp]] w fun e w' => e = .returned (.bool (domB al ap bl bp)) ∧ Below w.heap.size w w' := by
  unfold domB
  cases h : fltB al ap
  · cases h2 : fltB bl bp
    · by_cases h3 : bl ≤ al
      · simpa [h3] using id_4 al ap bl bp w h h2 h3
      · simpa [h3] using id_3 al ap bl bp w h h2 (by omega)
    · simpa using id_2 al ap bl bp w h h2
  · simpa using id_1 al ap bl bp w h

set_option maxHeartbeats 400000 in
theorem dom_law (al ap bl bp : Int) (w : World)  :
    Calls Try.prog 3 #[.agg #[.int .i64 al, .int .i64 ap], .agg #[.int .i64 bl, .int .i64 bp]] w fun e w' => e = .returned (.bool true) ∧ Below w.heap.size w w' := by
  go_enter Try.func3, Try.ntmps3
  go_wp2
  refine wp_region_kept (by kernel_rfl) (by kernel_rfl) ?_
  repeat (refine kept_step (by rfl) ?_; apply Exists.intro; refine ⟨fun w1 k1 => ?_, fun K hK => ?_⟩; (focus (have hc := Kept.cell k1; go_simp; first | done | rfl | (go_at_call 9; exact kept_call k1 (toLabel_any _ _ _)) | (go_at_call 8; exact kept_call k1 (sd_any _ _ _ _ _)))); (go_simp; refine hK _ ?_; clear hK K))
  refine wpQuiet_nil ?_
  intro w5 k5
  replace k5 := Kept.below k5
  have hc5 := Kept.cell k5
  have hf5 := Kept.frozen k5
  have hz5 := k5.size
  try simp only [World.size_alloc] at hz5
  try simp only [World.size_setCell] at hz5
  try simp only [World.size_drew] at hz5
  try (first | have hs5 := sz12 hz5 | have hs5 := sz11 hz5 | have hs5 := sz10 hz5 | have hs5 := sz9 hz5 | have hs5 := sz8 hz5 | have hs5 := sz7 hz5 | have hs5 := sz6 hz5 | have hs5 := sz5 hz5 | have hs5 := sz4 hz5 | have hs5 := sz3 hz5 | have hs5 := sz2 hz5 | have hs5 := sz1 hz5)
  go_wp2
  refine wp_region_kept (by kernel_rfl) (by kernel_rfl) ?_
  repeat (refine kept_step (by rfl) ?_; apply Exists.intro; refine ⟨fun w1 k1 => ?_, fun K hK => ?_⟩; (focus (have hc := Kept.cell k1; go_simp; first | done | rfl | (go_at_call 9; exact kept_call k1 (toLabel_any _ _ _)) | (go_at_call 10; exact kept_call k1 (id_any _ _ _ _ _)))); (go_simp; refine hK _ ?_; clear hK K))
  refine wpQuiet_nil ?_
  intro w6 k6
  replace k6 := Kept.below k6
  have hc6 := Kept.cell k6
  have hf6 := Kept.frozen k6
  have hz6 := k6.size
  try simp only [World.size_alloc] at hz6
  try simp only [World.size_setCell] at hz6
  try simp only [World.size_drew] at hz6
  try (first | have hs6 := sz12 hz6 | have hs6 := sz11 hz6 | have hs6 := sz10 hz6 | have hs6 := sz9 hz6 | have hs6 := sz8 hz6 | have hs6 := sz7 hz6 | have hs6 := sz6 hz6 | have hs6 := sz5 hz6 | have hs6 := sz4 hz6 | have hs6 := sz3 hz6 | have hs6 := sz2 hz6 | have hs6 := sz1 hz6)
  go_wp2
  go_returns
  refine ⟨?_, ?_⟩
  · rfl
  repeat' (first | (with_reducible exact Below.refl _ _) | (with_reducible refine kept_below ?_ (by assumption) ?_) | (with_reducible refine Below.alloc ?_ ?_ _) | (with_reducible refine Below.drew ?_) | (with_reducible refine Below.setCell ?_ ?_ _) | go_size)

end Go.Proofs.Ytodiekkehbeojag
