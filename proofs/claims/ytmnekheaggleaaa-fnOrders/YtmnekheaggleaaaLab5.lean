/- Dominates, JoinLabels, MeetLabels: the laws' walks at every argument. -/
import Derived.Test.YtmnekheaggleaaaLab4
namespace Go.Proofs.Ytmnekheaggleaaa
open Go.RowKit
set_option linter.unusedVariables false

theorem sd_any (al ap bl bp : Int) (w : World) : Calls Try.prog 13 #[.agg #[.int .i64 al, .int .i64 ap], .agg #[.int .i64 bl, .int .i64 bp]] w fun e w' => e = .returned (.bool (domB al ap bl bp)) ∧ Below w.heap.size w w' := by
  unfold domB
  cases h : fltB al ap
  · cases h2 : fltB bl bp
    · by_cases h3 : bl ≤ al
      · simpa [h3] using sd_4 al ap bl bp w h h2 h3
      · simpa [h3] using sd_3 al ap bl bp w h h2 (by omega)
    · simpa using sd_2 al ap bl bp w h h2
  · simpa using sd_1 al ap bl bp w h
theorem id_any (al ap bl bp : Int) (w : World) : Calls Try.prog 12 #[.agg #[.int .i64 al, .int .i64 ap], .agg #[.int .i64 bl, .int .i64 bp]] w fun e w' => e = .returned (.bool (domB al ap bl bp)) ∧ Below w.heap.size w w' := by
  unfold domB
  cases h : fltB al ap
  · cases h2 : fltB bl bp
    · by_cases h3 : bl ≤ al
      · simpa [h3] using id_4 al ap bl bp w h h2 h3
      · simpa [h3] using id_3 al ap bl bp w h h2 (by omega)
    · simpa using id_2 al ap bl bp w h h2
  · simpa using id_1 al ap bl bp w h

end Go.Proofs.Ytmnekheaggleaaa
