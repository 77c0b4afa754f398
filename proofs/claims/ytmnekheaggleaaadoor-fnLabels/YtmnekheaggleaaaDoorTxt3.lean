/- FnExactLabelText: the walk at every label. -/
import Derived.Test.YtmnekheaggleaaaDoorTxt2
namespace Go.Proofs.YtmnekheaggleaaaDoor
open Go.RowKit
set_option linter.unusedVariables false

set_option maxHeartbeats 1000000 in
theorem sText_no (l p : Int) (w : World) (h : fltB l p = true) :
    Calls Tryd.prog 14 #[.agg #[.int .i64 l, .int .i64 p]] w fun e w' => e = .returned (.agg #[.int .i64 3, .string ByteArray.empty]) ∧ Below w.heap.size w w' := by
  go_enter Tryd.func14, Tryd.ntmps14
  go_wp2_with (first | (go_at_call 31; refine Calls.mono (sf_no _ _ _ ?_) ?_; (all_goals try (first | (with_reducible assumption) | omega)); rintro e w1 ⟨rfl, k1⟩; (try replace k1 := kept_join (by assumption) k1); have hc1 := Kept.cell k1; have hf1 := Kept.frozen k1; have hz1 := k1.size; (try simp only [World.size_alloc] at hz1); (try simp only [World.size_setCell] at hz1); (try simp only [World.size_drew] at hz1); (try (first | have hs1 := sz12 hz1 | have hs1 := sz11 hz1 | have hs1 := sz10 hz1 | have hs1 := sz9 hz1 | have hs1 := sz8 hz1 | have hs1 := sz7 hz1 | have hs1 := sz6 hz1 | have hs1 := sz5 hz1 | have hs1 := sz4 hz1 | have hs1 := sz3 hz1 | have hs1 := sz2 hz1 | have hs1 := sz1 hz1))))
  refine bodyPost_ret (v := .agg #[.int .i64 3, .string ByteArray.empty]) (by simp [results, Tryd.results14, go_sem, *]; rfl) rfl ⟨rfl, ?_⟩
  repeat' (first | (with_reducible exact Below.refl _ _) | (with_reducible refine kept_below ?_ (by assumption) ?_) | (with_reducible refine Below.alloc ?_ ?_ _) | (with_reducible refine Below.drew ?_) | (with_reducible refine Below.setCell ?_ ?_ _) | go_size)

set_option maxHeartbeats 1000000 in
theorem sText_ok (l p : Int) (w : World) (h : fltB l p = false) :
    Calls Tryd.prog 14 #[.agg #[.int .i64 l, .int .i64 p]] w fun e w' => e = .returned (.agg #[.int .i64 0, .string (strOfNums (tx l p 4))]) ∧ Below w.heap.size w w' := by
  go_enter Tryd.func14, Tryd.ntmps14
  go_wp2_with (first | (go_at_call 31; refine Calls.mono (sf_ok _ _ _ ?_) ?_; (all_goals try (first | (with_reducible assumption) | omega)); rintro e w1 ⟨rfl, k1⟩; (try replace k1 := kept_join (by assumption) k1); have hc1 := Kept.cell k1; have hf1 := Kept.frozen k1; have hz1 := k1.size; (try simp only [World.size_alloc] at hz1); (try simp only [World.size_setCell] at hz1); (try simp only [World.size_drew] at hz1); (try (first | have hs1 := sz12 hz1 | have hs1 := sz11 hz1 | have hs1 := sz10 hz1 | have hs1 := sz9 hz1 | have hs1 := sz8 hz1 | have hs1 := sz7 hz1 | have hs1 := sz6 hz1 | have hs1 := sz5 hz1 | have hs1 := sz4 hz1 | have hs1 := sz3 hz1 | have hs1 := sz2 hz1 | have hs1 := sz1 hz1))) | (go_at_call 17; refine Calls.mono (text_any _ _ _ ?_) ?_; (all_goals try (first | (with_reducible assumption) | omega)); rintro e w1 ⟨rfl, k1⟩; (try replace k1 := kept_join (by assumption) k1); have hc1 := Kept.cell k1; have hf1 := Kept.frozen k1; have hz1 := k1.size; (try simp only [World.size_alloc] at hz1); (try simp only [World.size_setCell] at hz1); (try simp only [World.size_drew] at hz1); (try (first | have hs1 := sz12 hz1 | have hs1 := sz11 hz1 | have hs1 := sz10 hz1 | have hs1 := sz9 hz1 | have hs1 := sz8 hz1 | have hs1 := sz7 hz1 | have hs1 := sz6 hz1 | have hs1 := sz5 hz1 | have hs1 := sz4 hz1 | have hs1 := sz3 hz1 | have hs1 := sz2 hz1 | have hs1 := sz1 hz1))))
  refine bodyPost_ret (v := .agg #[.int .i64 0, .string (strOfNums (tx l p 4))]) (by simp [results, Tryd.results14, go_sem, *]) rfl ⟨rfl, ?_⟩
  repeat' (first | (with_reducible exact Below.refl _ _) | (with_reducible refine kept_below ?_ (by assumption) ?_) | (with_reducible refine Below.alloc ?_ ?_ _) | (with_reducible refine Below.drew ?_) | (with_reducible refine Below.setCell ?_ ?_ _) | go_size)

def ltC (l p : Int) : Int := if fltB l p then 3 else 0
def ltT (l p : Int) : ByteArray := if fltB l p then ByteArray.empty else strOfNums (tx l p 4)

theorem sText_any (l p : Int) (w : World) :
    Calls Tryd.prog 14 #[.agg #[.int .i64 l, .int .i64 p]] w fun e w' => e = .returned (.agg #[.int .i64 (ltC l p), .string (ltT l p)]) ∧ Below w.heap.size w w' := by
  unfold ltC ltT
  cases h : fltB l p
  · exact sText_ok l p w h
  · exact sText_no l p w h

theorem iText_any (l p : Int) (w : World) (T : Tab w) :
    Calls Tryd.prog 10 #[.agg #[.int .i64 l, .int .i64 p]] w fun e w' => e = .returned (.agg #[.int .i64 (ltC l p), .string (ltT l p)]) ∧ Below w.heap.size w w' := by
  unfold ltC ltT
  cases h : fltB l p
  · exact iText_ok l p w h T
  · exact iText_no l p w h

end Go.Proofs.YtmnekheaggleaaaDoor
