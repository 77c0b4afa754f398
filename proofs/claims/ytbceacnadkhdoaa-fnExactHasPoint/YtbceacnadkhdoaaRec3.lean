/- HasPoint: the model's whole function, and the law's walk. -/
import Derived.Test.YtbceacnadkhdoaaRec2
namespace Go.Proofs.Ytbceacnadkhdoaa
open Go.RowKit
set_option linter.unusedVariables false

set_option maxHeartbeats 1000000 in
theorem sHP_any (x y ww hh p q : Int) (w : World) :
    Calls Try.prog 32 #[.agg #[.int .i64 x, .int .i64 y, .int .i64 ww, .int .i64 hh], .int .i64 p, .int .i64 q] w fun e w' => e = .returned (.bool (hpB x y ww hh p q)) ∧ Below w.heap.size w w' := by
  cases h : rfB x y ww hh
  · have hr : Hid (hpB x y ww hh p q = inB x y ww hh p q) := by show _ = _; unfold hpB; rw [h]; rfl
    go_enter Try.func32, Try.ntmps32
    go_wp2_with (first | (go_at_call 67; refine Calls.mono (l2F_ok _ 0 x y ww hh _ ⟨by simp, by simp, by simp, by simp⟩ h) ?_; rintro e w1 ⟨rfl, rfl⟩) | (go_at_call 47; refine Calls.mono (l2H_any _ 0 x y ww hh _ _ _ ⟨by simp, by simp, by simp, by simp⟩ h) ?_; rintro e w1 ⟨rfl, k1⟩))
    go_returns
    refine ⟨congrArg (fun b => Ending.returned (.bool b)) hr.out.symm, ?_⟩
    repeat' (first | (with_reducible exact Below.refl _ _) | (with_reducible refine kept_below ?_ (by assumption) ?_) | (with_reducible refine Below.alloc ?_ ?_ _) | (with_reducible refine Below.drew ?_) | (with_reducible refine Below.setCell ?_ ?_ _) | go_size)
  · have hr : Hid (hpB x y ww hh p q = false) := by show _ = _; unfold hpB; rw [h]; rfl
    go_enter Try.func32, Try.ntmps32
    go_wp2_with (first | (go_at_call 67; refine Calls.mono (l2F_no _ 0 x y ww hh _ ⟨by simp, by simp, by simp, by simp⟩ h) ?_; rintro e w1 ⟨rfl, rfl⟩))
    go_returns
    refine ⟨congrArg (fun b => Ending.returned (.bool b)) hr.out.symm, ?_⟩
    repeat' (first | (with_reducible exact Below.refl _ _) | (with_reducible refine kept_below ?_ (by assumption) ?_) | (with_reducible refine Below.alloc ?_ ?_ _) | (with_reducible refine Below.drew ?_) | (with_reducible refine Below.setCell ?_ ?_ _) | go_size)

set_option maxHeartbeats 400000 in
theorem hp_law (x y ww hh p q : Int) (w : World) :
    Calls Try.prog 6 #[.agg #[.int .i64 x, .int .i64 y, .int .i64 ww, .int .i64 hh], .int .i64 p, .int .i64 q] w fun e w' => e = .returned (.bool true) ∧ Below w.heap.size w w' := by
  go_enter Try.func6, Try.ntmps6
  go_wp2_with (first | (go_at_call 31; refine Calls.mono (toRect_any _ _ _ _ _) ?_; (all_goals try (first | (with_reducible assumption) | omega)); rintro e w1 ⟨rfl, k1⟩; (try replace k1 := kept_join (by assumption) k1); have hc1 := Kept.cell k1; have hf1 := Kept.frozen k1; have hz1 := k1.size; (try simp only [World.size_alloc] at hz1); (try simp only [World.size_setCell] at hz1); (try simp only [World.size_drew] at hz1); (try (first | have hs1 := sz12 hz1 | have hs1 := sz11 hz1 | have hs1 := sz10 hz1 | have hs1 := sz9 hz1 | have hs1 := sz8 hz1 | have hs1 := sz7 hz1 | have hs1 := sz6 hz1 | have hs1 := sz5 hz1 | have hs1 := sz4 hz1 | have hs1 := sz3 hz1 | have hs1 := sz2 hz1 | have hs1 := sz1 hz1))) | (go_at_call 32; refine Calls.mono (sHP_any _ _ _ _ _ _ _) ?_; (all_goals try (first | (with_reducible assumption) | omega)); rintro e w1 ⟨rfl, k1⟩; (try replace k1 := kept_join (by assumption) k1); have hc1 := Kept.cell k1; have hf1 := Kept.frozen k1; have hz1 := k1.size; (try simp only [World.size_alloc] at hz1); (try simp only [World.size_setCell] at hz1); (try simp only [World.size_drew] at hz1); (try (first | have hs1 := sz12 hz1 | have hs1 := sz11 hz1 | have hs1 := sz10 hz1 | have hs1 := sz9 hz1 | have hs1 := sz8 hz1 | have hs1 := sz7 hz1 | have hs1 := sz6 hz1 | have hs1 := sz5 hz1 | have hs1 := sz4 hz1 | have hs1 := sz3 hz1 | have hs1 := sz2 hz1 | have hs1 := sz1 hz1))) | (go_at_call 17; refine Calls.mono (hp_any _ _ _ _ _ _ _) ?_; (all_goals try (first | (with_reducible assumption) | omega)); rintro e w1 ⟨rfl, k1⟩; (try replace k1 := kept_join (by assumption) k1); have hc1 := Kept.cell k1; have hf1 := Kept.frozen k1; have hz1 := k1.size; (try simp only [World.size_alloc] at hz1); (try simp only [World.size_setCell] at hz1); (try simp only [World.size_drew] at hz1); (try (first | have hs1 := sz12 hz1 | have hs1 := sz11 hz1 | have hs1 := sz10 hz1 | have hs1 := sz9 hz1 | have hs1 := sz8 hz1 | have hs1 := sz7 hz1 | have hs1 := sz6 hz1 | have hs1 := sz5 hz1 | have hs1 := sz4 hz1 | have hs1 := sz3 hz1 | have hs1 := sz2 hz1 | have hs1 := sz1 hz1))))
  go_returns
  refine ⟨rfl, ?_⟩
  repeat' (first | (with_reducible exact Below.refl _ _) | (with_reducible refine kept_below ?_ (by assumption) ?_) | (with_reducible refine Below.alloc ?_ ?_ _) | (with_reducible refine Below.drew ?_) | (with_reducible refine Below.setCell ?_ ?_ _) | go_size)

end Go.Proofs.Ytbceacnadkhdoaa
