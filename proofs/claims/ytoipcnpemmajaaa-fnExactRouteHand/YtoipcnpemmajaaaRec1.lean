/- Contracts of chapter 2's small functions: faults, ends, points. -/
import Derived.Test.YtoipcnpemmajaaaRow0
import Derived.Test.YtoipcnpemmajaaaKeep
import Derived.Test.YtoipcnpemmajaaaKeepG
import Derived.Test.YtoipcnpemmajaaaRecMath
import Derived.WalkKit
import Derived.WalkSpells
import Derived.WalkLawsBesides
import Derived.Handy
import Derived.BigQuiet
namespace Go.Proofs.Ytoipcnpemmajaaa
open Go.RowKit
set_option linter.unusedVariables false

set_option maxHeartbeats 400000 in
theorem toRect_any (x y ww hh : Int) (w : World) :
    Calls Try.prog 86 #[.agg #[.int .i64 x, .int .i64 y, .int .i64 ww, .int .i64 hh]] w fun e w' => e = .returned (.agg #[.int .i64 x, .int .i64 y, .int .i64 ww, .int .i64 hh]) ∧ Below w.heap.size w w' := by
  go_enter Try.func86, Try.ntmps86
  go_wp2
  go_returns
  exact ⟨rfl, by go_grown⟩

set_option maxHeartbeats 400000 in
theorem reach_yes (x y : Int) (w : World) (h1 : -20 ≤ x) (h2 : x ≤ 20) (h3 : -20 ≤ y) (h4 : y ≤ 20) :
    Calls Try.prog 103 #[.int .i64 x, .int .i64 y] w fun e w' => e = .returned (.bool true) ∧ w' = w := by
  go_enter Try.func103, Try.ntmps103
  go_wp2
  go_returns
  exact ⟨congrArg (fun b => Ending.returned (.bool b)) (by first | rfl | (simp; omega)), rfl⟩

set_option maxHeartbeats 1000000 in
theorem reach_no (x y : Int) (w : World) (h : x < -20 ∨ 20 < x ∨ y < -20 ∨ 20 < y) :
    Calls Try.prog 103 #[.int .i64 x, .int .i64 y] w fun e w' => e = .returned (.bool false) ∧ w' = w := by
  by_cases h1 : -20 ≤ x
  · by_cases h2 : x ≤ 20
    · by_cases h3 : -20 ≤ y
      · have h4 : ¬ y ≤ 20 := by omega
        clear h
        go_enter Try.func103, Try.ntmps103
        go_wp2
        go_returns
        exact ⟨congrArg (fun b => Ending.returned (.bool b)) (by first | rfl | (simp; omega)), rfl⟩
      · clear h
        go_enter Try.func103, Try.ntmps103
        go_wp2
        go_returns
        exact ⟨congrArg (fun b => Ending.returned (.bool b)) (by first | rfl | (simp; omega)), rfl⟩
    · clear h
      go_enter Try.func103, Try.ntmps103
      go_wp2
      go_returns
      exact ⟨congrArg (fun b => Ending.returned (.bool b)) (by first | rfl | (simp; omega)), rfl⟩
  · clear h
    go_enter Try.func103, Try.ntmps103
    go_wp2
    go_returns
    exact ⟨congrArg (fun b => Ending.returned (.bool b)) (by first | rfl | (simp; omega)), rfl⟩

set_option maxHeartbeats 400000 in
theorem rf_ok (x y ww hh : Int) (w : World) (h : rfB x y ww hh = false) :
    Calls Try.prog 82 #[.agg #[.int .i64 x, .int .i64 y, .int .i64 ww, .int .i64 hh]] w fun e w' => e = .returned (.int .i64 0) ∧ Below w.heap.size w w' := by
  obtain ⟨⟨h1, h2⟩, ⟨h3, h4⟩, ⟨h5, h6⟩, h7, h8⟩ := rfB_no h
  clear h
  go_enter Try.func82, Try.ntmps82
  go_wp2_with (go_at_call 103; refine Calls.mono (reach_yes _ _ _ h1 h2 h3 h4) ?_; rintro e w1 ⟨rfl, rfl⟩)
  go_returns
  exact ⟨rfl, by go_grown⟩

set_option maxHeartbeats 2000000 in
theorem rf_no (x y ww hh : Int) (w : World) (h : rfB x y ww hh = true) :
    Calls Try.prog 82 #[.agg #[.int .i64 x, .int .i64 y, .int .i64 ww, .int .i64 hh]] w fun e w' => e = .returned (.int .i64 3) ∧ Below w.heap.size w w' := by
  by_cases hr : x < -20 ∨ 20 < x ∨ y < -20 ∨ 20 < y
  · clear h
    go_enter Try.func82, Try.ntmps82
    go_wp2_with (go_at_call 103; refine Calls.mono (reach_no _ _ _ hr) ?_; rintro e w1 ⟨rfl, rfl⟩)
    go_returns
    exact ⟨rfl, by go_grown⟩
  obtain ⟨h1, h2, h3, h4⟩ : -20 ≤ x ∧ x ≤ 20 ∧ -20 ≤ y ∧ y ≤ 20 := by omega
  have hw : ww < 1 ∨ (1 ≤ ww ∧ 20 < ww) ∨ ((1 ≤ ww ∧ ww ≤ 20) ∧ hh < 1) ∨ ((1 ≤ ww ∧ ww ≤ 20) ∧ 1 ≤ hh ∧ 20 < hh) := by
    unfold rfB at h; simp at h; omega
  clear h hr
  rcases hw with h5 | ⟨h5, h6⟩ | ⟨⟨h5, h6⟩, h7⟩ | ⟨⟨h5, h6⟩, h7, h8⟩
  all_goals
    go_enter Try.func82, Try.ntmps82
    go_wp2_with (go_at_call 103; refine Calls.mono (reach_yes _ _ _ h1 h2 h3 h4) ?_; rintro e w1 ⟨rfl, rfl⟩)
    go_returns
    exact ⟨rfl, by go_grown⟩

theorem rf_any (x y ww hh : Int) (w : World) :
    Calls Try.prog 82 #[.agg #[.int .i64 x, .int .i64 y, .int .i64 ww, .int .i64 hh]] w fun e w' => e = .returned (.int .i64 (rfOf (rfB x y ww hh))) ∧ Below w.heap.size w w' := by
  cases h : rfB x y ww hh
  · exact rf_ok x y ww hh w h
  · exact rf_no x y ww hh w h

/-- A rectangle's four cells. -/
structure IsRect (w : World) (b o : Nat) (x y ww hh : Int) : Prop where
  c0 : w.cell? ⟨b, o, none⟩ = some (.int .i64 x)
  c1 : w.cell? ⟨b, o + 1, none⟩ = some (.int .i64 y)
  c2 : w.cell? ⟨b, o + 2, none⟩ = some (.int .i64 ww)
  c3 : w.cell? ⟨b, o + 3, none⟩ = some (.int .i64 hh)

set_option maxHeartbeats 400000 in
theorem in_yes (n a b : Int) (w : World) (h : a ≤ n) (h2 : n ≤ b) :
    Calls Try.prog 79 #[.int .i64 n, .int .i64 a, .int .i64 b] w fun e w' => e = .returned (.bool true) ∧ w' = w := by
  go_enter Try.func79, Try.ntmps79
  go_wp2
  go_returns
  exact ⟨rfl, rfl⟩

set_option maxHeartbeats 400000 in
theorem in_no (n a b : Int) (w : World) (h : n < a ∨ b < n) :
    Calls Try.prog 79 #[.int .i64 n, .int .i64 a, .int .i64 b] w fun e w' => e = .returned (.bool false) ∧ w' = w := by
  by_cases h1 : a ≤ n
  · have h2 : ¬ n ≤ b := by omega
    clear h
    go_enter Try.func79, Try.ntmps79
    go_wp2
    go_returns
    exact ⟨congrArg (fun b => Ending.returned (.bool b)) (by first | rfl | (simp; omega)), rfl⟩
  · clear h
    go_enter Try.func79, Try.ntmps79
    go_wp2
    go_returns
    exact ⟨congrArg (fun b => Ending.returned (.bool b)) (by first | rfl | (simp; omega)), rfl⟩

set_option maxHeartbeats 400000 in
theorem l2F_ok (b o : Nat) (x y ww hh : Int) (w : World) (R : IsRect w b o x y ww hh) (h : rfB x y ww hh = false) :
    Calls Try.prog 99 #[.pointer (some ⟨b, o, none⟩)] w fun e w' => e = .returned (.int .i64 0) ∧ w' = w := by
  obtain ⟨⟨h1, h2⟩, ⟨h3, h4⟩, ⟨h5, h6⟩, h7, h8⟩ := rfB_no h
  obtain ⟨c0, c1, c2, c3⟩ := R
  clear h
  go_enter Try.func99, Try.ntmps99
  go_wp2
  go_returns
  exact ⟨rfl, rfl⟩

set_option maxHeartbeats 4000000 in
theorem l2F_no (b o : Nat) (x y ww hh : Int) (w : World) (R : IsRect w b o x y ww hh) (h : rfB x y ww hh = true) :
    Calls Try.prog 99 #[.pointer (some ⟨b, o, none⟩)] w fun e w' => e = .returned (.int .i64 3) ∧ w' = w := by
  obtain ⟨c0, c1, c2, c3⟩ := R
  rcases rfB_yes h with h1 | ⟨h1, h2⟩ | ⟨⟨h1, h2⟩, h3⟩ | ⟨⟨h1, h2⟩, h3, h4⟩ | ⟨⟨h1, h2⟩, ⟨h3, h4⟩, h5⟩ | ⟨⟨h1, h2⟩, ⟨h3, h4⟩, h5, h6⟩ | ⟨⟨h1, h2⟩, ⟨h3, h4⟩, ⟨h5, h6⟩, h7⟩ | ⟨⟨h1, h2⟩, ⟨h3, h4⟩, ⟨h5, h6⟩, h7, h8⟩
  all_goals
    clear h
    go_enter Try.func99, Try.ntmps99
    go_wp2_with (first | (go_at_call 79; refine Calls.mono (in_yes _ _ _ _ (by omega) (by omega)) ?_; rintro e w1 ⟨rfl, rfl⟩) | (go_at_call 79; refine Calls.mono (in_no _ _ _ _ (by omega)) ?_; rintro e w1 ⟨rfl, rfl⟩))
    go_returns
    exact ⟨rfl, rfl⟩

theorem l2F_any (b o : Nat) (x y ww hh : Int) (w : World) (R : IsRect w b o x y ww hh) :
    Calls Try.prog 99 #[.pointer (some ⟨b, o, none⟩)] w fun e w' => e = .returned (.int .i64 (rfOf (rfB x y ww hh))) ∧ w' = w := by
  cases h : rfB x y ww hh
  · exact l2F_ok b o x y ww hh w R h
  · exact l2F_no b o x y ww hh w R h

end Go.Proofs.Ytoipcnpemmajaaa
