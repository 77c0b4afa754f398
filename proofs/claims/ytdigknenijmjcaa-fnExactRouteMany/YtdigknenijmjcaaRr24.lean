/- HandFault: the model's side, and the law's walk. -/
import Derived.Test.YtdigknenijmjcaaRr23
namespace Go.Proofs.Ytdigknenijmjcaa
open Go.RowKit
set_option linter.unusedVariables false

structure H3 (w : World) (g : Nat) (k a b : Int) : Prop where
  c0 : w.cell? ⟨g, 0, none⟩ = some (.int .i64 k)
  c1 : w.cell? ⟨g, 1, none⟩ = some (.int .i64 a)
  c2 : w.cell? ⟨g, 2, none⟩ = some (.int .i64 b)
theorem H3.lt {w : World} {g : Nat} {k a b : Int} (h : H3 w g k a b) : g < w.heap.size := World.block_lt_of_cell? w _ h.c0
theorem H3.keep {w w' : World} {g : Nat} {k a b : Int} (h : H3 w g k a b) (kk : Below w.heap.size w w') : H3 w' g k a b := by
  have hg := h.lt
  exact ⟨(kk.cell (p := ⟨g, 0, none⟩) hg).trans h.c0, (kk.cell (p := ⟨g, 1, none⟩) hg).trans h.c1, (kk.cell (p := ⟨g, 2, none⟩) hg).trans h.c2⟩

set_option maxRecDepth 100000 in
set_option maxHeartbeats 2000000 in
theorem l10Hand_any (g : Nat) (k a b : Int) (w : World) (h : H3 w g k a b) : Calls Try.prog 33 #[.pointer (some ⟨g, 0, none⟩)] w fun e w' => e = .returned (.int .i64 (hF k a b)) ∧ Below w.heap.size w w' := by
  have hg := h.lt
  obtain ⟨c0, c1, c2⟩ := h
  by_cases h0 : k < 1 ∨ 4 < k
  · rw [show hF k a b = 1 by unfold hF; rw [if_pos (by omega)]]
    go_enter Try.func33, Try.ntmps33
    go_wp2_with (first | (go_at_call 46; refine Calls.mono (in_yes _ _ _ _ (by omega) (by omega)) ?_; rintro e w1 ⟨rfl, rfl⟩) | (go_at_call 46; refine Calls.mono (in_no _ _ _ _ (by omega)) ?_; rintro e w1 ⟨rfl, rfl⟩))
    go_returns
    exact ⟨rfl, Below.refl _ _⟩
  have hk : k = 1 ∨ k = 2 ∨ k = 3 ∨ k = 4 := by omega
  clear h0
  rcases hk with rfl | rfl | rfl | rfl
  · by_cases hb : b = 0
    · subst hb
      by_cases hy : a < 0 ∨ 255 < a
      · rw [show hF 1 a 0 = 3 by unfold hF; rw [if_neg (by omega), if_pos (by omega)]]
        go_enter Try.func33, Try.ntmps33
        go_wp2_with (first | (go_at_call 46; refine Calls.mono (in_yes _ _ _ _ (by omega) (by omega)) ?_; rintro e w1 ⟨rfl, rfl⟩) | (go_at_call 46; refine Calls.mono (in_no _ _ _ _ (by omega)) ?_; rintro e w1 ⟨rfl, rfl⟩))
        go_returns
        exact ⟨rfl, Below.refl _ _⟩
      · rw [show hF 1 a 0 = 0 by unfold hF; rw [if_neg (by omega), if_neg (by omega)]]
        go_enter Try.func33, Try.ntmps33
        go_wp2_with (first | (go_at_call 46; refine Calls.mono (in_yes _ _ _ _ (by omega) (by omega)) ?_; rintro e w1 ⟨rfl, rfl⟩) | (go_at_call 46; refine Calls.mono (in_no _ _ _ _ (by omega)) ?_; rintro e w1 ⟨rfl, rfl⟩))
        go_returns
        exact ⟨rfl, Below.refl _ _⟩
    · have e2 : (b != 0) = true := by simpa using hb
      rw [show hF 1 a b = 1 by unfold hF; rw [if_pos (by omega)]]
      go_enter Try.func33, Try.ntmps33
      go_wp2_with (first | (go_at_call 46; refine Calls.mono (in_yes _ _ _ _ (by omega) (by omega)) ?_; rintro e w1 ⟨rfl, rfl⟩) | (go_at_call 46; refine Calls.mono (in_no _ _ _ _ (by omega)) ?_; rintro e w1 ⟨rfl, rfl⟩))
      go_returns
      exact ⟨rfl, Below.refl _ _⟩
  · by_cases hy : a < 0 ∨ 11 < a
    · rw [show hF 2 a b = 3 by unfold hF; rw [if_neg (by omega), if_pos (by omega)]]
      go_enter Try.func33, Try.ntmps33
      go_wp2_with (first | (go_at_call 46; refine Calls.mono (in_yes _ _ _ _ (by omega) (by omega)) ?_; rintro e w1 ⟨rfl, rfl⟩) | (go_at_call 46; refine Calls.mono (in_no _ _ _ _ (by omega)) ?_; rintro e w1 ⟨rfl, rfl⟩))
      go_returns
      exact ⟨rfl, Below.refl _ _⟩
    · by_cases hz : b < 0 ∨ 7 < b
      · rw [show hF 2 a b = 3 by unfold hF; rw [if_neg (by omega), if_pos (by omega)]]
        go_enter Try.func33, Try.ntmps33
        go_wp2_with (first | (go_at_call 46; refine Calls.mono (in_yes _ _ _ _ (by omega) (by omega)) ?_; rintro e w1 ⟨rfl, rfl⟩) | (go_at_call 46; refine Calls.mono (in_no _ _ _ _ (by omega)) ?_; rintro e w1 ⟨rfl, rfl⟩))
        go_returns
        exact ⟨rfl, Below.refl _ _⟩
      · rw [show hF 2 a b = 0 by unfold hF; rw [if_neg (by omega), if_neg (by omega)]]
        go_enter Try.func33, Try.ntmps33
        go_wp2_with (first | (go_at_call 46; refine Calls.mono (in_yes _ _ _ _ (by omega) (by omega)) ?_; rintro e w1 ⟨rfl, rfl⟩) | (go_at_call 46; refine Calls.mono (in_no _ _ _ _ (by omega)) ?_; rintro e w1 ⟨rfl, rfl⟩))
        go_returns
        exact ⟨rfl, Below.refl _ _⟩
  · by_cases hb : b = 0
    · subst hb
      by_cases ha : a = 0
      · subst ha
        rw [show hF 3 0 0 = 0 by unfold hF; rw [if_neg (by omega), if_neg (by omega)]]
        go_enter Try.func33, Try.ntmps33
        go_wp2_with (first | (go_at_call 46; refine Calls.mono (in_yes _ _ _ _ (by omega) (by omega)) ?_; rintro e w1 ⟨rfl, rfl⟩) | (go_at_call 46; refine Calls.mono (in_no _ _ _ _ (by omega)) ?_; rintro e w1 ⟨rfl, rfl⟩))
        go_returns
        exact ⟨rfl, Below.refl _ _⟩
      · have e2 : (a != 0) = true := by simpa using ha
        rw [show hF 3 a 0 = 1 by unfold hF; rw [if_pos (by omega)]]
        go_enter Try.func33, Try.ntmps33
        go_wp2_with (first | (go_at_call 46; refine Calls.mono (in_yes _ _ _ _ (by omega) (by omega)) ?_; rintro e w1 ⟨rfl, rfl⟩) | (go_at_call 46; refine Calls.mono (in_no _ _ _ _ (by omega)) ?_; rintro e w1 ⟨rfl, rfl⟩))
        go_returns
        exact ⟨rfl, Below.refl _ _⟩
    · have e2 : (b != 0) = true := by simpa using hb
      rw [show hF 3 a b = 1 by unfold hF; rw [if_pos (by omega)]]
      go_enter Try.func33, Try.ntmps33
      go_wp2_with (first | (go_at_call 46; refine Calls.mono (in_yes _ _ _ _ (by omega) (by omega)) ?_; rintro e w1 ⟨rfl, rfl⟩) | (go_at_call 46; refine Calls.mono (in_no _ _ _ _ (by omega)) ?_; rintro e w1 ⟨rfl, rfl⟩))
      go_returns
      exact ⟨rfl, Below.refl _ _⟩
  · by_cases hb : b = 0
    · subst hb
      by_cases ha : a = 0
      · subst ha
        rw [show hF 4 0 0 = 0 by unfold hF; rw [if_neg (by omega), if_neg (by omega)]]
        go_enter Try.func33, Try.ntmps33
        go_wp2_with (first | (go_at_call 46; refine Calls.mono (in_yes _ _ _ _ (by omega) (by omega)) ?_; rintro e w1 ⟨rfl, rfl⟩) | (go_at_call 46; refine Calls.mono (in_no _ _ _ _ (by omega)) ?_; rintro e w1 ⟨rfl, rfl⟩))
        go_returns
        exact ⟨rfl, Below.refl _ _⟩
      · have e2 : (a != 0) = true := by simpa using ha
        rw [show hF 4 a 0 = 1 by unfold hF; rw [if_pos (by omega)]]
        go_enter Try.func33, Try.ntmps33
        go_wp2_with (first | (go_at_call 46; refine Calls.mono (in_yes _ _ _ _ (by omega) (by omega)) ?_; rintro e w1 ⟨rfl, rfl⟩) | (go_at_call 46; refine Calls.mono (in_no _ _ _ _ (by omega)) ?_; rintro e w1 ⟨rfl, rfl⟩))
        go_returns
        exact ⟨rfl, Below.refl _ _⟩
    · have e2 : (b != 0) = true := by simpa using hb
      rw [show hF 4 a b = 1 by unfold hF; rw [if_pos (by omega)]]
      go_enter Try.func33, Try.ntmps33
      go_wp2_with (first | (go_at_call 46; refine Calls.mono (in_yes _ _ _ _ (by omega) (by omega)) ?_; rintro e w1 ⟨rfl, rfl⟩) | (go_at_call 46; refine Calls.mono (in_no _ _ _ _ (by omega)) ?_; rintro e w1 ⟨rfl, rfl⟩))
      go_returns
      exact ⟨rfl, Below.refl _ _⟩

set_option maxHeartbeats 400000 in
theorem toHand_any (k a b : Int) (w : World) : Calls Try.prog 22 #[.agg #[.int .i64 k, .int .i64 a, .int .i64 b]] w fun e w' => e = .returned (.agg #[.int .i64 k, .int .i64 a, .int .i64 b]) ∧ Below w.heap.size w w' := by
  go_enter Try.func22, Try.ntmps22
  go_wp2
  go_returns
  refine ⟨rfl, ?_⟩
  repeat' (first | (with_reducible exact Below.refl _ _) | (with_reducible refine kept_below ?_ (by assumption) ?_) | (with_reducible refine Below.alloc ?_ ?_ _) | (with_reducible refine Below.drew ?_) | (with_reducible refine Below.setCell ?_ ?_ _) | go_size)

end Go.Proofs.Ytdigknenijmjcaa
