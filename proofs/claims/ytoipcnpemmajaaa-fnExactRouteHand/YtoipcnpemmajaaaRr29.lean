/- HandFault: the model's side, and the law's walk. -/
import Derived.Test.YtoipcnpemmajaaaRr28
namespace Go.Proofs.Ytoipcnpemmajaaa
open Go.RowKit
set_option linter.unusedVariables false

structure H3 (w : World) (g : Nat) (k a b : Int) : Prop where
  c0 : w.cell? ⟨g, 0, none⟩ = some (.int .i64 k)
  c1 : w.cell? ⟨g, 1, none⟩ = some (.int .i64 a)
  c2 : w.cell? ⟨g, 2, none⟩ = some (.int .i64 b)
theorem H3.lt {w : World} {g : Nat} {k a b : Int} (h : H3 w g k a b) : g < w.heap.size := World.block_lt_of_cell? w _ h.c0
theorem H3.keep {w w' : World} {g : Nat} {k a b : Int} (h : H3 w g k a b) (kk : Below w.heap.size w w') : H3 w' g k a b := by
  have hg := h.lt
  exact ⟨(kk.cell (p := ⟨g, 0, none⟩) hg).trans h.c0, (kk.cell (p := ⟨g, 1, none⟩) hg).trans h.c1, (kk.cell (p := ⟨g, 2, none⟩) hg).trans h.c2⟩

set_option maxRecDepth 100000 in
set_option maxHeartbeats 2000000 in
theorem l10Hand_any (g : Nat) (k a b : Int) (w : World) (h : H3 w g k a b) : Calls Try.prog 46 #[.pointer (some ⟨g, 0, none⟩)] w fun e w' => e = .returned (.int .i64 (hF k a b)) ∧ Below w.heap.size w w' := by
  have hg := h.lt
  obtain ⟨c0, c1, c2⟩ := h
  by_cases h0 : k < 1 ∨ 4 < k
  · rw [show hF k a b = 1 by unfold hF; rw [if_pos (by omega)]]
    go_enter Try.func46, Try.ntmps46
    go_wp2_with (first | (go_at_call 79; refine Calls.mono (in_yes _ _ _ _ (by omega) (by omega)) ?_; rintro e w1 ⟨rfl, rfl⟩) | (go_at_call 79; refine Calls.mono (in_no _ _ _ _ (by omega)) ?_; rintro e w1 ⟨rfl, rfl⟩))
    go_returns
    exact ⟨rfl, Below.refl _ _⟩
  have hk : k = 1 ∨ k = 2 ∨ k = 3 ∨ k = 4 := by omega
  clear h0
  rcases hk with rfl | rfl | rfl | rfl
  · by_cases hb : b = 0
    · subst hb
      by_cases hy : a < 0 ∨ 255 < a
      · rw [show hF 1 a 0 = 3 by unfold hF; rw [if_neg (by omega), if_pos (by omega)]]
        go_enter Try.func46, Try.ntmps46
        go_wp2_with (first | (go_at_call 79; refine Calls.mono (in_yes _ _ _ _ (by omega) (by omega)) ?_; rintro e w1 ⟨rfl, rfl⟩) | (go_at_call 79; refine Calls.mono (in_no _ _ _ _ (by omega)) ?_; rintro e w1 ⟨rfl, rfl⟩))
        go_returns
        exact ⟨rfl, Below.refl _ _⟩
      · rw [show hF 1 a 0 = 0 by unfold hF; rw [if_neg (by omega), if_neg (by omega)]]
        go_enter Try.func46, Try.ntmps46
        go_wp2_with (first | (go_at_call 79; refine Calls.mono (in_yes _ _ _ _ (by omega) (by omega)) ?_; rintro e w1 ⟨rfl, rfl⟩) | (go_at_call 79; refine Calls.mono (in_no _ _ _ _ (by omega)) ?_; rintro e w1 ⟨rfl, rfl⟩))
        go_returns
        exact ⟨rfl, Below.refl _ _⟩
    · have e2 : (b != 0) = true := by simpa using hb
      rw [show hF 1 a b = 1 by unfold hF; rw [if_pos (by omega)]]
      go_enter Try.func46, Try.ntmps46
      go_wp2_with (first | (go_at_call 79; refine Calls.mono (in_yes _ _ _ _ (by omega) (by omega)) ?_; rintro e w1 ⟨rfl, rfl⟩) | (go_at_call 79; refine Calls.mono (in_no _ _ _ _ (by omega)) ?_; rintro e w1 ⟨rfl, rfl⟩))
      go_returns
      exact ⟨rfl, Below.refl _ _⟩
  · by_cases hy : a < 0 ∨ 11 < a
    · rw [show hF 2 a b = 3 by unfold hF; rw [if_neg (by omega), if_pos (by omega)]]
      go_enter Try.func46, Try.ntmps46
      go_wp2_with (first | (go_at_call 79; refine Calls.mono (in_yes _ _ _ _ (by omega) (by omega)) ?_; rintro e w1 ⟨rfl, rfl⟩) | (go_at_call 79; refine Calls.mono (in_no _ _ _ _ (by omega)) ?_; rintro e w1 ⟨rfl, rfl⟩))
      go_returns
      exact ⟨rfl, Below.refl _ _⟩
    · by_cases hz : b < 0 ∨ 7 < b
      · rw [show hF 2 a b = 3 by unfold hF; rw [if_neg (by omega), if_pos (by omega)]]
        go_enter Try.func46, Try.ntmps46
        go_wp2_with (first | (go_at_call 79; refine Calls.mono (in_yes _ _ _ _ (by omega) (by omega)) ?_; rintro e w1 ⟨rfl, rfl⟩) | (go_at_call 79; refine Calls.mono (in_no _ _ _ _ (by omega)) ?_; rintro e w1 ⟨rfl, rfl⟩))
        go_returns
        exact ⟨rfl, Below.refl _ _⟩
      · rw [show hF 2 a b = 0 by unfold hF; rw [if_neg (by omega), if_neg (by omega)]]
        go_enter Try.func46, Try.ntmps46
        go_wp2_with (first | (go_at_call 79; refine Calls.mono (in_yes _ _ _ _ (by omega) (by omega)) ?_; rintro e w1 ⟨rfl, rfl⟩) | (go_at_call 79; refine Calls.mono (in_no _ _ _ _ (by omega)) ?_; rintro e w1 ⟨rfl, rfl⟩))
        go_returns
        exact ⟨rfl, Below.refl _ _⟩
  · by_cases hb : b = 0
    · subst hb
      by_cases ha : a = 0
      · subst ha
        rw [show hF 3 0 0 = 0 by unfold hF; rw [if_neg (by omega), if_neg (by omega)]]
        go_enter Try.func46, Try.ntmps46
        go_wp2_with (first | (go_at_call 79; refine Calls.mono (in_yes _ _ _ _ (by omega) (by omega)) ?_; rintro e w1 ⟨rfl, rfl⟩) | (go_at_call 79; refine Calls.mono (in_no _ _ _ _ (by omega)) ?_; rintro e w1 ⟨rfl, rfl⟩))
        go_returns
        exact ⟨rfl, Below.refl _ _⟩
      · have e2 : (a != 0) = true := by simpa using ha
        rw [show hF 3 a 0 = 1 by unfold hF; rw [if_pos (by omega)]]
        go_enter Try.func46, Try.ntmps46
        go_wp2_with (first | (go_at_call 79; refine Calls.mono (in_yes _ _ _ _ (by omega) (by omega)) ?_; rintro e w1 ⟨rfl, rfl⟩) | (go_at_call 79; refine Calls.mono (in_no _ _ _ _ (by omega)) ?_; rintro e w1 ⟨rfl, rfl⟩))
        go_returns
        exact ⟨rfl, Below.refl _ _⟩
    · have e2 : (b != 0) = true := by simpa using hb
      rw [show hF 3 a b = 1 by unfold hF; rw [if_pos (by omega)]]
      go_enter Try.func46, Try.ntmps46
      go_wp2_with (first | (go_at_call 79; refine Calls.mono (in_yes _ _ _ _ (by omega) (by omega)) ?_; rintro e w1 ⟨rfl, rfl⟩) | (go_at_call 79; refine Calls.mono (in_no _ _ _ _ (by omega)) ?_; rintro e w1 ⟨rfl, rfl⟩))
      go_returns
      exact ⟨rfl, Below.refl _ _⟩
  · by_cases hb : b = 0
    · subst hb
      by_cases ha : a = 0
      · subst ha
        rw [show hF 4 0 0 = 0 by unfold hF; rw [if_neg (by omega), if_neg (by omega)]]
        go_enter Try.func46, Try.ntmps46
        go_wp2_with (first | (go_at_call 79; refine Calls.mono (in_yes _ _ _ _ (by omega) (by omega)) ?_; rintro e w1 ⟨rfl, rfl⟩) | (go_at_call 79; refine Calls.mono (in_no _ _ _ _ (by omega)) ?_; rintro e w1 ⟨rfl, rfl⟩))
        go_returns
        exact ⟨rfl, Below.refl _ _⟩
      · have e2 : (a != 0) = true := by simpa using ha
        rw [show hF 4 a 0 = 1 by unfold hF; rw [if_pos (by omega)]]
        go_enter Try.func46, Try.ntmps46
        go_wp2_with (first | (go_at_call 79; refine Calls.mono (in_yes _ _ _ _ (by omega) (by omega)) ?_; rintro e w1 ⟨rfl, rfl⟩) | (go_at_call 79; refine Calls.mono (in_no _ _ _ _ (by omega)) ?_; rintro e w1 ⟨rfl, rfl⟩))
        go_returns
        exact ⟨rfl, Below.refl _ _⟩
    · have e2 : (b != 0) = true := by simpa using hb
      rw [show hF 4 a b = 1 by unfold hF; rw [if_pos (by omega)]]
      go_enter Try.func46, Try.ntmps46
      go_wp2_with (first | (go_at_call 79; refine Calls.mono (in_yes _ _ _ _ (by omega) (by omega)) ?_; rintro e w1 ⟨rfl, rfl⟩) | (go_at_call 79; refine Calls.mono (in_no _ _ _ _ (by omega)) ?_; rintro e w1 ⟨rfl, rfl⟩))
      go_returns
      exact ⟨rfl, Below.refl _ _⟩

theorem sHand_any (k a b : Int) (w : World) : Calls Try.prog 20 #[.agg #[.int .i64 k, .int .i64 a, .int .i64 b]] w fun e w' => e = .returned (.int .i64 (hF k a b)) ∧ Below w.heap.size w w' := by
  have LH := fun w1 (h : H3 w1 w.heap.size k a b) => l10Hand_any w.heap.size k a b w1 h
  go_enter Try.func20, Try.ntmps20
  go_wp2_with fail
  refine Calls.mono (LH _ ⟨by simp, by simp, by simp⟩) ?_
  rintro e w1 ⟨rfl, k1⟩
  replace k1 := hideP k1
  go_wp2
  go_returns
  exact ⟨rfl, (Below.alloc (Below.refl _ _) (Nat.le_refl _) _).trans (k1.out.mono (by simp))⟩

set_option maxHeartbeats 400000 in
theorem toHand_any (k a b : Int) (w : World) : Calls Try.prog 25 #[.agg #[.int .i64 k, .int .i64 a, .int .i64 b]] w fun e w' => e = .returned (.agg #[.int .i64 k, .int .i64 a, .int .i64 b]) ∧ Below w.heap.size w w' := by
  go_enter Try.func25, Try.ntmps25
  go_wp2
  go_returns
  refine ⟨rfl, ?_⟩
  repeat' (first | (with_reducible exact Below.refl _ _) | (with_reducible refine kept_below ?_ (by assumption) ?_) | (with_reducible refine Below.alloc ?_ ?_ _) | (with_reducible refine Below.drew ?_) | (with_reducible refine Below.setCell ?_ ?_ _) | go_size)

set_option maxHeartbeats 400000 in
theorem hand_law (k a b : Int) (w : World) : Calls Try.prog 5 #[.agg #[.int .i64 k, .int .i64 a, .int .i64 b]] w fun e w' => e = .returned (.bool true) ∧ Below w.heap.size w w' := by
  go_enter Try.func5, Try.ntmps5
  go_wp2_with (first | (go_at_call 25; refine Calls.mono (toHand_any _ _ _ _) ?_; (all_goals try (first | (with_reducible assumption) | omega)); rintro e w1 ⟨rfl, k1⟩; (try replace k1 := kept_join (by assumption) k1); have hc1 := Kept.cell k1; have hf1 := Kept.frozen k1; have hz1 := k1.size; (try simp only [World.size_alloc] at hz1); (try simp only [World.size_setCell] at hz1); (try simp only [World.size_drew] at hz1); (try (first | have hs1 := sz12 hz1 | have hs1 := sz11 hz1 | have hs1 := sz10 hz1 | have hs1 := sz9 hz1 | have hs1 := sz8 hz1 | have hs1 := sz7 hz1 | have hs1 := sz6 hz1 | have hs1 := sz5 hz1 | have hs1 := sz4 hz1 | have hs1 := sz3 hz1 | have hs1 := sz2 hz1 | have hs1 := sz1 hz1))) | (go_at_call 20; refine Calls.mono (sHand_any _ _ _ _) ?_; (all_goals try (first | (with_reducible assumption) | omega)); rintro e w1 ⟨rfl, k1⟩; (try replace k1 := kept_join (by assumption) k1); have hc1 := Kept.cell k1; have hf1 := Kept.frozen k1; have hz1 := k1.size; (try simp only [World.size_alloc] at hz1); (try simp only [World.size_setCell] at hz1); (try simp only [World.size_drew] at hz1); (try (first | have hs1 := sz12 hz1 | have hs1 := sz11 hz1 | have hs1 := sz10 hz1 | have hs1 := sz9 hz1 | have hs1 := sz8 hz1 | have hs1 := sz7 hz1 | have hs1 := sz6 hz1 | have hs1 := sz5 hz1 | have hs1 := sz4 hz1 | have hs1 := sz3 hz1 | have hs1 := sz2 hz1 | have hs1 := sz1 hz1))) | (go_at_call 19; refine Calls.mono (iHand_any _ _ _ _) ?_; (all_goals try (first | (with_reducible assumption) | omega)); rintro e w1 ⟨rfl, k1⟩; (try replace k1 := kept_join (by assumption) k1); have hc1 := Kept.cell k1; have hf1 := Kept.frozen k1; have hz1 := k1.size; (try simp only [World.size_alloc] at hz1); (try simp only [World.size_setCell] at hz1); (try simp only [World.size_drew] at hz1); (try (first | have hs1 := sz12 hz1 | have hs1 := sz11 hz1 | have hs1 := sz10 hz1 | have hs1 := sz9 hz1 | have hs1 := sz8 hz1 | have hs1 := sz7 hz1 | have hs1 := sz6 hz1 | have hs1 := sz5 hz1 | have hs1 := sz4 hz1 | have hs1 := sz3 hz1 | have hs1 := sz2 hz1 | have hs1 := sz1 hz1))))
  go_returns
  refine ⟨rfl, ?_⟩
  repeat' (first | (with_reducible exact Below.refl _ _) | (with_reducible refine kept_below ?_ (by assumption) ?_) | (with_reducible refine Below.alloc ?_ ?_ _) | (with_reducible refine Below.drew ?_) | (with_reducible refine Below.setCell ?_ ?_ _) | go_size)
end Go.Proofs.Ytoipcnpemmajaaa
