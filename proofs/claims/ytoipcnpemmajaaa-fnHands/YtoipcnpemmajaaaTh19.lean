/- Hands: what a hand's fault is, by the program and by the model. -/
import Derived.Test.YtoipcnpemmajaaaTh18
import Derived.Test.YtoipcnpemmajaaaTh12
import Derived.Laws.StructEq
namespace Go.Proofs.Ytoipcnpemmajaaa
open Go.RowKit
set_option linter.unusedVariables false

/-- The fault of a hand. -/
def hF (k a b : Int) : Int :=
  if k < 1 ∨ 4 < k ∨ (k ≠ 2 ∧ b ≠ 0) ∨ (3 ≤ k ∧ a ≠ 0) then 1
  else if (k = 1 ∧ (a < 0 ∨ 255 < a)) ∨ (k = 2 ∧ (a < 0 ∨ 11 < a ∨ b < 0 ∨ 7 < b)) then 3 else 0
def bareA (k a : Int) : Int := if k = 1 ∨ k = 2 then a else 0
def bareB (k b : Int) : Int := if k = 2 then b else 0

set_option maxRecDepth 100000 in
theorem eqHand (a b c d e f : Int) (w : World) : (Op.equalIn 10000 28 (.agg #[.int .i64 a, .int .i64 b, .int .i64 c]) (.agg #[.int .i64 d, .int .i64 e, .int .i64 f])).run Try.prog w = .ok (a == d && b == e && c == f) w := by
  have u3 := Try.underlying2
  have a3 := Try.isAgg2
  have z3 := Try.sizeOf2
  have hS : Try.prog.underlying 28 = some (.struct (Try.prog.fieldsOf 28)) := by kernel_rfl
  have hp : Try.prog.stoodInHeld 28 = false := by kernel_rfl
  rw [show (10000 : Nat) = 9999 + 1 from rfl, run_equalIn_agg w 9999 28 _ _ hS hp]
  simp only [Program.fieldsOf, Try.underlying28]
  go_simp
  by_cases h1 : a = d <;> by_cases h2 : b = e <;> by_cases h3 : c = f <;> simp [h1, h2, h3]
attribute [local go_sem] eqHand

set_option maxHeartbeats 400000 in
theorem bare_any (k a b : Int) (w : World) : Calls Try.prog 48 #[.agg #[.int .i64 k, .int .i64 a, .int .i64 b]] w fun e w' => e = .returned (.agg #[.int .i64 k, .int .i64 (bareA k a), .int .i64 (bareB k b)]) ∧ Below w.heap.size w w' := by
  by_cases h1 : k = 1
  · subst h1
    show Calls _ _ _ _ fun e w' => e = .returned (.agg #[.int .i64 1, .int .i64 a, .int .i64 0]) ∧ _
    go_enter Try.func48, Try.ntmps48
    go_wp2
    go_returns
    exact ⟨rfl, by go_grown⟩
  · have e1 : (k == 1) = false := by simpa using h1
    by_cases h2 : k = 2
    · subst h2
      show Calls _ _ _ _ fun e w' => e = .returned (.agg #[.int .i64 2, .int .i64 a, .int .i64 b]) ∧ _
      go_enter Try.func48, Try.ntmps48
      go_wp2
      go_returns
      exact ⟨rfl, by go_grown⟩
    · have e2 : (k == 2) = false := by simpa using h2
      rw [show bareA k a = 0 from if_neg (by omega), show bareB k b = 0 from if_neg h2]
      go_enter Try.func48, Try.ntmps48
      go_wp2
      go_returns
      exact ⟨rfl, by go_grown⟩

set_option maxHeartbeats 400000 in
theorem iHand_out (k a b : Int) (w : World) (h : k < 1 ∨ 4 < k) : Calls Try.prog 19 #[.agg #[.int .i64 k, .int .i64 a, .int .i64 b]] w fun e w' => e = .returned (.int .i64 1) ∧ Below w.heap.size w w' := by
  by_cases h1 : k < 1
  · clear h
    go_enter Try.func19, Try.ntmps19
    go_wp2_with fail
    refine wp_region_wq (by kernel_rfl) (by kernel_rfl) ?_
    repeat (first | (refine wq_up _ (by first | exact wanted_free rfl | exact wanted_yes rfl rfl | exact wanted_no rfl rfl | exact wanted_lost rfl rfl) (by first | with_reducible rfl | decide) ?_; apply Exists.intro; refine ⟨fun w1 k1 => ?_, fun K hK => ?_⟩; (focus (have hc := Kept.cell k1; go_simp; first | done | rfl | (fail))); (go_simp; refine hK _ ?_; clear hK K)) | (refine wq_off _ (by first | exact wanted_free rfl | exact wanted_yes rfl rfl | exact wanted_no rfl rfl | exact wanted_lost rfl rfl) (by first | with_reducible rfl | decide) ?_; intro K hK; go_simp; refine hK _ ?_; clear hK K))
    refine wq_nil ?_
    intro w1 k1
    replace k1 := Kept.below k1
    have hc1 := Kept.cell k1
    have hf1 := Kept.frozen k1
    have hz1 := k1.size
    try simp only [World.size_alloc] at hz1
    try simp only [World.size_setCell] at hz1
    try simp only [World.size_drew] at hz1
    try (first | have hs1 := sz12 hz1 | have hs1 := sz11 hz1 | have hs1 := sz10 hz1 | have hs1 := sz9 hz1 | have hs1 := sz8 hz1 | have hs1 := sz7 hz1 | have hs1 := sz6 hz1 | have hs1 := sz5 hz1 | have hs1 := sz4 hz1 | have hs1 := sz3 hz1 | have hs1 := sz2 hz1 | have hs1 := sz1 hz1)
    go_wp2
    go_returns
    exact ⟨rfl, by repeat' (first | (with_reducible exact Below.refl _ _) | (with_reducible refine kept_below ?_ (by assumption) ?_) | (with_reducible refine Below.alloc ?_ ?_ _) | (with_reducible refine Below.drew ?_) | (with_reducible refine Below.setCell ?_ ?_ _) | go_size)⟩
  · have h2 : 4 < k := by omega
    have e1 : decide (k < 1) = false := decide_eq_false h1
    clear h h1
    go_enter Try.func19, Try.ntmps19
    go_wp2_with fail
    refine wp_region_wq (by kernel_rfl) (by kernel_rfl) ?_
    repeat (first | (refine wq_up _ (by first | exact wanted_free rfl | exact wanted_yes rfl rfl | exact wanted_no rfl rfl | exact wanted_lost rfl rfl) (by first | with_reducible rfl | decide) ?_; apply Exists.intro; refine ⟨fun w1 k1 => ?_, fun K hK => ?_⟩; (focus (have hc := Kept.cell k1; go_simp; first | done | rfl | (fail))); (go_simp; refine hK _ ?_; clear hK K)) | (refine wq_off _ (by first | exact wanted_free rfl | exact wanted_yes rfl rfl | exact wanted_no rfl rfl | exact wanted_lost rfl rfl) (by first | with_reducible rfl | decide) ?_; intro K hK; go_simp; refine hK _ ?_; clear hK K))
    refine wq_nil ?_
    intro w1 k1
    replace k1 := Kept.below k1
    have hc1 := Kept.cell k1
    have hf1 := Kept.frozen k1
    have hz1 := k1.size
    try simp only [World.size_alloc] at hz1
    try simp only [World.size_setCell] at hz1
    try simp only [World.size_drew] at hz1
    try (first | have hs1 := sz12 hz1 | have hs1 := sz11 hz1 | have hs1 := sz10 hz1 | have hs1 := sz9 hz1 | have hs1 := sz8 hz1 | have hs1 := sz7 hz1 | have hs1 := sz6 hz1 | have hs1 := sz5 hz1 | have hs1 := sz4 hz1 | have hs1 := sz3 hz1 | have hs1 := sz2 hz1 | have hs1 := sz1 hz1)
    go_wp2
    go_returns
    exact ⟨rfl, by repeat' (first | (with_reducible exact Below.refl _ _) | (with_reducible refine kept_below ?_ (by assumption) ?_) | (with_reducible refine Below.alloc ?_ ?_ _) | (with_reducible refine Below.drew ?_) | (with_reducible refine Below.setCell ?_ ?_ _) | go_size)⟩

theorem within_key (a : Int) (w : World) : Calls Try.prog 49 #[.agg #[.int .i64 1, .int .i64 a, .int .i64 0]] w fun e w' => e = .returned (.bool (byB a)) ∧ Below w.heap.size w w' := by
  go_enter Try.func49, Try.ntmps49
  go_wp2_with (go_at_call 78; refine Calls.mono (byte7_any _ _) ?_; rintro e w1 ⟨rfl, rfl⟩)
  go_returns
  exact ⟨rfl, by go_grown⟩

theorem within_click (a b : Int) (w : World) : Calls Try.prog 49 #[.agg #[.int .i64 2, .int .i64 a, .int .i64 b]] w fun e w' => e = .returned (.bool (hpB 0 0 12 8 a b)) ∧ Below w.heap.size w w' := by
  go_enter Try.func49, Try.ntmps49
  go_wp2_with (go_at_call 51; refine Calls.mono (hp_any _ _ _ _ _ _ _) ?_; (all_goals try (first | (with_reducible assumption) | omega)); rintro e w1 ⟨rfl, k1⟩; (try replace k1 := kept_join (by assumption) k1); have hc1 := Kept.cell k1; have hf1 := Kept.frozen k1; have hz1 := k1.size; (try simp only [World.size_alloc] at hz1); (try simp only [World.size_setCell] at hz1); (try simp only [World.size_drew] at hz1); (try (first | have hs1 := sz12 hz1 | have hs1 := sz11 hz1 | have hs1 := sz10 hz1 | have hs1 := sz9 hz1 | have hs1 := sz8 hz1 | have hs1 := sz7 hz1 | have hs1 := sz6 hz1 | have hs1 := sz5 hz1 | have hs1 := sz4 hz1 | have hs1 := sz3 hz1 | have hs1 := sz2 hz1 | have hs1 := sz1 hz1)))
  go_returns
  refine ⟨rfl, ?_⟩
  repeat' (first | (with_reducible exact Below.refl _ _) | (with_reducible refine kept_below ?_ (by assumption) ?_) | (with_reducible refine Below.alloc ?_ ?_ _) | (with_reducible refine Below.drew ?_) | (with_reducible refine Below.setCell ?_ ?_ _) | go_size)

theorem within_bare (k : Int) (w : World) (h : k = 3 ∨ k = 4) : Calls Try.prog 49 #[.agg #[.int .i64 k, .int .i64 0, .int .i64 0]] w fun e w' => e = .returned (.bool true) ∧ Below w.heap.size w w' := by
  have e1 : (k == 1) = false := by rcases h with rfl | rfl <;> rfl
  have e2 : (k == 2) = false := by rcases h with rfl | rfl <;> rfl
  clear h
  go_enter Try.func49, Try.ntmps49
  go_wp2
  go_returns
  exact ⟨rfl, by go_grown⟩

theorem bare_key (a b : Int) (w : World) : Calls Try.prog 48 #[.agg #[.int .i64 1, .int .i64 a, .int .i64 b]] w fun e w' => e = .returned (.agg #[.int .i64 1, .int .i64 a, .int .i64 0]) ∧ Below w.heap.size w w' := bare_any 1 a b w
theorem bare_click (a b : Int) (w : World) : Calls Try.prog 48 #[.agg #[.int .i64 2, .int .i64 a, .int .i64 b]] w fun e w' => e = .returned (.agg #[.int .i64 2, .int .i64 a, .int .i64 b]) ∧ Below w.heap.size w w' := bare_any 2 a b w
theorem bare_3 (a b : Int) (w : World) : Calls Try.prog 48 #[.agg #[.int .i64 3, .int .i64 a, .int .i64 b]] w fun e w' => e = .returned (.agg #[.int .i64 3, .int .i64 0, .int .i64 0]) ∧ Below w.heap.size w w' := bare_any 3 a b w
theorem bare_4 (a b : Int) (w : World) : Calls Try.prog 48 #[.agg #[.int .i64 4, .int .i64 a, .int .i64 b]] w fun e w' => e = .returned (.agg #[.int .i64 4, .int .i64 0, .int .i64 0]) ∧ Below w.heap.size w w' := bare_any 4 a b w

theorem hp_scr (a b : Int) : hpB 0 0 12 8 a b = decide (0 ≤ a ∧ a ≤ 11 ∧ 0 ≤ b ∧ b ≤ 7) := by
  unfold hpB
  rw [show rfB 0 0 12 8 = false from rfl]
  unfold inB
  rw [Bool.not_false, Bool.true_and]
  congr 1
  apply propext
  omega

set_option maxRecDepth 100000 in
set_option maxHeartbeats 2000000 in
theorem iHand_any (k a b : Int) (w : World) : Calls Try.prog 19 #[.agg #[.int .i64 k, .int .i64 a, .int .i64 b]] w fun e w' => e = .returned (.int .i64 (hF k a b)) ∧ Below w.heap.size w w' := by
  by_cases h0 : k < 1 ∨ 4 < k
  · rw [show hF k a b = 1 from if_pos (by omega)]; exact iHand_out k a b w h0
  have hk : k = 1 ∨ k = 2 ∨ k = 3 ∨ k = 4 := by omega
  clear h0
  rcases hk with rfl | rfl | rfl | rfl
  · by_cases hb : b = 0
    · subst hb
      cases hy : byB a
      · rw [show hF 1 a 0 = 3 by unfold hF; rw [if_neg (by omega), if_pos (by have := byB_no hy; omega)]]
        go_enter Try.func19, Try.ntmps19
        go_wp2_with fail
        refine wp_region_wq (by kernel_rfl) (by kernel_rfl) ?_
        repeat (first | (refine wq_up _ (by first | exact wanted_free rfl | exact wanted_yes rfl rfl | exact wanted_no rfl rfl | exact wanted_lost rfl rfl) (by first | with_reducible rfl | decide) ?_; apply Exists.intro; refine ⟨fun w1 k1 => ?_, fun K hK => ?_⟩; (focus (have hc := Kept.cell k1; go_simp; first | done | rfl | (go_at_call 48; exact kept_call k1 (bare_key _ _ _)))); (go_simp; refine hK _ ?_; clear hK K)) | (refine wq_off _ (by first | exact wanted_free rfl | exact wanted_yes rfl rfl | exact wanted_no rfl rfl | exact wanted_lost rfl rfl) (by first | with_reducible rfl | decide) ?_; intro K hK; go_simp; refine hK _ ?_; clear hK K))
        refine wq_nil ?_
        intro w1 k1
        replace k1 := Kept.below k1
        have hc1 := Kept.cell k1
        have hf1 := Kept.frozen k1
        have hz1 := k1.size
        try simp only [World.size_alloc] at hz1
        try simp only [World.size_setCell] at hz1
        try simp only [World.size_drew] at hz1
        try (first | have hs1 := sz12 hz1 | have hs1 := sz11 hz1 | have hs1 := sz10 hz1 | have hs1 := sz9 hz1 | have hs1 := sz8 hz1 | have hs1 := sz7 hz1 | have hs1 := sz6 hz1 | have hs1 := sz5 hz1 | have hs1 := sz4 hz1 | have hs1 := sz3 hz1 | have hs1 := sz2 hz1 | have hs1 := sz1 hz1)
        go_wp2_with (go_at_call 49; refine Calls.mono (within_key _ _) ?_; rintro e w2 ⟨rfl, k2⟩; rw [hy])
        go_returns
        exact ⟨rfl, by repeat' (first | (with_reducible exact Below.refl _ _) | (with_reducible refine kept_below ?_ (by assumption) ?_) | (with_reducible refine Below.alloc ?_ ?_ _) | (with_reducible refine Below.drew ?_) | (with_reducible refine Below.setCell ?_ ?_ _) | go_size)⟩
      · rw [show hF 1 a 0 = 0 by unfold hF; rw [if_neg (by omega), if_neg (by have := byB_yes hy; omega)]]
        go_enter Try.func19, Try.ntmps19
        go_wp2_with fail
        refine wp_region_wq (by kernel_rfl) (by kernel_rfl) ?_
        repeat (first | (refine wq_up _ (by first | exact wanted_free rfl | exact wanted_yes rfl rfl | exact wanted_no rfl rfl | exact wanted_lost rfl rfl) (by first | with_reducible rfl | decide) ?_; apply Exists.intro; refine ⟨fun w1 k1 => ?_, fun K hK => ?_⟩; (focus (have hc := Kept.cell k1; go_simp; first | done | rfl | (go_at_call 48; exact kept_call k1 (bare_key _ _ _)))); (go_simp; refine hK _ ?_; clear hK K)) | (refine wq_off _ (by first | exact wanted_free rfl | exact wanted_yes rfl rfl | exact wanted_no rfl rfl | exact wanted_lost rfl rfl) (by first | with_reducible rfl | decide) ?_; intro K hK; go_simp; refine hK _ ?_; clear hK K))
        refine wq_nil ?_
        intro w1 k1
        replace k1 := Kept.below k1
        have hc1 := Kept.cell k1
        have hf1 := Kept.frozen k1
        have hz1 := k1.size
        try simp only [World.size_alloc] at hz1
        try simp only [World.size_setCell] at hz1
        try simp only [World.size_drew] at hz1
        try (first | have hs1 := sz12 hz1 | have hs1 := sz11 hz1 | have hs1 := sz10 hz1 | have hs1 := sz9 hz1 | have hs1 := sz8 hz1 | have hs1 := sz7 hz1 | have hs1 := sz6 hz1 | have hs1 := sz5 hz1 | have hs1 := sz4 hz1 | have hs1 := sz3 hz1 | have hs1 := sz2 hz1 | have hs1 := sz1 hz1)
        go_wp2_with (go_at_call 49; refine Calls.mono (within_key _ _) ?_; rintro e w2 ⟨rfl, k2⟩; rw [hy])
        go_returns
        exact ⟨rfl, by repeat' (first | (with_reducible exact Below.refl _ _) | (with_reducible refine kept_below ?_ (by assumption) ?_) | (with_reducible refine Below.alloc ?_ ?_ _) | (with_reducible refine Below.drew ?_) | (with_reducible refine Below.setCell ?_ ?_ _) | go_size)⟩
    · have e2 : (b == 0) = false := by simpa using hb
      rw [show hF 1 a b = 1 from if_pos (by omega)]
      go_enter Try.func19, Try.ntmps19
      go_wp2_with fail
      refine wp_region_wq (by kernel_rfl) (by kernel_rfl) ?_
      repeat (first | (refine wq_up _ (by first | exact wanted_free rfl | exact wanted_yes rfl rfl | exact wanted_no rfl rfl | exact wanted_lost rfl rfl) (by first | with_reducible rfl | decide) ?_; apply Exists.intro; refine ⟨fun w1 k1 => ?_, fun K hK => ?_⟩; (focus (have hc := Kept.cell k1; go_simp; first | done | rfl | (go_at_call 48; exact kept_call k1 (bare_key _ _ _)))); (go_simp; refine hK _ ?_; clear hK K)) | (refine wq_off _ (by first | exact wanted_free rfl | exact wanted_yes rfl rfl | exact wanted_no rfl rfl | exact wanted_lost rfl rfl) (by first | with_reducible rfl | decide) ?_; intro K hK; go_simp; refine hK _ ?_; clear hK K))
      refine wq_nil ?_
      intro w1 k1
      replace k1 := Kept.below k1
      have hc1 := Kept.cell k1
      have hf1 := Kept.frozen k1
      have hz1 := k1.size
      try simp only [World.size_alloc] at hz1
      try simp only [World.size_setCell] at hz1
      try simp only [World.size_drew] at hz1
      try (first | have hs1 := sz12 hz1 | have hs1 := sz11 hz1 | have hs1 := sz10 hz1 | have hs1 := sz9 hz1 | have hs1 := sz8 hz1 | have hs1 := sz7 hz1 | have hs1 := sz6 hz1 | have hs1 := sz5 hz1 | have hs1 := sz4 hz1 | have hs1 := sz3 hz1 | have hs1 := sz2 hz1 | have hs1 := sz1 hz1)
      go_wp2
      go_returns
      exact ⟨rfl, by repeat' (first | (with_reducible exact Below.refl _ _) | (with_reducible refine kept_below ?_ (by assumption) ?_) | (with_reducible refine Below.alloc ?_ ?_ _) | (with_reducible refine Below.drew ?_) | (with_reducible refine Below.setCell ?_ ?_ _) | go_size)⟩
  · cases hy : hpB 0 0 12 8 a b
    · rw [show hF 2 a b = 3 by unfold hF; rw [if_neg (by omega), if_pos (by rw [hp_scr, decide_eq_false_iff_not] at hy; omega)]]
      go_enter Try.func19, Try.ntmps19
      go_wp2_with fail
      refine wp_region_wq (by kernel_rfl) (by kernel_rfl) ?_
      repeat (first | (refine wq_up _ (by first | exact wanted_free rfl | exact wanted_yes rfl rfl | exact wanted_no rfl rfl | exact wanted_lost rfl rfl) (by first | with_reducible rfl | decide) ?_; apply Exists.intro; refine ⟨fun w1 k1 => ?_, fun K hK => ?_⟩; (focus (have hc := Kept.cell k1; go_simp; first | done | rfl | (go_at_call 48; exact kept_call k1 (bare_click _ _ _)))); (go_simp; refine hK _ ?_; clear hK K)) | (refine wq_off _ (by first | exact wanted_free rfl | exact wanted_yes rfl rfl | exact wanted_no rfl rfl | exact wanted_lost rfl rfl) (by first | with_reducible rfl | decide) ?_; intro K hK; go_simp; refine hK _ ?_; clear hK K))
      refine wq_nil ?_
      intro w1 k1
      replace k1 := Kept.below k1
      have hc1 := Kept.cell k1
      have hf1 := Kept.frozen k1
      have hz1 := k1.size
      try simp only [World.size_alloc] at hz1
      try simp only [World.size_setCell] at hz1
      try simp only [World.size_drew] at hz1
      try (first | have hs1 := sz12 hz1 | have hs1 := sz11 hz1 | have hs1 := sz10 hz1 | have hs1 := sz9 hz1 | have hs1 := sz8 hz1 | have hs1 := sz7 hz1 | have hs1 := sz6 hz1 | have hs1 := sz5 hz1 | have hs1 := sz4 hz1 | have hs1 := sz3 hz1 | have hs1 := sz2 hz1 | have hs1 := sz1 hz1)
      go_wp2_with (go_at_call 49; refine Calls.mono (within_click _ _ _) ?_; rintro e w2 ⟨rfl, k2⟩; rw [hy])
      go_returns
      exact ⟨rfl, by repeat' (first | (with_reducible exact Below.refl _ _) | (with_reducible refine kept_below ?_ (by assumption) ?_) | (with_reducible refine Below.alloc ?_ ?_ _) | (with_reducible refine Below.drew ?_) | (with_reducible refine Below.setCell ?_ ?_ _) | go_size)⟩
    · rw [show hF 2 a b = 0 by unfold hF; rw [if_neg (by omega), if_neg (by rw [hp_scr, decide_eq_true_eq] at hy; omega)]]
      go_enter Try.func19, Try.ntmps19
      go_wp2_with fail
      refine wp_region_wq (by kernel_rfl) (by kernel_rfl) ?_
      repeat (first | (refine wq_up _ (by first | exact wanted_free rfl | exact wanted_yes rfl rfl | exact wanted_no rfl rfl | exact wanted_lost rfl rfl) (by first | with_reducible rfl | decide) ?_; apply Exists.intro; refine ⟨fun w1 k1 => ?_, fun K hK => ?_⟩; (focus (have hc := Kept.cell k1; go_simp; first | done | rfl | (go_at_call 48; exact kept_call k1 (bare_click _ _ _)))); (go_simp; refine hK _ ?_; clear hK K)) | (refine wq_off _ (by first | exact wanted_free rfl | exact wanted_yes rfl rfl | exact wanted_no rfl rfl | exact wanted_lost rfl rfl) (by first | with_reducible rfl | decide) ?_; intro K hK; go_simp; refine hK _ ?_; clear hK K))
      refine wq_nil ?_
      intro w1 k1
      replace k1 := Kept.below k1
      have hc1 := Kept.cell k1
      have hf1 := Kept.frozen k1
      have hz1 := k1.size
      try simp only [World.size_alloc] at hz1
      try simp only [World.size_setCell] at hz1
      try simp only [World.size_drew] at hz1
      try (first | have hs1 := sz12 hz1 | have hs1 := sz11 hz1 | have hs1 := sz10 hz1 | have hs1 := sz9 hz1 | have hs1 := sz8 hz1 | have hs1 := sz7 hz1 | have hs1 := sz6 hz1 | have hs1 := sz5 hz1 | have hs1 := sz4 hz1 | have hs1 := sz3 hz1 | have hs1 := sz2 hz1 | have hs1 := sz1 hz1)
      go_wp2_with (go_at_call 49; refine Calls.mono (within_click _ _ _) ?_; rintro e w2 ⟨rfl, k2⟩; rw [hy])
      go_returns
      exact ⟨rfl, by repeat' (first | (with_reducible exact Below.refl _ _) | (with_reducible refine kept_below ?_ (by assumption) ?_) | (with_reducible refine Below.alloc ?_ ?_ _) | (with_reducible refine Below.drew ?_) | (with_reducible refine Below.setCell ?_ ?_ _) | go_size)⟩
  · by_cases ha : a = 0
    · subst ha
      by_cases hb : b = 0
      · subst hb
        rw [show hF 3 0 0 = 0 from rfl]
        go_enter Try.func19, Try.ntmps19
        go_wp2_with fail
        refine wp_region_wq (by kernel_rfl) (by kernel_rfl) ?_
        repeat (first | (refine wq_up _ (by first | exact wanted_free rfl | exact wanted_yes rfl rfl | exact wanted_no rfl rfl | exact wanted_lost rfl rfl) (by first | with_reducible rfl | decide) ?_; apply Exists.intro; refine ⟨fun w1 k1 => ?_, fun K hK => ?_⟩; (focus (have hc := Kept.cell k1; go_simp; first | done | rfl | (go_at_call 48; exact kept_call k1 (bare_3 _ _ _)))); (go_simp; refine hK _ ?_; clear hK K)) | (refine wq_off _ (by first | exact wanted_free rfl | exact wanted_yes rfl rfl | exact wanted_no rfl rfl | exact wanted_lost rfl rfl) (by first | with_reducible rfl | decide) ?_; intro K hK; go_simp; refine hK _ ?_; clear hK K))
        refine wq_nil ?_
        intro w1 k1
        replace k1 := Kept.below k1
        have hc1 := Kept.cell k1
        have hf1 := Kept.frozen k1
        have hz1 := k1.size
        try simp only [World.size_alloc] at hz1
        try simp only [World.size_setCell] at hz1
        try simp only [World.size_drew] at hz1
        try (first | have hs1 := sz12 hz1 | have hs1 := sz11 hz1 | have hs1 := sz10 hz1 | have hs1 := sz9 hz1 | have hs1 := sz8 hz1 | have hs1 := sz7 hz1 | have hs1 := sz6 hz1 | have hs1 := sz5 hz1 | have hs1 := sz4 hz1 | have hs1 := sz3 hz1 | have hs1 := sz2 hz1 | have hs1 := sz1 hz1)
        go_wp2_with (go_at_call 49; refine Calls.mono (within_bare _ _ (by omega)) ?_; rintro e w2 ⟨rfl, k2⟩)
        go_returns
        exact ⟨rfl, by repeat' (first | (with_reducible exact Below.refl _ _) | (with_reducible refine kept_below ?_ (by assumption) ?_) | (with_reducible refine Below.alloc ?_ ?_ _) | (with_reducible refine Below.drew ?_) | (with_reducible refine Below.setCell ?_ ?_ _) | go_size)⟩
      · have e2 : (b == 0) = false := by simpa using hb
        rw [show hF 3 0 b = 1 from if_pos (by omega)]
        go_enter Try.func19, Try.ntmps19
        go_wp2_with fail
        refine wp_region_wq (by kernel_rfl) (by kernel_rfl) ?_
        repeat (first | (refine wq_up _ (by first | exact wanted_free rfl | exact wanted_yes rfl rfl | exact wanted_no rfl rfl | exact wanted_lost rfl rfl) (by first | with_reducible rfl | decide) ?_; apply Exists.intro; refine ⟨fun w1 k1 => ?_, fun K hK => ?_⟩; (focus (have hc := Kept.cell k1; go_simp; first | done | rfl | (go_at_call 48; exact kept_call k1 (bare_3 _ _ _)))); (go_simp; refine hK _ ?_; clear hK K)) | (refine wq_off _ (by first | exact wanted_free rfl | exact wanted_yes rfl rfl | exact wanted_no rfl rfl | exact wanted_lost rfl rfl) (by first | with_reducible rfl | decide) ?_; intro K hK; go_simp; refine hK _ ?_; clear hK K))
        refine wq_nil ?_
        intro w1 k1
        replace k1 := Kept.below k1
        have hc1 := Kept.cell k1
        have hf1 := Kept.frozen k1
        have hz1 := k1.size
        try simp only [World.size_alloc] at hz1
        try simp only [World.size_setCell] at hz1
        try simp only [World.size_drew] at hz1
        try (first | have hs1 := sz12 hz1 | have hs1 := sz11 hz1 | have hs1 := sz10 hz1 | have hs1 := sz9 hz1 | have hs1 := sz8 hz1 | have hs1 := sz7 hz1 | have hs1 := sz6 hz1 | have hs1 := sz5 hz1 | have hs1 := sz4 hz1 | have hs1 := sz3 hz1 | have hs1 := sz2 hz1 | have hs1 := sz1 hz1)
        go_wp2
        go_returns
        exact ⟨rfl, by repeat' (first | (with_reducible exact Below.refl _ _) | (with_reducible refine kept_below ?_ (by assumption) ?_) | (with_reducible refine Below.alloc ?_ ?_ _) | (with_reducible refine Below.drew ?_) | (with_reducible refine Below.setCell ?_ ?_ _) | go_size)⟩
    · have e2 : (a == 0) = false := by simpa using ha
      rw [show hF 3 a b = 1 from if_pos (by omega)]
      go_enter Try.func19, Try.ntmps19
      go_wp2_with fail
      refine wp_region_wq (by kernel_rfl) (by kernel_rfl) ?_
      repeat (first | (refine wq_up _ (by first | exact wanted_free rfl | exact wanted_yes rfl rfl | exact wanted_no rfl rfl | exact wanted_lost rfl rfl) (by first | with_reducible rfl | decide) ?_; apply Exists.intro; refine ⟨fun w1 k1 => ?_, fun K hK => ?_⟩; (focus (have hc := Kept.cell k1; go_simp; first | done | rfl | (go_at_call 48; exact kept_call k1 (bare_3 _ _ _)))); (go_simp; refine hK _ ?_; clear hK K)) | (refine wq_off _ (by first | exact wanted_free rfl | exact wanted_yes rfl rfl | exact wanted_no rfl rfl | exact wanted_lost rfl rfl) (by first | with_reducible rfl | decide) ?_; intro K hK; go_simp; refine hK _ ?_; clear hK K))
      refine wq_nil ?_
      intro w1 k1
      replace k1 := Kept.below k1
      have hc1 := Kept.cell k1
      have hf1 := Kept.frozen k1
      have hz1 := k1.size
      try simp only [World.size_alloc] at hz1
      try simp only [World.size_setCell] at hz1
      try simp only [World.size_drew] at hz1
      try (first | have hs1 := sz12 hz1 | have hs1 := sz11 hz1 | have hs1 := sz10 hz1 | have hs1 := sz9 hz1 | have hs1 := sz8 hz1 | have hs1 := sz7 hz1 | have hs1 := sz6 hz1 | have hs1 := sz5 hz1 | have hs1 := sz4 hz1 | have hs1 := sz3 hz1 | have hs1 := sz2 hz1 | have hs1 := sz1 hz1)
      go_wp2
      go_returns
      exact ⟨rfl, by repeat' (first | (with_reducible exact Below.refl _ _) | (with_reducible refine kept_below ?_ (by assumption) ?_) | (with_reducible refine Below.alloc ?_ ?_ _) | (with_reducible refine Below.drew ?_) | (with_reducible refine Below.setCell ?_ ?_ _) | go_size)⟩
  · by_cases ha : a = 0
    · subst ha
      by_cases hb : b = 0
      · subst hb
        rw [show hF 4 0 0 = 0 from rfl]
        go_enter Try.func19, Try.ntmps19
        go_wp2_with fail
        refine wp_region_wq (by kernel_rfl) (by kernel_rfl) ?_
        repeat (first | (refine wq_up _ (by first | exact wanted_free rfl | exact wanted_yes rfl rfl | exact wanted_no rfl rfl | exact wanted_lost rfl rfl) (by first | with_reducible rfl | decide) ?_; apply Exists.intro; refine ⟨fun w1 k1 => ?_, fun K hK => ?_⟩; (focus (have hc := Kept.cell k1; go_simp; first | done | rfl | (go_at_call 48; exact kept_call k1 (bare_4 _ _ _)))); (go_simp; refine hK _ ?_; clear hK K)) | (refine wq_off _ (by first | exact wanted_free rfl | exact wanted_yes rfl rfl | exact wanted_no rfl rfl | exact wanted_lost rfl rfl) (by first | with_reducible rfl | decide) ?_; intro K hK; go_simp; refine hK _ ?_; clear hK K))
        refine wq_nil ?_
        intro w1 k1
        replace k1 := Kept.below k1
        have hc1 := Kept.cell k1
        have hf1 := Kept.frozen k1
        have hz1 := k1.size
        try simp only [World.size_alloc] at hz1
        try simp only [World.size_setCell] at hz1
        try simp only [World.size_drew] at hz1
        try (first | have hs1 := sz12 hz1 | have hs1 := sz11 hz1 | have hs1 := sz10 hz1 | have hs1 := sz9 hz1 | have hs1 := sz8 hz1 | have hs1 := sz7 hz1 | have hs1 := sz6 hz1 | have hs1 := sz5 hz1 | have hs1 := sz4 hz1 | have hs1 := sz3 hz1 | have hs1 := sz2 hz1 | have hs1 := sz1 hz1)
        go_wp2_with (go_at_call 49; refine Calls.mono (within_bare _ _ (by omega)) ?_; rintro e w2 ⟨rfl, k2⟩)
        go_returns
        exact ⟨rfl, by repeat' (first | (with_reducible exact Below.refl _ _) | (with_reducible refine kept_below ?_ (by assumption) ?_) | (with_reducible refine Below.alloc ?_ ?_ _) | (with_reducible refine Below.drew ?_) | (with_reducible refine Below.setCell ?_ ?_ _) | go_size)⟩
      · have e2 : (b == 0) = false := by simpa using hb
        rw [show hF 4 0 b = 1 from if_pos (by omega)]
        go_enter Try.func19, Try.ntmps19
        go_wp2_with fail
        refine wp_region_wq (by kernel_rfl) (by kernel_rfl) ?_
        repeat (first | (refine wq_up _ (by first | exact wanted_free rfl | exact wanted_yes rfl rfl | exact wanted_no rfl rfl | exact wanted_lost rfl rfl) (by first | with_reducible rfl | decide) ?_; apply Exists.intro; refine ⟨fun w1 k1 => ?_, fun K hK => ?_⟩; (focus (have hc := Kept.cell k1; go_simp; first | done | rfl | (go_at_call 48; exact kept_call k1 (bare_4 _ _ _)))); (go_simp; refine hK _ ?_; clear hK K)) | (refine wq_off _ (by first | exact wanted_free rfl | exact wanted_yes rfl rfl | exact wanted_no rfl rfl | exact wanted_lost rfl rfl) (by first | with_reducible rfl | decide) ?_; intro K hK; go_simp; refine hK _ ?_; clear hK K))
        refine wq_nil ?_
        intro w1 k1
        replace k1 := Kept.below k1
        have hc1 := Kept.cell k1
        have hf1 := Kept.frozen k1
        have hz1 := k1.size
        try simp only [World.size_alloc] at hz1
        try simp only [World.size_setCell] at hz1
        try simp only [World.size_drew] at hz1
        try (first | have hs1 := sz12 hz1 | have hs1 := sz11 hz1 | have hs1 := sz10 hz1 | have hs1 := sz9 hz1 | have hs1 := sz8 hz1 | have hs1 := sz7 hz1 | have hs1 := sz6 hz1 | have hs1 := sz5 hz1 | have hs1 := sz4 hz1 | have hs1 := sz3 hz1 | have hs1 := sz2 hz1 | have hs1 := sz1 hz1)
        go_wp2
        go_returns
        exact ⟨rfl, by repeat' (first | (with_reducible exact Below.refl _ _) | (with_reducible refine kept_below ?_ (by assumption) ?_) | (with_reducible refine Below.alloc ?_ ?_ _) | (with_reducible refine Below.drew ?_) | (with_reducible refine Below.setCell ?_ ?_ _) | go_size)⟩
    · have e2 : (a == 0) = false := by simpa using ha
      rw [show hF 4 a b = 1 from if_pos (by omega)]
      go_enter Try.func19, Try.ntmps19
      go_wp2_with fail
      refine wp_region_wq (by kernel_rfl) (by kernel_rfl) ?_
      repeat (first | (refine wq_up _ (by first | exact wanted_free rfl | exact wanted_yes rfl rfl | exact wanted_no rfl rfl | exact wanted_lost rfl rfl) (by first | with_reducible rfl | decide) ?_; apply Exists.intro; refine ⟨fun w1 k1 => ?_, fun K hK => ?_⟩; (focus (have hc := Kept.cell k1; go_simp; first | done | rfl | (go_at_call 48; exact kept_call k1 (bare_4 _ _ _)))); (go_simp; refine hK _ ?_; clear hK K)) | (refine wq_off _ (by first | exact wanted_free rfl | exact wanted_yes rfl rfl | exact wanted_no rfl rfl | exact wanted_lost rfl rfl) (by first | with_reducible rfl | decide) ?_; intro K hK; go_simp; refine hK _ ?_; clear hK K))
      refine wq_nil ?_
      intro w1 k1
      replace k1 := Kept.below k1
      have hc1 := Kept.cell k1
      have hf1 := Kept.frozen k1
      have hz1 := k1.size
      try simp only [World.size_alloc] at hz1
      try simp only [World.size_setCell] at hz1
      try simp only [World.size_drew] at hz1
      try (first | have hs1 := sz12 hz1 | have hs1 := sz11 hz1 | have hs1 := sz10 hz1 | have hs1 := sz9 hz1 | have hs1 := sz8 hz1 | have hs1 := sz7 hz1 | have hs1 := sz6 hz1 | have hs1 := sz5 hz1 | have hs1 := sz4 hz1 | have hs1 := sz3 hz1 | have hs1 := sz2 hz1 | have hs1 := sz1 hz1)
      go_wp2
      go_returns
      exact ⟨rfl, by repeat' (first | (with_reducible exact Below.refl _ _) | (with_reducible refine kept_below ?_ (by assumption) ?_) | (with_reducible refine Below.alloc ?_ ?_ _) | (with_reducible refine Below.drew ?_) | (with_reducible refine Below.setCell ?_ ?_ _) | go_size)⟩
end Go.Proofs.Ytoipcnpemmajaaa
