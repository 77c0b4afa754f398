/- JoinLabels, MeetLabels: the model's and the program's at every argument. -/
import Derived.Test.YtmnekheaggleaaaLab5
namespace Go.Proofs.Ytmnekheaggleaaa
open Go.RowKit
set_option linter.unusedVariables false

def mx (a b : Int) : Int := if b < a then a else b
def mn (a b : Int) : Int := if a < b then a else b

set_option maxHeartbeats 400000 in
theorem mx_any (a b : Int) (w : World) : Calls Try.prog 26 #[.int .i64 a, .int .i64 b] w fun e w' => e = .returned (.int .i64 (mx a b)) ∧ Below w.heap.size w w' := by
  unfold mx
  by_cases h : b < a
  · rw [if_pos h]
    go_enter Try.func26, Try.ntmps26
    go_wp2
    go_returns
    exact ⟨rfl, Below.refl _ _⟩
  · rw [if_neg h]
    go_enter Try.func26, Try.ntmps26
    go_wp2
    go_returns
    exact ⟨rfl, Below.refl _ _⟩

set_option maxHeartbeats 400000 in
theorem labelWith_any (l p : Int) (w : World) (h1 : 0 ≤ p) (h2 : p ≤ 15) : Calls Try.prog 21 #[.int .i64 l, .int .u8 p] w fun e w' => e = .returned (.agg #[.int .i64 l, .int .i64 p]) ∧ Below w.heap.size w w' := by
  go_enter Try.func21, Try.ntmps21
  go_wp2
  go_returns
  exact ⟨rfl, by go_grown⟩

set_option maxHeartbeats 400000 in
theorem eqLR_same (c l p : Int) (w : World) : Calls Try.prog 17 #[.agg #[.int .i64 c, .int .i64 l, .int .i64 p], .agg #[.int .i64 c, .int .i64 l, .int .i64 p]] w fun e w' => e = .returned (.bool true) ∧ Below w.heap.size w w' := by
  go_enter Try.func17, Try.ntmps17
  go_wp2
  go_returns
  exact ⟨rfl, by go_grown⟩

set_option maxHeartbeats 400000 in
theorem sj_1 (al ap bl bp : Int) (w : World) (h : fltB al ap = true) :
    Calls Try.prog 14 #[.agg #[.int .i64 al, .int .i64 ap], .agg #[.int .i64 bl, .int .i64 bp]] w fun e w' => e = .returned (.agg #[.int .i64 3, .int .i64 0, .int .i64 0]) ∧ Below w.heap.size w w' := by
  go_enter Try.func14, Try.ntmps14
  go_wp2_with (first | (go_at_call 25; refine Calls.mono (sb_1 _ _ _ _ _ ?_) ?_; (all_goals try (first | (with_reducible assumption) | omega)); rintro e w1 ⟨rfl, k1⟩; (try replace k1 := kept_join (by assumption) k1); have hc1 := Kept.cell k1; have hf1 := Kept.frozen k1; have hz1 := k1.size; (try simp only [World.size_alloc] at hz1); (try simp only [World.size_setCell] at hz1); (try simp only [World.size_drew] at hz1); (try (first | have hs1 := sz12 hz1 | have hs1 := sz11 hz1 | have hs1 := sz10 hz1 | have hs1 := sz9 hz1 | have hs1 := sz8 hz1 | have hs1 := sz7 hz1 | have hs1 := sz6 hz1 | have hs1 := sz5 hz1 | have hs1 := sz4 hz1 | have hs1 := sz3 hz1 | have hs1 := sz2 hz1 | have hs1 := sz1 hz1))))
  refine bodyPost_ret (v := .agg #[.int .i64 3, .int .i64 0, .int .i64 0]) (by simp [results, Try.results14, go_sem, *]) rfl ⟨rfl, ?_⟩
  repeat' (first | (with_reducible exact Below.refl _ _) | (with_reducible refine kept_below ?_ (by assumption) ?_) | (with_reducible refine Below.alloc ?_ ?_ _) | (with_reducible refine Below.drew ?_) | (with_reducible refine Below.setCell ?_ ?_ _) | go_size)

set_option maxHeartbeats 400000 in
theorem sj_2 (al ap bl bp : Int) (w : World) (h : fltB al ap = false) (h2 : fltB bl bp = true) :
    Calls Try.prog 14 #[.agg #[.int .i64 al, .int .i64 ap], .agg #[.int .i64 bl, .int .i64 bp]] w fun e w' => e = .returned (.agg #[.int .i64 3, .int .i64 0, .int .i64 0]) ∧ Below w.heap.size w w' := by
  go_enter Try.func14, Try.ntmps14
  go_wp2_with (first | (go_at_call 25; refine Calls.mono (sb_2 _ _ _ _ _ ?_ ?_) ?_; (all_goals try (first | (with_reducible assumption) | omega)); rintro e w1 ⟨rfl, k1⟩; (try replace k1 := kept_join (by assumption) k1); have hc1 := Kept.cell k1; have hf1 := Kept.frozen k1; have hz1 := k1.size; (try simp only [World.size_alloc] at hz1); (try simp only [World.size_setCell] at hz1); (try simp only [World.size_drew] at hz1); (try (first | have hs1 := sz12 hz1 | have hs1 := sz11 hz1 | have hs1 := sz10 hz1 | have hs1 := sz9 hz1 | have hs1 := sz8 hz1 | have hs1 := sz7 hz1 | have hs1 := sz6 hz1 | have hs1 := sz5 hz1 | have hs1 := sz4 hz1 | have hs1 := sz3 hz1 | have hs1 := sz2 hz1 | have hs1 := sz1 hz1))))
  refine bodyPost_ret (v := .agg #[.int .i64 3, .int .i64 0, .int .i64 0]) (by simp [results, Try.results14, go_sem, *]) rfl ⟨rfl, ?_⟩
  repeat' (first | (with_reducible exact Below.refl _ _) | (with_reducible refine kept_below ?_ (by assumption) ?_) | (with_reducible refine Below.alloc ?_ ?_ _) | (with_reducible refine Below.drew ?_) | (with_reducible refine Below.setCell ?_ ?_ _) | go_size)

set_option maxHeartbeats 400000 in
theorem sj_4 (al ap bl bp : Int) (w : World) (h : fltB al ap = false) (h2 : fltB bl bp = false) :
    Calls Try.prog 14 #[.agg #[.int .i64 al, .int .i64 ap], .agg #[.int .i64 bl, .int .i64 bp]] w fun e w' => e = .returned (.agg #[.int .i64 0, .int .i64 (mx al bl), .int .i64 (bits .or .i64 ap bp)]) ∧ Below w.heap.size w w' := by
  go_enter Try.func14, Try.ntmps14
  go_wp2_with (first | (go_at_call 25; refine Calls.mono (sb_ok _ _ _ _ _ ?_ ?_) ?_; (all_goals try (first | (with_reducible assumption) | omega)); rintro e w1 ⟨rfl, k1⟩; (try replace k1 := kept_join (by assumption) k1); have hc1 := Kept.cell k1; have hf1 := Kept.frozen k1; have hz1 := k1.size; (try simp only [World.size_alloc] at hz1); (try simp only [World.size_setCell] at hz1); (try simp only [World.size_drew] at hz1); (try (first | have hs1 := sz12 hz1 | have hs1 := sz11 hz1 | have hs1 := sz10 hz1 | have hs1 := sz9 hz1 | have hs1 := sz8 hz1 | have hs1 := sz7 hz1 | have hs1 := sz6 hz1 | have hs1 := sz5 hz1 | have hs1 := sz4 hz1 | have hs1 := sz3 hz1 | have hs1 := sz2 hz1 | have hs1 := sz1 hz1))))
  refine wp_region_kept_tail 12 (by kernel_rfl) (by kernel_rfl) ?_
  simp only [List.take_succ_cons, List.take_zero, List.drop_succ_cons, List.drop_zero]
  repeat (refine kept_step (by rfl) ?_; apply Exists.intro; refine ⟨fun w1 k1 => ?_, fun K hK => ?_⟩; (focus (have hc := Kept.cell k1; go_simp; first | done | rfl | (go_at_call 26; exact kept_call k1 (mx_any _ _ _)))); (go_simp; refine hK _ ?_; clear hK K))
  refine wpQuiet_nil ?_
  intro w5 k5
  replace k5 := Kept.below k5
  have hc5 := Kept.cell k5
  have hf5 := Kept.frozen k5
  have hz5 := k5.size
  try simp only [World.size_alloc] at hz5
  try simp only [World.size_setCell] at hz5
  try simp only [World.size_drew] at hz5
  try (first | have hs5 := sz12 hz5 | have hs5 := sz11 hz5 | have hs5 := sz10 hz5 | have hs5 := sz9 hz5 | have hs5 := sz8 hz5 | have hs5 := sz7 hz5 | have hs5 := sz6 hz5 | have hs5 := sz5 hz5 | have hs5 := sz4 hz5 | have hs5 := sz3 hz5 | have hs5 := sz2 hz5 | have hs5 := sz1 hz5)
  go_wp2
  refine bodyPost_ret (v := .agg #[.int .i64 0, .int .i64 (mx al bl), .int .i64 (bits .or .i64 ap bp)]) (by simp [results, Try.results14, go_sem, *]) rfl ⟨rfl, ?_⟩
  repeat' (first | (with_reducible exact Below.refl _ _) | (with_reducible refine kept_below ?_ (by assumption) ?_) | (with_reducible refine Below.alloc ?_ ?_ _) | (with_reducible refine Below.drew ?_) | (with_reducible refine Below.setCell ?_ ?_ _) | go_size)

set_option maxHeartbeats 400000 in
theorem ij_1 (al ap bl bp : Int) (w : World) (h : fltB al ap = true) :
    Calls Try.prog 9 #[.agg #[.int .i64 al, .int .i64 ap], .agg #[.int .i64 bl, .int .i64 bp]] w fun e w' => e = .returned (.agg #[.int .i64 3, .int .i64 0, .int .i64 0]) ∧ Below w.heap.size w w' := by
  go_enter Try.func9, Try.ntmps9
  go_wp2_with (first | (go_at_call 20; refine Calls.mono (ib_1 _ _ _ _ _ ?_) ?_; (all_goals try (first | (with_reducible assumption) | omega)); rintro e w1 ⟨rfl, k1⟩; (try replace k1 := kept_join (by assumption) k1); have hc1 := Kept.cell k1; have hf1 := Kept.frozen k1; have hz1 := k1.size; (try simp only [World.size_alloc] at hz1); (try simp only [World.size_setCell] at hz1); (try simp only [World.size_drew] at hz1); (try (first | have hs1 := sz12 hz1 | have hs1 := sz11 hz1 | have hs1 := sz10 hz1 | have hs1 := sz9 hz1 | have hs1 := sz8 hz1 | have hs1 := sz7 hz1 | have hs1 := sz6 hz1 | have hs1 := sz5 hz1 | have hs1 := sz4 hz1 | have hs1 := sz3 hz1 | have hs1 := sz2 hz1 | have hs1 := sz1 hz1))))
  refine bodyPost_ret (v := .agg #[.int .i64 3, .int .i64 0, .int .i64 0]) (by simp [results, Try.results9, go_sem, *]) rfl ⟨rfl, ?_⟩
  repeat' (first | (with_reducible exact Below.refl _ _) | (with_reducible refine kept_below ?_ (by assumption) ?_) | (with_reducible refine Below.alloc ?_ ?_ _) | (with_reducible refine Below.drew ?_) | (with_reducible refine Below.setCell ?_ ?_ _) | go_size)

set_option maxHeartbeats 400000 in
theorem ij_2 (al ap bl bp : Int) (w : World) (h : fltB al ap = false) (h2 : fltB bl bp = true) :
    Calls Try.prog 9 #[.agg #[.int .i64 al, .int .i64 ap], .agg #[.int .i64 bl, .int .i64 bp]] w fun e w' => e = .returned (.agg #[.int .i64 3, .int .i64 0, .int .i64 0]) ∧ Below w.heap.size w w' := by
  go_enter Try.func9, Try.ntmps9
  go_wp2_with (first | (go_at_call 20; refine Calls.mono (ib_2 _ _ _ _ _ ?_ ?_) ?_; (all_goals try (first | (with_reducible assumption) | omega)); rintro e w1 ⟨rfl, k1⟩; (try replace k1 := kept_join (by assumption) k1); have hc1 := Kept.cell k1; have hf1 := Kept.frozen k1; have hz1 := k1.size; (try simp only [World.size_alloc] at hz1); (try simp only [World.size_setCell] at hz1); (try simp only [World.size_drew] at hz1); (try (first | have hs1 := sz12 hz1 | have hs1 := sz11 hz1 | have hs1 := sz10 hz1 | have hs1 := sz9 hz1 | have hs1 := sz8 hz1 | have hs1 := sz7 hz1 | have hs1 := sz6 hz1 | have hs1 := sz5 hz1 | have hs1 := sz4 hz1 | have hs1 := sz3 hz1 | have hs1 := sz2 hz1 | have hs1 := sz1 hz1))))
  refine bodyPost_ret (v := .agg #[.int .i64 3, .int .i64 0, .int .i64 0]) (by simp [results, Try.results9, go_sem, *]) rfl ⟨rfl, ?_⟩
  repeat' (first | (with_reducible exact Below.refl _ _) | (with_reducible refine kept_below ?_ (by assumption) ?_) | (with_reducible refine Below.alloc ?_ ?_ _) | (with_reducible refine Below.drew ?_) | (with_reducible refine Below.setCell ?_ ?_ _) | go_size)

set_option maxHeartbeats 400000 in
theorem ij_4a (al ap bl bp : Int) (w : World) (h : fltB al ap = false) (h2 : fltB bl bp = false) (h3 : al < bl) :
    Calls Try.prog 9 #[.agg #[.int .i64 al, .int .i64 ap], .agg #[.int .i64 bl, .int .i64 bp]] w fun e w' => e = .returned (.agg #[.int .i64 0, .int .i64 bl, .int .i64 (bits .or .u8 ap bp)]) ∧ Below w.heap.size w w' := by
  obtain ⟨p1, p2, p3, p4⟩ := fltB_no h
  obtain ⟨q1, q2, q3, q4⟩ := fltB_no h2
  obtain ⟨o1, o2, o3⟩ := or16 ap bp p3 p4 q3 q4
  rw [← o1] at o2 o3
  clear o1
  go_enter Try.func9, Try.ntmps9
  go_wp2_with (first | (go_at_call 20; refine Calls.mono (ib_ok _ _ _ _ _ ?_ ?_) ?_; (all_goals try (first | (with_reducible assumption) | omega)); rintro e w1 ⟨rfl, k1⟩; (try replace k1 := kept_join (by assumption) k1); have hc1 := Kept.cell k1; have hf1 := Kept.frozen k1; have hz1 := k1.size; (try simp only [World.size_alloc] at hz1); (try simp only [World.size_setCell] at hz1); (try simp only [World.size_drew] at hz1); (try (first | have hs1 := sz12 hz1 | have hs1 := sz11 hz1 | have hs1 := sz10 hz1 | have hs1 := sz9 hz1 | have hs1 := sz8 hz1 | have hs1 := sz7 hz1 | have hs1 := sz6 hz1 | have hs1 := sz5 hz1 | have hs1 := sz4 hz1 | have hs1 := sz3 hz1 | have hs1 := sz2 hz1 | have hs1 := sz1 hz1))))
  refine wp_region_kept_tail 12 (by kernel_rfl) (by kernel_rfl) ?_
  simp only [List.take_succ_cons, List.take_zero, List.drop_succ_cons, List.drop_zero]
  repeat (refine kept_step (by rfl) ?_; apply Exists.intro; refine ⟨fun w1 k1 => ?_, fun K hK => ?_⟩; (focus (have hc := Kept.cell k1; go_simp; first | done | rfl | (go_at_call 22; exact kept_call k1 (bitsOf_any _ _ _ (by omega) (by omega))) | (go_at_call 21; exact kept_call k1 (labelWith_any _ _ _ (by omega) (by omega))))); (go_simp; refine hK _ ?_; clear hK K))
  refine wpQuiet_nil ?_
  intro w5 k5
  replace k5 := Kept.below k5
  have hc5 := Kept.cell k5
  have hf5 := Kept.frozen k5
  have hz5 := k5.size
  try simp only [World.size_alloc] at hz5
  try simp only [World.size_setCell] at hz5
  try simp only [World.size_drew] at hz5
  try (first | have hs5 := sz12 hz5 | have hs5 := sz11 hz5 | have hs5 := sz10 hz5 | have hs5 := sz9 hz5 | have hs5 := sz8 hz5 | have hs5 := sz7 hz5 | have hs5 := sz6 hz5 | have hs5 := sz5 hz5 | have hs5 := sz4 hz5 | have hs5 := sz3 hz5 | have hs5 := sz2 hz5 | have hs5 := sz1 hz5)
  go_wp2
  refine bodyPost_ret (v := .agg #[.int .i64 0, .int .i64 bl, .int .i64 (bits .or .u8 ap bp)]) (by simp [results, Try.results9, go_sem, *]) rfl ⟨rfl, ?_⟩
  repeat' (first | (with_reducible exact Below.refl _ _) | (with_reducible refine kept_below ?_ (by assumption) ?_) | (with_reducible refine Below.alloc ?_ ?_ _) | (with_reducible refine Below.drew ?_) | (with_reducible refine Below.setCell ?_ ?_ _) | go_size)

set_option maxHeartbeats 400000 in
theorem ij_4b (al ap bl bp : Int) (w : World) (h : fltB al ap = false) (h2 : fltB bl bp = false) (h3 : bl ≤ al) :
    Calls Try.prog 9 #[.agg #[.int .i64 al, .int .i64 ap], .agg #[.int .i64 bl, .int .i64 bp]] w fun e w' => e = .returned (.agg #[.int .i64 0, .int .i64 al, .int .i64 (bits .or .u8 ap bp)]) ∧ Below w.heap.size w w' := by
  obtain ⟨p1, p2, p3, p4⟩ := fltB_no h
  obtain ⟨q1, q2, q3, q4⟩ := fltB_no h2
  obtain ⟨o1, o2, o3⟩ := or16 ap bp p3 p4 q3 q4
  rw [← o1] at o2 o3
  clear o1
  go_enter Try.func9, Try.ntmps9
  go_wp2_with (first | (go_at_call 20; refine Calls.mono (ib_ok _ _ _ _ _ ?_ ?_) ?_; (all_goals try (first | (with_reducible assumption) | omega)); rintro e w1 ⟨rfl, k1⟩; (try replace k1 := kept_join (by assumption) k1); have hc1 := Kept.cell k1; have hf1 := Kept.frozen k1; have hz1 := k1.size; (try simp only [World.size_alloc] at hz1); (try simp only [World.size_setCell] at hz1); (try simp only [World.size_drew] at hz1); (try (first | have hs1 := sz12 hz1 | have hs1 := sz11 hz1 | have hs1 := sz10 hz1 | have hs1 := sz9 hz1 | have hs1 := sz8 hz1 | have hs1 := sz7 hz1 | have hs1 := sz6 hz1 | have hs1 := sz5 hz1 | have hs1 := sz4 hz1 | have hs1 := sz3 hz1 | have hs1 := sz2 hz1 | have hs1 := sz1 hz1))))
  refine wp_region_kept_tail 12 (by kernel_rfl) (by kernel_rfl) ?_
  simp only [List.take_succ_cons, List.take_zero, List.drop_succ_cons, List.drop_zero]
  repeat (refine kept_step (by rfl) ?_; apply Exists.intro; refine ⟨fun w1 k1 => ?_, fun K hK => ?_⟩; (focus (have hc := Kept.cell k1; go_simp; first | done | rfl | (go_at_call 22; exact kept_call k1 (bitsOf_any _ _ _ (by omega) (by omega))) | (go_at_call 21; exact kept_call k1 (labelWith_any _ _ _ (by omega) (by omega))))); (go_simp; refine hK _ ?_; clear hK K))
  refine wpQuiet_nil ?_
  intro w5 k5
  replace k5 := Kept.below k5
  have hc5 := Kept.cell k5
  have hf5 := Kept.frozen k5
  have hz5 := k5.size
  try simp only [World.size_alloc] at hz5
  try simp only [World.size_setCell] at hz5
  try simp only [World.size_drew] at hz5
  try (first | have hs5 := sz12 hz5 | have hs5 := sz11 hz5 | have hs5 := sz10 hz5 | have hs5 := sz9 hz5 | have hs5 := sz8 hz5 | have hs5 := sz7 hz5 | have hs5 := sz6 hz5 | have hs5 := sz5 hz5 | have hs5 := sz4 hz5 | have hs5 := sz3 hz5 | have hs5 := sz2 hz5 | have hs5 := sz1 hz5)
  go_wp2
  refine bodyPost_ret (v := .agg #[.int .i64 0, .int .i64 al, .int .i64 (bits .or .u8 ap bp)]) (by simp [results, Try.results9, go_sem, *]) rfl ⟨rfl, ?_⟩
  repeat' (first | (with_reducible exact Below.refl _ _) | (with_reducible refine kept_below ?_ (by assumption) ?_) | (with_reducible refine Below.alloc ?_ ?_ _) | (with_reducible refine Below.drew ?_) | (with_reducible refine Below.setCell ?_ ?_ _) | go_size)

set_option maxHeartbeats 400000 in
theorem im_1 (al ap bl bp : Int) (w : World) (h : fltB al ap = true) :
    Calls Try.prog 10 #[.agg #[.int .i64 al, .int .i64 ap], .agg #[.int .i64 bl, .int .i64 bp]] w fun e w' => e = .returned (.agg #[.int .i64 3, .int .i64 0, .int .i64 0]) ∧ Below w.heap.size w w' := by
  go_enter Try.func10, Try.ntmps10
  go_wp2_with (first | (go_at_call 20; refine Calls.mono (ib_1 _ _ _ _ _ ?_) ?_; (all_goals try (first | (with_reducible assumption) | omega)); rintro e w1 ⟨rfl, k1⟩; (try replace k1 := kept_join (by assumption) k1); have hc1 := Kept.cell k1; have hf1 := Kept.frozen k1; have hz1 := k1.size; (try simp only [World.size_alloc] at hz1); (try simp only [World.size_setCell] at hz1); (try simp only [World.size_drew] at hz1); (try (first | have hs1 := sz12 hz1 | have hs1 := sz11 hz1 | have hs1 := sz10 hz1 | have hs1 := sz9 hz1 | have hs1 := sz8 hz1 | have hs1 := sz7 hz1 | have hs1 := sz6 hz1 | have hs1 := sz5 hz1 | have hs1 := sz4 hz1 | have hs1 := sz3 hz1 | have hs1 := sz2 hz1 | have hs1 := sz1 hz1))))
  refine bodyPost_ret (v := .agg #[.int .i64 3, .int .i64 0, .int .i64 0]) (by simp [results, Try.results10, go_sem, *]) rfl ⟨rfl, ?_⟩
  repeat' (first | (with_reducible exact Below.refl _ _) | (with_reducible refine kept_below ?_ (by assumption) ?_) | (with_reducible refine Below.alloc ?_ ?_ _) | (with_reducible refine Below.drew ?_) | (with_reducible refine Below.setCell ?_ ?_ _) | go_size)

set_option maxHeartbeats 400000 in
theorem im_2 (al ap bl bp : Int) (w : World) (h : fltB al ap = false) (h2 : fltB bl bp = true) :
    Calls Try.prog 10 #[.agg #[.int .i64 al, .int .i64 ap], .agg #[.int .i64 bl, .int .i64 bp]] w fun e w' => e = .returned (.agg #[.int .i64 3, .int .i64 0, .int .i64 0]) ∧ Below w.heap.size w w' := by
  go_enter Try.func10, Try.ntmps10
  go_wp2_with (first | (go_at_call 20; refine Calls.mono (ib_2 _ _ _ _ _ ?_ ?_) ?_; (all_goals try (first | (with_reducible assumption) | omega)); rintro e w1 ⟨rfl, k1⟩; (try replace k1 := kept_join (by assumption) k1); have hc1 := Kept.cell k1; have hf1 := Kept.frozen k1; have hz1 := k1.size; (try simp only [World.size_alloc] at hz1); (try simp only [World.size_setCell] at hz1); (try simp only [World.size_drew] at hz1); (try (first | have hs1 := sz12 hz1 | have hs1 := sz11 hz1 | have hs1 := sz10 hz1 | have hs1 := sz9 hz1 | have hs1 := sz8 hz1 | have hs1 := sz7 hz1 | have hs1 := sz6 hz1 | have hs1 := sz5 hz1 | have hs1 := sz4 hz1 | have hs1 := sz3 hz1 | have hs1 := sz2 hz1 | have hs1 := sz1 hz1))))
  refine bodyPost_ret (v := .agg #[.int .i64 3, .int .i64 0, .int .i64 0]) (by simp [results, Try.results10, go_sem, *]) rfl ⟨rfl, ?_⟩
  repeat' (first | (with_reducible exact Below.refl _ _) | (with_reducible refine kept_below ?_ (by assumption) ?_) | (with_reducible refine Below.alloc ?_ ?_ _) | (with_reducible refine Below.drew ?_) | (with_reducible refine Below.setCell ?_ ?_ _) | go_size)

set_option maxHeartbeats 400000 in
theorem im_4a (al ap bl bp : Int) (w : World) (h : fltB al ap = false) (h2 : fltB bl bp = false) (h3 : bl < al) :
    Calls Try.prog 10 #[.agg #[.int .i64 al, .int .i64 ap], .agg #[.int .i64 bl, .int .i64 bp]] w fun e w' => e = .returned (.agg #[.int .i64 0, .int .i64 bl, .int .i64 (bits .and .u8 ap bp)]) ∧ Below w.heap.size w w' := by
  obtain ⟨p1, p2, p3, p4⟩ := fltB_no h
  obtain ⟨q1, q2, q3, q4⟩ := fltB_no h2
  obtain ⟨o1, o2, o3⟩ := and16 ap bp p3 p4 q3 q4
  rw [← o1] at o2 o3
  clear o1
  go_enter Try.func10, Try.ntmps10
  go_wp2_with (first | (go_at_call 20; refine Calls.mono (ib_ok _ _ _ _ _ ?_ ?_) ?_; (all_goals try (first | (with_reducible assumption) | omega)); rintro e w1 ⟨rfl, k1⟩; (try replace k1 := kept_join (by assumption) k1); have hc1 := Kept.cell k1; have hf1 := Kept.frozen k1; have hz1 := k1.size; (try simp only [World.size_alloc] at hz1); (try simp only [World.size_setCell] at hz1); (try simp only [World.size_drew] at hz1); (try (first | have hs1 := sz12 hz1 | have hs1 := sz11 hz1 | have hs1 := sz10 hz1 | have hs1 := sz9 hz1 | have hs1 := sz8 hz1 | have hs1 := sz7 hz1 | have hs1 := sz6 hz1 | have hs1 := sz5 hz1 | have hs1 := sz4 hz1 | have hs1 := sz3 hz1 | have hs1 := sz2 hz1 | have hs1 := sz1 hz1))))
  refine wp_region_kept_tail 12 (by kernel_rfl) (by kernel_rfl) ?_
  simp only [List.take_succ_cons, List.take_zero, List.drop_succ_cons, List.drop_zero]
  repeat (refine kept_step (by rfl) ?_; apply Exists.intro; refine ⟨fun w1 k1 => ?_, fun K hK => ?_⟩; (focus (have hc := Kept.cell k1; go_simp; first | done | rfl | (go_at_call 22; exact kept_call k1 (bitsOf_any _ _ _ (by omega) (by omega))) | (go_at_call 21; exact kept_call k1 (labelWith_any _ _ _ (by omega) (by omega))))); (go_simp; refine hK _ ?_; clear hK K))
  refine wpQuiet_nil ?_
  intro w5 k5
  replace k5 := Kept.below k5
  have hc5 := Kept.cell k5
  have hf5 := Kept.frozen k5
  have hz5 := k5.size
  try simp only [World.size_alloc] at hz5
  try simp only [World.size_setCell] at hz5
  try simp only [World.size_drew] at hz5
  try (first | have hs5 := sz12 hz5 | have hs5 := sz11 hz5 | have hs5 := sz10 hz5 | have hs5 := sz9 hz5 | have hs5 := sz8 hz5 | have hs5 := sz7 hz5 | have hs5 := sz6 hz5 | have hs5 := sz5 hz5 | have hs5 := sz4 hz5 | have hs5 := sz3 hz5 | have hs5 := sz2 hz5 | have hs5 := sz1 hz5)
  go_wp2
  refine bodyPost_ret (v := .agg #[.int .i64 0, .int .i64 bl, .int .i64 (bits .and .u8 ap bp)]) (by simp [results, Try.results10, go_sem, *]) rfl ⟨rfl, ?_⟩
  repeat' (first | (with_reducible exact Below.refl _ _) | (with_reducible refine kept_below ?_ (by assumption) ?_) | (with_reducible refine Below.alloc ?_ ?_ _) | (with_reducible refine Below.drew ?_) | (with_reducible refine Below.setCell ?_ ?_ _) | go_size)

set_option maxHeartbeats 400000 in
theorem im_4b (al ap bl bp : Int) (w : World) (h : fltB al ap = false) (h2 : fltB bl bp = false) (h3 : al ≤ bl) :
    Calls Try.prog 10 #[.agg #[.int .i64 al, .int .i64 ap], .agg #[.int .i64 bl, .int .i64 bp]] w fun e w' => e = .returned (.agg #[.int .i64 0, .int .i64 al, .int .i64 (bits .and .u8 ap bp)]) ∧ Below w.heap.size w w' := by
  obtain ⟨p1, p2, p3, p4⟩ := fltB_no h
  obtain ⟨q1, q2, q3, q4⟩ := fltB_no h2
  obtain ⟨o1, o2, o3⟩ := and16 ap bp p3 p4 q3 q4
  rw [← o1] at o2 o3
  clear o1
  go_enter Try.func10, Try.ntmps10
  go_wp2_with (first | (go_at_call 20; refine Calls.mono (ib_ok _ _ _ _ _ ?_ ?_) ?_; (all_goals try (first | (with_reducible assumption) | omega)); rintro e w1 ⟨rfl, k1⟩; (try replace k1 := kept_join (by assumption) k1); have hc1 := Kept.cell k1; have hf1 := Kept.frozen k1; have hz1 := k1.size; (try simp only [World.size_alloc] at hz1); (try simp only [World.size_setCell] at hz1); (try simp only [World.size_drew] at hz1); (try (first | have hs1 := sz12 hz1 | have hs1 := sz11 hz1 | have hs1 := sz10 hz1 | have hs1 := sz9 hz1 | have hs1 := sz8 hz1 | have hs1 := sz7 hz1 | have hs1 := sz6 hz1 | have hs1 := sz5 hz1 | have hs1 := sz4 hz1 | have hs1 := sz3 hz1 | have hs1 := sz2 hz1 | have hs1 := sz1 hz1))))
  refine wp_region_kept_tail 12 (by kernel_rfl) (by kernel_rfl) ?_
  simp only [List.take_succ_cons, List.take_zero, List.drop_succ_cons, List.drop_zero]
  repeat (refine kept_step (by rfl) ?_; apply Exists.intro; refine ⟨fun w1 k1 => ?_, fun K hK => ?_⟩; (focus (have hc := Kept.cell k1; go_simp; first | done | rfl | (go_at_call 22; exact kept_call k1 (bitsOf_any _ _ _ (by omega) (by omega))) | (go_at_call 21; exact kept_call k1 (labelWith_any _ _ _ (by omega) (by omega))))); (go_simp; refine hK _ ?_; clear hK K))
  refine wpQuiet_nil ?_
  intro w5 k5
  replace k5 := Kept.below k5
  have hc5 := Kept.cell k5
  have hf5 := Kept.frozen k5
  have hz5 := k5.size
  try simp only [World.size_alloc] at hz5
  try simp only [World.size_setCell] at hz5
  try simp only [World.size_drew] at hz5
  try (first | have hs5 := sz12 hz5 | have hs5 := sz11 hz5 | have hs5 := sz10 hz5 | have hs5 := sz9 hz5 | have hs5 := sz8 hz5 | have hs5 := sz7 hz5 | have hs5 := sz6 hz5 | have hs5 := sz5 hz5 | have hs5 := sz4 hz5 | have hs5 := sz3 hz5 | have hs5 := sz2 hz5 | have hs5 := sz1 hz5)
  go_wp2
  refine bodyPost_ret (v := .agg #[.int .i64 0, .int .i64 al, .int .i64 (bits .and .u8 ap bp)]) (by simp [results, Try.results10, go_sem, *]) rfl ⟨rfl, ?_⟩
  repeat' (first | (with_reducible exact Below.refl _ _) | (with_reducible refine kept_below ?_ (by assumption) ?_) | (with_reducible refine Below.alloc ?_ ?_ _) | (with_reducible refine Below.drew ?_) | (with_reducible refine Below.setCell ?_ ?_ _) | go_size)

def jC (al ap bl bp : Int) : Int := if fltB al ap || fltB bl bp then 3 else 0
def jL (al ap bl bp : Int) : Int := if fltB al ap || fltB bl bp then 0 else mx al bl
def jP (al ap bl bp : Int) : Int := if fltB al ap || fltB bl bp then 0 else bits .or .i64 ap bp

theorem sj_any (al ap bl bp : Int) (w : World) : Calls Try.prog 14 #[.agg #[.int .i64 al, .int .i64 ap], .agg #[.int .i64 bl, .int .i64 bp]] w fun e w' => e = .returned (.agg #[.int .i64 (jC al ap bl bp), .int .i64 (jL al ap bl bp), .int .i64 (jP al ap bl bp)]) ∧ Below w.heap.size w w' := by
  unfold jC jL jP
  cases h : fltB al ap
  · cases h2 : fltB bl bp
    · obtain ⟨p1, p2, p3, p4⟩ := fltB_no h
      obtain ⟨q1, q2, q3, q4⟩ := fltB_no h2
      exact sj_4 al ap bl bp w h h2
    · exact sj_2 al ap bl bp w h h2
  · exact sj_1 al ap bl bp w h

theorem ij_any (al ap bl bp : Int) (w : World) : Calls Try.prog 9 #[.agg #[.int .i64 al, .int .i64 ap], .agg #[.int .i64 bl, .int .i64 bp]] w fun e w' => e = .returned (.agg #[.int .i64 (jC al ap bl bp), .int .i64 (jL al ap bl bp), .int .i64 (jP al ap bl bp)]) ∧ Below w.heap.size w w' := by
  unfold jC jL jP
  cases h : fltB al ap
  · cases h2 : fltB bl bp
    · obtain ⟨p1, p2, p3, p4⟩ := fltB_no h
      obtain ⟨q1, q2, q3, q4⟩ := fltB_no h2
      by_cases h3 : al < bl
      · have e := ij_4a al ap bl bp w h h2 h3
        rw [(or16 ap bp p3 p4 q3 q4).1] at e
        have em : mx al bl = bl := by unfold mx; split <;> omega
        show Calls _ _ _ _ fun e w' => e = .returned (.agg #[.int .i64 0, .int .i64 (mx al bl), .int .i64 (bits .or .i64 ap bp)]) ∧ _
        rw [em]; exact e
      · have e := ij_4b al ap bl bp w h h2 (by omega)
        rw [(or16 ap bp p3 p4 q3 q4).1] at e
        have em : mx al bl = al := by unfold mx; split <;> omega
        show Calls _ _ _ _ fun e w' => e = .returned (.agg #[.int .i64 0, .int .i64 (mx al bl), .int .i64 (bits .or .i64 ap bp)]) ∧ _
        rw [em]; exact e
    · exact ij_2 al ap bl bp w h h2
  · exact ij_1 al ap bl bp w h

def mC (al ap bl bp : Int) : Int := if fltB al ap || fltB bl bp then 3 else 0
def mL (al ap bl bp : Int) : Int := if fltB al ap || fltB bl bp then 0 else mn al bl
def mP (al ap bl bp : Int) : Int := if fltB al ap || fltB bl bp then 0 else bits .and .i64 ap bp

theorem im_any (al ap bl bp : Int) (w : World) : Calls Try.prog 10 #[.agg #[.int .i64 al, .int .i64 ap], .agg #[.int .i64 bl, .int .i64 bp]] w fun e w' => e = .returned (.agg #[.int .i64 (mC al ap bl bp), .int .i64 (mL al ap bl bp), .int .i64 (mP al ap bl bp)]) ∧ Below w.heap.size w w' := by
  unfold mC mL mP
  cases h : fltB al ap
  · cases h2 : fltB bl bp
    · obtain ⟨p1, p2, p3, p4⟩ := fltB_no h
      obtain ⟨q1, q2, q3, q4⟩ := fltB_no h2
      by_cases h3 : bl < al
      · have e := im_4a al ap bl bp w h h2 h3
        rw [(and16 ap bp p3 p4 q3 q4).1] at e
        have em : mn al bl = bl := by unfold mn; split <;> omega
        show Calls _ _ _ _ fun e w' => e = .returned (.agg #[.int .i64 0, .int .i64 (mn al bl), .int .i64 (bits .and .i64 ap bp)]) ∧ _
        rw [em]; exact e
      · have e := im_4b al ap bl bp w h h2 (by omega)
        rw [(and16 ap bp p3 p4 q3 q4).1] at e
        have em : mn al bl = al := by unfold mn; split <;> omega
        show Calls _ _ _ _ fun e w' => e = .returned (.agg #[.int .i64 0, .int .i64 (mn al bl), .int .i64 (bits .and .i64 ap bp)]) ∧ _
        rw [em]; exact e
    · exact im_2 al ap bl bp w h h2
  · exact im_1 al ap bl bp w h

end Go.Proofs.Ytmnekheaggleaaa
