/- ReadBody of the program: where there is no request. -/
import Derived.Test.YtgjbjafodkiilaaTj15
import Derived.Test.YtgjbjafodkiilaaTj4
import Derived.Test.YtgjbjafodkiilaaTj6
namespace Go.Proofs.Ytgjbjafodkiilaa
open Go.RowKit
set_option linter.unusedVariables false
attribute [local go_sem high] sl_from

set_option maxHeartbeats 400000 in
theorem iRead_nil (ao : Option Addr) (ca : Nat) (w : World) :
    Calls Try.prog 13 #[.slice ao 0 ca] w fun e w' => e = .returned (.agg #[.int .i64 5, .int .i64 0, .slice none 0 0, .slice none 0 0]) ∧ Below w.heap.size w w' := by
  go_enter Try.func13, Try.ntmps13
  go_wp2
  go_returns
  exact ⟨rfl, by go_grown⟩

set_option maxHeartbeats 2000000 in
theorem iRead_kind (g o n ca : Nat) (k : Int) (w : World) (hc : w.cell? ⟨g, o, none⟩ = some (.int .u8 k)) (hn : n + 1 ≤ ca) (hm : n + 1 ≤ 2097152) (k0 : 0 ≤ k) (k1' : k ≤ 255) (h : k < 1 ∨ 13 < k) :
    Calls Try.prog 13 #[.slice (some ⟨g, o, none⟩) (n + 1) ca] w fun e w' => e = .returned (.agg #[.int .i64 5, .int .i64 0, .slice none 0 0, .slice none 0 0]) ∧ Below w.heap.size w w' := by
  have hlt : g < w.heap.size := World.block_lt_of_cell? w _ hc
  have hn0 : ((n : Int) + 1 == 0) = false := by simp; omega
  have hn1 : (1 : Int) ≤ (n : Int) + 1 := by omega
  have hwk : IntKind.i64.wrap k = k := IntWalk.i64_in _ (by omega)
  have HK := hideP h
  have CM' := hideP (most_any k)
  clear h
  go_enter Try.func13, Try.ntmps13
  go_wp2
  refine wp_region_kept (by kernel_rfl) (by kernel_rfl) ?_
  repeat (refine kept_step (by rfl) ?_; apply Exists.intro; refine ⟨fun w1 k1 => ?_, fun K hK => ?_⟩; (focus (have hc := Kept.cell k1; go_simp; first | done | rfl)); (go_simp; refine hK _ ?_; clear hK K))
  refine wpQuiet_nil ?_
  intro w5 k5
  replace k5 := Kept.below k5
  have hc5 := Kept.cell k5
  have hf5 := Kept.frozen k5
  have hz5 := k5.size
  try simp only [World.size_alloc] at hz5
  try simp only [World.size_setCell] at hz5
  try simp only [World.size_drew] at hz5
  have hb5_0 : w.heap.size < w5.heap.size ∧ w.heap.size ≤ w5.heap.size ∧ w.heap.size ≤ w5.heap.size + 1 ∧ ¬ w.heap.size = w5.heap.size ∧ ¬ w.heap.size = w5.heap.size + 1 := by omega
  go_wp2_with (first | (go_at_call 28; refine Calls.mono (iArgs_no _ _ HK.out) ?_; (all_goals try (first | (with_reducible assumption) | omega)); rintro e w1 ⟨rfl, k1⟩; (try replace k1 := kept_join (by assumption) k1); have hc1 := Kept.cell k1; have hf1 := Kept.frozen k1; have hz1 := k1.size; (try simp only [World.size_alloc] at hz1); (try simp only [World.size_setCell] at hz1); (try simp only [World.size_drew] at hz1); (have hb1_0 : w.heap.size < w1.heap.size ∧ w.heap.size ≤ w1.heap.size ∧ w.heap.size ≤ w1.heap.size + 1 ∧ ¬ w.heap.size = w1.heap.size ∧ ¬ w.heap.size = w1.heap.size + 1 := by omega)))
  refine wp_region_wq (by kernel_rfl) (by kernel_rfl) ?_
  repeat (first | (refine wq_up _ (by first | exact wanted_free rfl | exact wanted_yes rfl rfl | exact wanted_no rfl rfl | exact wanted_lost rfl rfl) (by first | with_reducible rfl | decide) ?_; apply Exists.intro; refine ⟨fun w1 k1 => ?_, fun K hK => ?_⟩; (focus (have hc := Kept.cell k1; go_simp; first | done | rfl | (go_at_call 29; exact kept_call_same k1 (CM'.out _)))); (go_simp; refine hK _ ?_; clear hK K)) | (refine wq_off _ (by first | exact wanted_free rfl | exact wanted_yes rfl rfl | exact wanted_no rfl rfl | exact wanted_lost rfl rfl) (by first | with_reducible rfl | decide) ?_; intro K hK; go_simp; refine hK _ ?_; clear hK K))
  refine wq_nil ?_
  intro w6 k6
  replace k6 := Kept.below k6
  have hc6 := Kept.cell k6
  have hf6 := Kept.frozen k6
  have hz6 := k6.size
  try simp only [World.size_alloc] at hz6
  try simp only [World.size_setCell] at hz6
  try simp only [World.size_drew] at hz6
  have hb6_0 : w.heap.size < w6.heap.size ∧ w.heap.size ≤ w6.heap.size ∧ w.heap.size ≤ w6.heap.size + 1 ∧ ¬ w.heap.size = w6.heap.size ∧ ¬ w.heap.size = w6.heap.size + 1 := by omega
  have R1 : R4 w1 w.heap.size (.int .i64 0) (.int .i64 0) (.slice none 0 0) (.slice none 0 0) := R4.keep ⟨by simp, by simp, by simp, by simp, by simp, by simp, by simp, by simp, by simp⟩ k1 (by simp)
  have R6 := R1.keep (B := w1.heap.size) ((Below.trans (by go_grown) (k6.mono (by simp)) : Below w1.heap.size w1 w6)) R1.lt
  obtain ⟨r0, r1, r2, r3, r4, r5, r6, r7, r8⟩ := R6
  clear R1
  go_wp2
  refine bodyPost_ret (v := .agg #[.int .i64 5, .int .i64 0, .slice none 0 0, .slice none 0 0]) (by simp [results, Try.results13, go_sem, *]) rfl ⟨rfl, ?_⟩
  repeat' (first | (with_reducible exact Below.refl _ _) | (with_reducible refine kept_below ?_ (by assumption) ?_) | (with_reducible refine Below.alloc ?_ ?_ _) | (with_reducible refine Below.drew ?_) | (with_reducible refine Below.setCell ?_ ?_ _) | go_size)

set_option maxHeartbeats 2000000 in
theorem iRead_short (g o n ca : Nat) (k : Int) (w : World) (hc : w.cell? ⟨g, o, none⟩ = some (.int .u8 k)) (hn : n + 1 ≤ ca) (hm : n + 1 ≤ 2097152) (k0 : 0 ≤ k) (k1' : k ≤ 255) (h1 : 1 ≤ k) (h2 : k ≤ 13) (h : n < aN k) :
    Calls Try.prog 13 #[.slice (some ⟨g, o, none⟩) (n + 1) ca] w fun e w' => e = .returned (.agg #[.int .i64 5, .int .i64 0, .slice none 0 0, .slice none 0 0]) ∧ Below w.heap.size w w' := by
  have hlt : g < w.heap.size := World.block_lt_of_cell? w _ hc
  have hn0 : ((n : Int) + 1 == 0) = false := by simp; omega
  have hn1 : (1 : Int) ≤ (n : Int) + 1 := by omega
  have hwk : IntKind.i64.wrap k = k := IntWalk.i64_in _ (by omega)
  have HK := hideP (And.intro h1 h2)
  obtain ⟨c, hcn⟩ : ∃ c, aN k = c := ⟨_, rfl⟩
  have CA := iArgs_yes k
  rw [hcn] at h CA
  have CA' := hideP CA
  have CM' := hideP (most_any k)
  have hlt2 : (n : Int) < (c : Int) := by omega
  clear CA hcn h1 h2
  go_enter Try.func13, Try.ntmps13
  go_wp2
  refine wp_region_kept (by kernel_rfl) (by kernel_rfl) ?_
  repeat (refine kept_step (by rfl) ?_; apply Exists.intro; refine ⟨fun w1 k1 => ?_, fun K hK => ?_⟩; (focus (have hc := Kept.cell k1; go_simp; first | done | rfl)); (go_simp; refine hK _ ?_; clear hK K))
  refine wpQuiet_nil ?_
  intro w5 k5
  replace k5 := Kept.below k5
  have hc5 := Kept.cell k5
  have hf5 := Kept.frozen k5
  have hz5 := k5.size
  try simp only [World.size_alloc] at hz5
  try simp only [World.size_setCell] at hz5
  try simp only [World.size_drew] at hz5
  have hb5_0 : w.heap.size < w5.heap.size ∧ w.heap.size ≤ w5.heap.size ∧ w.heap.size ≤ w5.heap.size + 1 ∧ ¬ w.heap.size = w5.heap.size ∧ ¬ w.heap.size = w5.heap.size + 1 := by omega
  go_wp2_with (first | (go_at_call 28; refine Calls.mono (CA'.out _ HK.out.1 HK.out.2) ?_; (all_goals try (first | (with_reducible assumption) | omega)); rintro e w1 ⟨rfl, k1⟩; (try replace k1 := kept_join (by assumption) k1); have hc1 := Kept.cell k1; have hf1 := Kept.frozen k1; have hz1 := k1.size; (try simp only [World.size_alloc] at hz1); (try simp only [World.size_setCell] at hz1); (try simp only [World.size_drew] at hz1); (have hb1_0 : w.heap.size < w1.heap.size ∧ w.heap.size ≤ w1.heap.size ∧ w.heap.size ≤ w1.heap.size + 1 ∧ ¬ w.heap.size = w1.heap.size ∧ ¬ w.heap.size = w1.heap.size + 1 := by omega)))
  refine wp_region_wq (by kernel_rfl) (by kernel_rfl) ?_
  repeat (first | (refine wq_up _ (by first | exact wanted_free rfl | exact wanted_yes rfl rfl | exact wanted_no rfl rfl | exact wanted_lost rfl rfl) (by first | with_reducible rfl | decide) ?_; apply Exists.intro; refine ⟨fun w1 k1 => ?_, fun K hK => ?_⟩; (focus (have hc := Kept.cell k1; go_simp; first | done | rfl | (go_at_call 29; exact kept_call_same k1 (CM'.out _)))); (go_simp; refine hK _ ?_; clear hK K)) | (refine wq_off _ (by first | exact wanted_free rfl | exact wanted_yes rfl rfl | exact wanted_no rfl rfl | exact wanted_lost rfl rfl) (by first | with_reducible rfl | decide) ?_; intro K hK; go_simp; refine hK _ ?_; clear hK K))
  refine wq_nil ?_
  intro w6 k6
  replace k6 := Kept.below k6
  have hc6 := Kept.cell k6
  have hf6 := Kept.frozen k6
  have hz6 := k6.size
  try simp only [World.size_alloc] at hz6
  try simp only [World.size_setCell] at hz6
  try simp only [World.size_drew] at hz6
  have hb6_0 : w.heap.size < w6.heap.size ∧ w.heap.size ≤ w6.heap.size ∧ w.heap.size ≤ w6.heap.size + 1 ∧ ¬ w.heap.size = w6.heap.size ∧ ¬ w.heap.size = w6.heap.size + 1 := by omega
  have R1 : R4 w1 w.heap.size (.int .i64 0) (.int .i64 0) (.slice none 0 0) (.slice none 0 0) := R4.keep ⟨by simp, by simp, by simp, by simp, by simp, by simp, by simp, by simp, by simp⟩ k1 (by simp)
  have R6 := R1.keep (B := w1.heap.size) ((Below.trans (by go_grown) (k6.mono (by simp)) : Below w1.heap.size w1 w6)) R1.lt
  obtain ⟨r0, r1, r2, r3, r4, r5, r6, r7, r8⟩ := R6
  clear R1
  go_wp2
  refine bodyPost_ret (v := .agg #[.int .i64 5, .int .i64 0, .slice none 0 0, .slice none 0 0]) (by simp [results, Try.results13, go_sem, *]) rfl ⟨rfl, ?_⟩
  repeat' (first | (with_reducible exact Below.refl _ _) | (with_reducible refine kept_below ?_ (by assumption) ?_) | (with_reducible refine Below.alloc ?_ ?_ _) | (with_reducible refine Below.drew ?_) | (with_reducible refine Below.setCell ?_ ?_ _) | go_size)

set_option maxHeartbeats 2000000 in
theorem iRead_long (g o n ca : Nat) (k : Int) (w : World) (hc : w.cell? ⟨g, o, none⟩ = some (.int .u8 k)) (hn : n + 1 ≤ ca) (hm : n + 1 ≤ 2097152) (k0 : 0 ≤ k) (k1' : k ≤ 255) (h1 : 1 ≤ k) (h2 : k ≤ 13) (h : aN k ≤ n) (h' : mD k < n - aN k) :
    Calls Try.prog 13 #[.slice (some ⟨g, o, none⟩) (n + 1) ca] w fun e w' => e = .returned (.agg #[.int .i64 5, .int .i64 0, .slice none 0 0, .slice none 0 0]) ∧ Below w.heap.size w w' := by
  have hlt : g < w.heap.size := World.block_lt_of_cell? w _ hc
  have hn0 : ((n : Int) + 1 == 0) = false := by simp; omega
  have hn1 : (1 : Int) ≤ (n : Int) + 1 := by omega
  have hwk : IntKind.i64.wrap k = k := IntWalk.i64_in _ (by omega)
  have HK := hideP (And.intro h1 h2)
  have hc7 := aN_le k
  obtain ⟨c, hcn⟩ : ∃ c, aN k = c := ⟨_, rfl⟩
  obtain ⟨m, hmd⟩ : ∃ m, mD k = m := ⟨_, rfl⟩
  have CA := iArgs_yes k
  have CM := most_any k
  rw [hcn] at h h' hc7 CA
  rw [hmd] at h' CM
  have CA' := hideP CA
  have CM' := hideP CM
  have hle2 : ¬ (n : Int) < (c : Int) := by omega
  have hle3 : ¬ n < c := by omega
  have hwr : IntKind.i64.wrap ((n : Int) - (c : Int)) = (n : Int) - (c : Int) := IntWalk.i64_in _ (by omega)
  have hgt : (m : Int) < (n : Int) - (c : Int) := by omega
  clear CA CM hcn hmd h1 h2
  go_enter Try.func13, Try.ntmps13
  go_wp2
  refine wp_region_kept (by kernel_rfl) (by kernel_rfl) ?_
  repeat (refine kept_step (by rfl) ?_; apply Exists.intro; refine ⟨fun w1 k1 => ?_, fun K hK => ?_⟩; (focus (have hc := Kept.cell k1; go_simp; first | done | rfl)); (go_simp; refine hK _ ?_; clear hK K))
  refine wpQuiet_nil ?_
  intro w5 k5
  replace k5 := Kept.below k5
  have hc5 := Kept.cell k5
  have hf5 := Kept.frozen k5
  have hz5 := k5.size
  try simp only [World.size_alloc] at hz5
  try simp only [World.size_setCell] at hz5
  try simp only [World.size_drew] at hz5
  have hb5_0 : w.heap.size < w5.heap.size ∧ w.heap.size ≤ w5.heap.size ∧ w.heap.size ≤ w5.heap.size + 1 ∧ ¬ w.heap.size = w5.heap.size ∧ ¬ w.heap.size = w5.heap.size + 1 := by omega
  go_wp2_with (first | (go_at_call 28; refine Calls.mono (CA'.out _ HK.out.1 HK.out.2) ?_; (all_goals try (first | (with_reducible assumption) | omega)); rintro e w1 ⟨rfl, k1⟩; (try replace k1 := kept_join (by assumption) k1); have hc1 := Kept.cell k1; have hf1 := Kept.frozen k1; have hz1 := k1.size; (try simp only [World.size_alloc] at hz1); (try simp only [World.size_setCell] at hz1); (try simp only [World.size_drew] at hz1); (have hb1_0 : w.heap.size < w1.heap.size ∧ w.heap.size ≤ w1.heap.size ∧ w.heap.size ≤ w1.heap.size + 1 ∧ ¬ w.heap.size = w1.heap.size ∧ ¬ w.heap.size = w1.heap.size + 1 := by omega)))
  refine wp_region_wq (by kernel_rfl) (by kernel_rfl) ?_
  repeat (first | (refine wq_up _ (by first | exact wanted_free rfl | exact wanted_yes rfl rfl | exact wanted_no rfl rfl | exact wanted_lost rfl rfl) (by first | with_reducible rfl | decide) ?_; apply Exists.intro; refine ⟨fun w1 k1 => ?_, fun K hK => ?_⟩; (focus (have hc := Kept.cell k1; go_simp; first | done | rfl | (go_at_call 29; exact kept_call_same k1 (CM'.out _)))); (go_simp; refine hK _ ?_; clear hK K)) | (refine wq_off _ (by first | exact wanted_free rfl | exact wanted_yes rfl rfl | exact wanted_no rfl rfl | exact wanted_lost rfl rfl) (by first | with_reducible rfl | decide) ?_; intro K hK; go_simp; refine hK _ ?_; clear hK K))
  refine wq_nil ?_
  intro w6 k6
  replace k6 := Kept.below k6
  have hc6 := Kept.cell k6
  have hf6 := Kept.frozen k6
  have hz6 := k6.size
  try simp only [World.size_alloc] at hz6
  try simp only [World.size_setCell] at hz6
  try simp only [World.size_drew] at hz6
  have hb6_0 : w.heap.size < w6.heap.size ∧ w.heap.size ≤ w6.heap.size ∧ w.heap.size ≤ w6.heap.size + 1 ∧ ¬ w.heap.size = w6.heap.size ∧ ¬ w.heap.size = w6.heap.size + 1 := by omega
  have R1 : R4 w1 w.heap.size (.int .i64 0) (.int .i64 0) (.slice none 0 0) (.slice none 0 0) := R4.keep ⟨by simp, by simp, by simp, by simp, by simp, by simp, by simp, by simp, by simp⟩ k1 (by simp)
  have R6 := R1.keep (B := w1.heap.size) ((Below.trans (by go_grown) (k6.mono (by simp)) : Below w1.heap.size w1 w6)) R1.lt
  obtain ⟨r0, r1, r2, r3, r4, r5, r6, r7, r8⟩ := R6
  clear R1
  go_wp2
  refine bodyPost_ret (v := .agg #[.int .i64 5, .int .i64 0, .slice none 0 0, .slice none 0 0]) (by simp [results, Try.results13, go_sem, *]) rfl ⟨rfl, ?_⟩
  repeat' (first | (with_reducible exact Below.refl _ _) | (with_reducible refine kept_below ?_ (by assumption) ?_) | (with_reducible refine Below.alloc ?_ ?_ _) | (with_reducible refine Below.drew ?_) | (with_reducible refine Below.setCell ?_ ?_ _) | go_size)

end Go.Proofs.Ytgjbjafodkiilaa
