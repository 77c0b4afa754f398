/- SlotOf: the program's, the model's, and the law's walk. -/
import Derived.Test.YtoipcnpemmajaaaIdMath
namespace Go.Proofs.Ytoipcnpemmajaaa
open Go.RowKit
set_option linter.unusedVariables false

theorem tmod64 {x : Int} (h : 0 ≤ x) : x.tmod 64 = x % 64 := Int.tmod_eq_emod_of_nonneg h
theorem tdiv64 {x : Int} (h : 0 ≤ x) : x.tdiv 64 = x / 64 := Int.tdiv_eq_ediv_of_nonneg h

set_option maxHeartbeats 1000000 in
theorem iSlot_yes (x : Int) (w : World) (h : okId x = true) :
    Calls Try.prog 100 #[.int .i64 x] w fun e w' => e = .returned (.agg #[.int .i64 0, .int .i64 (x / 64)]) ∧ Below w.heap.size w w' := by
  rw [okId_iff] at h
  obtain ⟨h0, h1, h2, h3⟩ := h
  have t := tmod64 h0
  have d := tdiv64 h0
  have hlo : ¬ x < 1 := by omega
  have hhi : ¬ 195 < x := by omega
  have hm1 : ¬ x % 64 < 1 := by omega
  have hm3 : ¬ 3 < x % 64 := by omega
  have hd : IntKind.i64.wrap (x / 64) = x / 64 := IntWalk.i64_in _ (by omega)
  have hd2 : IntKind.i64.wrap (x % 64) = x % 64 := IntWalk.i64_in _ (by omega)
  go_enter Try.func100, Try.ntmps100
  go_wp2
  go_returns
  exact ⟨rfl, by go_grown⟩

set_option maxHeartbeats 1000000 in
theorem iSlot_no (x : Int) (w : World) (h : okId x = false) :
    Calls Try.prog 100 #[.int .i64 x] w fun e w' => e = .returned (.agg #[.int .i64 3, .int .i64 0]) ∧ Below w.heap.size w w' := by
  rw [okId_not] at h
  by_cases hlo : x < 1
  · clear h
    go_enter Try.func100, Try.ntmps100
    go_wp2
    go_returns
    exact ⟨rfl, by go_grown⟩
  by_cases hhi : 195 < x
  · clear h
    go_enter Try.func100, Try.ntmps100
    go_wp2
    go_returns
    exact ⟨rfl, by go_grown⟩
  have t := tmod64 (x := x) (by omega)
  have hd2 : IntKind.i64.wrap (x % 64) = x % 64 := IntWalk.i64_in _ (by omega)
  by_cases hm1 : x % 64 < 1
  · clear h
    go_enter Try.func100, Try.ntmps100
    go_wp2
    go_returns
    exact ⟨rfl, by go_grown⟩
  have hm3 : 3 < x % 64 := by omega
  clear h
  go_enter Try.func100, Try.ntmps100
  go_wp2
  go_returns
  exact ⟨rfl, by go_grown⟩

theorem iSlot_any (x : Int) (w : World) :
    Calls Try.prog 100 #[.int .i64 x] w fun e w' => e = .returned (.agg #[.int .i64 (slC x), .int .i64 (slV x)]) ∧ Below w.heap.size w w' := by
  cases h : okId x
  · rw [slC_no h, slV_no h]; exact iSlot_no x w h
  · rw [slC_yes h, slV_yes h]; exact iSlot_yes x w h

set_option maxHeartbeats 400000 in
theorem in5_yes (n a b : Int) (w : World) (h : a ≤ n) (h2 : n ≤ b) :
    Calls Try.prog 79 #[.int .i64 n, .int .i64 a, .int .i64 b] w fun e w' => e = .returned (.bool true) ∧ w' = w := by
  go_enter Try.func79, Try.ntmps79
  go_wp2
  go_returns
  exact ⟨rfl, rfl⟩

set_option maxHeartbeats 400000 in
theorem in5_no (n a b : Int) (w : World) (h : n < a ∨ b < n) :
    Calls Try.prog 79 #[.int .i64 n, .int .i64 a, .int .i64 b] w fun e w' => e = .returned (.bool false) ∧ w' = w := by
  by_cases h1 : a ≤ n
  · have h2 : ¬ n ≤ b := by omega
    clear h
    go_enter Try.func79, Try.ntmps79
    go_wp2
    go_returns
    exact ⟨congrArg (fun b => Ending.returned (.bool b)) (by first | rfl | (simp; omega)), rfl⟩
  · clear h
    go_enter Try.func79, Try.ntmps79
    go_wp2
    go_returns
    exact ⟨congrArg (fun b => Ending.returned (.bool b)) (by first | rfl | (simp; omega)), rfl⟩

theorem in5_any (n a b : Int) (w : World) :
    Calls Try.prog 79 #[.int .i64 n, .int .i64 a, .int .i64 b] w fun e w' => e = .returned (.bool (decide (a ≤ n ∧ n ≤ b))) ∧ w' = w := by
  by_cases h : a ≤ n ∧ n ≤ b
  · rw [decide_eq_true h]; exact in5_yes n a b w h.1 h.2
  · rw [decide_eq_false h]; exact in5_no n a b w (by omega)

set_option maxHeartbeats 400000 in
theorem sId_any (x : Int) (w : World) :
    Calls Try.prog 97 #[.int .i64 x] w fun e w' => e = .returned (.bool (okId x)) ∧ w' = w := by
  by_cases h : 0 ≤ x ∧ x ≤ 255
  · have t := tmod64 h.1
    have hd2 : IntKind.i64.wrap (x % 64) = x % 64 := IntWalk.i64_in _ (by omega)
    have e : okId x = decide (1 ≤ x % 64 ∧ x % 64 ≤ 3) := by simp [okId, h]
    have D1 : decide (0 ≤ x ∧ x ≤ 255) = true := decide_eq_true h
    rw [e]
    clear h e
    go_enter Try.func97, Try.ntmps97
    go_wp2_with (go_at_call 79; refine Calls.mono (in5_any _ _ _ _) ?_; rintro e w1 ⟨rfl, rfl⟩; (try rw [D1]))
    go_returns
    exact ⟨congrArg (fun b => Ending.returned (.bool b)) (by simp), rfl⟩
  · have e : okId x = false := by rw [okId_not]; omega
    have D1 : decide (0 ≤ x ∧ x ≤ 255) = false := decide_eq_false h
    rw [e]
    clear h e
    go_enter Try.func97, Try.ntmps97
    go_wp2_with (go_at_call 79; refine Calls.mono (in5_any _ _ _ _) ?_; rintro e w1 ⟨rfl, rfl⟩; (try rw [D1]))
    go_returns
    exact ⟨rfl, rfl⟩

end Go.Proofs.Ytoipcnpemmajaaa
