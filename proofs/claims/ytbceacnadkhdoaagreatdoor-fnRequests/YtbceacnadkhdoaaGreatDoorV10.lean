/- Rows of int64 numbers: copied, held against each other, marked. ArgsOf: the program's, the model's, and the law's walk. -/
import Derived.Test.YtbceacnadkhdoaaGreatDoorV5
import Derived.Test.YtbceacnadkhdoaaGreatDoorV2
namespace Go.Proofs.YtbceacnadkhdoaaGreatDoor
open Go.RowKit
set_option linter.unusedVariables false

theorem Tryz.infoI : (Tryz.prog.info? 2).map (fun i => (i.zero, i.size, i.bytes)) = some (some (.int .i64 0), 1, 8) := by kernel_rfl

/-- What number a place is marked with. -/
def mkI (k : Int) (i : Nat) : Int := k + i

end Go.Proofs.YtbceacnadkhdoaaGreatDoor

namespace Go.Proofs.YtbceacnadkhdoaaGreatDoor
open Go.RowKit
set_option linter.unusedVariables false

set_option maxHeartbeats 2000000 in
theorem iArgs_yes (k : Int) (w : World) (h1 : 1 ≤ k) (h2 : k ≤ 13) :
    Calls Tryz.prog 15 #[.int .i64 k] w fun e w' => e = .returned (.agg #[.int .i64 0, .int .i64 (aN k)]) ∧ Below w.heap.size w w' := by
  rcases kinds h1 h2 with rfl | rfl | rfl | rfl | rfl | rfl | rfl | rfl | rfl | rfl | rfl | rfl | rfl
  all_goals
    clear h1 h2
    go_enter Tryz.func15, Tryz.ntmps15
    go_wp2
    go_returns
    exact ⟨rfl, by go_grown⟩

set_option maxHeartbeats 1000000 in
theorem iArgs_no (k : Int) (w : World) (h : k < 1 ∨ 13 < k) :
    Calls Tryz.prog 15 #[.int .i64 k] w fun e w' => e = .returned (.agg #[.int .i64 3, .int .i64 0]) ∧ Below w.heap.size w w' := by
  have e1 : (k == 1) = false := by simp; omega
  have e2 : (k == 2) = false := by simp; omega
  have e3 : (k == 3) = false := by simp; omega
  have e4 : (k == 4) = false := by simp; omega
  have e5 : (k == 5) = false := by simp; omega
  have e6 : (k == 6) = false := by simp; omega
  have e7 : (k == 7) = false := by simp; omega
  have e8 : (k == 8) = false := by simp; omega
  have e9 : (k == 9) = false := by simp; omega
  have e10 : (k == 10) = false := by simp; omega
  have e11 : (k == 11) = false := by simp; omega
  have e12 : (k == 12) = false := by simp; omega
  have e13 : (k == 13) = false := by simp; omega
  clear h
  go_enter Tryz.func15, Tryz.ntmps15
  go_wp2
  go_returns
  exact ⟨rfl, by go_grown⟩

theorem iArgs_any (k : Int) (w : World) :
    Calls Tryz.prog 15 #[.int .i64 k] w fun e w' => e = .returned (.agg #[.int .i64 (aC k), .int .i64 (aN k)]) ∧ Below w.heap.size w w' := by
  by_cases h : 1 ≤ k ∧ k ≤ 13
  · rw [aC_yes h.1 h.2]; exact iArgs_yes k w h.1 h.2
  · rw [aC_no (by omega), aN_no (by omega)]; exact iArgs_no k w (by omega)

set_option maxHeartbeats 400000 in
theorem in_yes (n a b : Int) (w : World) (h : a ≤ n) (h2 : n ≤ b) :
    Calls Tryz.prog 53 #[.int .i64 n, .int .i64 a, .int .i64 b] w fun e w' => e = .returned (.bool true) ∧ w' = w := by
  go_enter Tryz.func53, Tryz.ntmps53
  go_wp2
  go_returns
  exact ⟨rfl, rfl⟩

set_option maxHeartbeats 400000 in
theorem in_no (n a b : Int) (w : World) (h : n < a ∨ b < n) :
    Calls Tryz.prog 53 #[.int .i64 n, .int .i64 a, .int .i64 b] w fun e w' => e = .returned (.bool false) ∧ w' = w := by
  by_cases h1 : a ≤ n
  · have h2 : ¬ n ≤ b := by omega
    clear h
    go_enter Tryz.func53, Tryz.ntmps53
    go_wp2
    go_returns
    exact ⟨congrArg (fun b => Ending.returned (.bool b)) (by first | rfl | (simp; omega)), rfl⟩
  · clear h
    go_enter Tryz.func53, Tryz.ntmps53
    go_wp2
    go_returns
    exact ⟨congrArg (fun b => Ending.returned (.bool b)) (by first | rfl | (simp; omega)), rfl⟩

set_option maxHeartbeats 400000 in
theorem kind_yes (k : Int) (w : World) (h1 : 1 ≤ k) (h2 : k ≤ 13) :
    Calls Tryz.prog 36 #[.int .i64 k] w fun e w' => e = .returned (.bool true) ∧ w' = w := by
  go_enter Tryz.func36, Tryz.ntmps36
  go_wp2_with (go_at_call 53; refine Calls.mono (in_yes _ _ _ _ (by omega) (by omega)) ?_; rintro e w1 ⟨rfl, rfl⟩)
  go_returns
  exact ⟨rfl, rfl⟩

set_option maxHeartbeats 400000 in
theorem kind_no (k : Int) (w : World) (h : k < 1 ∨ 13 < k) :
    Calls Tryz.prog 36 #[.int .i64 k] w fun e w' => e = .returned (.bool false) ∧ w' = w := by
  go_enter Tryz.func36, Tryz.ntmps36
  go_wp2_with (go_at_call 53; refine Calls.mono (in_no _ _ _ _ (by omega)) ?_; rintro e w1 ⟨rfl, rfl⟩)
  go_returns
  exact ⟨rfl, rfl⟩

set_option maxHeartbeats 2000000 in
theorem sArgN_any (k : Int) (w : World) (h1 : 1 ≤ k) (h2 : k ≤ 13) :
    Calls Tryz.prog 37 #[.int .i64 k] w fun e w' => e = .returned (.int .i64 (aN k)) ∧ Below w.heap.size w w' := by
  rcases kinds h1 h2 with rfl | rfl | rfl | rfl | rfl | rfl | rfl | rfl | rfl | rfl | rfl | rfl | rfl
  all_goals
    clear h1 h2
    go_enter Tryz.func37, Tryz.ntmps37
    go_wp2
    go_returns
    exact ⟨rfl, by go_grown⟩

set_option maxHeartbeats 1000000 in
theorem sArgs_any (k : Int) (w : World) :
    Calls Tryz.prog 16 #[.int .i64 k] w fun e w' => e = .returned (.agg #[.int .i64 (aC k), .int .i64 (aN k)]) ∧ Below w.heap.size w w' := by
  by_cases h : 1 ≤ k ∧ k ≤ 13
  · rw [aC_yes h.1 h.2]
    go_enter Tryz.func16, Tryz.ntmps16
    go_wp2_with (first | (go_at_call 36; refine Calls.mono (kind_yes _ _ (by omega) (by omega)) ?_; rintro e w1 ⟨rfl, rfl⟩) | (go_at_call 37; refine Calls.mono (sArgN_any _ _ ?_ ?_) ?_; (all_goals try (first | (with_reducible assumption) | omega)); rintro e w1 ⟨rfl, k1⟩; (try replace k1 := kept_join (by assumption) k1); have hc1 := Kept.cell k1; have hf1 := Kept.frozen k1; have hz1 := k1.size; (try simp only [World.size_alloc] at hz1); (try simp only [World.size_setCell] at hz1); (try simp only [World.size_drew] at hz1); (try (first | have hs1 := sz12 hz1 | have hs1 := sz11 hz1 | have hs1 := sz10 hz1 | have hs1 := sz9 hz1 | have hs1 := sz8 hz1 | have hs1 := sz7 hz1 | have hs1 := sz6 hz1 | have hs1 := sz5 hz1 | have hs1 := sz4 hz1 | have hs1 := sz3 hz1 | have hs1 := sz2 hz1 | have hs1 := sz1 hz1))))
    refine bodyPost_ret (v := .agg #[.int .i64 0, .int .i64 (aN k)]) (by simp [results, Tryz.results16, go_sem, *]) rfl ⟨rfl, ?_⟩
    repeat' (first | (with_reducible exact Below.refl _ _) | (with_reducible refine kept_below ?_ (by assumption) ?_) | (with_reducible refine Below.alloc ?_ ?_ _) | (with_reducible refine Below.drew ?_) | (with_reducible refine Below.setCell ?_ ?_ _) | go_size)
  · rw [aC_no (by omega), aN_no (by omega)]
    go_enter Tryz.func16, Tryz.ntmps16
    go_wp2_with (first | (go_at_call 36; refine Calls.mono (kind_no _ _ (by omega)) ?_; rintro e w1 ⟨rfl, rfl⟩))
    go_returns
    refine ⟨rfl, ?_⟩
    repeat' (first | (with_reducible exact Below.refl _ _) | (with_reducible refine kept_below ?_ (by assumption) ?_) | (with_reducible refine Below.alloc ?_ ?_ _) | (with_reducible refine Below.drew ?_) | (with_reducible refine Below.setCell ?_ ?_ _) | go_size)

end Go.Proofs.YtbceacnadkhdoaaGreatDoor
