/- What FnOrders calls beside the program: lwBig, lwAt, lwAbove; LabelOf gives a right label. -/
import Derived.Test.YtmnekheaggleaaaOrdMath
import Derived.Test.YtmnekheaggleaaaDraw2
namespace Go.Proofs.Ytmnekheaggleaaa
open Go.RowKit
set_option linter.unusedVariables false

set_option maxHeartbeats 400000 in
theorem big_any (w : World) (a : Option Addr) (len cap : Nat) (hl : len ≤ maxLen) :
    Calls Try.prog 5 #[.slice a len cap] w fun e w' => e = .returned (.bool (decide ((1048576 : Int) < (len : Int)))) ∧ w = w' := by
  go_enter Try.func5, Try.ntmps5
  go_wp2
  go_returns
  exact ⟨rfl, rfl⟩

set_option maxHeartbeats 400000 in
theorem above_any (al ap bl bp : Int) (w : World) :
    Calls Try.prog 15 #[.agg #[.int .i64 al, .int .i64 ap], .agg #[.int .i64 bl, .int .i64 bp]] w fun e w' => e = .returned (.bool (domB al ap bl bp)) ∧ Below w.heap.size w w' := by
  go_enter Try.func15, Try.ntmps15
  go_wp2_with (first | (go_at_call 12; refine Calls.mono (id_any _ _ _ _ _) ?_; (all_goals try (first | (with_reducible assumption) | omega)); rintro e w1 ⟨rfl, k1⟩; (try replace k1 := kept_join (by assumption) k1); have hc1 := Kept.cell k1; have hf1 := Kept.frozen k1; have hz1 := k1.size; (try simp only [World.size_alloc] at hz1); (try simp only [World.size_setCell] at hz1); (try simp only [World.size_drew] at hz1); (try (first | have hs1 := sz12 hz1 | have hs1 := sz11 hz1 | have hs1 := sz10 hz1 | have hs1 := sz9 hz1 | have hs1 := sz8 hz1 | have hs1 := sz7 hz1 | have hs1 := sz6 hz1 | have hs1 := sz5 hz1 | have hs1 := sz4 hz1 | have hs1 := sz3 hz1 | have hs1 := sz2 hz1 | have hs1 := sz1 hz1))))
  go_returns
  refine ⟨rfl, ?_⟩
  repeat' (first | (with_reducible exact Below.refl _ _) | (with_reducible refine kept_below ?_ (by assumption) ?_) | (with_reducible refine Below.alloc ?_ ?_ _) | (with_reducible refine Below.drew ?_) | (with_reducible refine Below.setCell ?_ ?_ _) | go_size)

set_option maxHeartbeats 400000 in
theorem labelOf_lo (c : Int) (w : World) (h : c < 0 ∨ 63 < c) :
    Calls Try.prog 7 #[.int .i64 c] w fun e w' => e = .returned (.agg #[.int .i64 3, .int .i64 0, .int .i64 0]) ∧ Below w.heap.size w w' := by
  rcases h with h | h
  · go_enter Try.func7, Try.ntmps7
    go_wp2
    go_returns
    exact ⟨rfl, by go_grown⟩
  · have h0 : 0 ≤ c := by omega
    have b1 : decide (c ≤ 63) = false := by simp; omega
    go_enter Try.func7, Try.ntmps7
    go_wp2
    go_returns
    exact ⟨rfl, by go_grown⟩

set_option maxHeartbeats 400000 in
theorem labelOf_in (c : Int) (w : World) (h : 0 ≤ c) (h2 : c ≤ 63) :
    Calls Try.prog 7 #[.int .i64 c] w fun e w' => e = .returned (.agg #[.int .i64 0, .int .i64 (c / 16), .int .i64 (c % 16)]) ∧ Below w.heap.size w w' := by
  go_enter Try.func7, Try.ntmps7
  go_wp2
  go_returns
  exact ⟨rfl, by go_grown⟩

theorem labelOf_some (c : Int) (w : World) :
    Calls Try.prog 7 #[.int .i64 c] w fun e w' => ∃ k l p : Int, e = .returned (.agg #[.int .i64 k, .int .i64 l, .int .i64 p]) ∧ fltB l p = false ∧ Below w.heap.size w w' := by
  by_cases h : 0 ≤ c ∧ c ≤ 63
  · exact (labelOf_in c w h.1 h.2).mono fun e w' ⟨he, hb⟩ => ⟨0, c / 16, c % 16, he, flt_ok (by omega) (by omega) (by omega) (by omega), hb⟩
  · exact (labelOf_lo c w (by omega)).mono fun e w' ⟨he, hb⟩ => ⟨3, 0, 0, he, flt_ok (by omega) (by omega) (by omega) (by omega), hb⟩

set_option maxHeartbeats 800000 in
theorem at_any (w : World) (a : Option Addr) (len cap B : Nat) (f : Nat → Int) (i n : Int) (hB : Bytes w B a len f) (hl : len ≤ 1048576) (i0 : 0 ≤ i) (i1 : i ≤ 1000) (n0 : 2 ≤ n) (n1 : n ≤ 200) :
    Calls Try.prog 8 #[.slice a len cap, .int .i64 i, .int .i64 n] w fun e w' => ∃ r : Int, e = .returned (.int .i64 r) ∧ 0 ≤ r ∧ r < n ∧ Below w.heap.size w w' := by
  have hn : ¬ n ≤ 1 := by omega
  by_cases h0 : len = 0
  · subst h0
    go_enter Try.func8, Try.ntmps8
    go_wp2
    go_returns
    exact ⟨_, rfl, Int.emod_nonneg _ (by omega), Int.emod_lt_of_pos _ (by omega), Below.refl _ _⟩
  · rcases hB with h | ⟨xb, xo, rfl, hx, hc⟩
    · omega
    · have hne : ((len : Int) == 0) = false := by simp; omega
      have hl0 : (0 : Int) < (len : Int) := by omega
      have hl1 : (len : Int) ≤ 1048576 := by omega
      have j0 : 0 ≤ i % (len : Int) := Int.emod_nonneg _ (by omega)
      have j1 : i % (len : Int) < (len : Int) := Int.emod_lt_of_pos _ hl0
      obtain ⟨hv, v0, v1⟩ := hc (i % (len : Int)).toNat (by omega)
      generalize f (i % (len : Int)).toNat = v at hv v0 v1
      have q0 : 0 ≤ i / (len : Int) := Int.ediv_nonneg i0 (by omega)
      have q1 : i / (len : Int) ≤ 1000 := by have := Int.ediv_le_self (len : Int) i0; omega
      clear hc
      go_enter Try.func8, Try.ntmps8
      go_wp2
      go_quiet (fail)
      go_wp2
      go_returns
      exact ⟨_, rfl, Int.emod_nonneg _ (by omega), Int.emod_lt_of_pos _ (by omega), ⟨rfl, rfl, rfl, Nat.le_refl _, fun _ _ => rfl⟩⟩

end Go.Proofs.Ytmnekheaggleaaa
