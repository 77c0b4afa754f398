/- RequestFault: the program's and the model's. -/
import Derived.Test.YtgjbjafodkiilaaTj5
namespace Go.Proofs.Ytgjbjafodkiilaa
open Go.RowKit
set_option linter.unusedVariables false

set_option maxHeartbeats 400000 in
theorem most_any (k : Int) (w : World) : Calls Try.prog 29 #[.int .i64 k] w fun e w' => e = .returned (.int .i64 (mD k)) ∧ w' = w := by
  by_cases h : k = 11
  · subst h
    go_enter Try.func29, Try.ntmps29
    go_wp2
    go_returns
    exact ⟨rfl, rfl⟩
  · have e : (k == 11) = false := by simpa using h
    have HM := hideP (mD_no h)
    go_enter Try.func29, Try.ntmps29
    go_wp2
    go_returns
    exact ⟨by rw [HM.out]; rfl, rfl⟩

theorem mny_yes {k : Int} {na nd : Nat} (h : na ≠ aN k ∨ mD k < nd) : mny k na nd = true := by simpa only [mny, decide_eq_true_eq] using h
theorem mny_no {k : Int} {na nd : Nat} (h : na = aN k) (h2 : nd ≤ mD k) : mny k na nd = false := by
  simp only [mny, decide_eq_false_iff_not]; omega

set_option maxHeartbeats 1000000 in
theorem iFault_none (k : Int) (ao bo : Option Addr) (na ca nd cb : Nat) (w : World) (h : k < 1 ∨ 13 < k) :
    Calls Try.prog 33 #[.agg #[.int .i64 k, .slice ao na ca, .slice bo nd cb]] w fun e w' => e = .returned (.int .i64 3) ∧ Below w.heap.size w w' := by
  go_enter Try.func33, Try.ntmps33
  go_wp2_with (first | (go_at_call 28; refine Calls.mono (iArgs_no _ _ ?_) ?_; (all_goals try (first | (with_reducible assumption) | omega)); rintro e w1 ⟨rfl, k1⟩; (try replace k1 := kept_join (by assumption) k1); have hc1 := Kept.cell k1; have hf1 := Kept.frozen k1; have hz1 := k1.size; (try simp only [World.size_alloc] at hz1); (try simp only [World.size_setCell] at hz1); (try simp only [World.size_drew] at hz1); (try (first | have hs1 := sz12 hz1 | have hs1 := sz11 hz1 | have hs1 := sz10 hz1 | have hs1 := sz9 hz1 | have hs1 := sz8 hz1 | have hs1 := sz7 hz1 | have hs1 := sz6 hz1 | have hs1 := sz5 hz1 | have hs1 := sz4 hz1 | have hs1 := sz3 hz1 | have hs1 := sz2 hz1 | have hs1 := sz1 hz1))))
  go_returns
  refine ⟨rfl, ?_⟩
  repeat' (first | (with_reducible exact Below.refl _ _) | (with_reducible refine kept_below ?_ (by assumption) ?_) | (with_reducible refine Below.alloc ?_ ?_ _) | (with_reducible refine Below.drew ?_) | (with_reducible refine Below.setCell ?_ ?_ _) | go_size)

set_option maxHeartbeats 2000000 in
theorem iFault_many (k : Int) (ao bo : Option Addr) (na ca nd cb : Nat) (w : World) (h1 : 1 ≤ k) (h2 : k ≤ 13) (h : na ≠ aN k ∨ mD k < nd) :
    Calls Try.prog 33 #[.agg #[.int .i64 k, .slice ao na ca, .slice bo nd cb]] w fun e w' => e = .returned (.int .i64 2) ∧ Below w.heap.size w w' := by
  have HK := hideP (And.intro h1 h2)
  obtain ⟨n, hn⟩ : ∃ n, aN k = n := ⟨_, rfl⟩
  obtain ⟨m, hm⟩ : ∃ m, mD k = m := ⟨_, rfl⟩
  have CA := iArgs_yes k
  have CM := most_any k
  rw [hn] at h CA
  rw [hm] at h CM
  have CA' := hideP CA
  have CM' := hideP CM
  clear CA CM hn hm h1 h2
  by_cases ha : na = n
  · subst ha
    have e1 : ((na : Int) != (na : Int)) = false := by simp
    have e2 : m < nd := by omega
    clear h
    go_enter Try.func33, Try.ntmps33
    go_wp2_with (first | (go_at_call 28; refine Calls.mono (CA'.out _ HK.out.1 HK.out.2) ?_; (all_goals try (first | (with_reducible assumption) | omega)); rintro e w1 ⟨rfl, k1⟩; (try replace k1 := kept_join (by assumption) k1); have hc1 := Kept.cell k1; have hf1 := Kept.frozen k1; have hz1 := k1.size; (try simp only [World.size_alloc] at hz1); (try simp only [World.size_setCell] at hz1); (try simp only [World.size_drew] at hz1); (try (first | have hs1 := sz12 hz1 | have hs1 := sz11 hz1 | have hs1 := sz10 hz1 | have hs1 := sz9 hz1 | have hs1 := sz8 hz1 | have hs1 := sz7 hz1 | have hs1 := sz6 hz1 | have hs1 := sz5 hz1 | have hs1 := sz4 hz1 | have hs1 := sz3 hz1 | have hs1 := sz2 hz1 | have hs1 := sz1 hz1))))
    refine wp_region_wq (by kernel_rfl) (by kernel_rfl) ?_
    repeat (first | (refine wq_up _ (by first | exact wanted_free rfl | exact wanted_yes rfl rfl | exact wanted_no rfl rfl | exact wanted_lost rfl rfl) (by first | with_reducible rfl | decide) ?_; apply Exists.intro; refine ⟨fun w1 k1 => ?_, fun K hK => ?_⟩; (focus (have hc := Kept.cell k1; go_simp; first | done | rfl | (go_at_call 29; exact kept_call_same k1 (CM'.out _)))); (go_simp; refine hK _ ?_; clear hK K)) | (refine wq_off _ (by first | exact wanted_free rfl | exact wanted_yes rfl rfl | exact wanted_no rfl rfl | exact wanted_lost rfl rfl) (by first | with_reducible rfl | decide) ?_; intro K hK; go_simp; refine hK _ ?_; clear hK K))
    refine wq_nil ?_
    intro w5 k5
    replace k5 := Kept.below k5
    have hc5 := Kept.cell k5
    have hf5 := Kept.frozen k5
    have hz5 := k5.size
    try simp only [World.size_alloc] at hz5
    try simp only [World.size_setCell] at hz5
    try simp only [World.size_drew] at hz5
    try (first | have hs5 := sz12 hz5 | have hs5 := sz11 hz5 | have hs5 := sz10 hz5 | have hs5 := sz9 hz5 | have hs5 := sz8 hz5 | have hs5 := sz7 hz5 | have hs5 := sz6 hz5 | have hs5 := sz5 hz5 | have hs5 := sz4 hz5 | have hs5 := sz3 hz5 | have hs5 := sz2 hz5 | have hs5 := sz1 hz5)
    go_wp2
    go_returns
    refine ⟨rfl, ?_⟩
    repeat' (first | (with_reducible exact Below.refl _ _) | (with_reducible refine kept_below ?_ (by assumption) ?_) | (with_reducible refine Below.alloc ?_ ?_ _) | (with_reducible refine Below.drew ?_) | (with_reducible refine Below.setCell ?_ ?_ _) | go_size)
  · have e1 : ((na : Int) != (n : Int)) = true := by simp; omega
    clear h
    go_enter Try.func33, Try.ntmps33
    go_wp2_with (first | (go_at_call 28; refine Calls.mono (CA'.out _ HK.out.1 HK.out.2) ?_; (all_goals try (first | (with_reducible assumption) | omega)); rintro e w1 ⟨rfl, k1⟩; (try replace k1 := kept_join (by assumption) k1); have hc1 := Kept.cell k1; have hf1 := Kept.frozen k1; have hz1 := k1.size; (try simp only [World.size_alloc] at hz1); (try simp only [World.size_setCell] at hz1); (try simp only [World.size_drew] at hz1); (try (first | have hs1 := sz12 hz1 | have hs1 := sz11 hz1 | have hs1 := sz10 hz1 | have hs1 := sz9 hz1 | have hs1 := sz8 hz1 | have hs1 := sz7 hz1 | have hs1 := sz6 hz1 | have hs1 := sz5 hz1 | have hs1 := sz4 hz1 | have hs1 := sz3 hz1 | have hs1 := sz2 hz1 | have hs1 := sz1 hz1))))
    refine wp_region_wq (by kernel_rfl) (by kernel_rfl) ?_
    repeat (first | (refine wq_up _ (by first | exact wanted_free rfl | exact wanted_yes rfl rfl | exact wanted_no rfl rfl | exact wanted_lost rfl rfl) (by first | with_reducible rfl | decide) ?_; apply Exists.intro; refine ⟨fun w1 k1 => ?_, fun K hK => ?_⟩; (focus (have hc := Kept.cell k1; go_simp; first | done | rfl | (go_at_call 29; exact kept_call_same k1 (CM'.out _)))); (go_simp; refine hK _ ?_; clear hK K)) | (refine wq_off _ (by first | exact wanted_free rfl | exact wanted_yes rfl rfl | exact wanted_no rfl rfl | exact wanted_lost rfl rfl) (by first | with_reducible rfl | decide) ?_; intro K hK; go_simp; refine hK _ ?_; clear hK K))
    refine wq_nil ?_
    intro w5 k5
    replace k5 := Kept.below k5
    have hc5 := Kept.cell k5
    have hf5 := Kept.frozen k5
    have hz5 := k5.size
    try simp only [World.size_alloc] at hz5
    try simp only [World.size_setCell] at hz5
    try simp only [World.size_drew] at hz5
    try (first | have hs5 := sz12 hz5 | have hs5 := sz11 hz5 | have hs5 := sz10 hz5 | have hs5 := sz9 hz5 | have hs5 := sz8 hz5 | have hs5 := sz7 hz5 | have hs5 := sz6 hz5 | have hs5 := sz5 hz5 | have hs5 := sz4 hz5 | have hs5 := sz3 hz5 | have hs5 := sz2 hz5 | have hs5 := sz1 hz5)
    go_wp2
    go_returns
    refine ⟨rfl, ?_⟩
    repeat' (first | (with_reducible exact Below.refl _ _) | (with_reducible refine kept_below ?_ (by assumption) ?_) | (with_reducible refine Below.alloc ?_ ?_ _) | (with_reducible refine Below.drew ?_) | (with_reducible refine Below.setCell ?_ ?_ _) | go_size)

end Go.Proofs.Ytgjbjafodkiilaa
