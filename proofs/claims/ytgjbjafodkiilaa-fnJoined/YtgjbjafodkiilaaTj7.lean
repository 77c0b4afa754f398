/- RequestFault of the program: the numbers gone through. -/
import Derived.Test.YtgjbjafodkiilaaTj6
namespace Go.Proofs.Ytgjbjafodkiilaa
open Go.RowKit
set_option linter.unusedVariables false

set_option maxHeartbeats 400000 in
theorem byte_any (x : Int) (w : World) : Calls Try.prog 48 #[.int .i64 x] w fun e w' => e = .returned (.bool (isB x)) ∧ w' = w := by
  cases hb : isB x
  · rcases isB_no hb with hx | hx
    · have hx0 : ¬ 0 ≤ x := by omega
      clear hb
      go_enter Try.func48, Try.ntmps48
      go_wp2
      go_returns
      exact ⟨congrArg (fun b => Ending.returned (.bool b)) (by first | rfl | (simp; omega)), rfl⟩
    · have hx0 : 0 ≤ x := by omega
      have hx1 : ¬ x ≤ 255 := by omega
      clear hb
      go_enter Try.func48, Try.ntmps48
      go_wp2
      go_returns
      exact ⟨congrArg (fun b => Ending.returned (.bool b)) (by first | rfl | (simp; omega)), rfl⟩
  · obtain ⟨hx0, hx1⟩ := isB_yes hb
    clear hb
    go_enter Try.func48, Try.ntmps48
    go_wp2
    go_returns
    exact ⟨congrArg (fun b => Ending.returned (.bool b)) (by first | rfl | (simp; omega)), rfl⟩

set_option maxHeartbeats 1000000 in
theorem iFault_args (lo hi : Nat) (k : Int) (ao bo : Option Addr) (ca nd cb : Nat) (A : List Int) (w : World) (hR : Row .i64 w lo hi ao A) (hs : hi ≤ w.heap.size) (h1 : 1 ≤ k) (h2 : k ≤ 13) (ha : A.length = aN k) (hd : nd ≤ mD k) :
    Calls Try.prog 33 #[.agg #[.int .i64 k, .slice ao A.length ca, .slice bo nd cb]] w fun e w' => e = .returned (.int .i64 (aF A)) ∧ Below w.heap.size w w' := by
  have HK := hideP (And.intro h1 h2)
  have HR := hideP hR
  obtain ⟨m, hm⟩ : ∃ m, mD k = m := ⟨_, rfl⟩
  have CA := iArgs_yes k
  have CM := most_any k
  rw [← ha] at CA
  rw [hm] at hd CM
  have CA' := hideP CA
  have CM' := hideP CM
  have hl : A.length ≤ 7 := by rw [ha]; exact aN_le k
  have hl' : (A.length : Int) ≤ 7 := by omega
  have e1 : ((A.length : Int) != (A.length : Int)) = false := by simp
  have e2 : ¬ m < nd := by omega
  clear CA CM hm h1 h2 hR ha hd
  go_enter Try.func33, Try.ntmps33
  go_wp2_with (first | (go_at_call 28; refine Calls.mono (CA'.out _ HK.out.1 HK.out.2) ?_; (all_goals try (first | (with_reducible assumption) | omega)); rintro e w1 ⟨rfl, k1⟩; (try replace k1 := kept_join (by assumption) k1); have hc1 := Kept.cell k1; have hf1 := Kept.frozen k1; have hz1 := k1.size; (try simp only [World.size_alloc] at hz1); (try simp only [World.size_setCell] at hz1); (try simp only [World.size_drew] at hz1); (try (first | have hs1 := sz12 hz1 | have hs1 := sz11 hz1 | have hs1 := sz10 hz1 | have hs1 := sz9 hz1 | have hs1 := sz8 hz1 | have hs1 := sz7 hz1 | have hs1 := sz6 hz1 | have hs1 := sz5 hz1 | have hs1 := sz4 hz1 | have hs1 := sz3 hz1 | have hs1 := sz2 hz1 | have hs1 := sz1 hz1))))
  refine wp_region_wq (by kernel_rfl) (by kernel_rfl) ?_
  repeat (first | (refine wq_up _ (by first | exact wanted_free rfl | exact wanted_yes rfl rfl | exact wanted_no rfl rfl | exact wanted_lost rfl rfl) (by first | with_reducible rfl | decide) ?_; apply Exists.intro; refine ⟨fun w1 k1 => ?_, fun K hK => ?_⟩; (focus (have hc := Kept.cell k1; go_simp; first | done | rfl | (go_at_call 29; exact kept_call_same k1 (CM'.out _)))); (go_simp; refine hK _ ?_; clear hK K)) | (refine wq_off _ (by first | exact wanted_free rfl | exact wanted_yes rfl rfl | exact wanted_no rfl rfl | exact wanted_lost rfl rfl) (by first | with_reducible rfl | decide) ?_; intro K hK; go_simp; refine hK _ ?_; clear hK K))
  refine wq_nil ?_
  intro w5 k5
  replace k5 := Kept.below k5
  have hc5 := Kept.cell k5
  have hf5 := Kept.frozen k5
  have hz5 := k5.size
  try simp only [World.size_alloc] at hz5
  try simp only [World.size_setCell] at hz5
  try simp only [World.size_drew] at hz5
  try (first | have hs5 := sz12 hz5 | have hs5 := sz11 hz5 | have hs5 := sz10 hz5 | have hs5 := sz9 hz5 | have hs5 := sz8 hz5 | have hs5 := sz7 hz5 | have hs5 := sz6 hz5 | have hs5 := sz5 hz5 | have hs5 := sz4 hz5 | have hs5 := sz3 hz5 | have hs5 := sz2 hz5 | have hs5 := sz1 hz5)
  go_wp2
  have HB : Hid (Below w.heap.size w w5) := by
    show Below _ _ _
    repeat' (first | (with_reducible exact Below.refl _ _) | (with_reducible refine kept_below ?_ (by assumption) ?_) | (with_reducible refine Below.alloc ?_ ?_ _) | (with_reducible refine Below.drew ?_) | (with_reducible refine Below.setCell ?_ ?_ _) | go_size)
  have HR5 := hideP (HR.out.keep HB.out hs)
  clear k1 hc1 hf1 hz1 hs1 k5 hc5 hf5 hz5 hs5 e1 e2 CA' CM'
  go_loop [32] (fun i => ∃ j : Nat, j ≤ A.length ∧ i = .int .i64 j ∧ Hid (∀ i (hi : i < A.length), i < j → isB A[i] = true)) (fun i => A.length - (intOf i).toNat)
  case atStart => exact ⟨0, Nat.zero_le _, rfl, fun i _ hi => absurd hi (Nat.not_lt_zero _)⟩
  case round =>
    obtain ⟨j, hj, rfl, HF⟩ := hrel
    by_cases hlt : j < A.length
    · have hlt' : (j : Int) < (A.length : Int) := by omega
      have hne : A ≠ [] := fun e => by rw [e] at hlt; simp at hlt
      rcases HR5.out with e | ⟨g, o, rfl, _, hg, hc⟩
      · exact absurd e hne
      have a0 := hc j hlt
      have hhit := hideP (all_hit hlt)
      have hon := hideP (show ∀ e : isB A[j] = true, ∀ i (hi : i < A.length), i < j + 1 → isB A[i] = true from fun e i hi hij => by
        by_cases h : i < j
        · exact HF.out i hi h
        · obtain rfl : i = j := by omega
          exact e)
      clear hc HF
      generalize A[j] = x at *
      cases hb : isB x
      · have hh := hideP (aF_no (hhit.out hb))
        clear hhit hon
        go_wp2_with (go_at_call 48; refine Calls.mono (byte_any _ _) ?_; rintro e w1 ⟨rfl, rfl⟩; rw [hb])
        go_returns
        exact ⟨by rw [hh.out]; rfl, HB.out⟩
      · have hh := hideP (hon.out hb)
        clear hhit hon
        go_wp2_with (go_at_call 48; refine Calls.mono (byte_any _ _) ?_; rintro e w1 ⟨rfl, rfl⟩; rw [hb])
        go_round
        case rel => exact ⟨j + 1, by omega, by go_num, hh.out⟩
        case measure => simp [intOf]; omega
    · have hf := hideP (aF_yes (all_none fun i hi => HF.out i hi (by omega)))
      clear HF
      go_wp2
      go_returns
      exact ⟨by rw [hf.out]; rfl, HB.out⟩

theorem iFault_any (lo hi : Nat) (k : Int) (ao bo : Option Addr) (ca nd cb : Nat) (A : List Int) (w : World) (hR : Row .i64 w lo hi ao A) (hs : hi ≤ w.heap.size) :
    Calls Try.prog 33 #[.agg #[.int .i64 k, .slice ao A.length ca, .slice bo nd cb]] w fun e w' => e = .returned (.int .i64 (rF k A nd)) ∧ Below w.heap.size w w' := by
  by_cases hk : 1 ≤ k ∧ k ≤ 13
  · by_cases hm : A.length ≠ aN k ∨ mD k < nd
    · rw [rF_many hk.1 hk.2 (mny_yes hm)]; exact iFault_many k ao bo A.length ca nd cb w hk.1 hk.2 hm
    · rw [rF_args hk.1 hk.2 (mny_no (by omega) (by omega))]; exact iFault_args lo hi k ao bo ca nd cb A w hR hs hk.1 hk.2 (by omega) (by omega)
  · rw [rF_none (by omega)]; exact iFault_none k ao bo A.length ca nd cb w (by omega)

end Go.Proofs.Ytgjbjafodkiilaa
