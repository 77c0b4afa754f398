/- Whether two rows of numbers are the same: the model's, and the library's. -/
import Derived.Test.YtgjbjafodkiilaaTj4
namespace Go.Proofs.Ytgjbjafodkiilaa
open Go.RowKit
set_option linter.unusedVariables false

theorem same_all {A B : List Int} (hl : A.length = B.length) (h : ∀ i (h1 : i < A.length) (h2 : i < B.length), A[i] = B[i]) : decide (A = B) = true := decide_eq_true (List.ext_getElem hl h)
theorem same_not {A B : List Int} {i : Nat} (h1 : i < A.length) (h2 : i < B.length) (h : A[i] ≠ B[i]) : decide (A = B) = false := decide_eq_false fun e => h (by subst e; rfl)
theorem same_len {A B : List Int} (h : A.length ≠ B.length) : decide (A = B) = false := decide_eq_false fun e => h (by rw [e])

set_option maxHeartbeats 1000000 in
theorem equalI_any (lo hi lo2 hi2 : Nat) (ao bo : Option Addr) (ca cb : Nat) (A B : List Int) (w : World) (ha : Row .i64 w lo hi ao A) (hb : Row .i64 w lo2 hi2 bo B) (h1 : hi ≤ w.heap.size) (h2 : hi2 ≤ w.heap.size) (hl : A.length ≤ 1048576) (hl2 : B.length ≤ 1048576) :
    Calls Try.prog 26 #[.slice ao A.length ca, .slice bo B.length cb] w fun e w' => e = .returned (.bool (decide (A = B))) ∧ Below w.heap.size w w' := by
  have hl' : (A.length : Int) ≤ 1048576 := by omega
  have HA := hideP ha
  have HB := hideP hb
  clear ha hb
  by_cases hlen : A.length = B.length
  · have hne : ((A.length : Int) != (B.length : Int)) = false := by simp; omega
    have HLen := hideP hlen
    clear hlen
    go_enter Try.func26, Try.ntmps26
    go_wp2
    go_loopw [13] (fun i wr => ∃ k : Nat, k ≤ A.length ∧ i = .int .i64 k ∧ Below w.heap.size w wr ∧ Hid (∀ i (h1 : i < A.length) (h2 : i < B.length), i < k → A[i] = B[i])) (fun i _ => A.length - (intOf i).toNat)
    case atStart => exact ⟨0, Nat.zero_le _, rfl, Below.refl _ _, fun i _ _ hi => absurd hi (Nat.not_lt_zero _)⟩
    case round =>
      obtain ⟨k, hk, rfl, hbel, HF⟩ := hrel
      have hz := hbel.size
      by_cases hlt : k < A.length
      · have hltb : k < B.length := by have := HLen.out; omega
        have hlt' : (k : Int) < (A.length : Int) := by omega
        have hltb' : (k : Int) < (B.length : Int) := by omega
        rcases HA.out with e | ⟨g, o, rfl, _, hg, hc⟩
        · rw [e] at hlt; simp at hlt
        rcases HB.out with e | ⟨g', o', rfl, _, hg', hc'⟩
        · rw [e] at hltb; simp at hltb
        have a0 := (hbel.cell (p := ⟨g, o + k, none⟩) (by show g < _; omega)).trans (hc k hlt)
        have b0 := (hbel.cell (p := ⟨g', o' + k, none⟩) (by show g' < _; omega)).trans (hc' k hltb)
        have hgl : g < wr.heap.size := by omega
        have hgl' : g' < wr.heap.size := by omega
        have HBel := hideP hbel
        have hnot := hideP (same_not hlt hltb)
        have hon := hideP (show A[k] = B[k] → ∀ i (h1 : i < A.length) (h2 : i < B.length), i < k + 1 → A[i] = B[i] from fun e i h1 h2 hij => by
          by_cases h : i < k
          · exact HF.out i h1 h2 h
          · obtain rfl : i = k := by omega
            exact e)
        clear hc hc' hbel HF
        generalize A[k] = x at *
        generalize B[k] = y at *
        by_cases hxy : x = y
        · have hon' := hideP (hon.out hxy)
          subst hxy
          clear hon hnot
          have hb0 : (x != x) = false := by simp
          go_wp2
          refine wp_region_kept (by kernel_rfl) (by kernel_rfl) ?_
          repeat (refine kept_step (by rfl) ?_; apply Exists.intro; refine ⟨fun w1 k1 => ?_, fun K hK => ?_⟩; (focus (have hc := Kept.cell k1; go_simp; first | done | rfl)); (go_simp; refine hK _ ?_; clear hK K))
          refine wpQuiet_nil ?_
          intro w5 k5
          replace k5 := Kept.below k5
          have hc5 := Kept.cell k5
          have hf5 := Kept.frozen k5
          have hz5 := k5.size
          try simp only [World.size_alloc] at hz5
          try simp only [World.size_setCell] at hz5
          try simp only [World.size_drew] at hz5
          try (first | have hs5 := sz12 hz5 | have hs5 := sz11 hz5 | have hs5 := sz10 hz5 | have hs5 := sz9 hz5 | have hs5 := sz8 hz5 | have hs5 := sz7 hz5 | have hs5 := sz6 hz5 | have hs5 := sz5 hz5 | have hs5 := sz4 hz5 | have hs5 := sz3 hz5 | have hs5 := sz2 hz5 | have hs5 := sz1 hz5)
          go_wp2
          go_roundw
          case rel => exact ⟨k + 1, by omega, by go_num, HBel.out.trans (k5.mono HBel.out.size), hon'.out⟩
          case measure => simp [intOf]; omega
        · have hnot' := hideP (hnot.out hxy)
          have hb0 : (x != y) = true := by simpa using hxy
          clear hon hnot hxy
          go_wp2
          refine wp_region_kept (by kernel_rfl) (by kernel_rfl) ?_
          repeat (refine kept_step (by rfl) ?_; apply Exists.intro; refine ⟨fun w1 k1 => ?_, fun K hK => ?_⟩; (focus (have hc := Kept.cell k1; go_simp; first | done | rfl)); (go_simp; refine hK _ ?_; clear hK K))
          refine wpQuiet_nil ?_
          intro w5 k5
          replace k5 := Kept.below k5
          have hc5 := Kept.cell k5
          have hf5 := Kept.frozen k5
          have hz5 := k5.size
          try simp only [World.size_alloc] at hz5
          try simp only [World.size_setCell] at hz5
          try simp only [World.size_drew] at hz5
          try (first | have hs5 := sz12 hz5 | have hs5 := sz11 hz5 | have hs5 := sz10 hz5 | have hs5 := sz9 hz5 | have hs5 := sz8 hz5 | have hs5 := sz7 hz5 | have hs5 := sz6 hz5 | have hs5 := sz5 hz5 | have hs5 := sz4 hz5 | have hs5 := sz3 hz5 | have hs5 := sz2 hz5 | have hs5 := sz1 hz5)
          go_wp2
          go_returns
          exact ⟨by rw [hnot'.out]; rfl, HBel.out.trans (k5.mono HBel.out.size)⟩
      · have hall := hideP (same_all HLen.out fun i h1 h2 => HF.out i h1 h2 (by omega))
        have HBel := hideP hbel
        clear hbel HF
        go_wp2
        go_returns
        exact ⟨by rw [hall.out]; rfl, HBel.out⟩
  · have hne : ((A.length : Int) != (B.length : Int)) = true := by simp; omega
    have hnot := hideP (same_len hlen)
    clear hlen
    go_enter Try.func26, Try.ntmps26
    go_wp2
    go_returns
    exact ⟨by rw [hnot.out]; rfl, Below.refl _ _⟩

set_option maxHeartbeats 1000000 in
theorem equalB_any (lo hi lo2 hi2 : Nat) (ao bo : Option Addr) (ca cb : Nat) (A B : List Int) (w : World) (ha : Row .u8 w lo hi ao A) (hb : Row .u8 w lo2 hi2 bo B) (h1 : hi ≤ w.heap.size) (h2 : hi2 ≤ w.heap.size) (hl : A.length ≤ 1048576) (hl2 : B.length ≤ 1048576) :
    Calls Try.prog 27 #[.slice ao A.length ca, .slice bo B.length cb] w fun e w' => e = .returned (.bool (decide (A = B))) ∧ Below w.heap.size w w' := by
  have hl' : (A.length : Int) ≤ 1048576 := by omega
  have HA := hideP ha
  have HB := hideP hb
  clear ha hb
  by_cases hlen : A.length = B.length
  · have hne : ((A.length : Int) != (B.length : Int)) = false := by simp; omega
    have HLen := hideP hlen
    clear hlen
    go_enter Try.func27, Try.ntmps27
    go_wp2
    go_loopw [13] (fun i wr => ∃ k : Nat, k ≤ A.length ∧ i = .int .i64 k ∧ Below w.heap.size w wr ∧ Hid (∀ i (h1 : i < A.length) (h2 : i < B.length), i < k → A[i] = B[i])) (fun i _ => A.length - (intOf i).toNat)
    case atStart => exact ⟨0, Nat.zero_le _, rfl, Below.refl _ _, fun i _ _ hi => absurd hi (Nat.not_lt_zero _)⟩
    case round =>
      obtain ⟨k, hk, rfl, hbel, HF⟩ := hrel
      have hz := hbel.size
      by_cases hlt : k < A.length
      · have hltb : k < B.length := by have := HLen.out; omega
        have hlt' : (k : Int) < (A.length : Int) := by omega
        have hltb' : (k : Int) < (B.length : Int) := by omega
        rcases HA.out with e | ⟨g, o, rfl, _, hg, hc⟩
        · rw [e] at hlt; simp at hlt
        rcases HB.out with e | ⟨g', o', rfl, _, hg', hc'⟩
        · rw [e] at hltb; simp at hltb
        have a0 := (hbel.cell (p := ⟨g, o + k, none⟩) (by show g < _; omega)).trans (hc k hlt)
        have b0 := (hbel.cell (p := ⟨g', o' + k, none⟩) (by show g' < _; omega)).trans (hc' k hltb)
        have hgl : g < wr.heap.size := by omega
        have hgl' : g' < wr.heap.size := by omega
        have HBel := hideP hbel
        have hnot := hideP (same_not hlt hltb)
        have hon := hideP (show A[k] = B[k] → ∀ i (h1 : i < A.length) (h2 : i < B.length), i < k + 1 → A[i] = B[i] from fun e i h1 h2 hij => by
          by_cases h : i < k
          · exact HF.out i h1 h2 h
          · obtain rfl : i = k := by omega
            exact e)
        clear hc hc' hbel HF
        generalize A[k] = x at *
        generalize B[k] = y at *
        by_cases hxy : x = y
        · have hon' := hideP (hon.out hxy)
          subst hxy
          clear hon hnot
          have hb0 : (x != x) = false := by simp
          go_wp2
          refine wp_region_kept (by kernel_rfl) (by kernel_rfl) ?_
          repeat (refine kept_step (by rfl) ?_; apply Exists.intro; refine ⟨fun w1 k1 => ?_, fun K hK => ?_⟩; (focus (have hc := Kept.cell k1; go_simp; first | done | rfl)); (go_simp; refine hK _ ?_; clear hK K))
          refine wpQuiet_nil ?_
          intro w5 k5
          replace k5 := Kept.below k5
          have hc5 := Kept.cell k5
          have hf5 := Kept.frozen k5
          have hz5 := k5.size
          try simp only [World.size_alloc] at hz5
          try simp only [World.size_setCell] at hz5
          try simp only [World.size_drew] at hz5
          try (first | have hs5 := sz12 hz5 | have hs5 := sz11 hz5 | have hs5 := sz10 hz5 | have hs5 := sz9 hz5 | have hs5 := sz8 hz5 | have hs5 := sz7 hz5 | have hs5 := sz6 hz5 | have hs5 := sz5 hz5 | have hs5 := sz4 hz5 | have hs5 := sz3 hz5 | have hs5 := sz2 hz5 | have hs5 := sz1 hz5)
          go_wp2
          go_roundw
          case rel => exact ⟨k + 1, by omega, by go_num, HBel.out.trans (k5.mono HBel.out.size), hon'.out⟩
          case measure => simp [intOf]; omega
        · have hnot' := hideP (hnot.out hxy)
          have hb0 : (x != y) = true := by simpa using hxy
          clear hon hnot hxy
          go_wp2
          refine wp_region_kept (by kernel_rfl) (by kernel_rfl) ?_
          repeat (refine kept_step (by rfl) ?_; apply Exists.intro; refine ⟨fun w1 k1 => ?_, fun K hK => ?_⟩; (focus (have hc := Kept.cell k1; go_simp; first | done | rfl)); (go_simp; refine hK _ ?_; clear hK K))
          refine wpQuiet_nil ?_
          intro w5 k5
          replace k5 := Kept.below k5
          have hc5 := Kept.cell k5
          have hf5 := Kept.frozen k5
          have hz5 := k5.size
          try simp only [World.size_alloc] at hz5
          try simp only [World.size_setCell] at hz5
          try simp only [World.size_drew] at hz5
          try (first | have hs5 := sz12 hz5 | have hs5 := sz11 hz5 | have hs5 := sz10 hz5 | have hs5 := sz9 hz5 | have hs5 := sz8 hz5 | have hs5 := sz7 hz5 | have hs5 := sz6 hz5 | have hs5 := sz5 hz5 | have hs5 := sz4 hz5 | have hs5 := sz3 hz5 | have hs5 := sz2 hz5 | have hs5 := sz1 hz5)
          go_wp2
          go_returns
          exact ⟨by rw [hnot'.out]; rfl, HBel.out.trans (k5.mono HBel.out.size)⟩
      · have hall := hideP (same_all HLen.out fun i h1 h2 => HF.out i h1 h2 (by omega))
        have HBel := hideP hbel
        clear hbel HF
        go_wp2
        go_returns
        exact ⟨by rw [hall.out]; rfl, HBel.out⟩
  · have hne : ((A.length : Int) != (B.length : Int)) = true := by simp; omega
    have hnot := hideP (same_len hlen)
    clear hlen
    go_enter Try.func27, Try.ntmps27
    go_wp2
    go_returns
    exact ⟨by rw [hnot.out]; rfl, Below.refl _ _⟩

end Go.Proofs.Ytgjbjafodkiilaa
