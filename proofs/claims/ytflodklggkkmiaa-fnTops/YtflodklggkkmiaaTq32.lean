/- Rows of bytes: copied, held against each other, marked. Whether two rows of numbers are the same: the model's, and the library's. Whether two stacks are the same: the program's, and the model's. -/
import Derived.Test.YtflodklggkkmiaaTq2
import Derived.Test.YtflodklggkkmiaaTq17
namespace Go.Proofs.Ytflodklggkkmiaa
open Go.RowKit
set_option linter.unusedVariables false

theorem Try.infoB : (Try.prog.info? 5).map (fun i => (i.zero, i.size, i.bytes)) = some (some (.int .u8 0), 1, 1) := by kernel_rfl

/-- What number a place is marked with. -/
def mkB (k : Int) (i : Nat) : Int := (k + i) % 256

end Go.Proofs.Ytflodklggkkmiaa

namespace Go.Proofs.Ytflodklggkkmiaa
open Go.RowKit
set_option linter.unusedVariables false

theorem same_all {A B : List Int} (hl : A.length = B.length) (h : ∀ i (h1 : i < A.length) (h2 : i < B.length), A[i] = B[i]) : decide (A = B) = true := decide_eq_true (List.ext_getElem hl h)
theorem same_not {A B : List Int} {i : Nat} (h1 : i < A.length) (h2 : i < B.length) (h : A[i] ≠ B[i]) : decide (A = B) = false := decide_eq_false fun e => h (by subst e; rfl)
theorem same_len {A B : List Int} (h : A.length ≠ B.length) : decide (A = B) = false := decide_eq_false fun e => h (by rw [e])

set_option maxHeartbeats 1000000 in
theorem equalI_any (lo hi lo2 hi2 : Nat) (ao bo : Option Addr) (ca cb : Nat) (A B : List Int) (w : World) (ha : Row .i64 w lo hi ao A) (hb : Row .i64 w lo2 hi2 bo B) (h1 : hi ≤ w.heap.size) (h2 : hi2 ≤ w.heap.size) (hl : A.length ≤ 1048576) (hl2 : B.length ≤ 1048576) :
    Calls Try.prog 87 #[.slice ao A.length ca, .slice bo B.length cb] w fun e w' => e = .returned (.bool (decide (A = B))) ∧ Below w.heap.size w w' := by
  have hl' : (A.length : Int) ≤ 1048576 := by omega
  have HA := hideP ha
  have HB := hideP hb
  clear ha hb
  by_cases hlen : A.length = B.length
  · have hne : ((A.length : Int) != (B.length : Int)) = false := by simp; omega
    have HLen := hideP hlen
    clear hlen
    go_enter Try.func87, Try.ntmps87
    go_wp2
    go_loopw [13] (fun i wr => ∃ k : Nat, k ≤ A.length ∧ i = .int .i64 k ∧ Below w.heap.size w wr ∧ Hid (∀ i (h1 : i < A.length) (h2 : i < B.length), i < k → A[i] = B[i])) (fun i _ => A.length - (intOf i).toNat)
    case atStart => exact ⟨0, Nat.zero_le _, rfl, Below.refl _ _, fun i _ _ hi => absurd hi (Nat.not_lt_zero _)⟩
    case round =>
      obtain ⟨k, hk, rfl, hbel, HF⟩ := hrel
      have hz := hbel.size
      by_cases hlt : k < A.length
      · have hltb : k < B.length := by have := HLen.out; omega
        have hlt' : (k : Int) < (A.length : Int) := by omega
        have hltb' : (k : Int) < (B.length : Int) := by omega
        rcases HA.out with e | ⟨g, o, rfl, _, hg, hc⟩
        · rw [e] at hlt; simp at hlt
        rcases HB.out with e | ⟨g', o', rfl, _, hg', hc'⟩
        · rw [e] at hltb; simp at hltb
        have a0 := (hbel.cell (p := ⟨g, o + k, none⟩) (by show g < _; omega)).trans (hc k hlt)
        have b0 := (hbel.cell (p := ⟨g', o' + k, none⟩) (by show g' < _; omega)).trans (hc' k hltb)
        have hgl : g < wr.heap.size := by omega
        have hgl' : g' < wr.heap.size := by omega
        have HBel := hideP hbel
        have hnot := hideP (same_not hlt hltb)
        have hon := hideP (show A[k] = B[k] → ∀ i (h1 : i < A.length) (h2 : i < B.length), i < k + 1 → A[i] = B[i] from fun e i h1 h2 hij => by
          by_cases h : i < k
          · exact HF.out i h1 h2 h
          · obtain rfl : i = k := by omega
            exact e)
        clear hc hc' hbel HF
        generalize A[k] = x at *
        generalize B[k] = y at *
        by_cases hxy : x = y
        · have hon' := hideP (hon.out hxy)
          subst hxy
          clear hon hnot
          have hb0 : (x != x) = false := by simp
          go_wp2
          refine wp_region_kept (by kernel_rfl) (by kernel_rfl) ?_
          repeat (refine kept_step (by rfl) ?_; apply Exists.intro; refine ⟨fun w1 k1 => ?_, fun K hK => ?_⟩; (focus (have hc := Kept.cell k1; go_simp; first | done | rfl)); (go_simp; refine hK _ ?_; clear hK K))
          refine wpQuiet_nil ?_
          intro w5 k5
          replace k5 := Kept.below k5
          have hc5 := Kept.cell k5
          have hf5 := Kept.frozen k5
          have hz5 := k5.size
          try simp only [World.size_alloc] at hz5
          try simp only [World.size_setCell] at hz5
          try simp only [World.size_drew] at hz5
          try (first | have hs5 := sz12 hz5 | have hs5 := sz11 hz5 | have hs5 := sz10 hz5 | have hs5 := sz9 hz5 | have hs5 := sz8 hz5 | have hs5 := sz7 hz5 | have hs5 := sz6 hz5 | have hs5 := sz5 hz5 | have hs5 := sz4 hz5 | have hs5 := sz3 hz5 | have hs5 := sz2 hz5 | have hs5 := sz1 hz5)
          go_wp2
          go_roundw
          case rel => exact ⟨k + 1, by omega, by go_num, HBel.out.trans (k5.mono HBel.out.size), hon'.out⟩
          case measure => simp [intOf]; omega
        · have hnot' := hideP (hnot.out hxy)
          have hb0 : (x != y) = true := by simpa using hxy
          clear hon hnot hxy
          go_wp2
          refine wp_region_kept (by kernel_rfl) (by kernel_rfl) ?_
          repeat (refine kept_step (by rfl) ?_; apply Exists.intro; refine ⟨fun w1 k1 => ?_, fun K hK => ?_⟩; (focus (have hc := Kept.cell k1; go_simp; first | done | rfl)); (go_simp; refine hK _ ?_; clear hK K))
          refine wpQuiet_nil ?_
          intro w5 k5
          replace k5 := Kept.below k5
          have hc5 := Kept.cell k5
          have hf5 := Kept.frozen k5
          have hz5 := k5.size
          try simp only [World.size_alloc] at hz5
          try simp only [World.size_setCell] at hz5
          try simp only [World.size_drew] at hz5
          try (first | have hs5 := sz12 hz5 | have hs5 := sz11 hz5 | have hs5 := sz10 hz5 | have hs5 := sz9 hz5 | have hs5 := sz8 hz5 | have hs5 := sz7 hz5 | have hs5 := sz6 hz5 | have hs5 := sz5 hz5 | have hs5 := sz4 hz5 | have hs5 := sz3 hz5 | have hs5 := sz2 hz5 | have hs5 := sz1 hz5)
          go_wp2
          go_returns
          exact ⟨by rw [hnot'.out]; rfl, HBel.out.trans (k5.mono HBel.out.size)⟩
      · have hall := hideP (same_all HLen.out fun i h1 h2 => HF.out i h1 h2 (by omega))
        have HBel := hideP hbel
        clear hbel HF
        go_wp2
        go_returns
        exact ⟨by rw [hall.out]; rfl, HBel.out⟩
  · have hne : ((A.length : Int) != (B.length : Int)) = true := by simp; omega
    have hnot := hideP (same_len hlen)
    clear hlen
    go_enter Try.func87, Try.ntmps87
    go_wp2
    go_returns
    exact ⟨by rw [hnot.out]; rfl, Below.refl _ _⟩

end Go.Proofs.Ytflodklggkkmiaa

namespace Go.Proofs.Ytflodklggkkmiaa
open Go.RowKit
set_option linter.unusedVariables false

instance wcDec : DecidableEq Wc := fun a b => decidable_of_iff (a.i = b.i ∧ a.x = b.x ∧ a.y = b.y ∧ a.w = b.w ∧ a.h = b.h ∧ a.m = b.m ∧ a.L = b.L)
  ⟨fun h => by
    obtain ⟨i, x, y, p, h', m, L⟩ := a
    obtain ⟨i2, x2, y2, p2, h2, m2, L2⟩ := b
    simp only at h
    obtain ⟨rfl, rfl, rfl, rfl, rfl, rfl, rfl⟩ := h
    rfl, fun h => by rw [h]; exact ⟨rfl, rfl, rfl, rfl, rfl, rfl, rfl⟩⟩

/-- Where two windows part. -/
theorem wc_parts {i x y p h i2 x2 y2 p2 h2 : Int} {m m2 : Bool} {L L2 : List Int} (hn : (⟨i, x, y, p, h, m, L⟩ : Wc) ≠ ⟨i2, x2, y2, p2, h2, m2, L2⟩) :
    i ≠ i2 ∨ (i = i2 ∧ x ≠ x2) ∨ (i = i2 ∧ x = x2 ∧ y ≠ y2) ∨ (i = i2 ∧ x = x2 ∧ y = y2 ∧ p ≠ p2) ∨ (i = i2 ∧ x = x2 ∧ y = y2 ∧ p = p2 ∧ h ≠ h2) ∨ (i = i2 ∧ x = x2 ∧ y = y2 ∧ p = p2 ∧ h = h2 ∧ m ≠ m2) ∨ (i = i2 ∧ x = x2 ∧ y = y2 ∧ p = p2 ∧ h = h2 ∧ m = m2 ∧ L ≠ L2) := by
  by_cases e0 : i = i2
  · by_cases e1 : x = x2
    · by_cases e2 : y = y2
      · by_cases e3 : p = p2
        · by_cases e4 : h = h2
          · by_cases e5 : m = m2
            · refine .inr (.inr (.inr (.inr (.inr (.inr ⟨e0, e1, e2, e3, e4, e5, fun e6 => hn ?_⟩)))))
              rw [e0, e1, e2, e3, e4, e5, e6]
            · exact .inr (.inr (.inr (.inr (.inr (.inl ⟨e0, e1, e2, e3, e4, e5⟩)))))
          · exact .inr (.inr (.inr (.inr (.inl ⟨e0, e1, e2, e3, e4⟩))))
        · exact .inr (.inr (.inr (.inl ⟨e0, e1, e2, e3⟩)))
      · exact .inr (.inr (.inl ⟨e0, e1, e2⟩))
    · exact .inr (.inl ⟨e0, e1⟩)
  · exact .inl e0

set_option maxRecDepth 100000 in
set_option maxHeartbeats 2000000 in
theorem sameW_any (lo hi lo2 hi2 : Nat) (i x y p h i2 x2 y2 p2 h2 : Int) (m m2 : Bool) (ao bo : Option Addr) (ca cb : Nat) (A B : List Int) (w : World) (ha : Row .i64 w lo hi ao A) (hb : Row .i64 w lo2 hi2 bo B) (h1 : hi ≤ w.heap.size) (hh2 : hi2 ≤ w.heap.size) (hl : A.length ≤ 1048576) (hl2 : B.length ≤ 1048576) :
    Calls Try.prog 59 #[.agg #[.int .i64 i, .int .i64 x, .int .i64 y, .int .i64 p, .int .i64 h, .bool m, .slice ao A.length ca], .agg #[.int .i64 i2, .int .i64 x2, .int .i64 y2, .int .i64 p2, .int .i64 h2, .bool m2, .slice bo B.length cb]] w fun e w' => e = .returned (.bool (decide ((⟨i, x, y, p, h, m, A⟩ : Wc) = ⟨i2, x2, y2, p2, h2, m2, B⟩))) ∧ Below w.heap.size w w' := by
  have CB := hideP (fun w1 (kk : Below w.heap.size w w1) => equalI_any lo hi lo2 hi2 ao bo ca cb A B w1 (ha.keep kk h1) (hb.keep kk hh2) (by have := kk.size; omega) (by have := kk.size; omega) hl hl2)
  clear ha hb h1 hh2 hl hl2
  by_cases heq : (⟨i, x, y, p, h, m, A⟩ : Wc) = ⟨i2, x2, y2, p2, h2, m2, B⟩
  · rw [decide_eq_true heq]
    simp only [Wc.mk.injEq] at heq
    obtain ⟨rfl, rfl, rfl, rfl, rfl, rfl, rfl⟩ := heq
    have hd : decide (A = A) = true := by simp
    rw [hd] at CB
    clear hd
    generalize A.length = an at *
    have hii : (i == i) = true := by simp
    have hmm : (m == m) = true := by simp
    go_enter Try.func59, Try.ntmps59
    go_wp2_with fail
    refine Calls.mono (CB.out _ (by go_grown)) ?_
    rintro e w1 ⟨rfl, k1⟩
    have K1 : Hid (Below w.heap.size w w1) := hideP (Below.trans (by go_grown) (k1.mono (by simp; omega)))
    clear k1
    go_wp2
    go_returns
    exact ⟨rfl, K1.out⟩
  · rw [decide_eq_false heq]
    rcases wc_parts heq with e | ⟨rfl, e⟩ | ⟨rfl, rfl, e⟩ | ⟨rfl, rfl, rfl, e⟩ | ⟨rfl, rfl, rfl, rfl, e⟩ | ⟨rfl, rfl, rfl, rfl, rfl, e⟩ | ⟨rfl, rfl, rfl, rfl, rfl, rfl, e⟩
    · have e' : (i == i2) = false := by simpa using e
      clear heq CB e
      generalize A.length = an at *
      generalize B.length = bn at *
      go_enter Try.func59, Try.ntmps59
      go_wp2
      go_returns
      exact ⟨rfl, by go_grown⟩
    · have e' : ¬ x = x2 := e
      have hii : (i == i) = true := by simp
      clear heq CB e
      generalize A.length = an at *
      generalize B.length = bn at *
      go_enter Try.func59, Try.ntmps59
      go_wp2
      all_goals
        go_returns
        exact ⟨rfl, by go_grown⟩
    · have e' : ¬ y = y2 := e
      have hii : (i == i) = true := by simp
      clear heq CB e
      generalize A.length = an at *
      generalize B.length = bn at *
      go_enter Try.func59, Try.ntmps59
      go_wp2
      all_goals
        go_returns
        exact ⟨rfl, by go_grown⟩
    · have e' : ¬ p = p2 := e
      have hii : (i == i) = true := by simp
      clear heq CB e
      generalize A.length = an at *
      generalize B.length = bn at *
      go_enter Try.func59, Try.ntmps59
      go_wp2
      all_goals
        go_returns
        exact ⟨rfl, by go_grown⟩
    · have e' : ¬ h = h2 := e
      have hii : (i == i) = true := by simp
      clear heq CB e
      generalize A.length = an at *
      generalize B.length = bn at *
      go_enter Try.func59, Try.ntmps59
      go_wp2
      all_goals
        go_returns
        exact ⟨rfl, by go_grown⟩
    · have e' : (m == m2) = false := by simpa using e
      have hii : (i == i) = true := by simp
      clear heq CB e
      generalize A.length = an at *
      generalize B.length = bn at *
      go_enter Try.func59, Try.ntmps59
      go_wp2
      go_returns
      exact ⟨rfl, by go_grown⟩
    · have hd : decide (A = B) = false := decide_eq_false e
      rw [hd] at CB
      have hii : (i == i) = true := by simp
      have hmm : (m == m) = true := by simp
      clear heq hd e
      generalize A.length = an at *
      generalize B.length = bn at *
      go_enter Try.func59, Try.ntmps59
      go_wp2_with fail
      refine Calls.mono (CB.out _ (by go_grown)) ?_
      rintro e w1 ⟨rfl, k1⟩
      have K1 : Hid (Below w.heap.size w w1) := hideP (Below.trans (by go_grown) (k1.mono (by simp; omega)))
      clear k1
      go_wp2
      go_returns
      exact ⟨rfl, K1.out⟩
end Go.Proofs.Ytflodklggkkmiaa
