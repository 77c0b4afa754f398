/- Whether two stacks are the same: the program's, and the model's. -/
import Derived.Test.YtfklmpfjllonpabWi3
import Derived.Test.YtfklmpfjllonpabSame1
namespace Go.Proofs.Ytfklmpfjllonpab
open Go.RowKit
set_option linter.unusedVariables false

instance wcDec : DecidableEq Wc := fun a b => decidable_of_iff (a.i = b.i ∧ a.x = b.x ∧ a.y = b.y ∧ a.w = b.w ∧ a.h = b.h ∧ a.m = b.m ∧ a.L = b.L)
  ⟨fun h => by
    obtain ⟨i, x, y, p, h', m, L⟩ := a
    obtain ⟨i2, x2, y2, p2, h2, m2, L2⟩ := b
    simp only at h
    obtain ⟨rfl, rfl, rfl, rfl, rfl, rfl, rfl⟩ := h
    rfl, fun h => by rw [h]; exact ⟨rfl, rfl, rfl, rfl, rfl, rfl, rfl⟩⟩

/-- Where two windows part. -/
theorem wc_parts {i x y p h i2 x2 y2 p2 h2 : Int} {m m2 : Bool} {L L2 : List Int} (hn : (⟨i, x, y, p, h, m, L⟩ : Wc) ≠ ⟨i2, x2, y2, p2, h2, m2, L2⟩) :
    i ≠ i2 ∨ (i = i2 ∧ x ≠ x2) ∨ (i = i2 ∧ x = x2 ∧ y ≠ y2) ∨ (i = i2 ∧ x = x2 ∧ y = y2 ∧ p ≠ p2) ∨ (i = i2 ∧ x = x2 ∧ y = y2 ∧ p = p2 ∧ h ≠ h2) ∨ (i = i2 ∧ x = x2 ∧ y = y2 ∧ p = p2 ∧ h = h2 ∧ m ≠ m2) ∨ (i = i2 ∧ x = x2 ∧ y = y2 ∧ p = p2 ∧ h = h2 ∧ m = m2 ∧ L ≠ L2) := by
  by_cases e0 : i = i2
  · by_cases e1 : x = x2
    · by_cases e2 : y = y2
      · by_cases e3 : p = p2
        · by_cases e4 : h = h2
          · by_cases e5 : m = m2
            · refine .inr (.inr (.inr (.inr (.inr (.inr ⟨e0, e1, e2, e3, e4, e5, fun e6 => hn ?_⟩)))))
              rw [e0, e1, e2, e3, e4, e5, e6]
            · exact .inr (.inr (.inr (.inr (.inr (.inl ⟨e0, e1, e2, e3, e4, e5⟩)))))
          · exact .inr (.inr (.inr (.inr (.inl ⟨e0, e1, e2, e3, e4⟩))))
        · exact .inr (.inr (.inr (.inl ⟨e0, e1, e2, e3⟩)))
      · exact .inr (.inr (.inl ⟨e0, e1, e2⟩))
    · exact .inr (.inl ⟨e0, e1⟩)
  · exact .inl e0

set_option maxRecDepth 100000 in
set_option maxHeartbeats 2000000 in
theorem sameW_any (lo hi lo2 hi2 : Nat) (i x y p h i2 x2 y2 p2 h2 : Int) (m m2 : Bool) (ao bo : Option Addr) (ca cb : Nat) (A B : List Int) (w : World) (ha : Row .i64 w lo hi ao A) (hb : Row .i64 w lo2 hi2 bo B) (h1 : hi ≤ w.heap.size) (hh2 : hi2 ≤ w.heap.size) (hl : A.length ≤ 1048576) (hl2 : B.length ≤ 1048576) :
    Calls Try.prog 48 #[.agg #[.int .i64 i, .int .i64 x, .int .i64 y, .int .i64 p, .int .i64 h, .bool m, .slice ao A.length ca], .agg #[.int .i64 i2, .int .i64 x2, .int .i64 y2, .int .i64 p2, .int .i64 h2, .bool m2, .slice bo B.length cb]] w fun e w' => e = .returned (.bool (decide ((⟨i, x, y, p, h, m, A⟩ : Wc) = ⟨i2, x2, y2, p2, h2, m2, B⟩))) ∧ Below w.heap.size w w' := by
  have CB := hideP (fun w1 (kk : Below w.heap.size w w1) => equalI_any lo hi lo2 hi2 ao bo ca cb A B w1 (ha.keep kk h1) (hb.keep kk hh2) (by have := kk.size; omega) (by have := kk.size; omega) hl hl2)
  clear ha hb h1 hh2 hl hl2
  by_cases heq : (⟨i, x, y, p, h, m, A⟩ : Wc) = ⟨i2, x2, y2, p2, h2, m2, B⟩
  · rw [decide_eq_true heq]
    simp only [Wc.mk.injEq] at heq
    obtain ⟨rfl, rfl, rfl, rfl, rfl, rfl, rfl⟩ := heq
    have hd : decide (A = A) = true := by simp
    rw [hd] at CB
    clear hd
    generalize A.length = an at *
    have hii : (i == i) = true := by simp
    have hmm : (m == m) = true := by simp
    go_enter Try.func48, Try.ntmps48
    go_wp2_with fail
    refine Calls.mono (CB.out _ (by go_grown)) ?_
    rintro e w1 ⟨rfl, k1⟩
    have K1 : Hid (Below w.heap.size w w1) := hideP (Below.trans (by go_grown) (k1.mono (by simp; omega)))
    clear k1
    go_wp2
    go_returns
    exact ⟨rfl, K1.out⟩
  · rw [decide_eq_false heq]
    rcases wc_parts heq with e | ⟨rfl, e⟩ | ⟨rfl, rfl, e⟩ | ⟨rfl, rfl, rfl, e⟩ | ⟨rfl, rfl, rfl, rfl, e⟩ | ⟨rfl, rfl, rfl, rfl, rfl, e⟩ | ⟨rfl, rfl, rfl, rfl, rfl, rfl, e⟩
    · have e' : (i == i2) = false := by simpa using e
      clear heq CB e
      generalize A.length = an at *
      generalize B.length = bn at *
      go_enter Try.func48, Try.ntmps48
      go_wp2
      go_returns
      exact ⟨rfl, by go_grown⟩
    · have e' : ¬ x = x2 := e
      have hii : (i == i) = true := by simp
      clear heq CB e
      generalize A.length = an at *
      generalize B.length = bn at *
      go_enter Try.func48, Try.ntmps48
      go_wp2
      all_goals
        go_returns
        exact ⟨rfl, by go_grown⟩
    · have e' : ¬ y = y2 := e
      have hii : (i == i) = true := by simp
      clear heq CB e
      generalize A.length = an at *
      generalize B.length = bn at *
      go_enter Try.func48, Try.ntmps48
      go_wp2
      all_goals
        go_returns
        exact ⟨rfl, by go_grown⟩
    · have e' : ¬ p = p2 := e
      have hii : (i == i) = true := by simp
      clear heq CB e
      generalize A.length = an at *
      generalize B.length = bn at *
      go_enter Try.func48, Try.ntmps48
      go_wp2
      all_goals
        go_returns
        exact ⟨rfl, by go_grown⟩
    · have e' : ¬ h = h2 := e
      have hii : (i == i) = true := by simp
      clear heq CB e
      generalize A.length = an at *
      generalize B.length = bn at *
      go_enter Try.func48, Try.ntmps48
      go_wp2
      all_goals
        go_returns
        exact ⟨rfl, by go_grown⟩
    · have e' : (m == m2) = false := by simpa using e
      have hii : (i == i) = true := by simp
      clear heq CB e
      generalize A.length = an at *
      generalize B.length = bn at *
      go_enter Try.func48, Try.ntmps48
      go_wp2
      go_returns
      exact ⟨rfl, by go_grown⟩
    · have hd : decide (A = B) = false := decide_eq_false e
      rw [hd] at CB
      have hii : (i == i) = true := by simp
      have hmm : (m == m) = true := by simp
      clear heq hd e
      generalize A.length = an at *
      generalize B.length = bn at *
      go_enter Try.func48, Try.ntmps48
      go_wp2_with fail
      refine Calls.mono (CB.out _ (by go_grown)) ?_
      rintro e w1 ⟨rfl, k1⟩
      have K1 : Hid (Below w.heap.size w w1) := hideP (Below.trans (by go_grown) (k1.mono (by simp; omega)))
      clear k1
      go_wp2
      go_returns
      exact ⟨rfl, K1.out⟩
end Go.Proofs.Ytfklmpfjllonpab
