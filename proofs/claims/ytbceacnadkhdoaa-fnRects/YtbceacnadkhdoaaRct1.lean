/- FnRects: small contracts, and what lies where. -/
import Derived.Test.YtbceacnadkhdoaaCut4
import Derived.Test.YtbceacnadkhdoaaLess4
import Derived.Test.YtbceacnadkhdoaaCnt
import Derived.Test.YtbceacnadkhdoaaDrawR3
import Derived.Test.YtbceacnadkhdoaaAr3
import Derived.Test.YtbceacnadkhdoaaCov3
import Derived.Test.YtbceacnadkhdoaaHeld
namespace Go.Proofs.Ytbceacnadkhdoaa
open Go.RowKit
set_option linter.unusedVariables false

set_option maxHeartbeats 400000 in
theorem bigR_any (a : Option Addr) (len cap : Nat) (w : World) (hl : len ≤ maxLen) :
    Calls Try.prog 8 #[.slice a len cap] w fun e w' => e = .returned (.bool (decide ((1048576 : Int) < (len : Int)))) ∧ w' = w := by
  unfold maxLen at hl
  go_enter Try.func8, Try.ntmps8
  go_wp2
  go_returns
  exact ⟨rfl, rfl⟩

/-- Numbers of a rectangle that no sum leaves. -/
def small (r : Rc) : Prop := (-3000 ≤ r.x ∧ r.x ≤ 3000) ∧ (-3000 ≤ r.y ∧ r.y ≤ 3000) ∧ (-3000 ≤ r.w ∧ r.w ≤ 3000) ∧ (-3000 ≤ r.h ∧ r.h ≤ 3000)
theorem putR_small {L : List Rc} {x y r b : Int} (h : ∀ q ∈ L, small q) (hx : -1000 ≤ x ∧ x ≤ 1000) (hy : -1000 ≤ y ∧ y ≤ 1000) (hr : -1000 ≤ r ∧ r ≤ 1000) (hb : -1000 ≤ b ∧ b ≤ 1000) : ∀ q ∈ putR L x y r b, small q := by
  unfold putR
  split
  · exact h
  · intro q hq
    rcases List.mem_append.1 hq with hq | hq
    · exact h q hq
    · obtain rfl : q = _ := by simpa using hq
      unfold small
      simp only
      omega
theorem all_small (a b : Rc) (h : (a.flt || b.flt) = false) : ∀ q ∈ cutL a b ++ lessL a b, small q := by
  obtain ⟨ha, hb⟩ := rfB_of h
  obtain ⟨h1, h2, h3, h4⟩ := rfB_no ha
  obtain ⟨g1, g2, g3, g4⟩ := rfB_no hb
  obtain ⟨e1, e2, e3, e4, _⟩ := bnd a b h
  have m1 := mxI_eq a.x b.x
  have m2 := mxI_eq a.y b.y
  have m3 := mnI_eq (a.x + a.w) (b.x + b.w)
  have m4 := mnI_eq (a.y + a.h) (b.y + b.h)
  have n0 : ∀ q ∈ ([] : List Rc), small q := fun q hq => (by cases hq)
  intro q hq
  rcases List.mem_append.1 hq with hq | hq
  · exact putR_small n0 (by omega) (by omega) (by omega) (by omega) q hq
  · refine putR_small (putR_small (putR_small (putR_small n0 ?_ ?_ ?_ e1) ?_ e1 e3 e2) e4 e1 ?_ e2) ?_ e2 ?_ ?_ q hq <;> omega

set_option maxHeartbeats 2000000 in
theorem lwIn_any (r : Rc) (p q : Int) (w : World) (hs : small r) :
    Calls Try.prog 16 #[.agg #[.int .i64 r.x, .int .i64 r.y, .int .i64 r.w, .int .i64 r.h], .int .i64 p, .int .i64 q] w fun e w' => e = .returned (.bool (inB r.x r.y r.w r.h p q)) ∧ Below w.heap.size w w' := by
  obtain ⟨⟨s1, s2⟩, ⟨s3, s4⟩, ⟨s5, s6⟩, s7, s8⟩ := hs
  have hr : Hid (inB r.x r.y r.w r.h p q = decide (r.x ≤ p ∧ p < r.x + r.w ∧ r.y ≤ q ∧ q < r.y + r.h)) := rfl
  by_cases g1 : r.x ≤ p
  · by_cases g2 : r.y ≤ q
    · by_cases g3 : p < r.x + r.w
      · by_cases g4 : q < r.y + r.h
        all_goals
          go_enter Try.func16, Try.ntmps16
          go_wp2
          go_returns
          exact ⟨congrArg (fun b => Ending.returned (.bool b)) (by rw [hr.out, Bool.eq_iff_iff]; first | (simp; done) | (simp; omega)), by go_grown⟩
      · go_enter Try.func16, Try.ntmps16
        go_wp2
        go_returns
        exact ⟨congrArg (fun b => Ending.returned (.bool b)) (by rw [hr.out, Bool.eq_iff_iff]; first | (simp; done) | (simp; omega)), by go_grown⟩
    · go_enter Try.func16, Try.ntmps16
      go_wp2
      go_returns
      exact ⟨congrArg (fun b => Ending.returned (.bool b)) (by rw [hr.out, Bool.eq_iff_iff]; first | (simp; done) | (simp; omega)), by go_grown⟩
  · go_enter Try.func16, Try.ntmps16
    go_wp2
    go_returns
    exact ⟨congrArg (fun b => Ending.returned (.bool b)) (by rw [hr.out, Bool.eq_iff_iff]; first | (simp; done) | (simp; omega)), by go_grown⟩

/-- The model's CutRects where one has a fault: the very value. -/
theorem sCut_bad (a b : Rc) (w : World) (h : (a.flt || b.flt) = true) :
    Calls Try.prog 15 #[.agg #[.int .i64 a.x, .int .i64 a.y, .int .i64 a.w, .int .i64 a.h], .agg #[.int .i64 b.x, .int .i64 b.y, .int .i64 b.w, .int .i64 b.h]] w fun e w' => e = .returned (.agg #[.int .i64 3, .slice none 0 0]) ∧ Below w.heap.size w w' := by
  have H := hideP h
  clear h
  go_enter Try.func15, Try.ntmps15
  go_wp2_with fail
  refine Calls.mono (l2B_any w.heap.size 0 (w.heap.size + 1) 0 a b _ ⟨by simp [go_sem], by simp [go_sem], by simp [go_sem], by simp [go_sem]⟩ ⟨by simp [go_sem], by simp [go_sem], by simp [go_sem], by simp [go_sem]⟩) ?_
  rintro e w1 ⟨rfl, rfl⟩
  rw [H.out]
  simp only [rfOf, if_true]
  go_wp2
  refine bodyPost_ret (v := .agg #[.int .i64 3, .slice none 0 0]) (by simp [results, Try.results15, go_sem]) rfl ⟨rfl, by go_grown⟩

/-- What lies where. -/
structure Rs (w X : World) (a b : Rc) (N B3 B5 B6 : Nat) (C : Int) (ao5 : Option Addr) (cap5 : Nat) (ao6 : Option Addr) (cap6 : Nat) (Lc Ll : List Rc) (ao7 : Option Addr) (L : List Rc) : Prop where
  kb : Below w.heap.size w X
  sz : N ≤ X.heap.size
  ra : IsRect X B3 0 a.x a.y a.w a.h
  rb : IsRect X (B3 + 1) 0 b.x b.y b.w b.h
  x5 : Box X B5 C (.slice ao5 Lc.length cap5)
  x6 : Box X B6 C (.slice ao6 Ll.length cap6)
  l5 : Lst X 0 N ao5 Lc
  l6 : Lst X 0 N ao6 Ll
  l7 : Lst X 0 N ao7 L
  s5 : SrcL X N ao5 cap5 Lc
  s6 : SrcL X N ao6 cap6 Ll
  n : B3 + 1 < N ∧ B5 < N ∧ B6 < N

theorem Rs.keep {w X X' : World} {a b : Rc} {N B3 B5 B6 : Nat} {C : Int} {ao5 : Option Addr} {cap5 : Nat} {ao6 : Option Addr} {cap6 : Nat} {Lc Ll : List Rc} {ao7 : Option Addr} {L : List Rc} (h : Rs w X a b N B3 B5 B6 C ao5 cap5 ao6 cap6 Lc Ll ao7 L) (k : Below X.heap.size X X') :
    Rs w X' a b N B3 B5 B6 C ao5 cap5 ao6 cap6 Lc Ll ao7 L := by
  obtain ⟨kb, sz, ra, rb, x5, x6, l5, l6, l7, s5, s6, n1, n2, n3⟩ := h
  exact ⟨kb.trans (k.mono kb.size), Nat.le_trans sz k.size, ra.keep k (by omega), rb.keep k (by omega), x5.keep k (by omega), x6.keep k (by omega), l5.keep k (by omega), l6.keep k (by omega), l7.keep k (by omega), s5.keep k (by omega), s6.keep k (by omega), n1, n2, n3⟩

theorem hp_in (r : Rc) (p q : Int) (w : World) (h : rfB r.x r.y r.w r.h = false) :
    Calls Try.prog 17 #[.agg #[.int .i64 r.x, .int .i64 r.y, .int .i64 r.w, .int .i64 r.h], .int .i64 p, .int .i64 q] w fun e w' => e = .returned (.bool (inB r.x r.y r.w r.h p q)) ∧ Below w.heap.size w w' := by
  have e : hpB r.x r.y r.w r.h p q = inB r.x r.y r.w r.h p q := by unfold hpB; rw [h]; rfl
  rw [← e]
  exact hp_any _ _ _ _ _ _ _

theorem Lst.one {w : World} {lo hi : Nat} {ao : Option Addr} {r : Rc} (h : Lst w lo hi ao [r]) : ∃ g o, ao = some ⟨g, o, none⟩ ∧ g < hi ∧ IsRect w g o r.x r.y r.w r.h := by
  rcases h with h | ⟨g, o, ha, _, hg, hc⟩
  · cases h
  · have := hc 0 (by simp)
    rw [Nat.zero_mul, Nat.add_zero] at this
    exact ⟨g, o, ha, hg, this⟩

end Go.Proofs.Ytbceacnadkhdoaa
