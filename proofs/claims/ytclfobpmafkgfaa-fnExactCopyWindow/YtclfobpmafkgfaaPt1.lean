/- Places of points: whether a window has them, and where they lie. -/
import Derived.Test.YtclfobpmafkgfaaPt0
import Derived.Test.YtclfobpmafkgfaaWi1
namespace Go.Proofs.Ytclfobpmafkgfaa
open Go.RowKit Go.Maps
set_option linter.unusedVariables false

/-- Whether an area of p by h has a point, counted from its own corner. -/
def ownB (p h a b : Int) : Bool := decide ((0 ≤ a ∧ a < p) ∧ 0 ≤ b ∧ b < h)
theorem ownB_yes {p h a b : Int} (e : ownB p h a b = true) : 0 ≤ a ∧ a < p ∧ 0 ≤ b ∧ b < h := by unfold ownB at e; simp at e; omega
theorem ownB_no {p h a b : Int} (e : ownB p h a b = false) : ¬ (0 ≤ a ∧ a < p ∧ 0 ≤ b ∧ b < h) := by unfold ownB at e; simp at e; omega
theorem ownB_of {p h a b : Int} (e : 0 ≤ a ∧ a < p ∧ 0 ≤ b ∧ b < h) : ownB p h a b = true := decide_eq_true ⟨⟨e.1, e.2.1⟩, e.2.2⟩
theorem ownB_off {p h a b : Int} (e : ¬ (0 ≤ a ∧ a < p ∧ 0 ≤ b ∧ b < h)) : ownB p h a b = false := decide_eq_false (by omega)
theorem row_le {p h a b : Int} (h1 : 1 ≤ p ∧ p ≤ 8) (h2 : 1 ≤ h ∧ h ≤ 6) (e : ownB p h a b = true) : 0 ≤ b * p ∧ b * p ≤ 40 ∧ b * p + a < p * h := by
  obtain ⟨a1, a2, a3, a4⟩ := ownB_yes e
  have hb : b = 0 ∨ b = 1 ∨ b = 2 ∨ b = 3 ∨ b = 4 ∨ b = 5 := by omega
  have hh : h = 1 ∨ h = 2 ∨ h = 3 ∨ h = 4 ∨ h = 5 ∨ h = 6 := by omega
  rcases hb with rfl | rfl | rfl | rfl | rfl | rfl <;> rcases hh with rfl | rfl | rfl | rfl | rfl | rfl <;> omega

set_option maxHeartbeats 400000 in
theorem hasOwn_any (x y p h a b : Int) (w : World) :
    Calls Try.prog 48 #[.agg #[.int .i64 x, .int .i64 y, .int .i64 p, .int .i64 h], .int .i64 a, .int .i64 b] w fun e w' => e = .returned (.bool (ownB p h a b)) ∧ Below w.heap.size w w' := by
  by_cases g1 : 0 ≤ a
  · by_cases g2 : a < p
    · by_cases g3 : 0 ≤ b
      · by_cases g4 : b < h
        · have hr := hideP (ownB_of (p := p) (h := h) (a := a) (b := b) ⟨g1, g2, g3, g4⟩)
          go_enter Try.func48, Try.ntmps48
          go_wp2
          go_returns
          refine ⟨congrArg (fun b => Ending.returned (.bool b)) (by rw [hr.out]), ?_⟩
          go_grown
        · have hr := hideP (ownB_off (p := p) (h := h) (a := a) (b := b) (by omega))
          go_enter Try.func48, Try.ntmps48
          go_wp2
          go_returns
          refine ⟨congrArg (fun b => Ending.returned (.bool b)) (by rw [hr.out]), ?_⟩
          go_grown
      · have hr := hideP (ownB_off (p := p) (h := h) (a := a) (b := b) (by omega))
        go_enter Try.func48, Try.ntmps48
        go_wp2
        go_returns
        refine ⟨congrArg (fun b => Ending.returned (.bool b)) (by rw [hr.out]), ?_⟩
        go_grown
    · have hr := hideP (ownB_off (p := p) (h := h) (a := a) (b := b) (by omega))
      go_enter Try.func48, Try.ntmps48
      go_wp2
      go_returns
      refine ⟨congrArg (fun b => Ending.returned (.bool b)) (by rw [hr.out]), ?_⟩
      go_grown
  · have hr := hideP (ownB_off (p := p) (h := h) (a := a) (b := b) (by omega))
    go_enter Try.func48, Try.ntmps48
    go_wp2
    go_returns
    refine ⟨congrArg (fun b => Ending.returned (.bool b)) (by rw [hr.out]), ?_⟩
    go_grown

set_option maxHeartbeats 400000 in
theorem placeOf_any (x y p h a b : Int) (w : World) (h1 : 1 ≤ p ∧ p ≤ 8) (h2 : 1 ≤ h ∧ h ≤ 6) (ho : ownB p h a b = true) :
    Calls Try.prog 49 #[.agg #[.int .i64 x, .int .i64 y, .int .i64 p, .int .i64 h], .int .i64 a, .int .i64 b] w fun e w' => e = .returned (.int .i64 (b * p + a)) ∧ Below w.heap.size w w' := by
  obtain ⟨g1, g2, _⟩ := row_le h1 h2 ho
  obtain ⟨a1, a2, a3, a4⟩ := ownB_yes ho
  obtain ⟨q, hq⟩ : ∃ q, b * p = q := ⟨_, rfl⟩
  have hw : IntKind.i64.wrap (b * p) = q := by rw [hq]; exact IntWalk.i64_in _ (by omega)
  rw [hq] at g1 g2
  rw [hq]
  have HQ := hideP hq
  clear hq
  go_enter Try.func49, Try.ntmps49
  go_wp2
  go_returns
  exact ⟨rfl, by go_grown⟩

set_option maxRecDepth 100000 in
set_option maxHeartbeats 400000 in
theorem l8Place_no (g o : Nat) (p h a b : Int) (w : World) (h1 : 1 ≤ p ∧ p ≤ 8) (h2 : 1 ≤ h ∧ h ≤ 6) (a3 : w.cell? ⟨g, o + 3, none⟩ = some (.int .i64 p)) (a4 : w.cell? ⟨g, o + 4, none⟩ = some (.int .i64 h)) (ho : ownB p h a b = false) :
    Calls Try.prog 51 #[.pointer (some ⟨g, o, none⟩), .int .i64 a, .int .i64 b] w fun e w' => e = .returned (.int .i64 (-1)) ∧ w' = w := by
  have hn := ownB_no ho
  clear ho
  by_cases ha : a < 0 ∨ p - 1 < a
  · go_enter Try.func51, Try.ntmps51
    go_wp2_with (go_at_call 54; refine Calls.mono (in_no a 0 (p - 1) _ ha) ?_; rintro e w1 ⟨rfl, rfl⟩)
    go_returns
    exact ⟨rfl, rfl⟩
  · have hb : b < 0 ∨ h - 1 < b := by omega
    have ha1 : 0 ≤ a := by omega
    have ha2 : a ≤ p - 1 := by omega
    clear hn ha
    go_enter Try.func51, Try.ntmps51
    go_wp2_with fail
    refine Calls.mono (in_yes a 0 (p - 1) _ ha1 ha2) ?_
    rintro e w1 ⟨rfl, hw⟩
    subst hw
    go_wp2_with fail
    refine Calls.mono (in_no b 0 (h - 1) _ hb) ?_
    rintro e w2 ⟨rfl, hw⟩
    subst hw
    go_wp2
    go_returns
    exact ⟨rfl, rfl⟩
set_option maxRecDepth 100000 in
set_option maxHeartbeats 400000 in
theorem l8Place_yes (g o : Nat) (p h a b : Int) (w : World) (h1 : 1 ≤ p ∧ p ≤ 8) (h2 : 1 ≤ h ∧ h ≤ 6) (a3 : w.cell? ⟨g, o + 3, none⟩ = some (.int .i64 p)) (a4 : w.cell? ⟨g, o + 4, none⟩ = some (.int .i64 h)) (ho : ownB p h a b = true) :
    Calls Try.prog 51 #[.pointer (some ⟨g, o, none⟩), .int .i64 a, .int .i64 b] w fun e w' => e = .returned (.int .i64 (b * p + a)) ∧ w' = w := by
  obtain ⟨g1, g2, _⟩ := row_le h1 h2 ho
  obtain ⟨b1, b2, b3, b4⟩ := ownB_yes ho
  obtain ⟨q, hq⟩ : ∃ q, b * p = q := ⟨_, rfl⟩
  have hw : IntKind.i64.wrap (b * p) = q := by rw [hq]; exact IntWalk.i64_in _ (by omega)
  rw [hq] at g1 g2
  rw [hq]
  have HQ := hideP hq
  have ha2 : a ≤ p - 1 := by omega
  have hb2 : b ≤ h - 1 := by omega
  clear hq ho
  go_enter Try.func51, Try.ntmps51
  go_wp2_with fail
  refine Calls.mono (in_yes a 0 (p - 1) _ b1 ha2) ?_
  rintro e w1 ⟨rfl, hw⟩
  subst hw
  go_wp2_with fail
  refine Calls.mono (in_yes b 0 (h - 1) _ b3 hb2) ?_
  rintro e w2 ⟨rfl, hw⟩
  subst hw
  go_wp2
  go_returns
  exact ⟨rfl, rfl⟩
end Go.Proofs.Ytclfobpmafkgfaa
