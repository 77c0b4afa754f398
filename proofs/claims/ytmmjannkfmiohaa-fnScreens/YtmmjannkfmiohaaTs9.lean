/- Contracts of chapter 2's small functions: faults, ends, points. Windows: how great, copied, by the laws' own functions. Windows copied by the laws' own functions. Regions whose order is open, with a call that makes memory and answers what hangs on where it lies, and beside it a local's box that may come ahead of the call or behind it: two ways. No conditions on the program. -/
import Derived.Test.YtmmjannkfmiohaaTs2
import Derived.Test.YtmmjannkfmiohaaTs0
import Derived.Test.YtmmjannkfmiohaaTs1
import Derived.Test.YtmmjannkfmiohaaTs8
import Derived.WalkKit
import Derived.WalkSpells
import Derived.WalkLawsBesides
import Derived.Handy
import Derived.BigQuiet
import Derived.Test.YtmmjannkfmiohaaTs6
import Derived.Test.YtmmjannkfmiohaaTs7
namespace Go.Proofs.Ytmmjannkfmiohaa
open Go.RowKit
set_option linter.unusedVariables false

set_option maxHeartbeats 400000 in
theorem reach_yes (x y : Int) (w : World) (h1 : -20 ≤ x) (h2 : x ≤ 20) (h3 : -20 ≤ y) (h4 : y ≤ 20) :
    Calls Try.prog 76 #[.int .i64 x, .int .i64 y] w fun e w' => e = .returned (.bool true) ∧ w' = w := by
  go_enter Try.func76, Try.ntmps76
  go_wp2
  go_returns
  exact ⟨congrArg (fun b => Ending.returned (.bool b)) (by first | rfl | (simp; omega)), rfl⟩

set_option maxHeartbeats 1000000 in
theorem reach_no (x y : Int) (w : World) (h : x < -20 ∨ 20 < x ∨ y < -20 ∨ 20 < y) :
    Calls Try.prog 76 #[.int .i64 x, .int .i64 y] w fun e w' => e = .returned (.bool false) ∧ w' = w := by
  by_cases h1 : -20 ≤ x
  · by_cases h2 : x ≤ 20
    · by_cases h3 : -20 ≤ y
      · have h4 : ¬ y ≤ 20 := by omega
        clear h
        go_enter Try.func76, Try.ntmps76
        go_wp2
        go_returns
        exact ⟨congrArg (fun b => Ending.returned (.bool b)) (by first | rfl | (simp; omega)), rfl⟩
      · clear h
        go_enter Try.func76, Try.ntmps76
        go_wp2
        go_returns
        exact ⟨congrArg (fun b => Ending.returned (.bool b)) (by first | rfl | (simp; omega)), rfl⟩
    · clear h
      go_enter Try.func76, Try.ntmps76
      go_wp2
      go_returns
      exact ⟨congrArg (fun b => Ending.returned (.bool b)) (by first | rfl | (simp; omega)), rfl⟩
  · clear h
    go_enter Try.func76, Try.ntmps76
    go_wp2
    go_returns
    exact ⟨congrArg (fun b => Ending.returned (.bool b)) (by first | rfl | (simp; omega)), rfl⟩

set_option maxHeartbeats 400000 in
theorem rf_ok (x y ww hh : Int) (w : World) (h : rfB x y ww hh = false) :
    Calls Try.prog 63 #[.agg #[.int .i64 x, .int .i64 y, .int .i64 ww, .int .i64 hh]] w fun e w' => e = .returned (.int .i64 0) ∧ Below w.heap.size w w' := by
  obtain ⟨⟨h1, h2⟩, ⟨h3, h4⟩, ⟨h5, h6⟩, h7, h8⟩ := rfB_no h
  clear h
  go_enter Try.func63, Try.ntmps63
  go_wp2_with (go_at_call 76; refine Calls.mono (reach_yes _ _ _ h1 h2 h3 h4) ?_; rintro e w1 ⟨rfl, rfl⟩)
  go_returns
  exact ⟨rfl, by go_grown⟩

set_option maxHeartbeats 2000000 in
theorem rf_no (x y ww hh : Int) (w : World) (h : rfB x y ww hh = true) :
    Calls Try.prog 63 #[.agg #[.int .i64 x, .int .i64 y, .int .i64 ww, .int .i64 hh]] w fun e w' => e = .returned (.int .i64 3) ∧ Below w.heap.size w w' := by
  by_cases hr : x < -20 ∨ 20 < x ∨ y < -20 ∨ 20 < y
  · clear h
    go_enter Try.func63, Try.ntmps63
    go_wp2_with (go_at_call 76; refine Calls.mono (reach_no _ _ _ hr) ?_; rintro e w1 ⟨rfl, rfl⟩)
    go_returns
    exact ⟨rfl, by go_grown⟩
  obtain ⟨h1, h2, h3, h4⟩ : -20 ≤ x ∧ x ≤ 20 ∧ -20 ≤ y ∧ y ≤ 20 := by omega
  have hw : ww < 1 ∨ (1 ≤ ww ∧ 20 < ww) ∨ ((1 ≤ ww ∧ ww ≤ 20) ∧ hh < 1) ∨ ((1 ≤ ww ∧ ww ≤ 20) ∧ 1 ≤ hh ∧ 20 < hh) := by
    unfold rfB at h; simp at h; omega
  clear h hr
  rcases hw with h5 | ⟨h5, h6⟩ | ⟨⟨h5, h6⟩, h7⟩ | ⟨⟨h5, h6⟩, h7, h8⟩
  all_goals
    go_enter Try.func63, Try.ntmps63
    go_wp2_with (go_at_call 76; refine Calls.mono (reach_yes _ _ _ h1 h2 h3 h4) ?_; rintro e w1 ⟨rfl, rfl⟩)
    go_returns
    exact ⟨rfl, by go_grown⟩

theorem rf_any (x y ww hh : Int) (w : World) :
    Calls Try.prog 63 #[.agg #[.int .i64 x, .int .i64 y, .int .i64 ww, .int .i64 hh]] w fun e w' => e = .returned (.int .i64 (rfOf (rfB x y ww hh))) ∧ Below w.heap.size w w' := by
  cases h : rfB x y ww hh
  · exact rf_ok x y ww hh w h
  · exact rf_no x y ww hh w h

/-- A rectangle's four cells. -/
structure IsRect (w : World) (b o : Nat) (x y ww hh : Int) : Prop where
  c0 : w.cell? ⟨b, o, none⟩ = some (.int .i64 x)
  c1 : w.cell? ⟨b, o + 1, none⟩ = some (.int .i64 y)
  c2 : w.cell? ⟨b, o + 2, none⟩ = some (.int .i64 ww)
  c3 : w.cell? ⟨b, o + 3, none⟩ = some (.int .i64 hh)

set_option maxHeartbeats 400000 in
theorem in_yes (n a b : Int) (w : World) (h : a ≤ n) (h2 : n ≤ b) :
    Calls Try.prog 53 #[.int .i64 n, .int .i64 a, .int .i64 b] w fun e w' => e = .returned (.bool true) ∧ w' = w := by
  go_enter Try.func53, Try.ntmps53
  go_wp2
  go_returns
  exact ⟨rfl, rfl⟩

set_option maxHeartbeats 400000 in
theorem in_no (n a b : Int) (w : World) (h : n < a ∨ b < n) :
    Calls Try.prog 53 #[.int .i64 n, .int .i64 a, .int .i64 b] w fun e w' => e = .returned (.bool false) ∧ w' = w := by
  by_cases h1 : a ≤ n
  · have h2 : ¬ n ≤ b := by omega
    clear h
    go_enter Try.func53, Try.ntmps53
    go_wp2
    go_returns
    exact ⟨congrArg (fun b => Ending.returned (.bool b)) (by first | rfl | (simp; omega)), rfl⟩
  · clear h
    go_enter Try.func53, Try.ntmps53
    go_wp2
    go_returns
    exact ⟨congrArg (fun b => Ending.returned (.bool b)) (by first | rfl | (simp; omega)), rfl⟩

set_option maxHeartbeats 400000 in
theorem l2F_ok (b o : Nat) (x y ww hh : Int) (w : World) (R : IsRect w b o x y ww hh) (h : rfB x y ww hh = false) :
    Calls Try.prog 69 #[.pointer (some ⟨b, o, none⟩)] w fun e w' => e = .returned (.int .i64 0) ∧ w' = w := by
  obtain ⟨⟨h1, h2⟩, ⟨h3, h4⟩, ⟨h5, h6⟩, h7, h8⟩ := rfB_no h
  obtain ⟨c0, c1, c2, c3⟩ := R
  clear h
  go_enter Try.func69, Try.ntmps69
  go_wp2
  go_returns
  exact ⟨rfl, rfl⟩

set_option maxHeartbeats 4000000 in
theorem l2F_no (b o : Nat) (x y ww hh : Int) (w : World) (R : IsRect w b o x y ww hh) (h : rfB x y ww hh = true) :
    Calls Try.prog 69 #[.pointer (some ⟨b, o, none⟩)] w fun e w' => e = .returned (.int .i64 3) ∧ w' = w := by
  obtain ⟨c0, c1, c2, c3⟩ := R
  rcases rfB_yes h with h1 | ⟨h1, h2⟩ | ⟨⟨h1, h2⟩, h3⟩ | ⟨⟨h1, h2⟩, h3, h4⟩ | ⟨⟨h1, h2⟩, ⟨h3, h4⟩, h5⟩ | ⟨⟨h1, h2⟩, ⟨h3, h4⟩, h5, h6⟩ | ⟨⟨h1, h2⟩, ⟨h3, h4⟩, ⟨h5, h6⟩, h7⟩ | ⟨⟨h1, h2⟩, ⟨h3, h4⟩, ⟨h5, h6⟩, h7, h8⟩
  all_goals
    clear h
    go_enter Try.func69, Try.ntmps69
    go_wp2_with (first | (go_at_call 53; refine Calls.mono (in_yes _ _ _ _ (by omega) (by omega)) ?_; rintro e w1 ⟨rfl, rfl⟩) | (go_at_call 53; refine Calls.mono (in_no _ _ _ _ (by omega)) ?_; rintro e w1 ⟨rfl, rfl⟩))
    go_returns
    exact ⟨rfl, rfl⟩

theorem l2F_any (b o : Nat) (x y ww hh : Int) (w : World) (R : IsRect w b o x y ww hh) :
    Calls Try.prog 69 #[.pointer (some ⟨b, o, none⟩)] w fun e w' => e = .returned (.int .i64 (rfOf (rfB x y ww hh))) ∧ w' = w := by
  cases h : rfB x y ww hh
  · exact l2F_ok b o x y ww hh w R h
  · exact l2F_no b o x y ww hh w R h

end Go.Proofs.Ytmmjannkfmiohaa

namespace Go.Proofs.Ytmmjannkfmiohaa
open Go.RowKit
set_option linter.unusedVariables false

end Go.Proofs.Ytmmjannkfmiohaa

namespace Go.Proofs.Ytmmjannkfmiohaa
open Go.RowKit
set_option linter.unusedVariables false

/-- New numbers, of whatever block. -/
structure NewK (w w' : World) (D : List Int) (b : Ci) : Prop where
  le : b.L = D
  on : b.on w'
  inn : b.L ≠ [] → w.heap.size ≤ b.g ∧ b.g < w'.heap.size

/-- A box of seven cells. -/
structure R7 (w : World) (b : Nat) (v0 v1 v2 v3 v4 v5 v6 : Value) : Prop where
  c0 : w.cell? ⟨b, 0, none⟩ = some v0
  c1 : w.cell? ⟨b, 1, none⟩ = some v1
  c2 : w.cell? ⟨b, 2, none⟩ = some v2
  c3 : w.cell? ⟨b, 3, none⟩ = some v3
  c4 : w.cell? ⟨b, 4, none⟩ = some v4
  c5 : w.cell? ⟨b, 5, none⟩ = some v5
  c6 : w.cell? ⟨b, 6, none⟩ = some v6
  fr : ∀ c, w.frozen? ⟨b, c, none⟩ = false
  lt : b < w.heap.size
theorem R7.keep {w w' : World} {b B : Nat} {v0 v1 v2 v3 v4 v5 v6 : Value} (h : R7 w b v0 v1 v2 v3 v4 v5 v6) (k : Below B w w') (hb : b < B) : R7 w' b v0 v1 v2 v3 v4 v5 v6 :=
  ⟨(k.cell (p := ⟨b, 0, none⟩) hb).trans h.c0, (k.cell (p := ⟨b, 1, none⟩) hb).trans h.c1, (k.cell (p := ⟨b, 2, none⟩) hb).trans h.c2, (k.cell (p := ⟨b, 3, none⟩) hb).trans h.c3, (k.cell (p := ⟨b, 4, none⟩) hb).trans h.c4, (k.cell (p := ⟨b, 5, none⟩) hb).trans h.c5, (k.cell (p := ⟨b, 6, none⟩) hb).trans h.c6, fun c => (k.frozen (p := ⟨b, c, none⟩) hb).trans (h.fr c), Nat.lt_of_lt_of_le h.lt k.size⟩
theorem R7.far {w w' : World} {b lo hi : Nat} {v0 v1 v2 v3 v4 v5 v6 : Value} (h : R7 w b v0 v1 v2 v3 v4 v5 v6) (f : Far lo hi w w') (hd : b < lo ∨ hi ≤ b) : R7 w' b v0 v1 v2 v3 v4 v5 v6 :=
  ⟨(f.cell b 0 h.lt hd).trans h.c0, (f.cell b 1 h.lt hd).trans h.c1, (f.cell b 2 h.lt hd).trans h.c2, (f.cell b 3 h.lt hd).trans h.c3, (f.cell b 4 h.lt hd).trans h.c4, (f.cell b 5 h.lt hd).trans h.c5, (f.cell b 6 h.lt hd).trans h.c6, fun c => (f.frozen b c h.lt hd).trans (h.fr c), Nat.lt_of_lt_of_le h.lt f.size⟩
theorem r7_new (w : World) (v0 v1 v2 v3 v4 v5 v6 : Value) (T : TypeId) : R7 (w.alloc (.cells #[v0, v1, v2, v3, v4, v5, v6] T)) w.heap.size v0 v1 v2 v3 v4 v5 v6 := ⟨by simp, by simp, by simp, by simp, by simp, by simp, by simp, by simp, by simp⟩
theorem Far.of_set7 {w : World} {g o : Nat} {v : Value} {lo hi : Nat} (h : lo ≤ g ∧ g < hi) : Far lo hi w (w.setCell ⟨g, o, none⟩ v) := (Far.refl _ _ w).setCell (p := ⟨g, o, none⟩) h.1 h.2 v
theorem cell_same' {w : World} {g c : Nat} {v : Value} (h : ∃ u, w.cell? ⟨g, c, none⟩ = some u) : (w.setCell ⟨g, c, none⟩ v).cell? ⟨g, c, none⟩ = some v := by
  obtain ⟨u, hu⟩ := h
  exact cell_set_same hu
theorem cell_there7 {W : World} {g c d : Nat} {v : Value} (h : ∃ u, W.cell? ⟨g, c, none⟩ = some u) : ∃ u, (W.setCell ⟨g, d, none⟩ v).cell? ⟨g, c, none⟩ = some u := by
  obtain ⟨u, hu⟩ := h
  by_cases e : c = d
  · subst e; exact ⟨v, cell_set_same hu⟩
  · exact ⟨u, (cell_set_other e).trans hu⟩

/-- Seven cells written one after the other. -/
theorem put7 {w : World} {g o : Nat} (v0 v1 v2 v3 v4 v5 v6 : Value) (t : ∀ j, j < 7 → ∃ u, w.cell? ⟨g, o + j, none⟩ = some u) :
    let W := ((((((w.setCell ⟨g, o, none⟩ v0).setCell ⟨g, o + 1, none⟩ v1).setCell ⟨g, o + 2, none⟩ v2).setCell ⟨g, o + 3, none⟩ v3).setCell ⟨g, o + 4, none⟩ v4).setCell ⟨g, o + 5, none⟩ v5).setCell ⟨g, o + 6, none⟩ v6
    (W.cell? ⟨g, o, none⟩ = some v0 ∧ W.cell? ⟨g, o + 1, none⟩ = some v1 ∧ W.cell? ⟨g, o + 2, none⟩ = some v2 ∧ W.cell? ⟨g, o + 3, none⟩ = some v3 ∧ W.cell? ⟨g, o + 4, none⟩ = some v4 ∧ W.cell? ⟨g, o + 5, none⟩ = some v5 ∧ W.cell? ⟨g, o + 6, none⟩ = some v6) ∧
    (∀ d, d < o ∨ o + 7 ≤ d → W.cell? ⟨g, d, none⟩ = w.cell? ⟨g, d, none⟩) ∧ Far g (g + 1) w W := by
  intro W
  refine ⟨⟨?_, ?_, ?_, ?_, ?_, ?_, ?_⟩, fun d hd => ?_, ?_⟩
  · rw [cell_set_other (by omega)]; rw [cell_set_other (by omega)]; rw [cell_set_other (by omega)]; rw [cell_set_other (by omega)]; rw [cell_set_other (by omega)]; rw [cell_set_other (by omega)]; exact cell_same' (by exact t 0 (by omega))
  · rw [cell_set_other (by omega)]; rw [cell_set_other (by omega)]; rw [cell_set_other (by omega)]; rw [cell_set_other (by omega)]; rw [cell_set_other (by omega)]; exact cell_same' (by refine cell_there7 ?_; exact t 1 (by omega))
  · rw [cell_set_other (by omega)]; rw [cell_set_other (by omega)]; rw [cell_set_other (by omega)]; rw [cell_set_other (by omega)]; exact cell_same' (by refine cell_there7 ?_; refine cell_there7 ?_; exact t 2 (by omega))
  · rw [cell_set_other (by omega)]; rw [cell_set_other (by omega)]; rw [cell_set_other (by omega)]; exact cell_same' (by refine cell_there7 ?_; refine cell_there7 ?_; refine cell_there7 ?_; exact t 3 (by omega))
  · rw [cell_set_other (by omega)]; rw [cell_set_other (by omega)]; exact cell_same' (by refine cell_there7 ?_; refine cell_there7 ?_; refine cell_there7 ?_; refine cell_there7 ?_; exact t 4 (by omega))
  · rw [cell_set_other (by omega)]; exact cell_same' (by refine cell_there7 ?_; refine cell_there7 ?_; refine cell_there7 ?_; refine cell_there7 ?_; refine cell_there7 ?_; exact t 5 (by omega))
  · exact cell_same' (by refine cell_there7 ?_; refine cell_there7 ?_; refine cell_there7 ?_; refine cell_there7 ?_; refine cell_there7 ?_; refine cell_there7 ?_; exact t 6 (by omega))
  · show (World.setCell _ _ _).cell? _ = _
    rw [cell_set_other (by omega), cell_set_other (by omega), cell_set_other (by omega), cell_set_other (by omega), cell_set_other (by omega), cell_set_other (by omega), cell_set_other (by omega)]
  · exact ((((((Far.of_set7 ⟨Nat.le_refl _, Nat.lt_succ_self _⟩).trans (Far.of_set7 ⟨Nat.le_refl _, Nat.lt_succ_self _⟩)).trans (Far.of_set7 ⟨Nat.le_refl _, Nat.lt_succ_self _⟩)).trans (Far.of_set7 ⟨Nat.le_refl _, Nat.lt_succ_self _⟩)).trans (Far.of_set7 ⟨Nat.le_refl _, Nat.lt_succ_self _⟩)).trans (Far.of_set7 ⟨Nat.le_refl _, Nat.lt_succ_self _⟩)).trans (Far.of_set7 ⟨Nat.le_refl _, Nat.lt_succ_self _⟩)

/-- A copy of a list of windows, its first ones there. -/
structure FillW (w wr : World) (g n : Nat) (M : List Wn) : Prop where
  below : Below w.heap.size w wr
  le : w.heap.size ≤ g
  lt : g < wr.heap.size
  cells : ∀ i (h : i < M.length), Cl Wn.vals wr g (i * 7) M[i]
  free : ∀ c, wr.frozen? ⟨g, c, none⟩ = false
  cis : Cis wr (g + 1) wr.heap.size (M.map Wn.b)
  there : ∀ c, c < n * 7 → ∃ u, wr.cell? ⟨g, c, none⟩ = some u
theorem FillW.keep {w wr wr' : World} {g n : Nat} {M : List Wn} (h : FillW w wr g n M) (k : Below wr.heap.size wr wr') : FillW w wr' g n M :=
  ⟨h.below.trans (k.mono h.below.size), h.le, Nat.lt_of_lt_of_le h.lt k.size, fun i hi => (h.cells i hi).keep k h.lt, fun c => (k.frozen (p := ⟨g, c, none⟩) h.lt).trans (h.free c), (h.cis.keep k (Nat.le_refl _)).wide (Nat.le_refl _) k.size, fun c hc => by obtain ⟨u, hu⟩ := h.there c hc; exact ⟨u, (k.cell (p := ⟨g, c, none⟩) h.lt).trans hu⟩⟩
theorem FillW.step {w wr w2 : World} {g n : Nat} {M : List Wn} {v : Wn} (h : FillW w wr g n M) (hi : M.length < n) (k : Below wr.heap.size wr w2) {D : List Int} (R : NewK wr w2 D v.b) :
    FillW w (((((((w2.setCell ⟨g, M.length * 7, none⟩ (.int .i64 v.i)).setCell ⟨g, M.length * 7 + 1, none⟩ (.int .i64 v.x)).setCell ⟨g, M.length * 7 + 2, none⟩ (.int .i64 v.y)).setCell ⟨g, M.length * 7 + 3, none⟩ (.int .i64 v.w)).setCell ⟨g, M.length * 7 + 4, none⟩ (.int .i64 v.h)).setCell ⟨g, M.length * 7 + 5, none⟩ (.bool v.m)).setCell ⟨g, M.length * 7 + 6, none⟩ (.slice v.b.ao v.b.L.length v.b.cap)) g n (M ++ [v]) := by
  have h2 := h.keep k
  have hlt := h.lt
  have B2 := (h.cis.keep k (Nat.le_refl _)).snoc (hi' := w2.heap.size) R.on (fun e => by have := R.inn e; omega) k.size
  have P := put7 (w := w2) (g := g) (o := M.length * 7) (.int .i64 v.i) (.int .i64 v.x) (.int .i64 v.y) (.int .i64 v.w) (.int .i64 v.h) (.bool v.m) (.slice v.b.ao v.b.L.length v.b.cap) (fun j hj => h2.there _ (by omega))
  obtain ⟨P1, P2, P3⟩ := P
  have hz : (((((((w2.setCell ⟨g, M.length * 7, none⟩ (.int .i64 v.i)).setCell ⟨g, M.length * 7 + 1, none⟩ (.int .i64 v.x)).setCell ⟨g, M.length * 7 + 2, none⟩ (.int .i64 v.y)).setCell ⟨g, M.length * 7 + 3, none⟩ (.int .i64 v.w)).setCell ⟨g, M.length * 7 + 4, none⟩ (.int .i64 v.h)).setCell ⟨g, M.length * 7 + 5, none⟩ (.bool v.m)).setCell ⟨g, M.length * 7 + 6, none⟩ (.slice v.b.ao v.b.L.length v.b.cap)).heap.size = w2.heap.size := by simp
  have hfr : ∀ c, (((((((w2.setCell ⟨g, M.length * 7, none⟩ (.int .i64 v.i)).setCell ⟨g, M.length * 7 + 1, none⟩ (.int .i64 v.x)).setCell ⟨g, M.length * 7 + 2, none⟩ (.int .i64 v.y)).setCell ⟨g, M.length * 7 + 3, none⟩ (.int .i64 v.w)).setCell ⟨g, M.length * 7 + 4, none⟩ (.int .i64 v.h)).setCell ⟨g, M.length * 7 + 5, none⟩ (.bool v.m)).setCell ⟨g, M.length * 7 + 6, none⟩ (.slice v.b.ao v.b.L.length v.b.cap)).frozen? ⟨g, c, none⟩ = false := fun c => by simpa using h2.free c
  have hth : ∀ c, c < n * 7 → ∃ u, (((((((w2.setCell ⟨g, M.length * 7, none⟩ (.int .i64 v.i)).setCell ⟨g, M.length * 7 + 1, none⟩ (.int .i64 v.x)).setCell ⟨g, M.length * 7 + 2, none⟩ (.int .i64 v.y)).setCell ⟨g, M.length * 7 + 3, none⟩ (.int .i64 v.w)).setCell ⟨g, M.length * 7 + 4, none⟩ (.int .i64 v.h)).setCell ⟨g, M.length * 7 + 5, none⟩ (.bool v.m)).setCell ⟨g, M.length * 7 + 6, none⟩ (.slice v.b.ao v.b.L.length v.b.cap)).cell? ⟨g, c, none⟩ = some u := fun c hc => cell_there7 (cell_there7 (cell_there7 (cell_there7 (cell_there7 (cell_there7 (cell_there7 (h2.there c hc)))))))
  generalize (((((((w2.setCell ⟨g, M.length * 7, none⟩ (.int .i64 v.i)).setCell ⟨g, M.length * 7 + 1, none⟩ (.int .i64 v.x)).setCell ⟨g, M.length * 7 + 2, none⟩ (.int .i64 v.y)).setCell ⟨g, M.length * 7 + 3, none⟩ (.int .i64 v.w)).setCell ⟨g, M.length * 7 + 4, none⟩ (.int .i64 v.h)).setCell ⟨g, M.length * 7 + 5, none⟩ (.bool v.m)).setCell ⟨g, M.length * 7 + 6, none⟩ (.slice v.b.ao v.b.L.length v.b.cap)) = W at *
  refine ⟨(h2.below.trans (P3.below h.le h2.below.size)), h.le, by rw [hz]; exact h2.lt, fun i hi' => ?_, hfr, ?_, hth⟩
  · by_cases e : i < M.length
    · rw [List.getElem_append_left e]
      exact fun j hj => (P2 _ (by omega)).trans (h2.cells i e j hj)
    · obtain rfl : i = M.length := by simp at hi'; omega
      simp only [List.getElem_append_right (Nat.le_refl _), Nat.sub_self, List.getElem_cons_zero]
      exact Cl.mkW P1
  · rw [List.map_append, hz]
    exact B2.far P3 (.inr (Nat.le_refl _))
theorem fillW_new {w w1 : World} {n : Nat} {T : TypeId} {xs : List Value} (ho : w1.ownsRow w.heap.size T 7 (.slice (some ⟨w.heap.size, 0, none⟩) n n) n xs) (hg : w.grownBy w1 none) : FillW w w1 w.heap.size n [] := by
  have hlt := (World.ownsRow.lt ho w.heap.size rfl).2
  refine ⟨⟨hg.os, hg.tape, hg.output, hg.size, fun k hk => hg.block k hk (by simp)⟩, Nat.le_refl _, hlt, fun i hi => by simp at hi, fun c => World.ownsRow.frozenAt ho c, Cis.nil _ _ _, fun c hc => ?_⟩
  rw [World.ownsRow.cellAt ho c hc]
  exact ⟨xs[c]'(by rw [ho.1]; exact hc), by simp⟩
theorem FillW.wq {w wr : World} {g n : Nat} {M : List Wn} (h : FillW w wr g n M) : Wq Wn.vals wr w.heap.size wr.heap.size (some ⟨g, 0, none⟩) M :=
  ⟨h.below.size, Nat.le_refl _, h.cis.wide (by have := h.le; omega) (Nat.le_refl _), .inr ⟨g, rfl, h.le, h.lt, h.cells, h.free⟩, fun g' e b m hn => by cases e; have := h.cis.inn b m hn; omega⟩

end Go.Proofs.Ytmmjannkfmiohaa

namespace Go.Proofs.Ytmmjannkfmiohaa
open Go.RowKit

section
variable {P : Program} {md : Region.Mode}

/-- n operations in the text's order, then G. -/
def lexTo (md : Region.Mode) (ops : Array Oper) (G : Nat → Array Bool → Bool) : Nat → Nat → Array Bool → Bool
  | 0, k, s => G k s
  | f + 1, k, s => (Region.ready md ops s).contains k && Region.free md ops s k && lexTo md ops G f (k + 1) (s.setIfInBounds k true)

/-- Are two operations apart, both ways? -/
def apartB (ops : Array Oper) (i j : Nat) : Bool :=
  match ops[i]?, ops[j]? with
  | some a, some b => a.apart ops b && b.apart ops a
  | _, _ => false

def calledG (md : Region.Mode) (ops : Array Oper) (g : Nat) (k : Nat) (s : Array Bool) : Bool :=
  decide (Region.ready md ops s = [k, k + 1]) && decide (Region.ready md ops (s.setIfInBounds k true) = [k + 1]) && decide (Region.ready md ops (s.setIfInBounds (k + 1) true) = [k]) &&
  Region.seqB md ops g (k + 2) ((s.setIfInBounds k true).setIfInBounds (k + 1) true)

/-- Closed facts of a region: n operations in the text's order, a call, a local's box that may come at any time, the rest. -/
def calledB (md : Region.Mode) (ops : Array Oper) (n : Nat) : Bool :=
  Region.noSelect ops && waitsB md ops (n + 2) && decide (n + 2 ≤ ops.size) && apartB ops n (n + 1) && lexTo md ops (calledG md ops (ops.size - (n + 2))) n 0 (Array.replicate ops.size false)

/-- What is known behind the call and the box: the call was made in w1 and left w2; the box lies in block B. -/
def Called (w : World) (o : Obj) (Φ : World → Value → World → Prop) (v : Value) (B : Nat) (w3 : World) : Prop :=
  ∃ w1 w2, Kept w w1 ∧ Kept w1 w2 ∧ Φ w1 v w2 ∧ Kept w2 w3 ∧ w.heap.size ≤ B ∧ B < w3.heap.size ∧ w3.heap[B]? = some o ∧ (B < w1.heap.size ∨ w2.heap.size ≤ B)

theorem kept_alloc (w : World) (o : Obj) : Kept w (w.alloc o) := (Below.refl _ _).alloc (Nat.le_refl _) _
theorem Kept.le {w w' : World} (h : Kept w w') : w.heap.size ≤ w'.heap.size := Below.size h
theorem Kept.blk {w w' : World} (h : Kept w w') {b : Nat} (hb : b < w.heap.size) : w'.heap[b]? = w.heap[b]? := Below.block h b hb

theorem called_late {w w1 w2 w2' w3 : World} {o : Obj} {Φ : World → Value → World → Prop} {v : Value} (h1 : Kept w w1) (h2 : Kept w1 w2) (hp : Φ w1 v w2) (h3 : Kept w2 w2') (h4 : Kept (w2'.alloc o) w3) : Called w o Φ v w2'.heap.size w3 := by
  refine ⟨w1, w2, h1, h2, hp, (h3.trans (kept_alloc _ _)).trans h4, ?_, ?_, ?_, .inr h3.le⟩
  · exact Nat.le_trans ((h1.trans h2).trans h3).le (Nat.le_refl _)
  · have := h4.le; simp at this; omega
  · rw [h4.blk (by simp)]; exact heap_alloc_new w2' _
theorem called_soon {w w0 w1 w2 w3 : World} {o : Obj} {Φ : World → Value → World → Prop} {v : Value} (h0 : Kept w w0) (h1 : Kept (w0.alloc o) w1) (h2 : Kept w1 w2) (hp : Φ w1 v w2) (h3 : Kept w2 w3) : Called w o Φ v w0.heap.size w3 := by
  have e1 := h1.le
  simp at e1
  refine ⟨w1, w2, (h0.trans (kept_alloc _ _)).trans h1, h2, hp, h3, h0.le, ?_, ?_, .inl (by omega)⟩
  · have := (h2.trans h3).le; omega
  · rw [((h1.trans h2).trans h3).blk (by simp)]; exact heap_alloc_new w0 _

theorem wp_region_called {id : Nat} {Q : Exit → Act → World → Prop} {a : Act} {w : World} {l : List Oper} (n : Nat) {c m : Oper} (hc : l[n]? = some c) (hmm : l[n + 1]? = some m) (Φ : World → Value → World → Prop) (o : Obj)
    (hm : P.follows .mixedOrders = true) (hB : calledB .any l.toArray n = true)
    (h : wpGrow P l.toArray w (fun a' => Region.wanted c (yielded l.toArray a'.tmps) = true ∧ Region.wanted m (yielded l.toArray a'.tmps) = true ∧ (∀ w1, Kept w w1 → madeAt P c a' w1 fun w2 v => Φ w1 v w2) ∧
      (∀ w1, (execOp a'.eval m).run P w1 = .ok (.value (.pointer (some ⟨w1.heap.size, 0, none⟩))) (w1.alloc o)) ∧
      ∀ v B w3, Called w o Φ v B w3 → wpList P l.toArray Q (l.drop (n + 2)) ((a'.put c.dst v).put m.dst (.pointer (some ⟨B, 0, none⟩))) w3) (l.take n) a) : (Code.region id l.toArray true).wp P Q a w := by
  simp only [calledB, Bool.and_eq_true, decide_eq_true_eq] at hB
  obtain ⟨⟨⟨⟨hsel, hw⟩, hn⟩, hap⟩, hlex⟩ := hB
  have hn' : n + 2 ≤ l.length := by simpa using hn
  have e1 : (l.take n).length = n := by simp; omega
  have e2 : (l.drop (n + 2)).length = l.toArray.size - (n + 2) := by simp
  have hc' : l.toArray[n]? = some c := by simpa using hc
  have hm' : l.toArray[n + 1]? = some m := by simpa using hmm
  simp only [apartB, hc', hm', Bool.and_eq_true] at hap
  obtain ⟨p1, p2, p3⟩ := Oper.apart_spec hap.1
  have hsc := fun cs b => Region.noSelect_spec hsel n c cs b hc'
  have hsm := fun cs b => Region.noSelect_spec hsel (n + 1) m cs b hm'
  have inv : HeadInv .any l.toArray (n + 2) (Array.replicate l.toArray.size false) :=
    ⟨by simp, fun j oj _ hl => (by rw [getD_replicate_false] at hl; cases hl), fun t _ ht => getD_in (by simpa using ht) (getD_replicate_false _ _)⟩
  let Z : World → Array Bool → Act → Prop := fun W s a => Region.seqB .any l.toArray (l.toArray.size - (n + 2)) (n + 2) s = true ∧ ∀ w3, Kept W w3 → wpList P l.toArray Q (l.drop (n + 2)) a w3
  have H := opens_lex (P := P) (md := .any) (ops := l.toArray) (N := n + 2) (n := n) (m := 2) (Z := Z) (W := w) (G := calledG .any l.toArray (l.toArray.size - (n + 2)))
    (L := lexTo .any l.toArray (calledG .any l.toArray (l.toArray.size - (n + 2)))) hsel hw (by omega) (fun W s a hz => seqB_ready hz.1) (fun s a' _ hG hE => by
      simp only [calledG, Bool.and_eq_true, decide_eq_true_eq] at hG
      obtain ⟨⟨⟨g1, g2⟩, g3⟩, g4⟩ := hG
      obtain ⟨wc, wm, hcall, hbox, hend⟩ := hE
      have g4' : Region.seqB .any l.toArray (l.toArray.size - (n + 2)) (n + 2) ((s.setIfInBounds (n + 1) true).setIfInBounds n true) = true := by
        rw [Array.setIfInBounds_comm _ _ (by omega)]; exact g4
      refine ⟨by rw [g1]; simp, fun i hi => ?_⟩
      rw [g1] at hi
      simp only [List.mem_cons, List.not_mem_nil, or_false] at hi
      rcases hi with rfl | rfl
      · refine ⟨by omega, fun oi hoi => ?_⟩
        obtain rfl : oi = c := Option.some.inj (hoi.symm.trans hc')
        refine .inr ⟨wc, fun w1 k1 => madeUpon_mono (fun w2 v hb hp => ?_) (hcall w1 k1)⟩
        refine ⟨by rw [g2]; simp, fun i2 hi2 => ?_⟩
        rw [g2] at hi2
        obtain rfl : i2 = i + 1 := by simpa using hi2
        refine ⟨by omega, fun oj hoj => ?_⟩
        obtain rfl : oj = m := Option.some.inj (hoj.symm.trans hm')
        refine .inr ⟨by rw [wanted_put oj a' oi.dst v p1]; exact wm, fun w2' k2 => ?_⟩
        unfold madeAt
        rw [execOp_put oj hsm a' oi.dst v p1, hbox w2']
        exact ⟨kept_alloc _ _, g4, fun w3 k3 => hend v _ w3 (called_late k1 hb hp k2 k3)⟩
      · refine ⟨by omega, fun oj hoj => ?_⟩
        obtain rfl : oj = m := Option.some.inj (hoj.symm.trans hm')
        refine .inr ⟨wm, fun w0 k0 => ?_⟩
        unfold madeAt
        rw [hbox w0]
        refine ⟨kept_alloc _ _, by rw [g3]; simp, fun i2 hi2 => ?_⟩
        rw [g3] at hi2
        obtain rfl : i2 = n := by simpa using hi2
        refine ⟨by omega, fun oi hoi => ?_⟩
        obtain rfl : oi = c := Option.some.inj (hoi.symm.trans hc')
        refine .inr ⟨by rw [wanted_put oi a' oj.dst _ p3]; exact wc, fun w1 k1 => ?_⟩
        have hcl := hcall w1 ((k0.trans (kept_alloc _ _)).trans k1)
        unfold madeAt at hcl ⊢
        rw [execOp_put oi hsc a' oj.dst _ p3]
        refine madeUpon_mono (fun w2 v hb hp => ?_) hcl
        refine ⟨g4', fun w3 k3 => ?_⟩
        have hd := hend v _ w3 (called_soon k0 k1 hb hp k3)
        rwa [Act.put_comm a' v _ p2] at hd) (fun k s => rfl) (fun f k s => rfl) (l.take n) 0 _ a (fun j hj => by
      rw [e1] at hj
      simp [hj]) (by simpa using e1) inv (by rw [e1]; exact hlex) h
  refine wp_region_any hm ?_
  have A := opens_any (Q := Q) (g := l.toArray.size - (n + 2)) (fun W s a' w' hk hz => by
    have B := wpAny_of_seq (md := .any) (Q' := Q) (l.drop (n + 2)) (n + 2) s a' w' (fun j => by simp [List.getElem?_drop]) (by rw [e2]; exact hz.1) (hz.2 w' hk)
    rwa [e2] at B) _ _ _ _ _ (show Kept w w.drew from (Below.refl _ _).drew) H
  have e4 : n + 2 + (l.toArray.size - (n + 2)) = l.toArray.size := by omega
  rw [e1, e4] at A
  exact A
end
end Go.Proofs.Ytmmjannkfmiohaa
