/- HasPoint: the model's and the program's, and the law's walk. -/
import Derived.Test.YtbceacnadkhdoabRec1
namespace Go.Proofs.Ytbceacnadkhdoab
open Go.RowKit
set_option linter.unusedVariables false

set_option maxHeartbeats 400000 in
theorem re_any (x y ww hh : Int) (w : World) (h : rfB x y ww hh = false) :
    Calls Try.prog 38 #[.agg #[.int .i64 x, .int .i64 y, .int .i64 ww, .int .i64 hh]] w fun e w' => e = .returned (.int .i64 (x + ww)) ∧ Below w.heap.size w w' := by
  obtain ⟨⟨h1, h2⟩, ⟨h3, h4⟩, ⟨h5, h6⟩, h7, h8⟩ := rfB_no h
  clear h
  go_enter Try.func38, Try.ntmps38
  go_wp2
  go_returns
  exact ⟨rfl, by go_grown⟩

set_option maxHeartbeats 400000 in
theorem le_any (x y ww hh : Int) (w : World) (h : rfB x y ww hh = false) :
    Calls Try.prog 39 #[.agg #[.int .i64 x, .int .i64 y, .int .i64 ww, .int .i64 hh]] w fun e w' => e = .returned (.int .i64 (y + hh)) ∧ Below w.heap.size w w' := by
  obtain ⟨⟨h1, h2⟩, ⟨h3, h4⟩, ⟨h5, h6⟩, h7, h8⟩ := rfB_no h
  clear h
  go_enter Try.func39, Try.ntmps39
  go_wp2
  go_returns
  exact ⟨rfl, by go_grown⟩

set_option maxHeartbeats 2000000 in
theorem l2H_any (b o : Nat) (x y ww hh p q : Int) (w : World) (R : IsRect w b o x y ww hh) (h : rfB x y ww hh = false) :
    Calls Try.prog 47 #[.pointer (some ⟨b, o, none⟩), .int .i64 p, .int .i64 q] w fun e w' => e = .returned (.bool (inB x y ww hh p q)) ∧ Below w.heap.size w w' := by
  obtain ⟨⟨h1, h2⟩, ⟨h3, h4⟩, ⟨h5, h6⟩, h7, h8⟩ := rfB_no h
  have hr : Hid (inB x y ww hh p q = decide (x ≤ p ∧ p < x + ww ∧ y ≤ q ∧ q < y + hh)) := rfl
  have e1 : IntKind.i64.wrap (x + ww) = x + ww := IntWalk.i64_in _ (by omega)
  have e2 : IntKind.i64.wrap (x + ww - 1) = x + ww - 1 := IntWalk.i64_in _ (by omega)
  have e3 : IntKind.i64.wrap (y + hh) = y + hh := IntWalk.i64_in _ (by omega)
  have e4 : IntKind.i64.wrap (y + hh - 1) = y + hh - 1 := IntWalk.i64_in _ (by omega)
  have hlt : b < w.heap.size := World.block_lt_of_cell? w _ R.c0
  obtain ⟨c0, c1, c2, c3⟩ := R
  clear h
  by_cases g1 : x ≤ p ∧ p ≤ x + ww - 1
  · have g1' := hideP g1
    by_cases g2 : y ≤ q ∧ q ≤ y + hh - 1
    · have g2' := hideP g2
      clear g1 g2
      go_enter Try.func47, Try.ntmps47
      go_wp2
      refine wp_region_wq (by kernel_rfl) (by kernel_rfl) ?_
      repeat (first | (refine wq_up _ (by first | exact wanted_free rfl | exact wanted_yes rfl rfl | exact wanted_no rfl rfl | exact wanted_lost rfl rfl) (by first | with_reducible rfl | decide) ?_; apply Exists.intro; refine ⟨fun w1 k1 => ?_, fun K hK => ?_⟩; (focus (have hc := Kept.cell k1; go_simp; first | done | rfl | (go_at_call 67; exact kept_call_same k1 (in_yes _ _ _ _ (by first | exact g1'.out.1 | exact g2'.out.1) (by first | exact g1'.out.2 | exact g2'.out.2))))); (go_simp; refine hK _ ?_; clear hK K)) | (refine wq_off _ (by first | exact wanted_free rfl | exact wanted_yes rfl rfl | exact wanted_no rfl rfl | exact wanted_lost rfl rfl) (by first | with_reducible rfl | decide) ?_; intro K hK; go_simp; refine hK _ ?_; clear hK K))
      refine wq_nil ?_
      intro w5 k5
      replace k5 := Kept.below k5
      have hc5 := Kept.cell k5
      have hf5 := Kept.frozen k5
      have hz5 := k5.size
      try simp only [World.size_alloc] at hz5
      try simp only [World.size_setCell] at hz5
      try simp only [World.size_drew] at hz5
      try (first | have hs5 := sz12 hz5 | have hs5 := sz11 hz5 | have hs5 := sz10 hz5 | have hs5 := sz9 hz5 | have hs5 := sz8 hz5 | have hs5 := sz7 hz5 | have hs5 := sz6 hz5 | have hs5 := sz5 hz5 | have hs5 := sz4 hz5 | have hs5 := sz3 hz5 | have hs5 := sz2 hz5 | have hs5 := sz1 hz5)
      go_wp2
      go_returns
      refine ⟨congrArg (fun b => Ending.returned (.bool b)) (by have g1 := g1'.out; have g2 := g2'.out; rw [hr.out, Bool.eq_iff_iff]; first | (simp; done) | (simp; omega)), ?_⟩
      repeat' (first | (with_reducible exact Below.refl _ _) | (with_reducible refine kept_below ?_ (by assumption) ?_) | (with_reducible refine Below.alloc ?_ ?_ _) | (with_reducible refine Below.drew ?_) | (with_reducible refine Below.setCell ?_ ?_ _) | go_size)
    · have g2' := hideP (show q < y ∨ y + hh - 1 < q by omega)
      clear g1 g2
      go_enter Try.func47, Try.ntmps47
      go_wp2
      refine wp_region_wq (by kernel_rfl) (by kernel_rfl) ?_
      repeat (first | (refine wq_up _ (by first | exact wanted_free rfl | exact wanted_yes rfl rfl | exact wanted_no rfl rfl | exact wanted_lost rfl rfl) (by first | with_reducible rfl | decide) ?_; apply Exists.intro; refine ⟨fun w1 k1 => ?_, fun K hK => ?_⟩; (focus (have hc := Kept.cell k1; go_simp; first | done | rfl | (go_at_call 67; first | exact kept_call_same k1 (in_yes _ _ _ _ (by exact g1'.out.1) (by exact g1'.out.2)) | exact kept_call_same k1 (in_no _ _ _ _ (by exact g2'.out))))); (go_simp; refine hK _ ?_; clear hK K)) | (refine wq_off _ (by first | exact wanted_free rfl | exact wanted_yes rfl rfl | exact wanted_no rfl rfl | exact wanted_lost rfl rfl) (by first | with_reducible rfl | decide) ?_; intro K hK; go_simp; refine hK _ ?_; clear hK K))
      refine wq_nil ?_
      intro w5 k5
      replace k5 := Kept.below k5
      have hc5 := Kept.cell k5
      have hf5 := Kept.frozen k5
      have hz5 := k5.size
      try simp only [World.size_alloc] at hz5
      try simp only [World.size_setCell] at hz5
      try simp only [World.size_drew] at hz5
      try (first | have hs5 := sz12 hz5 | have hs5 := sz11 hz5 | have hs5 := sz10 hz5 | have hs5 := sz9 hz5 | have hs5 := sz8 hz5 | have hs5 := sz7 hz5 | have hs5 := sz6 hz5 | have hs5 := sz5 hz5 | have hs5 := sz4 hz5 | have hs5 := sz3 hz5 | have hs5 := sz2 hz5 | have hs5 := sz1 hz5)
      go_wp2
      go_returns
      refine ⟨congrArg (fun b => Ending.returned (.bool b)) (by have g1 := g1'.out; have g2 := g2'.out; rw [hr.out, Bool.eq_iff_iff]; first | (simp; done) | (simp; omega)), ?_⟩
      repeat' (first | (with_reducible exact Below.refl _ _) | (with_reducible refine kept_below ?_ (by assumption) ?_) | (with_reducible refine Below.alloc ?_ ?_ _) | (with_reducible refine Below.drew ?_) | (with_reducible refine Below.setCell ?_ ?_ _) | go_size)
  · have g1' := hideP (show p < x ∨ x + ww - 1 < p by omega)
    clear g1
    go_enter Try.func47, Try.ntmps47
    go_wp2
    refine wp_region_wq (by kernel_rfl) (by kernel_rfl) ?_
    repeat (first | (refine wq_up _ (by first | exact wanted_free rfl | exact wanted_yes rfl rfl | exact wanted_no rfl rfl | exact wanted_lost rfl rfl) (by first | with_reducible rfl | decide) ?_; apply Exists.intro; refine ⟨fun w1 k1 => ?_, fun K hK => ?_⟩; (focus (have hc := Kept.cell k1; go_simp; first | done | rfl | (go_at_call 67; exact kept_call_same k1 (in_no _ _ _ _ (by exact g1'.out))))); (go_simp; refine hK _ ?_; clear hK K)) | (refine wq_off _ (by first | exact wanted_free rfl | exact wanted_yes rfl rfl | exact wanted_no rfl rfl | exact wanted_lost rfl rfl) (by first | with_reducible rfl | decide) ?_; intro K hK; go_simp; refine hK _ ?_; clear hK K))
    refine wq_nil ?_
    intro w5 k5
    replace k5 := Kept.below k5
    have hc5 := Kept.cell k5
    have hf5 := Kept.frozen k5
    have hz5 := k5.size
    try simp only [World.size_alloc] at hz5
    try simp only [World.size_setCell] at hz5
    try simp only [World.size_drew] at hz5
    try (first | have hs5 := sz12 hz5 | have hs5 := sz11 hz5 | have hs5 := sz10 hz5 | have hs5 := sz9 hz5 | have hs5 := sz8 hz5 | have hs5 := sz7 hz5 | have hs5 := sz6 hz5 | have hs5 := sz5 hz5 | have hs5 := sz4 hz5 | have hs5 := sz3 hz5 | have hs5 := sz2 hz5 | have hs5 := sz1 hz5)
    go_wp2
    go_returns
    refine ⟨congrArg (fun b => Ending.returned (.bool b)) (by have g1 := g1'.out; rw [hr.out, Bool.eq_iff_iff]; first | (simp; done) | (simp; omega)), ?_⟩
    repeat' (first | (with_reducible exact Below.refl _ _) | (with_reducible refine kept_below ?_ (by assumption) ?_) | (with_reducible refine Below.alloc ?_ ?_ _) | (with_reducible refine Below.drew ?_) | (with_reducible refine Below.setCell ?_ ?_ _) | go_size)

end Go.Proofs.Ytbceacnadkhdoab
