/- Requests in memory: copied, held against each other, marked, by the laws' own functions. -/
import Derived.Test.YtbceacnadkhdoabDoorRowI
import Derived.Test.YtbceacnadkhdoabDoorRowB
namespace Go.Proofs.YtbceacnadkhdoabDoor
open Go.RowKit
set_option linter.unusedVariables false

/-- A request's two lists, each in blocks of its own, and writable. -/
structure Req (w : World) (lo mid hi : Nat) (ao bo : Option Addr) (A D : List Int) : Prop where
  lm : lo ≤ mid
  mh : mid ≤ hi
  hs : hi ≤ w.heap.size
  args : Wrt .i64 w lo mid ao A
  data : Wrt .u8 w mid hi bo D
theorem Req.keep {w w' : World} {lo mid hi B : Nat} {ao bo : Option Addr} {A D : List Int} (h : Req w lo mid hi ao bo A D) (k : Below B w w') (hb : hi ≤ B) : Req w' lo mid hi ao bo A D :=
  ⟨h.lm, h.mh, Nat.le_trans h.hs k.size, h.args.keep k (Nat.le_trans h.mh hb), h.data.keep k hb⟩
theorem Req.far {w w' : World} {lo mid hi lo' hi' : Nat} {ao bo : Option Addr} {A D : List Int} (h : Req w lo mid hi ao bo A D) (f : Far lo' hi' w w') (hd : hi ≤ lo' ∨ hi' ≤ lo) : Req w' lo mid hi ao bo A D :=
  ⟨h.lm, h.mh, Nat.le_trans h.hs f.size, h.args.far f (by have := h.mh; omega) (by have := h.mh; have := h.hs; omega), h.data.far f (by have := h.lm; omega) h.hs⟩

theorem toI_ex (lo hi : Nat) (ao : Option Addr) (ca : Nat) (L : List Int) (w : World) (ha : Row .i64 w lo hi ao L) (h1 : hi ≤ w.heap.size) (hl : L.length ≤ 1048576) :
    Calls Tryd.prog 14 #[.slice ao L.length ca] w fun e w' => ∃ ao', e = .returned (.slice ao' L.length L.length) ∧ Below w.heap.size w w' ∧ Wrt .i64 w' w.heap.size w'.heap.size ao' L :=
  (toI_any lo hi ao ca L w ha h1 hl).mono fun e w' ⟨he, hb, hs, hw⟩ => ⟨_, he, hb, hw.wide (Nat.le_refl _) hs⟩
theorem toB_ex (lo hi : Nat) (ao : Option Addr) (ca : Nat) (L : List Int) (w : World) (ha : Row .u8 w lo hi ao L) (h1 : hi ≤ w.heap.size) (hl : L.length ≤ 1048576) :
    Calls Tryd.prog 15 #[.slice ao L.length ca] w fun e w' => ∃ ao', e = .returned (.slice ao' L.length L.length) ∧ Below w.heap.size w w' ∧ Wrt .u8 w' w.heap.size w'.heap.size ao' L :=
  (toB_any lo hi ao ca L w ha h1 hl).mono fun e w' ⟨he, hb, hs, hw⟩ => ⟨_, he, hb, hw.wide (Nat.le_refl _) hs⟩

set_option maxHeartbeats 1000000 in
theorem toReq_any (lo hi : Nat) (k : Int) (ao bo : Option Addr) (ca cb : Nat) (A D : List Int) (w : World) (ha : Row .i64 w lo hi ao A) (hb : Row .u8 w lo hi bo D) (h1 : hi ≤ w.heap.size) (hA : A.length ≤ 1048576) (hD : D.length ≤ 1048576) :
    Calls Tryd.prog 6 #[.agg #[.int .i64 k, .slice ao A.length ca, .slice bo D.length cb]] w fun e w' => ∃ ao' bo' mid, e = .returned (.agg #[.int .i64 k, .slice ao' A.length A.length, .slice bo' D.length D.length]) ∧ Below w.heap.size w w' ∧ Req w' w.heap.size mid w'.heap.size ao' bo' A D := by
  have HA := hideP ha
  have HB := hideP hb
  clear ha hb
  go_enter Tryd.func6, Tryd.ntmps6
  go_wp2_with fail
  refine Calls.mono (toI_ex lo hi ao ca A _ (HA.out.keep (B := w.heap.size) (by go_grown) h1) (by simp; omega) hA) ?_
  rintro e w1 ⟨ao1, rfl, k1, W1⟩
  have HW1 := hideP W1
  have HK1 : Hid (Below w.heap.size w w1) := hideP (Below.trans (by go_grown) (k1.mono (by simp; omega)))
  clear W1
  replace k1 := Kept.below k1
  have hc1 := Kept.cell k1
  have hf1 := Kept.frozen k1
  have hz1 := k1.size
  try simp only [World.size_alloc] at hz1
  try simp only [World.size_setCell] at hz1
  try simp only [World.size_drew] at hz1
  have hb1_0 : w.heap.size < w1.heap.size ∧ w.heap.size ≤ w1.heap.size ∧ w.heap.size ≤ w1.heap.size + 1 ∧ ¬ w.heap.size = w1.heap.size ∧ ¬ w.heap.size = w1.heap.size + 1 := by omega
  have hb1_1 : w.heap.size + 1 < w1.heap.size ∧ w.heap.size + 1 ≤ w1.heap.size ∧ w.heap.size + 1 ≤ w1.heap.size + 1 ∧ ¬ w.heap.size + 1 = w1.heap.size ∧ ¬ w.heap.size + 1 = w1.heap.size + 1 := by omega
  have hb1_2 : w.heap.size + 1 + 1 < w1.heap.size ∧ w.heap.size + 1 + 1 ≤ w1.heap.size ∧ w.heap.size + 1 + 1 ≤ w1.heap.size + 1 ∧ ¬ w.heap.size + 1 + 1 = w1.heap.size ∧ ¬ w.heap.size + 1 + 1 = w1.heap.size + 1 := by omega
  go_wp2_with fail
  refine Calls.mono (toB_ex lo hi bo cb D _ ((HB.out.keep HK1.out h1).set _ _ (by right; simp; omega)) (by simp; omega) hD) ?_
  rintro e w2 ⟨bo2, rfl, k2, W2⟩
  have HW2 : Hid (Wrt .u8 w2 w1.heap.size w2.heap.size bo2 D) := hideP (W2.wide (by simp) (Nat.le_refl _))
  have HA2 : Hid (Wrt .i64 w2 (w.heap.size + 1 + 1 + 1) w1.heap.size ao1 A) := hideP (((HW1.out.set _ _ (by left; simp)).keep k2 (by simp)).wide (by simp) (Nat.le_refl _))
  have HK2 : Hid (Below w.heap.size w w2) := hideP ((HK1.out.setCell (p := ⟨w.heap.size + 1 + 1, 1, none⟩) (by simp; omega) (.slice ao1 A.length A.length)).trans (k2.mono (by simp; omega)))
  clear W2
  replace k2 := Kept.below k2
  have hc2 := Kept.cell k2
  have hf2 := Kept.frozen k2
  have hz2 := k2.size
  try simp only [World.size_alloc] at hz2
  try simp only [World.size_setCell] at hz2
  try simp only [World.size_drew] at hz2
  have hb2_0 : w.heap.size < w2.heap.size ∧ w.heap.size ≤ w2.heap.size ∧ w.heap.size ≤ w2.heap.size + 1 ∧ ¬ w.heap.size = w2.heap.size ∧ ¬ w.heap.size = w2.heap.size + 1 := by omega
  have hb2_1 : w.heap.size + 1 < w2.heap.size ∧ w.heap.size + 1 ≤ w2.heap.size ∧ w.heap.size + 1 ≤ w2.heap.size + 1 ∧ ¬ w.heap.size + 1 = w2.heap.size ∧ ¬ w.heap.size + 1 = w2.heap.size + 1 := by omega
  have hb2_2 : w.heap.size + 1 + 1 < w2.heap.size ∧ w.heap.size + 1 + 1 ≤ w2.heap.size ∧ w.heap.size + 1 + 1 ≤ w2.heap.size + 1 ∧ ¬ w.heap.size + 1 + 1 = w2.heap.size ∧ ¬ w.heap.size + 1 + 1 = w2.heap.size + 1 := by omega
  go_wp2
  refine bodyPost_ret (v := .agg #[.int .i64 k, .slice ao1 A.length A.length, .slice bo2 D.length D.length]) (by simp [results, Tryd.results6, go_sem, *]) rfl ⟨ao1, bo2, w1.heap.size, rfl, ?_, ?_⟩
  · repeat' (first | exact HK2.out | (with_reducible refine Below.setCell ?_ ?_ _) | go_size)
  · refine ⟨by omega, by simp; omega, by simp, ?_, ?_⟩
    · refine Wrt.wide (lo := w.heap.size + 1 + 1 + 1) (hi := w1.heap.size) ?_ (by omega) (Nat.le_refl _)
      repeat (refine Wrt.set ?_ _ _ (by dsimp only; omega))
      exact HA2.out
    · simp only [World.size_setCell]
      repeat (refine Wrt.set ?_ _ _ (by dsimp only; omega))
      exact HW2.out

end Go.Proofs.YtbceacnadkhdoabDoor
