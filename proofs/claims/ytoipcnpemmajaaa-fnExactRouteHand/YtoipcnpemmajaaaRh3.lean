/- A key and a click, by the program. -/
import Derived.Test.YtoipcnpemmajaaaRh2
namespace Go.Proofs.Ytoipcnpemmajaaa
open Go.RowKit Go.Maps
set_option linter.unusedVariables false

theorem kal5W (w : World) (o : Obj) : Below w.heap.size w (w.alloc o) := (Below.refl _ _).alloc (Nat.le_refl _) o
theorem rowW1 (w : World) (x : Int) (T : TypeId) (b : Nat) (hb : b = w.heap.size) : Row .i64 (w.alloc (.cells #[.int .i64 x] T)) b (b + 1) (some ⟨b, 0, none⟩) [x] := by
  subst hb
  refine .inr ⟨_, _, rfl, Nat.le_refl _, by omega, fun i hi => ?_⟩
  obtain rfl : i = 0 := by simpa using hi
  rw [World.cell?_alloc_new]; rfl
theorem rowW3 (w : World) (x y z : Int) (T : TypeId) (b : Nat) (hb : b = w.heap.size) : Row .i64 (w.alloc (.cells #[.int .i64 x, .int .i64 y, .int .i64 z] T)) b (b + 1) (some ⟨b, 0, none⟩) [x, y, z] := by
  subst hb
  refine .inr ⟨_, _, rfl, Nat.le_refl _, by omega, fun i hi => ?_⟩
  have : i = 0 ∨ i = 1 ∨ i = 2 := by simp at hi; omega
  rcases this with rfl | rfl | rfl
  all_goals (rw [World.cell?_alloc_new]; rfl)

set_option maxRecDepth 100000 in
set_option maxHeartbeats 800000 in
theorem typeKey_any (f k a b : Int) (so : Option Addr) (n sc : Nat) (w : World) (ha : byB a = true) :
    Calls Try.prog 68 #[.agg #[.bool false, .int .i64 f], .slice so n sc, .agg #[.int .i64 k, .int .i64 a, .int .i64 b]] w (RtA (keyR f a) w) := by
  have hc : ∀ (lo hi : Nat) (bo : Option Addr) (w1 : World), Row .i64 w1 lo hi bo [a] → hi ≤ w1.heap.size → Calls Try.prog 95 #[.agg #[.bool false, .int .i64 f], .int .i64 4, .slice bo 1 1] w1 (RtA (keyR f a) w1) := by
    intro lo hi bo w1 hR hh
    by_cases hf : f = 0
    · subst hf; exact toFocus_none false 4 bo 1 1 w1
    · rw [show keyR f a = ⟨0, f, 4, [a], false, f⟩ from if_neg hf]
      exact toFocus_some lo hi false f 4 bo 1 [a] w1 hf hR hh (by simp) (by simp [ha])
  generalize keyR f a = R at *
  have HC := hideP hc
  clear hc ha
  go_enter Try.func68, Try.ntmps68
  go_wp2_with fail
  refine Calls.mono (HC.out _ _ _ _ (rowW1 _ _ _ _ (by simp)) (by simp)) ?_
  rintro e w1 ⟨ao, ca, rfl, O1, k1⟩
  have X1 := hideP ((r6_new ((w.alloc (.cells #[.bool false, .int .i64 f] 25)).alloc (.cells #[.int .i64 k, .int .i64 a, .int .i64 b] 28)) (.int .i64 0) (.int .i64 0) (.int .i64 0) (.slice none 0 0) (.bool false) (.int .i64 0) 34).keep ((kal5W _ _).trans (k1.mono (by simp))) (by simp))
  have K1 : Hid (Below w.heap.size w w1) := hideP (Below.trans (by go_grown) (k1.mono (by simp; omega)))
  have O3 := hideP O1
  simp only [World.size_alloc] at X1 O3
  clear k1 O1 HC
  obtain ⟨x0, x1, x2, x3, x4, x5, xf, xl⟩ := X1.out
  go_wp2
  exact bodyPost_ret (v := .agg #[.int .i64 R.z, .int .i64 R.tg, .int .i64 R.kd, .slice ao R.D.length ca, .bool R.tr, .int .i64 R.fo]) (by simp [results, Try.results68, go_sem, x0, x1, x2, x3, x4, x5]) rfl (rt_six O3.out (by omega) (by omega) K1.out)
end Go.Proofs.Ytoipcnpemmajaaa
