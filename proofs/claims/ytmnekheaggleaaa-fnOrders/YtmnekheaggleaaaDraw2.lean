/- Labels that are drawn: whatever they are, the draw ends, and all old memory is as it was. -/
import Derived.Test.YtmnekheaggleaaaDraw1
namespace Go.Proofs.Ytmnekheaggleaaa
open Go.RowKit
set_option linter.unusedVariables false

theorem ints2 {x0 x1 : Int} : ∀ i, i < 2 → ∃ n, (#[Value.int .i64 x0, Value.int .i64 x1] : Array Value)[i]? = some (.int .i64 n) := by
  intro i hi
  have h : i = 0 ∨ i = 1 := by omega
  rcases h with rfl | rfl <;> exact ⟨_, rfl⟩
theorem ints3 {x0 x1 x2 : Int} : ∀ i, i < 3 → ∃ n, (#[Value.int .i64 x0, Value.int .i64 x1, Value.int .i64 x2] : Array Value)[i]? = some (.int .i64 n) := by
  intro i hi
  have h : i = 0 ∨ i = 1 ∨ i = 2 := by omega
  rcases h with rfl | rfl | rfl <;> exact ⟨_, rfl⟩
theorem ints4 {x0 x1 x2 x3 : Int} : ∀ i, i < 4 → ∃ n, (#[Value.int .i64 x0, Value.int .i64 x1, Value.int .i64 x2, Value.int .i64 x3] : Array Value)[i]? = some (.int .i64 n) := by
  intro i hi
  have h : i = 0 ∨ i = 1 ∨ i = 2 ∨ i = 3 := by omega
  rcases h with rfl | rfl | rfl | rfl <;> exact ⟨_, rfl⟩
theorem ints5 {x0 x1 x2 x3 x4 : Int} : ∀ i, i < 5 → ∃ n, (#[Value.int .i64 x0, Value.int .i64 x1, Value.int .i64 x2, Value.int .i64 x3, Value.int .i64 x4] : Array Value)[i]? = some (.int .i64 n) := by
  intro i hi
  have h : i = 0 ∨ i = 1 ∨ i = 2 ∨ i = 3 ∨ i = 4 := by omega
  rcases h with rfl | rfl | rfl | rfl | rfl <;> exact ⟨_, rfl⟩
theorem ints6 {x0 x1 x2 x3 x4 x5 : Int} : ∀ i, i < 6 → ∃ n, (#[Value.int .i64 x0, Value.int .i64 x1, Value.int .i64 x2, Value.int .i64 x3, Value.int .i64 x4, Value.int .i64 x5] : Array Value)[i]? = some (.int .i64 n) := by
  intro i hi
  have h : i = 0 ∨ i = 1 ∨ i = 2 ∨ i = 3 ∨ i = 4 ∨ i = 5 := by omega
  rcases h with rfl | rfl | rfl | rfl | rfl | rfl <;> exact ⟨_, rfl⟩

theorem pick_new (W : World) (B b : Nat) (a : Option Addr) (len cap : Nat) (f : Nat → Int) (t : Int) (C : Array Value) (T : TypeId) (k lb : Nat) (hlb : lb = W.heap.size) (hC : ∀ i, i < k → ∃ n, C[i]? = some (.int .i64 n))
    (S : Src W B b a len cap f t) (t0 : 0 ≤ t) (t1 : t ≤ 100000) (k0 : 1 ≤ k) (k1 : k ≤ 1000) :
    Calls Try.prog 36 #[.pointer (some ⟨b, 0, none⟩), .slice (some ⟨lb, 0, none⟩) k k] (W.alloc (.cells C T)) fun e w' => ∃ r : Int, e = .returned (.int .i64 r) ∧ Turn b W w' ∧ Src w' B b a len cap f (t + 1) := by
  subst hlb
  have hb : Below W.heap.size W (W.alloc (.cells C T)) := (Below.refl _ _).alloc (Nat.le_refl _) _
  have hlt := S.lt
  refine (pick_any (W.alloc (.cells C T)) B b a len cap f t W.heap.size k k (fun i => intOf (C[i]?.getD undef)) (S.grow hb) t0 t1 k0 k1 ⟨by simp, fun i hi => ?_⟩ (by omega)).mono ?_
  · obtain ⟨n, hn⟩ := hC i hi
    rw [World.cell?_alloc_new, hn]; simp [hn, intOf]
  · rintro e w' ⟨r, he, ht, hs⟩
    exact ⟨r, he, (Turn.of_below hb).trans ht, hs⟩

set_option maxHeartbeats 400000 in
theorem draw_any (w : World) (B b : Nat) (a : Option Addr) (len cap : Nat) (f : Nat → Int) (t : Int) (S : Src w B b a len cap f t) (t0 : 0 ≤ t) (t1 : t ≤ 90000) :
    Calls Try.prog 34 #[.pointer (some ⟨b, 0, none⟩)] w fun e w' => ∃ l p : Int, e = .returned (.agg #[.int .i64 l, .int .i64 p]) ∧ Turn b w w' ∧ Src w' B b a len cap f (t + 1 + 1) := by
  have hlt := S.lt
  have hne : ¬ w.heap.size = b := by omega
  go_enter Try.func34, Try.ntmps34
  go_wp2_with fail
  refine Calls.mono (pick_new _ B b a len cap f t _ _ _ _ (by simp) ints4 (by first | exact S | exact Src.grow S (by go_grown)) (by omega) (by omega) (by omega) (by omega)) ?_
  rintro e w1 ⟨r1, rfl, ht1, hs1⟩
  go_wp2_with fail
  refine Calls.mono (pick_new _ B b a len cap f (t + 1) _ _ _ _ (by simp) ints5 (by first | exact hs1 | exact Src.grow hs1 (by go_grown)) (by omega) (by omega) (by omega) (by omega)) ?_
  rintro e w2 ⟨r2, rfl, ht2, hs2⟩
  have ht12 := ht1.trans ht2
  have hc := ht12.cell
  have hf := ht12.frozen
  go_wp2
  refine bodyPost_ret (v := .agg #[.int .i64 r1, .int .i64 r2]) (by simp [results, Try.results34, go_sem, *]) rfl ⟨r1, r2, rfl, ?_, ?_⟩
  · repeat' (first | (with_reducible exact Turn.refl _ _) | (with_reducible refine Turn.setCell ?_ ?_ _) | (with_reducible refine Turn.alloc ?_ _) | (with_reducible refine Turn.drew ?_) | (with_reducible refine Turn.trans ?_ (by assumption)) | go_size)
  · repeat' (first | (with_reducible assumption) | (with_reducible refine Src.store ?_ _ _ ?_) | go_size)

set_option maxHeartbeats 800000 in
theorem bent_any (w : World) (B b : Nat) (a : Option Addr) (len cap : Nat) (f : Nat → Int) (t : Int) (S : Src w B b a len cap f t) (t0 : 0 ≤ t) (t1 : t ≤ 80000) :
    Calls Try.prog 31 #[.pointer (some ⟨b, 0, none⟩)] w fun e w' => ∃ l p t' : Int, e = .returned (.agg #[.int .i64 l, .int .i64 p]) ∧ Turn b w w' ∧ 0 ≤ t' ∧ t' ≤ t + 10 ∧ Src w' B b a len cap f t' := by
  have hlt := S.lt
  have hne : ¬ w.heap.size = b := by omega
  go_enter Try.func31, Try.ntmps31
  go_wp2_with fail
  refine Calls.mono (draw_any _ B b a len cap f t (by exact S.grow (by go_grown)) t0 (by omega)) ?_
  rintro e w1 ⟨l, p, rfl, ht1, hs1⟩
  have hz1 := ht1.size
  simp only [World.size_alloc] at hz1
  have hc1 := ht1.cell
  have hf1 := ht1.frozen
  have hb1 : w.heap.size < w1.heap.size ∧ ¬ w.heap.size = w1.heap.size ∧ w.heap.size ≤ w1.heap.size ∧ ¬ w1.heap.size = b := by have := hs1.lt; omega
  go_wp2_with fail
  refine Calls.mono (chance_any _ B b a len cap f (t + 1 + 1) 10 (by exact hs1.grow (by go_grown)) (by omega) (by omega) (by omega) (by omega)) ?_
  rintro e w2 ⟨r, rfl, ht2, hs2⟩
  have hz2 := ht2.size
  simp only [World.size_alloc] at hz2
  have hc2 := ht2.cell
  have hf2 := ht2.frozen
  have hb2 : w.heap.size < w2.heap.size ∧ ¬ w.heap.size = w2.heap.size ∧ w.heap.size ≤ w2.heap.size ∧ w1.heap.size < w2.heap.size ∧ w1.heap.size ≤ w2.heap.size ∧ ¬ w1.heap.size = w2.heap.size ∧ ¬ w2.heap.size = b := by have := hs2.lt; omega
  have T2 := (ht1.alloc (.cells #[.int .i64 l, .int .i64 p] 25)).trans ht2
  cases r
  · have g0 : w2.cell? ⟨w.heap.size, 0, none⟩ = some (.int .i64 0) := by rw [T2.cell _ _ (by simp) hne]; simp
    have g1 : w2.cell? ⟨w.heap.size, 1, none⟩ = some (.int .i64 0) := by rw [T2.cell _ _ (by simp) hne]; simp
    clear T2
    go_wp2
    refine bodyPost_ret (v := .agg #[.int .i64 l, .int .i64 p]) (by simp [results, Try.results31, go_sem, *]) rfl ⟨l, p, t + 1 + 1 + 1, rfl, ?_, by omega, by omega, ?_⟩
    · repeat' (first | (with_reducible exact Turn.refl _ _) | (with_reducible refine Turn.setCell ?_ ?_ _) | (with_reducible refine Turn.alloc ?_ _) | (with_reducible refine Turn.drew ?_) | (with_reducible refine Turn.trans ?_ (by assumption)) | go_size)
    · repeat' (first | (with_reducible assumption) | (with_reducible refine Src.store ?_ _ _ ?_) | go_size)
  ·
    go_wp2_with fail
    refine Calls.mono (pick_new _ B b a len cap f (t + 1 + 1 + 1) _ _ _ _ (by simp) ints3 (by first | exact hs2 | exact Src.grow hs2 (by go_grown)) (by omega) (by omega) (by omega) (by omega)) ?_
    rintro e w3 ⟨r3, rfl, ht3, hs3⟩
    go_wp2_with fail
    refine Calls.mono (pick_new _ B b a len cap f (t + 1 + 1 + 1 + 1) _ _ _ _ (by simp) ints3 (by first | exact hs3 | exact Src.grow hs3 (by go_grown)) (by omega) (by omega) (by omega) (by omega)) ?_
    rintro e w4 ⟨r4, rfl, ht4, hs4⟩
    have ht34 := ht3.trans ht4
    have hc3 := ht34.cell
    have hf3 := ht34.frozen
    have hz3 := ht34.size
    have hb3 : w.heap.size < w4.heap.size ∧ ¬ w.heap.size = w4.heap.size ∧ w.heap.size ≤ w4.heap.size ∧ w1.heap.size < w4.heap.size := by omega
    have T4 := T2.trans ht34
    have g0 : w4.cell? ⟨w.heap.size, 0, none⟩ = some (.int .i64 0) := by rw [T4.cell _ _ (by simp) hne]; simp
    have g1 : w4.cell? ⟨w.heap.size, 1, none⟩ = some (.int .i64 0) := by rw [T4.cell _ _ (by simp) hne]; simp
    clear T4 T2 ht34
    go_wp2
    clear hc1 hc2 hc3
    refine bodyPost_ret (v := .agg #[.int .i64 r3, .int .i64 r4]) (by simp [results, Try.results31, go_sem, *]) rfl ⟨r3, r4, t + 1 + 1 + 1 + 1 + 1, rfl, ?_, by omega, by omega, ?_⟩
    · repeat' (first | (with_reducible exact Turn.refl _ _) | (with_reducible refine Turn.setCell ?_ ?_ _) | (with_reducible refine Turn.alloc ?_ _) | (with_reducible refine Turn.drew ?_) | (with_reducible refine Turn.trans ?_ (by assumption)) | go_size)
    · repeat' (first | (with_reducible assumption) | (with_reducible refine Src.store ?_ _ _ ?_) | go_size)

set_option maxHeartbeats 800000 in
theorem two_any (w : World) (a : Option Addr) (len cap : Nat) (f : Nat → Int) (hB : Bytes w w.heap.size a len f) (hl : len ≤ 1048576) :
    Calls Try.prog 18 #[.slice a len cap] w fun e w' => ∃ l1 p1 l2 p2 : Int, e = .returned (.tuple #[.agg #[.int .i64 l1, .int .i64 p1], .agg #[.int .i64 l2, .int .i64 p2]]) ∧ Below w.heap.size w w' := by
  go_enter Try.func18, Try.ntmps18
  have hsz : Below w.heap.size w (((w.alloc (.cells #[.int .i64 0, .int .i64 0] 25)).alloc (.cells #[.int .i64 0, .int .i64 0] 25)).alloc (.cells #[.slice a len cap, .int .i64 0] 48)) := by go_grown
  have S0 : Src (((w.alloc (.cells #[.int .i64 0, .int .i64 0] 25)).alloc (.cells #[.int .i64 0, .int .i64 0] 25)).alloc (.cells #[.slice a len cap, .int .i64 0] 48)) w.heap.size (w.heap.size + 1 + 1) a len cap f 0 :=
    ⟨by simp, by omega, by simp [go_sem], by simp [go_sem], by simp [go_sem], hB.stay (Nat.le_refl _) (Turn.of_below (b := w.heap.size) hsz) (Nat.le_refl _), hl⟩
  go_wp2_with (first | (go_at_call 30; go_in))
  refine Calls.mono (bent_any _ w.heap.size (w.heap.size + 1 + 1) a len cap f 0 S0 (by omega) (by omega)) ?_
  rintro e w1 ⟨l1, p1, t1, rfl, ht1, t10, t11, hs1⟩
  have hc1 := ht1.cell
  have hf1 := ht1.frozen
  have hz1 := ht1.size
  simp only [World.size_alloc] at hz1
  go_wp2_with fail
  refine Calls.mono (bent_any _ w.heap.size (w.heap.size + 1 + 1) a len cap f t1 hs1 (by omega) (by omega)) ?_
  rintro e w2 ⟨l2, p2, t2, rfl, ht2, t20, t21, hs2⟩
  have T2 := ht1.trans ht2
  clear hc1 hf1
  have hc1 := T2.cell
  have hf1 := T2.frozen
  have hz2 := T2.size
  simp only [World.size_alloc] at hz2
  have g0 : w2.cell? ⟨w.heap.size, 0, none⟩ = some (.int .i64 0) := by rw [T2.cell _ _ (by simp; omega) (by omega)]; simp [go_sem]
  have g1 : w2.cell? ⟨w.heap.size, 1, none⟩ = some (.int .i64 0) := by rw [T2.cell _ _ (by simp; omega) (by omega)]; simp [go_sem]
  have g2 : w2.cell? ⟨w.heap.size + 1, 0, none⟩ = some (.int .i64 0) := by rw [T2.cell _ _ (by simp) (by omega)]; simp [go_sem]
  have g3 : w2.cell? ⟨w.heap.size + 1, 1, none⟩ = some (.int .i64 0) := by rw [T2.cell _ _ (by simp) (by omega)]; simp [go_sem]
  have z0 : w2.frozen? ⟨w.heap.size, 0, none⟩ = false := by rw [T2.frozen _ _ (by simp; omega) (by omega)]; simp [go_sem]
  have z1 : w2.frozen? ⟨w.heap.size, 1, none⟩ = false := by rw [T2.frozen _ _ (by simp; omega) (by omega)]; simp [go_sem]
  have z2 : w2.frozen? ⟨w.heap.size + 1, 0, none⟩ = false := by rw [T2.frozen _ _ (by simp) (by omega)]; simp [go_sem]
  have z3 : w2.frozen? ⟨w.heap.size + 1, 1, none⟩ = false := by rw [T2.frozen _ _ (by simp) (by omega)]; simp [go_sem]
  clear hc1 hf1
  go_wp2
  refine bodyPost_ret (v := .tuple #[.agg #[.int .i64 l1, .int .i64 p1], .agg #[.int .i64 l2, .int .i64 p2]]) (by simp [results, Try.results18, go_sem, *]) rfl ⟨l1, p1, l2, p2, rfl, ?_⟩
  have hb := Turn.below hsz (by omega) (by simp; omega) T2
  clear g0 g1 g2 g3 z0 z1 z2 z3
  repeat' (first | exact hb | (with_reducible refine Below.setCell ?_ ?_ _) | go_size)

set_option maxHeartbeats 800000 in
theorem dj_any (w : World) (a : Option Addr) (len cap : Nat) (f : Nat → Int) (hB : Bytes w w.heap.size a len f) (hl : len ≤ 1048576) :
    Calls Try.prog 6 #[.slice a len cap] w fun e w' => ∃ l1 p1 l2 p2 : Int, e = .returned (.tuple #[.agg #[.int .i64 l1, .int .i64 p1], .agg #[.int .i64 l2, .int .i64 p2]]) ∧ Below w.heap.size w w' := by
  have hsz : Below w.heap.size w ((w.alloc (.cells #[.int .i64 0, .int .i64 0] 25)).alloc (.cells #[.int .i64 0, .int .i64 0] 25)) := by go_grown
  have hB' : Bytes ((w.alloc (.cells #[.int .i64 0, .int .i64 0] 25)).alloc (.cells #[.int .i64 0, .int .i64 0] 25)) ((w.alloc (.cells #[.int .i64 0, .int .i64 0] 25)).alloc (.cells #[.int .i64 0, .int .i64 0] 25)).heap.size a len f := by
    rcases hB.stay (Nat.le_refl _) (Turn.of_below (b := w.heap.size) hsz) (Nat.le_refl _) with h | ⟨xb, xo, ha, hx, hc⟩
    · exact .inl h
    · exact .inr ⟨xb, xo, ha, by simp; omega, hc⟩
  go_enter Try.func6, Try.ntmps6
  go_wp2_with fail
  refine Calls.mono (two_any _ a len cap f hB' hl) ?_
  rintro e w1 ⟨l1, p1, l2, p2, rfl, k1⟩
  have hc1 := Kept.cell k1
  have hf1 := Kept.frozen k1
  have hz1 := k1.size
  simp only [World.size_alloc] at hz1
  have g0 : w1.cell? ⟨w.heap.size, 0, none⟩ = some (.int .i64 0) := by rw [Kept.cell k1 _ _ (by simp; omega)]; simp [go_sem]
  have g1 : w1.cell? ⟨w.heap.size, 1, none⟩ = some (.int .i64 0) := by rw [Kept.cell k1 _ _ (by simp; omega)]; simp [go_sem]
  have g2 : w1.cell? ⟨w.heap.size + 1, 0, none⟩ = some (.int .i64 0) := by rw [Kept.cell k1 _ _ (by simp)]; simp [go_sem]
  have g3 : w1.cell? ⟨w.heap.size + 1, 1, none⟩ = some (.int .i64 0) := by rw [Kept.cell k1 _ _ (by simp)]; simp [go_sem]
  go_wp2
  clear hc1
  refine bodyPost_ret (v := .tuple #[.agg #[.int .i64 l1, .int .i64 p1], .agg #[.int .i64 l2, .int .i64 p2]]) (by simp [results, Try.results6, go_sem, *]) rfl ⟨l1, p1, l2, p2, rfl, ?_⟩
  clear hf1 g0 g1 g2 g3
  repeat' (first | (with_reducible exact Below.refl _ _) | (with_reducible refine kept_below ?_ (by assumption) ?_) | (with_reducible refine Below.alloc ?_ ?_ _) | (with_reducible refine Below.drew ?_) | (with_reducible refine Below.setCell ?_ ?_ _) | go_size)

set_option maxHeartbeats 800000 in
theorem dd_any (w : World) (a : Option Addr) (len cap : Nat) (f : Nat → Int) (hB : Bytes w w.heap.size a len f) (hl : len ≤ 1048576) :
    Calls Try.prog 11 #[.slice a len cap] w fun e w' => ∃ l1 p1 l2 p2 : Int, e = .returned (.tuple #[.agg #[.int .i64 l1, .int .i64 p1], .agg #[.int .i64 l2, .int .i64 p2]]) ∧ Below w.heap.size w w' := by
  have hsz : Below w.heap.size w ((w.alloc (.cells #[.int .i64 0, .int .i64 0] 25)).alloc (.cells #[.int .i64 0, .int .i64 0] 25)) := by go_grown
  have hB' : Bytes ((w.alloc (.cells #[.int .i64 0, .int .i64 0] 25)).alloc (.cells #[.int .i64 0, .int .i64 0] 25)) ((w.alloc (.cells #[.int .i64 0, .int .i64 0] 25)).alloc (.cells #[.int .i64 0, .int .i64 0] 25)).heap.size a len f := by
    rcases hB.stay (Nat.le_refl _) (Turn.of_below (b := w.heap.size) hsz) (Nat.le_refl _) with h | ⟨xb, xo, ha, hx, hc⟩
    · exact .inl h
    · exact .inr ⟨xb, xo, ha, by simp; omega, hc⟩
  go_enter Try.func11, Try.ntmps11
  go_wp2_with fail
  refine Calls.mono (two_any _ a len cap f hB' hl) ?_
  rintro e w1 ⟨l1, p1, l2, p2, rfl, k1⟩
  have hc1 := Kept.cell k1
  have hf1 := Kept.frozen k1
  have hz1 := k1.size
  simp only [World.size_alloc] at hz1
  have g0 : w1.cell? ⟨w.heap.size, 0, none⟩ = some (.int .i64 0) := by rw [Kept.cell k1 _ _ (by simp; omega)]; simp [go_sem]
  have g1 : w1.cell? ⟨w.heap.size, 1, none⟩ = some (.int .i64 0) := by rw [Kept.cell k1 _ _ (by simp; omega)]; simp [go_sem]
  have g2 : w1.cell? ⟨w.heap.size + 1, 0, none⟩ = some (.int .i64 0) := by rw [Kept.cell k1 _ _ (by simp)]; simp [go_sem]
  have g3 : w1.cell? ⟨w.heap.size + 1, 1, none⟩ = some (.int .i64 0) := by rw [Kept.cell k1 _ _ (by simp)]; simp [go_sem]
  go_wp2
  clear hc1
  refine bodyPost_ret (v := .tuple #[.agg #[.int .i64 l1, .int .i64 p1], .agg #[.int .i64 l2, .int .i64 p2]]) (by simp [results, Try.results11, go_sem, *]) rfl ⟨l1, p1, l2, p2, rfl, ?_⟩
  clear hf1 g0 g1 g2 g3
  repeat' (first | (with_reducible exact Below.refl _ _) | (with_reducible refine kept_below ?_ (by assumption) ?_) | (with_reducible refine Below.alloc ?_ ?_ _) | (with_reducible refine Below.drew ?_) | (with_reducible refine Below.setCell ?_ ?_ _) | go_size)

end Go.Proofs.Ytmnekheaggleaaa
