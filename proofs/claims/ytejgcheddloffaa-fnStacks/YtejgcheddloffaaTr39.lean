/- What is drawn in chapter 2: a rectangle, a bent one, two of them, a list, a point. -/
import Derived.Test.YtejgcheddloffaaTr27
import Derived.Test.YtejgcheddloffaaTr25
import Derived.Test.YtejgcheddloffaaTr38
namespace Go.Proofs.Ytejgcheddloffaa
open Go.RowKit
set_option linter.unusedVariables false

theorem Src.fresh (w W : World) (b : Nat) (a : Option Addr) (len cap : Nat) (f : Nat → Int) (T : TypeId) (hB : Bytes w w.heap.size a len f) (hl : len ≤ 1048576) (hW : Below w.heap.size w W) (hb : b = W.heap.size) :
    Src (W.alloc (.cells #[.slice a len cap, .int .i64 0] T)) w.heap.size b a len cap f 0 := by
  subst hb
  exact ⟨by simp, hW.size, by simp [go_sem], by simp [go_sem], by simp [go_sem], hB.stay (Nat.le_refl _) (Turn.of_below (b := w.heap.size) (hW.alloc hW.size _)) (Nat.le_refl _), hl⟩

theorem in4 (x0 x1 x2 x3 : Int) : ∀ i, i < 4 → ∃ n, (#[Value.int .i64 x0, Value.int .i64 x1, Value.int .i64 x2, Value.int .i64 x3] : Array Value)[i]? = some (.int .i64 n) := by
  intro i hi
  have h : i = 0 ∨ i = 1 ∨ i = 2 ∨ i = 3 := by omega
  rcases h with rfl | rfl | rfl | rfl <;> exact ⟨_, rfl⟩
theorem in3 (x0 x1 x2 : Int) : ∀ i, i < 3 → ∃ n, (#[Value.int .i64 x0, Value.int .i64 x1, Value.int .i64 x2] : Array Value)[i]? = some (.int .i64 n) := by
  intro i hi
  have h : i = 0 ∨ i = 1 ∨ i = 2 := by omega
  rcases h with rfl | rfl | rfl <;> exact ⟨_, rfl⟩

theorem pick_c (W : World) (B b : Nat) (a : Option Addr) (len cap : Nat) (f : Nat → Int) (t : Int) (C : Array Value) (T : TypeId) (k lb : Nat) (hlb : lb = W.heap.size) (hC : ∀ i, i < k → ∃ n, C[i]? = some (.int .i64 n))
    (S : Src W B b a len cap f t) (t0 : 0 ≤ t) (t1 : t ≤ 100000) (k0 : 1 ≤ k) (k1 : k ≤ 1000) :
    Calls Try.prog 20 #[.pointer (some ⟨b, 0, none⟩), .slice (some ⟨lb, 0, none⟩) k k] (W.alloc (.cells C T)) fun e w' => ∃ r : Int, e = .returned (.int .i64 r) ∧ Turn b W w' ∧ Src w' B b a len cap f (t + 1) := by
  subst hlb
  have hb : Below W.heap.size W (W.alloc (.cells C T)) := (Below.refl _ _).alloc (Nat.le_refl _) _
  have hlt := S.lt
  refine (pick_any (W.alloc (.cells C T)) B b a len cap f t W.heap.size k k (fun i => intOf (C[i]?.getD undef)) (S.grow hb) t0 t1 k0 k1 ⟨by simp, fun i hi => ?_⟩ (by omega)).mono ?_
  · obtain ⟨n, hn⟩ := hC i hi
    rw [World.cell?_alloc_new, hn]; simp [hn, intOf]
  · rintro e w' ⟨r, he, ht, hs⟩
    exact ⟨r, he, (Turn.of_below hb).trans ht, hs⟩

set_option maxHeartbeats 1000000 in
theorem rdraw_any (w : World) (B b : Nat) (a : Option Addr) (len cap : Nat) (f : Nat → Int) (t : Int) (S : Src w B b a len cap f t) (t0 : 0 ≤ t) (t1 : t ≤ 90000) :
    Calls Try.prog 49 #[.pointer (some ⟨b, 0, none⟩)] w fun e w' => ∃ (r : Rc) (t' : Int), e = .returned (.agg #[.int .i64 r.x, .int .i64 r.y, .int .i64 r.w, .int .i64 r.h]) ∧ Turn b w w' ∧ 0 ≤ t' ∧ t' ≤ t + 10 ∧ Src w' B b a len cap f t' := by
  have hlt := S.lt
  have hne : ¬ w.heap.size = b := by omega
  go_enter Try.func49, Try.ntmps49
  go_wp2_with fail
  refine Calls.mono (next_any _ B b a len cap f t 12 (S.grow (by go_grown)) (by omega) (by omega) (by omega) (by omega)) ?_
  rintro e w1 ⟨r1, rfl, p1, q1, ht1, hs1⟩
  go_wp2_with fail
  refine Calls.mono (next_any _ B b a len cap f (t + 1) 8 hs1 (by omega) (by omega) (by omega) (by omega)) ?_
  rintro e w2 ⟨r2, rfl, p2, q2, ht2, hs2⟩
  go_wp2_with fail
  refine Calls.mono (next_any _ B b a len cap f (t + 1 + 1) 6 hs2 (by omega) (by omega) (by omega) (by omega)) ?_
  rintro e w3 ⟨r3, rfl, p3, q3, ht3, hs3⟩
  go_wp2_with fail
  refine Calls.mono (next_any _ B b a len cap f (t + 1 + 1 + 1) 5 hs3 (by omega) (by omega) (by omega) (by omega)) ?_
  rintro e w4 ⟨r4, rfl, p4, q4, ht4, hs4⟩
  have T4 := ((ht1.trans ht2).trans ht3).trans ht4
  have hz := T4.size
  simp only [World.size_alloc] at hz
  have g0 : w4.cell? ⟨w.heap.size, 0, none⟩ = some (.int .i64 0) := by rw [T4.cell _ _ (by simp) hne]; simp
  have g1 : w4.cell? ⟨w.heap.size, 1, none⟩ = some (.int .i64 0) := by rw [T4.cell _ _ (by simp) hne]; simp
  have g2 : w4.cell? ⟨w.heap.size, 2, none⟩ = some (.int .i64 0) := by rw [T4.cell _ _ (by simp) hne]; simp
  have g3 : w4.cell? ⟨w.heap.size, 3, none⟩ = some (.int .i64 0) := by rw [T4.cell _ _ (by simp) hne]; simp
  have z0 : w4.frozen? ⟨w.heap.size, 0, none⟩ = false := by rw [T4.frozen _ _ (by simp) hne]; simp
  have z1 : w4.frozen? ⟨w.heap.size, 1, none⟩ = false := by rw [T4.frozen _ _ (by simp) hne]; simp
  have z2 : w4.frozen? ⟨w.heap.size, 2, none⟩ = false := by rw [T4.frozen _ _ (by simp) hne]; simp
  have z3 : w4.frozen? ⟨w.heap.size, 3, none⟩ = false := by rw [T4.frozen _ _ (by simp) hne]; simp
  have hl4 : w.heap.size < w4.heap.size := by omega
  have HT := hideP ((Turn.of_below (b := b) (w := w) (by go_grown)).trans T4)
  have HS := hideP hs4
  clear T4 ht1 ht2 ht3 ht4 hs1 hs2 hs3 hs4 S
  go_wp2
  refine bodyPost_ret (v := .agg #[.int .i64 (r1 - 2), .int .i64 (r2 - 1), .int .i64 (1 + r3), .int .i64 (1 + r4)]) (by simp [results, Try.results49, go_sem, *]; done) rfl ⟨⟨r1 - 2, r2 - 1, 1 + r3, 1 + r4⟩, t + 1 + 1 + 1 + 1, rfl, ?_, by omega, by omega, ?_⟩
  · have h0 := HT.out
    clear g0 g1 g2 g3 z0 z1 z2 z3
    repeat' (first | exact h0 | (with_reducible refine Turn.setCell ?_ ?_ _) | go_size)
  · have h0 := HS.out
    clear g0 g1 g2 g3 z0 z1 z2 z3
    repeat' (first | exact h0 | (with_reducible refine Src.store ?_ _ _ ?_) | go_size)

/-- A rectangle's cells, which may be written. -/
structure Bx4 (w : World) (b : Nat) (x y ww hh : Int) : Prop where
  lt : b < w.heap.size
  c0 : w.cell? ⟨b, 0, none⟩ = some (.int .i64 x)
  c1 : w.cell? ⟨b, 1, none⟩ = some (.int .i64 y)
  c2 : w.cell? ⟨b, 2, none⟩ = some (.int .i64 ww)
  c3 : w.cell? ⟨b, 3, none⟩ = some (.int .i64 hh)
  z0 : w.frozen? ⟨b, 0, none⟩ = false
  z1 : w.frozen? ⟨b, 1, none⟩ = false
  z2 : w.frozen? ⟨b, 2, none⟩ = false
  z3 : w.frozen? ⟨b, 3, none⟩ = false
theorem Bx4.turn {w w' : World} {b c : Nat} {x y ww hh : Int} (h : Bx4 w b x y ww hh) (t : Turn c w w') (hc : ¬ b = c) : Bx4 w' b x y ww hh :=
  ⟨Nat.lt_of_lt_of_le h.lt t.size, (t.cell b 0 h.lt hc).trans h.c0, (t.cell b 1 h.lt hc).trans h.c1, (t.cell b 2 h.lt hc).trans h.c2, (t.cell b 3 h.lt hc).trans h.c3, (t.frozen b 0 h.lt hc).trans h.z0, (t.frozen b 1 h.lt hc).trans h.z1, (t.frozen b 2 h.lt hc).trans h.z2, (t.frozen b 3 h.lt hc).trans h.z3⟩
theorem Bx4.new (w : World) (x y ww hh : Int) (T : TypeId) (n : Nat) (h : n = w.heap.size) : Bx4 (w.alloc (.cells #[.int .i64 x, .int .i64 y, .int .i64 ww, .int .i64 hh] T)) n x y ww hh := by
  subst h
  exact ⟨by simp, by simp [go_sem], by simp [go_sem], by simp [go_sem], by simp [go_sem], by simp [go_sem], by simp [go_sem], by simp [go_sem], by simp [go_sem]⟩
theorem Bx4.grow {w w' : World} {b : Nat} {x y ww hh : Int} (h : Bx4 w b x y ww hh) (k : Below w.heap.size w w') : Bx4 w' b x y ww hh := h.turn (c := w.heap.size) (Turn.of_below k) (by have := h.lt; omega)

set_option maxHeartbeats 2000000 in
theorem rbent_any (w : World) (B b : Nat) (a : Option Addr) (len cap : Nat) (f : Nat → Int) (t : Int) (S : Src w B b a len cap f t) (t0 : 0 ≤ t) (t1 : t ≤ 80000) :
    Calls Try.prog 21 #[.pointer (some ⟨b, 0, none⟩)] w fun e w' => ∃ (r : Rc) (t' : Int), e = .returned (.agg #[.int .i64 r.x, .int .i64 r.y, .int .i64 r.w, .int .i64 r.h]) ∧ Turn b w w' ∧ 0 ≤ t' ∧ t' ≤ t + 20 ∧ Src w' B b a len cap f t' := by
  have hlt := S.lt
  go_enter Try.func21, Try.ntmps21
  go_wp2_with fail
  refine Calls.mono (rdraw_any _ B b a len cap f t (S.grow (by go_grown)) t0 (by omega)) ?_
  rintro e w1 ⟨r, t', rfl, ht1, h0, h1, hs1⟩
  have R1 := hideP ((Bx4.new w 0 0 0 0 26 _ rfl).turn ht1 (by omega))
  have hz1 := ht1.size
  simp only [World.size_alloc] at hz1
  have HT1 := hideP ((Turn.of_below (b := b) (w := w) (by go_grown)).trans ht1)
  have HS1 := hideP hs1
  clear ht1 hs1 S
  go_wp2_with fail
  refine Calls.mono (next_any _ B b a len cap f t' 14 (HS1.out.grow (by go_grown)) (by omega) (by omega) (by omega) (by omega)) ?_
  rintro e w2 ⟨n, rfl, p1, q1, ht2, hs2⟩
  have R2 := hideP ((R1.out.grow (by go_grown)).turn ht2 (by omega))
  have D2 := hideP ((Bx4.new w1 r.x r.y r.w r.h 26 _ rfl).turn ht2 (by have := HS1.out.lt; omega))
  have HT2 := hideP (HT1.out.trans ((Turn.of_below (b := b) (by go_grown)).trans ht2))
  have HS2 := hideP hs2
  have hz2 := ht2.size
  simp only [World.size_alloc] at hz2
  have hb1 : b < w1.heap.size := HS1.out.lt
  clear ht2 hs2 HT1 R1
  by_cases e0 : n = 0
  · subst e0
    go_wp2_with fail
    refine Calls.mono (pick_c _ B b a len cap f (t' + 1) _ _ _ _ (by simp) (in4 _ _ _ _) (by first | exact HS2.out | exact Src.grow HS2.out (by go_grown)) (by omega) (by omega) (by omega) (by omega)) ?_
    rintro e w3 ⟨m, rfl, ht3, hs3⟩
    obtain ⟨l0, g0, g1, g2, g3, z0, z1, z2, z3⟩ := R2.out.turn ht3 (by omega)
    obtain ⟨l1, d0, d1, d2, d3, y0, y1, y2, y3⟩ := D2.out.turn ht3 (by omega)
    have HT3 := hideP (HT2.out.trans ht3)
    have HS3 := hideP hs3
    have hne : ¬ w.heap.size = w1.heap.size := by omega
    clear ht3 hs3 R2 D2 HT2 HS2
    go_wp2
    refine bodyPost_ret (v := .agg #[.int .i64 m, .int .i64 r.y, .int .i64 r.w, .int .i64 r.h]) (by simp [results, Try.results21, go_sem, *]; done) rfl ⟨⟨m, r.y, r.w, r.h⟩, t' + 1 + 1, rfl, ?_, by omega, by omega, ?_⟩
    · have h0 := HT3.out
      clear g0 g1 g2 g3 z0 z1 z2 z3 d0 d1 d2 d3 y0 y1 y2 y3
      repeat' (first | exact h0 | (with_reducible refine Turn.setCell ?_ ?_ _) | go_size | omega)
    · have h0 := HS3.out
      clear g0 g1 g2 g3 z0 z1 z2 z3 d0 d1 d2 d3 y0 y1 y2 y3
      repeat' (first | exact h0 | (with_reducible refine Src.store ?_ _ _ ?_) | go_size | omega)
  · have q0 : (n == 0) = false := by simpa using e0
    by_cases e1 : n = 1
    · subst e1
      go_wp2_with fail
      refine Calls.mono (pick_c _ B b a len cap f (t' + 1) _ _ _ _ (by simp) (in3 _ _ _) (by first | exact HS2.out | exact Src.grow HS2.out (by go_grown)) (by omega) (by omega) (by omega) (by omega)) ?_
      rintro e w3 ⟨m, rfl, ht3, hs3⟩
      obtain ⟨l0, g0, g1, g2, g3, z0, z1, z2, z3⟩ := R2.out.turn ht3 (by omega)
      obtain ⟨l1, d0, d1, d2, d3, y0, y1, y2, y3⟩ := D2.out.turn ht3 (by omega)
      have HT3 := hideP (HT2.out.trans ht3)
      have HS3 := hideP hs3
      have hne : ¬ w.heap.size = w1.heap.size := by omega
      clear ht3 hs3 R2 D2 HT2 HS2
      go_wp2
      refine bodyPost_ret (v := .agg #[.int .i64 r.x, .int .i64 r.y, .int .i64 r.w, .int .i64 m]) (by simp [results, Try.results21, go_sem, *]; done) rfl ⟨⟨r.x, r.y, r.w, m⟩, t' + 1 + 1, rfl, ?_, by omega, by omega, ?_⟩
      · have h0 := HT3.out
        clear g0 g1 g2 g3 z0 z1 z2 z3 d0 d1 d2 d3 y0 y1 y2 y3
        repeat' (first | exact h0 | (with_reducible refine Turn.setCell ?_ ?_ _) | go_size | omega)
      · have h0 := HS3.out
        clear g0 g1 g2 g3 z0 z1 z2 z3 d0 d1 d2 d3 y0 y1 y2 y3
        repeat' (first | exact h0 | (with_reducible refine Src.store ?_ _ _ ?_) | go_size | omega)
    · have q1' : (n == 1) = false := by simpa using e1
      obtain ⟨l0, g0, g1, g2, g3, z0, z1, z2, z3⟩ := R2.out
      obtain ⟨l1, d0, d1, d2, d3, y0, y1, y2, y3⟩ := D2.out
      have hne : ¬ w.heap.size = w1.heap.size := by omega
      clear R2 D2
      go_wp2
      refine bodyPost_ret (v := .agg #[.int .i64 r.x, .int .i64 r.y, .int .i64 r.w, .int .i64 r.h]) (by simp [results, Try.results21, go_sem, *]; done) rfl ⟨r, t' + 1, rfl, ?_, by omega, by omega, ?_⟩
      · have h0 := HT2.out
        clear g0 g1 g2 g3 z0 z1 z2 z3 d0 d1 d2 d3 y0 y1 y2 y3
        repeat' (first | exact h0 | (with_reducible refine Turn.setCell ?_ ?_ _) | go_size | omega)
      · have h0 := HS2.out
        clear g0 g1 g2 g3 z0 z1 z2 z3 d0 d1 d2 d3 y0 y1 y2 y3
        repeat' (first | exact h0 | (with_reducible refine Src.store ?_ _ _ ?_) | go_size | omega)

end Go.Proofs.Ytejgcheddloffaa
