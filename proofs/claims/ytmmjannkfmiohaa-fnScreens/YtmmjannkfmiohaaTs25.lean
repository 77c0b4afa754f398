/- Lists of rectangles: faults of whole lists, areas by the model, copies of lists. What is drawn in chapter 2: a rectangle, a bent one, two of them, a list, a point. -/
import Derived.Test.YtmmjannkfmiohaaTs24
import Derived.Test.YtmmjannkfmiohaaTs4
namespace Go.Proofs.Ytmmjannkfmiohaa
open Go.RowKit
set_option linter.unusedVariables false

def manyC (L : List Rc) : Int := if 40 < L.length then 2 else rfOf (fltL L)
theorem manyC_big {L : List Rc} (h : 40 < L.length) : manyC L = 2 := by unfold manyC; rw [if_pos h]
theorem manyC_of {L : List Rc} (h : L.length ≤ 40) : manyC L = rfOf (fltL L) := by unfold manyC; rw [if_neg (by omega)]
theorem manyC_ok {L : List Rc} (h : manyC L = 0) : L.length ≤ 40 ∧ fltL L = false := by
  unfold manyC at h
  split at h
  · omega
  · refine ⟨by omega, ?_⟩
    cases e : fltL L
    · rfl
    · rw [e] at h; simp [rfOf] at h

/-- A copy of a list, its first k rectangles there. -/
structure Fill (w wr : World) (g n k : Nat) (L : List Rc) : Prop where
  below : Below w.heap.size w wr
  lt : g < wr.heap.size
  done : ∀ j (hj : j < L.length), j < k → IsRect wr g (0 + j * 4) L[j].x L[j].y L[j].w L[j].h
  there : ∀ c, c < n * 4 → ∃ u, wr.cell? ⟨g, 0 + c, none⟩ = some u
  free : ∀ c, wr.frozen? ⟨g, c, none⟩ = false
  le : w.heap.size ≤ g

theorem Fill.keep {w wr wr' : World} {g n k : Nat} {L : List Rc} (h : Fill w wr g n k L) (kk : Below wr.heap.size wr wr') : Fill w wr' g n k L :=
  ⟨h.below.trans (kk.mono h.below.size), Nat.lt_of_lt_of_le h.lt kk.size, fun j hj hk => (h.done j hj hk).keep kk h.lt, fun c hc => by obtain ⟨u, hu⟩ := h.there c hc; exact ⟨u, (kk.cell (p := ⟨g, 0 + c, none⟩) h.lt).trans hu⟩,
    fun c => (kk.frozen (p := ⟨g, c, none⟩) h.lt).trans (h.free c), h.le⟩

theorem Fill.step {w wr : World} {g n i : Nat} {L : List Rc} (h : Fill w wr g n i L) (hi : i < n) (hl : i < L.length) :
    Fill w ((((wr.setCell ⟨g, i * 4, none⟩ (.int .i64 L[i].x)).setCell ⟨g, i * 4 + 1, none⟩ (.int .i64 L[i].y)).setCell ⟨g, i * 4 + 2, none⟩ (.int .i64 L[i].w)).setCell ⟨g, i * 4 + 3, none⟩ (.int .i64 L[i].h)) g n (i + 1) L := by
  have t : ∀ c, c < 4 → ∃ u, wr.cell? ⟨g, i * 4 + c, none⟩ = some u := fun c hc => by
    obtain ⟨u, hu⟩ := h.there (i * 4 + c) (by omega)
    rw [Nat.zero_add] at hu
    exact ⟨u, hu⟩
  obtain ⟨u0, t0⟩ := t 0 (by omega)
  obtain ⟨u1, t1⟩ := t 1 (by omega)
  obtain ⟨u2, t2⟩ := t 2 (by omega)
  obtain ⟨u3, t3⟩ := t 3 (by omega)
  have hg := h.le
  refine ⟨(((h.below.setCell (p := ⟨g, _, none⟩) hg _).setCell (p := ⟨g, _, none⟩) hg _).setCell (p := ⟨g, _, none⟩) hg _).setCell (p := ⟨g, _, none⟩) hg _, by simpa using h.lt, fun j hj hk => ?_, fun c hc => ?_, fun c => by simpa using h.free c, hg⟩
  · by_cases hji : j < i
    · obtain ⟨c0, c1, c2, c3⟩ := h.done j hj hji
      refine ⟨?_, ?_, ?_, ?_⟩ <;> (repeat rw [cell_set_other (by omega)]) <;> assumption
    · obtain rfl : j = i := by omega
      rw [Nat.zero_add]
      refine ⟨?_, ?_, ?_, ?_⟩
      · rw [cell_set_other (by omega), cell_set_other (by omega), cell_set_other (by omega)]; exact cell_set_same t0
      · rw [cell_set_other (by omega), cell_set_other (by omega)]; exact cell_set_same ((cell_set_other (by omega)).trans t1)
      · rw [cell_set_other (by omega)]; exact cell_set_same ((cell_set_other (by omega)).trans ((cell_set_other (by omega)).trans t2))
      · exact cell_set_same ((cell_set_other (by omega)).trans ((cell_set_other (by omega)).trans ((cell_set_other (by omega)).trans t3)))
  · obtain ⟨u, hu⟩ := h.there c hc
    have key : ∀ (W : World) (d : Nat) (v : Value), (∃ u, W.cell? ⟨g, 0 + c, none⟩ = some u) → ∃ u, (W.setCell ⟨g, d, none⟩ v).cell? ⟨g, 0 + c, none⟩ = some u := fun W d v ⟨u, hu⟩ => by
      by_cases e : 0 + c = d
      · subst e; exact ⟨v, cell_set_same hu⟩
      · exact ⟨u, (cell_set_other e).trans hu⟩
    exact key _ _ _ (key _ _ _ (key _ _ _ (key _ _ _ ⟨u, hu⟩)))

theorem fill_new {w w1 : World} {n : Nat} {L : List Rc} {xs : List Value} (ho : w1.ownsRow w.heap.size 45 4 (.slice (some ⟨w.heap.size, 0, none⟩) n n) n xs) (hg : w.grownBy w1 none) : Fill w w1 w.heap.size n 0 L := by
  refine ⟨⟨hg.os, hg.tape, hg.output, hg.size, fun k hk => hg.block k hk (by simp)⟩, ?_, fun j _ hj => absurd hj (Nat.not_lt_zero _), fun c hc => ?_, fun c => World.ownsRow.frozenAt ho c, Nat.le_refl _⟩
  · exact (World.ownsRow.lt ho w.heap.size rfl).2
  · rw [Nat.zero_add, World.ownsRow.cellAt ho c hc]
    exact ⟨xs[c]'(by rw [ho.1]; exact hc), by simp⟩
theorem Fill.lst {w wr : World} {g n : Nat} {L : List Rc} (h : Fill w wr g n L.length L) : Lst wr w.heap.size wr.heap.size (some ⟨g, 0, none⟩) L :=
  .inr ⟨g, 0, rfl, h.le, h.lt, fun i hi => h.done i hi hi⟩

end Go.Proofs.Ytmmjannkfmiohaa

namespace Go.Proofs.Ytmmjannkfmiohaa
open Go.RowKit
set_option linter.unusedVariables false

theorem Src.fresh (w W : World) (b : Nat) (a : Option Addr) (len cap : Nat) (f : Nat → Int) (T : TypeId) (hB : Bytes w w.heap.size a len f) (hl : len ≤ 1048576) (hW : Below w.heap.size w W) (hb : b = W.heap.size) :
    Src (W.alloc (.cells #[.slice a len cap, .int .i64 0] T)) w.heap.size b a len cap f 0 := by
  subst hb
  exact ⟨by simp, hW.size, by simp [go_sem], by simp [go_sem], by simp [go_sem], hB.stay (Nat.le_refl _) (Turn.of_below (b := w.heap.size) (hW.alloc hW.size _)) (Nat.le_refl _), hl⟩

theorem in4 (x0 x1 x2 x3 : Int) : ∀ i, i < 4 → ∃ n, (#[Value.int .i64 x0, Value.int .i64 x1, Value.int .i64 x2, Value.int .i64 x3] : Array Value)[i]? = some (.int .i64 n) := by
  intro i hi
  have h : i = 0 ∨ i = 1 ∨ i = 2 ∨ i = 3 := by omega
  rcases h with rfl | rfl | rfl | rfl <;> exact ⟨_, rfl⟩
theorem in3 (x0 x1 x2 : Int) : ∀ i, i < 3 → ∃ n, (#[Value.int .i64 x0, Value.int .i64 x1, Value.int .i64 x2] : Array Value)[i]? = some (.int .i64 n) := by
  intro i hi
  have h : i = 0 ∨ i = 1 ∨ i = 2 := by omega
  rcases h with rfl | rfl | rfl <;> exact ⟨_, rfl⟩

theorem pick_c (W : World) (B b : Nat) (a : Option Addr) (len cap : Nat) (f : Nat → Int) (t : Int) (C : Array Value) (T : TypeId) (k lb : Nat) (hlb : lb = W.heap.size) (hC : ∀ i, i < k → ∃ n, C[i]? = some (.int .i64 n))
    (S : Src W B b a len cap f t) (t0 : 0 ≤ t) (t1 : t ≤ 100000) (k0 : 1 ≤ k) (k1 : k ≤ 1000) :
    Calls Try.prog 23 #[.pointer (some ⟨b, 0, none⟩), .slice (some ⟨lb, 0, none⟩) k k] (W.alloc (.cells C T)) fun e w' => ∃ r : Int, e = .returned (.int .i64 r) ∧ Turn b W w' ∧ Src w' B b a len cap f (t + 1) := by
  subst hlb
  have hb : Below W.heap.size W (W.alloc (.cells C T)) := (Below.refl _ _).alloc (Nat.le_refl _) _
  have hlt := S.lt
  refine (pick_any (W.alloc (.cells C T)) B b a len cap f t W.heap.size k k (fun i => intOf (C[i]?.getD undef)) (S.grow hb) t0 t1 k0 k1 ⟨by simp, fun i hi => ?_⟩ (by omega)).mono ?_
  · obtain ⟨n, hn⟩ := hC i hi
    rw [World.cell?_alloc_new, hn]; simp [hn, intOf]
  · rintro e w' ⟨r, he, ht, hs⟩
    exact ⟨r, he, (Turn.of_below hb).trans ht, hs⟩

/-- A rectangle's cells, which may be written. -/
structure Bx4 (w : World) (b : Nat) (x y ww hh : Int) : Prop where
  lt : b < w.heap.size
  c0 : w.cell? ⟨b, 0, none⟩ = some (.int .i64 x)
  c1 : w.cell? ⟨b, 1, none⟩ = some (.int .i64 y)
  c2 : w.cell? ⟨b, 2, none⟩ = some (.int .i64 ww)
  c3 : w.cell? ⟨b, 3, none⟩ = some (.int .i64 hh)
  z0 : w.frozen? ⟨b, 0, none⟩ = false
  z1 : w.frozen? ⟨b, 1, none⟩ = false
  z2 : w.frozen? ⟨b, 2, none⟩ = false
  z3 : w.frozen? ⟨b, 3, none⟩ = false
theorem Bx4.turn {w w' : World} {b c : Nat} {x y ww hh : Int} (h : Bx4 w b x y ww hh) (t : Turn c w w') (hc : ¬ b = c) : Bx4 w' b x y ww hh :=
  ⟨Nat.lt_of_lt_of_le h.lt t.size, (t.cell b 0 h.lt hc).trans h.c0, (t.cell b 1 h.lt hc).trans h.c1, (t.cell b 2 h.lt hc).trans h.c2, (t.cell b 3 h.lt hc).trans h.c3, (t.frozen b 0 h.lt hc).trans h.z0, (t.frozen b 1 h.lt hc).trans h.z1, (t.frozen b 2 h.lt hc).trans h.z2, (t.frozen b 3 h.lt hc).trans h.z3⟩
theorem Bx4.new (w : World) (x y ww hh : Int) (T : TypeId) (n : Nat) (h : n = w.heap.size) : Bx4 (w.alloc (.cells #[.int .i64 x, .int .i64 y, .int .i64 ww, .int .i64 hh] T)) n x y ww hh := by
  subst h
  exact ⟨by simp, by simp [go_sem], by simp [go_sem], by simp [go_sem], by simp [go_sem], by simp [go_sem], by simp [go_sem], by simp [go_sem], by simp [go_sem]⟩
theorem Bx4.grow {w w' : World} {b : Nat} {x y ww hh : Int} (h : Bx4 w b x y ww hh) (k : Below w.heap.size w w') : Bx4 w' b x y ww hh := h.turn (c := w.heap.size) (Turn.of_below k) (by have := h.lt; omega)

end Go.Proofs.Ytmmjannkfmiohaa
