/- Lists of rectangles: whether two are the same; faults of lists; marks. Lists of rectangles: faults of lists; marks into a list, and whether they are held. Marks into a list of rectangles, and whether they are held. Lists of rectangles: faults of whole lists, areas by the model, copies of lists. -/
import Derived.Test.YtejgcheddloffaaTr25
import Derived.Test.YtejgcheddloffaaTr2
namespace Go.Proofs.Ytejgcheddloffaa
open Go.RowKit
set_option linter.unusedVariables false

end Go.Proofs.Ytejgcheddloffaa

namespace Go.Proofs.Ytejgcheddloffaa
open Go.RowKit
set_option linter.unusedVariables false

def fltL (L : List Rc) : Bool := L.any Rc.flt
theorem fltL_hit {L : List Rc} {k : Nat} (h : k < L.length) (hf : rfB L[k].x L[k].y L[k].w L[k].h = true) : fltL L = true := by
  unfold fltL
  exact List.any_eq_true.2 ⟨L[k], List.getElem_mem _, hf⟩
theorem fltL_none {L : List Rc} (h : ∀ k (hk : k < L.length), rfB L[k].x L[k].y L[k].w L[k].h = false) : fltL L = false := by
  unfold fltL
  refine List.any_eq_false.2 fun r hr => ?_
  obtain ⟨k, hk, rfl⟩ := List.mem_iff_getElem.1 hr
  simpa [Rc.flt] using h k hk
theorem fltL_at {L : List Rc} (h : fltL L = false) (k : Nat) (hk : k < L.length) : rfB L[k].x L[k].y L[k].w L[k].h = false := by
  have := (List.any_eq_false.1 h) L[k] (List.getElem_mem _)
  simpa [Rc.flt] using this

end Go.Proofs.Ytejgcheddloffaa

namespace Go.Proofs.Ytejgcheddloffaa
open Go.RowKit
set_option linter.unusedVariables false

/-- All old memory but the block of ao is as it was. -/
structure TurnO (ao : Option Addr) (w w' : World) : Prop where
  os : w'.os = w.os
  tape : w'.tape = w.tape
  output : w'.output = w.output
  size : w.heap.size ≤ w'.heap.size
  block : ∀ k, k < w.heap.size → (∀ a, ao = some a → k ≠ a.block) → w'.heap[k]? = w.heap[k]?

theorem TurnO.refl (ao : Option Addr) (w : World) : TurnO ao w w := ⟨rfl, rfl, rfl, Nat.le_refl _, fun _ _ _ => rfl⟩
theorem TurnO.setCell {w w' : World} {g o : Nat} (h : TurnO (some ⟨g, o, none⟩) w w') (j : Nat) (v : Value) : TurnO (some ⟨g, o, none⟩) w (w'.setCell ⟨g, j, none⟩ v) :=
  ⟨h.os, h.tape, h.output, by simpa using h.size, fun k hk hb => (Below.heap_setCell w' ⟨g, j, none⟩ v k (hb ⟨g, o, none⟩ rfl)).trans (h.block k hk hb)⟩
theorem TurnO.below {ao : Option Addr} {w w' : World} {B : Nat} (h : TurnO ao w w') (hB : B ≤ w.heap.size) (ha : ∀ a, ao = some a → B ≤ a.block) : Below B w w' :=
  ⟨h.os, h.tape, h.output, h.size, fun k hk => h.block k (by omega) (fun a e => by have := ha a e; omega)⟩

def mrkAt (k : Int) (i : Nat) : Rc := ⟨k + 4 * i, k + 4 * i + 1, k + 4 * i + 2, k + 4 * i + 3⟩
def mrk (n : Nat) (k : Int) : List Rc := (List.range n).map (mrkAt k)
theorem mrk_len (n : Nat) (k : Int) : (mrk n k).length = n := by simp [mrk]
theorem mrk_at (n : Nat) (k : Int) (i : Nat) (h : i < (mrk n k).length) : (mrk n k)[i] = mrkAt k i := by simp [mrk]

/-- n places of rectangles from ⟨g, o⟩ on, the first i of them marked from k on; w was ahead of it. -/
structure Mk (w wr : World) (g o n i : Nat) (k : Int) : Prop where
  turn : TurnO (some ⟨g, o, none⟩) w wr
  lt : g < wr.heap.size
  done : ∀ j, j < i → IsRect wr g (o + j * 4) (mrkAt k j).x (mrkAt k j).y (mrkAt k j).w (mrkAt k j).h
  there : ∀ c, c < n * 4 → ∃ u, wr.cell? ⟨g, o + c, none⟩ = some u
  free : ∀ c, wr.frozen? ⟨g, c, none⟩ = false


theorem Mk.step {w wr : World} {g o n i : Nat} {k : Int} (h : Mk w wr g o n i k) (hi : i < n) {a b c d : Int} (ea : a = k + 4 * i) (eb : b = k + 4 * i + 1) (ec : c = k + 4 * i + 2) (ed : d = k + 4 * i + 3) :
    Mk w ((((wr.setCell ⟨g, o + i * 4, none⟩ (.int .i64 a)).setCell ⟨g, o + i * 4 + 1, none⟩ (.int .i64 b)).setCell ⟨g, o + i * 4 + 2, none⟩ (.int .i64 c)).setCell ⟨g, o + i * 4 + 3, none⟩ (.int .i64 d)) g o n (i + 1) k := by
  subst ea eb ec ed
  have t0 : ∃ u, wr.cell? ⟨g, o + i * 4, none⟩ = some u := h.there (i * 4) (by omega)
  have t1 : ∃ u, wr.cell? ⟨g, o + i * 4 + 1, none⟩ = some u := h.there (i * 4 + 1) (by omega)
  have t2 : ∃ u, wr.cell? ⟨g, o + i * 4 + 2, none⟩ = some u := h.there (i * 4 + 2) (by omega)
  have t3 : ∃ u, wr.cell? ⟨g, o + i * 4 + 3, none⟩ = some u := h.there (i * 4 + 3) (by omega)
  obtain ⟨u0, t0⟩ := t0
  obtain ⟨u1, t1⟩ := t1
  obtain ⟨u2, t2⟩ := t2
  obtain ⟨u3, t3⟩ := t3
  refine ⟨(((h.turn.setCell _ _).setCell _ _).setCell _ _).setCell _ _, by simpa using h.lt, fun j hj => ?_, fun c hc => ?_, fun c => by simpa using h.free c⟩
  · by_cases hji : j < i
    · obtain ⟨c0, c1, c2, c3⟩ := h.done j hji
      refine ⟨?_, ?_, ?_, ?_⟩ <;> (repeat rw [cell_set_other (by omega)]) <;> assumption
    · obtain rfl : j = i := by omega
      refine ⟨?_, ?_, ?_, ?_⟩
      · rw [cell_set_other (by omega), cell_set_other (by omega), cell_set_other (by omega)]; exact cell_set_same t0
      · rw [cell_set_other (by omega), cell_set_other (by omega)]; exact cell_set_same ((cell_set_other (by omega)).trans t1)
      · rw [cell_set_other (by omega)]; exact cell_set_same ((cell_set_other (by omega)).trans ((cell_set_other (by omega)).trans t2))
      · exact cell_set_same ((cell_set_other (by omega)).trans ((cell_set_other (by omega)).trans ((cell_set_other (by omega)).trans t3)))
  · obtain ⟨u, hu⟩ := h.there c hc
    have key : ∀ (W : World) (d : Nat) (v : Value), (∃ u, W.cell? ⟨g, o + c, none⟩ = some u) → ∃ u, (W.setCell ⟨g, d, none⟩ v).cell? ⟨g, o + c, none⟩ = some u := fun W d v ⟨u, hu⟩ => by
      by_cases e : o + c = d
      · subst e; exact ⟨v, cell_set_same hu⟩
      · exact ⟨u, (cell_set_other e).trans hu⟩
    exact key _ _ _ (key _ _ _ (key _ _ _ (key _ _ _ ⟨u, hu⟩)))

end Go.Proofs.Ytejgcheddloffaa

namespace Go.Proofs.Ytejgcheddloffaa
open Go.RowKit
set_option linter.unusedVariables false

def manyC (L : List Rc) : Int := if 40 < L.length then 2 else rfOf (fltL L)
theorem manyC_big {L : List Rc} (h : 40 < L.length) : manyC L = 2 := by unfold manyC; rw [if_pos h]
theorem manyC_of {L : List Rc} (h : L.length ≤ 40) : manyC L = rfOf (fltL L) := by unfold manyC; rw [if_neg (by omega)]
theorem manyC_ok {L : List Rc} (h : manyC L = 0) : L.length ≤ 40 ∧ fltL L = false := by
  unfold manyC at h
  split at h
  · omega
  · refine ⟨by omega, ?_⟩
    cases e : fltL L
    · rfl
    · rw [e] at h; simp [rfOf] at h

/-- A copy of a list, its first k rectangles there. -/
structure Fill (w wr : World) (g n k : Nat) (L : List Rc) : Prop where
  below : Below w.heap.size w wr
  lt : g < wr.heap.size
  done : ∀ j (hj : j < L.length), j < k → IsRect wr g (0 + j * 4) L[j].x L[j].y L[j].w L[j].h
  there : ∀ c, c < n * 4 → ∃ u, wr.cell? ⟨g, 0 + c, none⟩ = some u
  free : ∀ c, wr.frozen? ⟨g, c, none⟩ = false
  le : w.heap.size ≤ g

theorem Fill.keep {w wr wr' : World} {g n k : Nat} {L : List Rc} (h : Fill w wr g n k L) (kk : Below wr.heap.size wr wr') : Fill w wr' g n k L :=
  ⟨h.below.trans (kk.mono h.below.size), Nat.lt_of_lt_of_le h.lt kk.size, fun j hj hk => (h.done j hj hk).keep kk h.lt, fun c hc => by obtain ⟨u, hu⟩ := h.there c hc; exact ⟨u, (kk.cell (p := ⟨g, 0 + c, none⟩) h.lt).trans hu⟩,
    fun c => (kk.frozen (p := ⟨g, c, none⟩) h.lt).trans (h.free c), h.le⟩

theorem Fill.step {w wr : World} {g n i : Nat} {L : List Rc} (h : Fill w wr g n i L) (hi : i < n) (hl : i < L.length) :
    Fill w ((((wr.setCell ⟨g, i * 4, none⟩ (.int .i64 L[i].x)).setCell ⟨g, i * 4 + 1, none⟩ (.int .i64 L[i].y)).setCell ⟨g, i * 4 + 2, none⟩ (.int .i64 L[i].w)).setCell ⟨g, i * 4 + 3, none⟩ (.int .i64 L[i].h)) g n (i + 1) L := by
  have t : ∀ c, c < 4 → ∃ u, wr.cell? ⟨g, i * 4 + c, none⟩ = some u := fun c hc => by
    obtain ⟨u, hu⟩ := h.there (i * 4 + c) (by omega)
    rw [Nat.zero_add] at hu
    exact ⟨u, hu⟩
  obtain ⟨u0, t0⟩ := t 0 (by omega)
  obtain ⟨u1, t1⟩ := t 1 (by omega)
  obtain ⟨u2, t2⟩ := t 2 (by omega)
  obtain ⟨u3, t3⟩ := t 3 (by omega)
  have hg := h.le
  refine ⟨(((h.below.setCell (p := ⟨g, _, none⟩) hg _).setCell (p := ⟨g, _, none⟩) hg _).setCell (p := ⟨g, _, none⟩) hg _).setCell (p := ⟨g, _, none⟩) hg _, by simpa using h.lt, fun j hj hk => ?_, fun c hc => ?_, fun c => by simpa using h.free c, hg⟩
  · by_cases hji : j < i
    · obtain ⟨c0, c1, c2, c3⟩ := h.done j hj hji
      refine ⟨?_, ?_, ?_, ?_⟩ <;> (repeat rw [cell_set_other (by omega)]) <;> assumption
    · obtain rfl : j = i := by omega
      rw [Nat.zero_add]
      refine ⟨?_, ?_, ?_, ?_⟩
      · rw [cell_set_other (by omega), cell_set_other (by omega), cell_set_other (by omega)]; exact cell_set_same t0
      · rw [cell_set_other (by omega), cell_set_other (by omega)]; exact cell_set_same ((cell_set_other (by omega)).trans t1)
      · rw [cell_set_other (by omega)]; exact cell_set_same ((cell_set_other (by omega)).trans ((cell_set_other (by omega)).trans t2))
      · exact cell_set_same ((cell_set_other (by omega)).trans ((cell_set_other (by omega)).trans ((cell_set_other (by omega)).trans t3)))
  · obtain ⟨u, hu⟩ := h.there c hc
    have key : ∀ (W : World) (d : Nat) (v : Value), (∃ u, W.cell? ⟨g, 0 + c, none⟩ = some u) → ∃ u, (W.setCell ⟨g, d, none⟩ v).cell? ⟨g, 0 + c, none⟩ = some u := fun W d v ⟨u, hu⟩ => by
      by_cases e : 0 + c = d
      · subst e; exact ⟨v, cell_set_same hu⟩
      · exact ⟨u, (cell_set_other e).trans hu⟩
    exact key _ _ _ (key _ _ _ (key _ _ _ (key _ _ _ ⟨u, hu⟩)))

theorem fill_new {w w1 : World} {n : Nat} {L : List Rc} {xs : List Value} (ho : w1.ownsRow w.heap.size 26 4 (.slice (some ⟨w.heap.size, 0, none⟩) n n) n xs) (hg : w.grownBy w1 none) : Fill w w1 w.heap.size n 0 L := by
  refine ⟨⟨hg.os, hg.tape, hg.output, hg.size, fun k hk => hg.block k hk (by simp)⟩, ?_, fun j _ hj => absurd hj (Nat.not_lt_zero _), fun c hc => ?_, fun c => World.ownsRow.frozenAt ho c, Nat.le_refl _⟩
  · exact (World.ownsRow.lt ho w.heap.size rfl).2
  · rw [Nat.zero_add, World.ownsRow.cellAt ho c hc]
    exact ⟨xs[c]'(by rw [ho.1]; exact hc), by simp⟩
theorem Fill.lst {w wr : World} {g n : Nat} {L : List Rc} (h : Fill w wr g n L.length L) : Lst wr w.heap.size wr.heap.size (some ⟨g, 0, none⟩) L :=
  .inr ⟨g, 0, rfl, h.le, h.lt, fun i hi => h.done i hi hi⟩

end Go.Proofs.Ytejgcheddloffaa
