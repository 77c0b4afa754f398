/- Marks into a list of rectangles, and whether they are held. -/
import Derived.Test.YtbagloapclgpnaaLst3
namespace Go.Proofs.Ytbagloapclgpnaa
open Go.RowKit
set_option linter.unusedVariables false

/-- All old memory but the block of ao is as it was. -/
structure TurnO (ao : Option Addr) (w w' : World) : Prop where
  os : w'.os = w.os
  tape : w'.tape = w.tape
  output : w'.output = w.output
  size : w.heap.size ≤ w'.heap.size
  block : ∀ k, k < w.heap.size → (∀ a, ao = some a → k ≠ a.block) → w'.heap[k]? = w.heap[k]?

theorem TurnO.refl (ao : Option Addr) (w : World) : TurnO ao w w := ⟨rfl, rfl, rfl, Nat.le_refl _, fun _ _ _ => rfl⟩
theorem TurnO.setCell {w w' : World} {g o : Nat} (h : TurnO (some ⟨g, o, none⟩) w w') (j : Nat) (v : Value) : TurnO (some ⟨g, o, none⟩) w (w'.setCell ⟨g, j, none⟩ v) :=
  ⟨h.os, h.tape, h.output, by simpa using h.size, fun k hk hb => (Below.heap_setCell w' ⟨g, j, none⟩ v k (hb ⟨g, o, none⟩ rfl)).trans (h.block k hk hb)⟩
theorem TurnO.below {ao : Option Addr} {w w' : World} {B : Nat} (h : TurnO ao w w') (hB : B ≤ w.heap.size) (ha : ∀ a, ao = some a → B ≤ a.block) : Below B w w' :=
  ⟨h.os, h.tape, h.output, h.size, fun k hk => h.block k (by omega) (fun a e => by have := ha a e; omega)⟩

def mrkAt (k : Int) (i : Nat) : Rc := ⟨k + 4 * i, k + 4 * i + 1, k + 4 * i + 2, k + 4 * i + 3⟩
def mrk (n : Nat) (k : Int) : List Rc := (List.range n).map (mrkAt k)
theorem mrk_len (n : Nat) (k : Int) : (mrk n k).length = n := by simp [mrk]
theorem mrk_at (n : Nat) (k : Int) (i : Nat) (h : i < (mrk n k).length) : (mrk n k)[i] = mrkAt k i := by simp [mrk]

/-- n places of rectangles from ⟨g, o⟩ on, the first i of them marked from k on; w was ahead of it. -/
structure Mk (w wr : World) (g o n i : Nat) (k : Int) : Prop where
  turn : TurnO (some ⟨g, o, none⟩) w wr
  lt : g < wr.heap.size
  done : ∀ j, j < i → IsRect wr g (o + j * 4) (mrkAt k j).x (mrkAt k j).y (mrkAt k j).w (mrkAt k j).h
  there : ∀ c, c < n * 4 → ∃ u, wr.cell? ⟨g, o + c, none⟩ = some u
  free : ∀ c, wr.frozen? ⟨g, c, none⟩ = false


theorem Mk.step {w wr : World} {g o n i : Nat} {k : Int} (h : Mk w wr g o n i k) (hi : i < n) {a b c d : Int} (ea : a = k + 4 * i) (eb : b = k + 4 * i + 1) (ec : c = k + 4 * i + 2) (ed : d = k + 4 * i + 3) :
    Mk w ((((wr.setCell ⟨g, o + i * 4, none⟩ (.int .i64 a)).setCell ⟨g, o + i * 4 + 1, none⟩ (.int .i64 b)).setCell ⟨g, o + i * 4 + 2, none⟩ (.int .i64 c)).setCell ⟨g, o + i * 4 + 3, none⟩ (.int .i64 d)) g o n (i + 1) k := by
  subst ea eb ec ed
  have t0 : ∃ u, wr.cell? ⟨g, o + i * 4, none⟩ = some u := h.there (i * 4) (by omega)
  have t1 : ∃ u, wr.cell? ⟨g, o + i * 4 + 1, none⟩ = some u := h.there (i * 4 + 1) (by omega)
  have t2 : ∃ u, wr.cell? ⟨g, o + i * 4 + 2, none⟩ = some u := h.there (i * 4 + 2) (by omega)
  have t3 : ∃ u, wr.cell? ⟨g, o + i * 4 + 3, none⟩ = some u := h.there (i * 4 + 3) (by omega)
  obtain ⟨u0, t0⟩ := t0
  obtain ⟨u1, t1⟩ := t1
  obtain ⟨u2, t2⟩ := t2
  obtain ⟨u3, t3⟩ := t3
  refine ⟨(((h.turn.setCell _ _).setCell _ _).setCell _ _).setCell _ _, by simpa using h.lt, fun j hj => ?_, fun c hc => ?_, fun c => by simpa using h.free c⟩
  · by_cases hji : j < i
    · obtain ⟨c0, c1, c2, c3⟩ := h.done j hji
      refine ⟨?_, ?_, ?_, ?_⟩ <;> (repeat rw [cell_set_other (by omega)]) <;> assumption
    · obtain rfl : j = i := by omega
      refine ⟨?_, ?_, ?_, ?_⟩
      · rw [cell_set_other (by omega), cell_set_other (by omega), cell_set_other (by omega)]; exact cell_set_same t0
      · rw [cell_set_other (by omega), cell_set_other (by omega)]; exact cell_set_same ((cell_set_other (by omega)).trans t1)
      · rw [cell_set_other (by omega)]; exact cell_set_same ((cell_set_other (by omega)).trans ((cell_set_other (by omega)).trans t2))
      · exact cell_set_same ((cell_set_other (by omega)).trans ((cell_set_other (by omega)).trans ((cell_set_other (by omega)).trans t3)))
  · obtain ⟨u, hu⟩ := h.there c hc
    have key : ∀ (W : World) (d : Nat) (v : Value), (∃ u, W.cell? ⟨g, o + c, none⟩ = some u) → ∃ u, (W.setCell ⟨g, d, none⟩ v).cell? ⟨g, o + c, none⟩ = some u := fun W d v ⟨u, hu⟩ => by
      by_cases e : o + c = d
      · subst e; exact ⟨v, cell_set_same hu⟩
      · exact ⟨u, (cell_set_other e).trans hu⟩
    exact key _ _ _ (key _ _ _ (key _ _ _ (key _ _ _ ⟨u, hu⟩)))

end Go.Proofs.Ytbagloapclgpnaa
