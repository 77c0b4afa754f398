/- Results with a list of rectangles: held against each other, marked, held. -/
import Derived.Test.YtbagloapclgpnaaLst4
namespace Go.Proofs.Ytbagloapclgpnaa
open Go.RowKit
set_option linter.unusedVariables false

theorem Mk.lst {w wr : World} {g o n : Nat} {k : Int} (h : Mk w wr g o n n k) (lo hi : Nat) (h1 : lo ≤ g) (h2 : g < hi) : Lst wr lo hi (some ⟨g, o, none⟩) (mrk n k) :=
  .inr ⟨g, o, rfl, h1, h2, fun i hi => by rw [mrk_at]; exact h.done i (by rw [mrk_len] at hi; exact hi)⟩

theorem Own.mk {w w' : World} {base : Nat} {ao : Option Addr} {cap : Nat} {L : List Rc} (h : Own w base ao cap L) (hn : 0 < L.length) (k : Int) (kw : Below w.heap.size w w') : ∃ g, ao = some ⟨g, 0, none⟩ ∧ base ≤ g ∧ g < w.heap.size ∧ Mk w' w' g 0 L.length 0 k := by
  obtain ⟨g, cap', hv, hb, hlt⟩ := World.ownsRow.form h hn
  cases hv
  have hs := kw.size
  refine ⟨g, rfl, hb, hlt, ⟨TurnO.refl _ _, by omega, fun j hj => absurd hj (Nat.not_lt_zero _), fun c hc => ?_, fun c => ?_⟩⟩
  · rw [kw.cell (p := ⟨g, 0 + c, none⟩) hlt, Nat.zero_add, World.ownsRow.cellAt h c hc]
    exact ⟨(rcs L)[c]'(by rw [rcs_len]; exact hc), by simp⟩
  · rw [kw.frozen (p := ⟨g, c, none⟩) hlt]
    exact World.ownsRow.frozenAt h c

/-- What marking a result leaves: its list marked from k on; all other old memory as it was. -/
structure Marked (w w' : World) (base hi : Nat) (ao : Option Addr) (n : Nat) (k : Int) : Prop where
  lst : Lst w' base hi ao (mrk n k)
  size : w.heap.size ≤ w'.heap.size
  turn : ∀ B, B ≤ base → B ≤ w.heap.size → Below B w w'
  far : ∀ b, b < w.heap.size → (n = 0 ∨ b < base ∨ hi ≤ b) → w'.heap[b]? = w.heap[b]?

end Go.Proofs.Ytbagloapclgpnaa
