/- CutRects: the model's and the program's, at every two rectangles. -/
import Derived.Test.YtbagloapclgpnaaCut1
namespace Go.Proofs.Ytbagloapclgpnaa
open Go.RowKit
set_option linter.unusedVariables false

theorem own_new (W : World) (n : Nat) (h : n = W.heap.size) : Own (W.alloc (.cells #[] 45)) n (some ⟨n, 0, none⟩) 0 [] := by
  subst h
  exact World.ownsRow_lit W #[] 0 (Nat.le_refl _) (by unfold maxLen; omega) rfl
theorem own_nil (W : World) (n : Nat) : Own W n none 0 [] := World.ownsRow_nil _ _ _ _
theorem Own.base {w : World} {B B' : Nat} {ao : Option Addr} {cap : Nat} {L : List Rc} (h : Own w B ao cap L) (hb : B' ≤ B) : Own w B' ao cap L := by
  refine ⟨h.1, ?_⟩
  rcases h.2 with h0 | ⟨g, cap', cur, hv, h1, h2⟩
  · exact .inl h0
  · exact .inr ⟨g, cap', cur, hv, by omega, h2⟩
theorem Own.keep {w w' : World} {B : Nat} {ao : Option Addr} {cap : Nat} {L : List Rc} (h : Own w B ao cap L) (k : Below w.heap.size w w') : Own w' B ao cap L :=
  World.ownsRow.kept (row := none) h ⟨k.os, k.tape, k.output, k.size, fun i hi _ => k.block i hi⟩ (by cases Value.ownBlock (.slice ao L.length cap) <;> simp)
theorem Own.set {w : World} {B : Nat} {ao : Option Addr} {cap : Nat} {L : List Rc} (h : Own w B ao cap L) (b o : Nat) (v : Value) (hb : b < B) : Own (w.setCell ⟨b, o, none⟩ v) B ao cap L :=
  World.ownsRow.kept (row := some b) h ⟨rfl, rfl, rfl, by simp, fun i hi hne => Below.heap_setCell _ ⟨b, o, none⟩ _ _ (fun e => hne (by rw [e]))⟩ (by
    cases e : Value.ownBlock (.slice ao L.length cap) with
    | none => exact .inl rfl
    | some g => right; have := (World.ownsRow.lt h g e).1; intro h'; simp at h'; omega)

end Go.Proofs.Ytbagloapclgpnaa
