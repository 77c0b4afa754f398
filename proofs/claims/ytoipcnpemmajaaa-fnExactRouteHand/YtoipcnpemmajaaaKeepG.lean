/- Guarded operations in a region whose order is open: the guard's value is found first, then the operation comes up or not. The rest of the region is wrapped, so that no tactic looks into it. -/
import Derived.Test.YtoipcnpemmajaaaKeep
import Derived.Test.YtoipcnpemmajaaaGrow2
namespace Go.Proofs.Ytoipcnpemmajaaa
open Go.RowKit

structure WQ (P : Program) (ops : Array Oper) (C : World → Prop) (Q : Act → Prop) (l : List Oper) (a : Act) : Prop where
  out : wpQuiet P ops C Q l a

theorem wanted_free {o : Oper} {y : Nat → Option Bool} (hg : o.guard = none) : Region.wanted o y = true := by
  unfold Region.wanted; rw [hg]
theorem wanted_lost {o : Oper} {y : Nat → Option Bool} {g : Nat} {p : Bool} (hg : o.guard = some (g, p)) (hy : y g = none) : Region.wanted o y = false := by
  unfold Region.wanted; rw [hg]; simp [hy]
theorem wq_up {P : Program} {ops : Array Oper} {C : World → Prop} {Q : Act → Prop} {a : Act} {o : Oper} {rest : List Oper} (b : Bool) (hw : Region.wanted o (yielded ops a.tmps) = b) (hb : b = true)
    (h : ∃ v, (∀ w, C w → o.quietAt P a C w v) ∧ ∀ K : Act → Prop, (∀ a', WQ P ops C Q rest a' → K a') → K (a.put o.dst v)) : WQ P ops C Q (o :: rest) a := by
  obtain ⟨v, h1, h2⟩ := h
  exact ⟨kept_step (hw.trans hb) ⟨v, h1, fun K hK => h2 K fun a' h => hK a' h.out⟩⟩
theorem wq_off {P : Program} {ops : Array Oper} {C : World → Prop} {Q : Act → Prop} {a : Act} {o : Oper} {rest : List Oper} (b : Bool) (hw : Region.wanted o (yielded ops a.tmps) = b) (hb : b = false)
    (h : ∀ K : Act → Prop, (∀ a', WQ P ops C Q rest a' → K a') → K (a.put o.dst undef)) : WQ P ops C Q (o :: rest) a :=
  ⟨kept_skip (hw.trans hb) fun K hK => h K fun a' h => hK a' h.out⟩
theorem wq_nil {P : Program} {ops : Array Oper} {C : World → Prop} {Q : Act → Prop} {a : Act} (h : Q a) : WQ P ops C Q [] a := ⟨wpQuiet_nil h⟩
theorem wp_region_wq {P : Program} {id : Nat} {Q : Exit → Act → World → Prop} {a : Act} {w : World} {l : List Oper} (hm : P.follows .mixedOrders = true) (hB : Region.lexB .any l.toArray = true)
    (h : WQ P l.toArray (Kept w) (fun a' => ∀ w', Kept w w' → Q .normal a' w') l a) : (Code.region id l.toArray true).wp P Q a w := wp_region_kept hm hB h.out
theorem wp_region_wq_tail {P : Program} {id : Nat} {Q : Exit → Act → World → Prop} {a : Act} {w : World} {l : List Oper} (n : Nat) (hm : P.follows .mixedOrders = true) (hB : Region.lexTailB .any l.toArray n = true)
    (h : WQ P l.toArray (Kept w) (fun a' => ∀ w', Kept w w' → wpList P l.toArray Q (l.drop n) a' w') (l.take n) a) : (Code.region id l.toArray true).wp P Q a w := wp_region_kept_tail n hm hB h.out
end Go.Proofs.Ytoipcnpemmajaaa
