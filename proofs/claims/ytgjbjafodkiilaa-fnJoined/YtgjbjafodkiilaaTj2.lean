/- Regions in the text's order, long ones: what was made is told once, at their end; tests that are left open ('&&', '||') are carried along, not parted. Guarded operations in a region whose order is open: the guard's value is found first, then the operation comes up or not. The rest of the region is wrapped, so that no tactic looks into it. -/
import Derived.Test.YtgjbjafodkiilaaTj1
import Derived.Test.YtgjbjafodkiilaaTj0
namespace Go.Proofs.Ytgjbjafodkiilaa
open Go.RowKit

section
variable {P : Program} {ops : Array Oper}

theorem wpList_of_grow {W : World} {E : Act → Prop} {Q : Exit → Act → World → Prop} {l2 : List Oper} (h2 : ∀ a w, Kept W w → E a → wpList P ops Q l2 a w) (l1 : List Oper) :
    ∀ (a : Act) (w : World), Kept W w → wpGrow P ops W E l1 a → wpList P ops Q (l1 ++ l2) a w := by
  induction l1 with
  | nil => intro a w hw h; exact h2 a w hw h
  | cons o l1 ih =>
    intro a w hw ⟨v, hg, hn⟩
    rw [List.cons_append]
    unfold wpList
    rcases hg with ⟨hwt, hg⟩ | ⟨hwf, rfl⟩
    · rw [if_pos hwt]
      exact .inl (wp_of_grow (hg w hw) fun w' hb => ih _ w' (hw.trans hb) hn)
    · rw [if_neg (by rw [hwf]; simp)]
      exact ih _ w hw hn

theorem wp_region_seq {id : Nat} {Q : Exit → Act → World → Prop} {a : Act} {w : World} {l : List Oper} (n : Nat)
    (h : wpGrow P l.toArray w (fun a' => ∀ w', Kept w w' → wpList P l.toArray Q (l.drop n) a' w') (l.take n) a) : (Code.region id l.toArray false).wp P Q a w := by
  refine wp_region_lit ?_
  have e := wpList_of_grow (l2 := l.drop n) (fun a' w' hk hE => hE w' hk) (l.take n) a w (Kept.refl _) h
  rwa [List.take_append_drop] at e

/-- An operation whose guard is a test left open. -/
theorem grow_guard {W : World} {E : Act → Prop} {a : Act} {o : Oper} {rest : List Oper} (b : Bool) (hw : Region.wanted o (yielded ops a.tmps) = b)
    (h : ∃ v, (b = true → ∀ w, Kept W w → growAt P o a w v) ∧ ∀ K : Act → Prop, (∀ a', wpGrow P ops W E rest a' → K a') → K (a.put o.dst (if b then v else undef))) : wpGrow P ops W E (o :: rest) a := by
  obtain ⟨v, hv, h⟩ := h
  cases b
  · exact ⟨undef, .inr ⟨hw, rfl⟩, h _ (fun _ h => h)⟩
  · exact ⟨v, .inl ⟨hw, hv rfl⟩, h _ (fun _ h => h)⟩

theorem wanted_yes {o : Oper} {a : Act} {g : Nat} {b : Bool} (hg : o.guard = some (g, true)) (hy : yielded ops a.tmps g = some b) : Region.wanted o (yielded ops a.tmps) = b := by
  unfold Region.wanted; rw [hg]; simp only [hy]; cases b <;> rfl
theorem wanted_no {o : Oper} {a : Act} {g : Nat} {b : Bool} (hg : o.guard = some (g, false)) (hy : yielded ops a.tmps g = some b) : Region.wanted o (yielded ops a.tmps) = !b := by
  unfold Region.wanted; rw [hg]; simp only [hy]; cases b <;> rfl

theorem pick_and {p q : Prop} [Decidable p] [Decidable q] (c : Bool) (h : p → q) : (if p then (if q then Value.bool c else undef) else Value.bool false) = Value.bool (decide p && c) := by
  by_cases hp : p
  · simp [hp, h hp]
  · simp [hp]
theorem pick_or {p q : Prop} [Decidable p] [Decidable q] (c : Bool) (h : ¬ p → q) : (if p then Value.bool true else (if q then Value.bool c else undef)) = Value.bool (decide p || c) := by
  by_cases hp : p
  · simp [hp]
  · simp [hp, h hp]
end
end Go.Proofs.Ytgjbjafodkiilaa

namespace Go.Proofs.Ytgjbjafodkiilaa
open Go.RowKit

structure WQ (P : Program) (ops : Array Oper) (C : World → Prop) (Q : Act → Prop) (l : List Oper) (a : Act) : Prop where
  out : wpQuiet P ops C Q l a

theorem wanted_free {o : Oper} {y : Nat → Option Bool} (hg : o.guard = none) : Region.wanted o y = true := by
  unfold Region.wanted; rw [hg]
theorem wanted_lost {o : Oper} {y : Nat → Option Bool} {g : Nat} {p : Bool} (hg : o.guard = some (g, p)) (hy : y g = none) : Region.wanted o y = false := by
  unfold Region.wanted; rw [hg]; simp [hy]
theorem wq_up {P : Program} {ops : Array Oper} {C : World → Prop} {Q : Act → Prop} {a : Act} {o : Oper} {rest : List Oper} (b : Bool) (hw : Region.wanted o (yielded ops a.tmps) = b) (hb : b = true)
    (h : ∃ v, (∀ w, C w → o.quietAt P a C w v) ∧ ∀ K : Act → Prop, (∀ a', WQ P ops C Q rest a' → K a') → K (a.put o.dst v)) : WQ P ops C Q (o :: rest) a := by
  obtain ⟨v, h1, h2⟩ := h
  exact ⟨kept_step (hw.trans hb) ⟨v, h1, fun K hK => h2 K fun a' h => hK a' h.out⟩⟩
theorem wq_off {P : Program} {ops : Array Oper} {C : World → Prop} {Q : Act → Prop} {a : Act} {o : Oper} {rest : List Oper} (b : Bool) (hw : Region.wanted o (yielded ops a.tmps) = b) (hb : b = false)
    (h : ∀ K : Act → Prop, (∀ a', WQ P ops C Q rest a' → K a') → K (a.put o.dst undef)) : WQ P ops C Q (o :: rest) a :=
  ⟨kept_skip (hw.trans hb) fun K hK => h K fun a' h => hK a' h.out⟩
theorem wq_nil {P : Program} {ops : Array Oper} {C : World → Prop} {Q : Act → Prop} {a : Act} (h : Q a) : WQ P ops C Q [] a := ⟨wpQuiet_nil h⟩
theorem wp_region_wq {P : Program} {id : Nat} {Q : Exit → Act → World → Prop} {a : Act} {w : World} {l : List Oper} (hm : P.follows .mixedOrders = true) (hB : Region.lexB .any l.toArray = true)
    (h : WQ P l.toArray (Kept w) (fun a' => ∀ w', Kept w w' → Q .normal a' w') l a) : (Code.region id l.toArray true).wp P Q a w := wp_region_kept hm hB h.out
theorem wp_region_wq_tail {P : Program} {id : Nat} {Q : Exit → Act → World → Prop} {a : Act} {w : World} {l : List Oper} (n : Nat) (hm : P.follows .mixedOrders = true) (hB : Region.lexTailB .any l.toArray n = true)
    (h : WQ P l.toArray (Kept w) (fun a' => ∀ w', Kept w w' → wpList P l.toArray Q (l.drop n) a' w') (l.take n) a) : (Code.region id l.toArray true).wp P Q a w := wp_region_kept_tail n hm hB h.out
end Go.Proofs.Ytgjbjafodkiilaa
