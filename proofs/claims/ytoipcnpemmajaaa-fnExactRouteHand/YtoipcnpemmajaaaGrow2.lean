/- Regions in the text's order, long ones: what was made is told once, at their end; tests that are left open ('&&', '||') are carried along, not parted. -/
import Derived.Test.YtoipcnpemmajaaaGrow
namespace Go.Proofs.Ytoipcnpemmajaaa
open Go.RowKit

section
variable {P : Program} {ops : Array Oper}

theorem wpList_of_grow {W : World} {E : Act → Prop} {Q : Exit → Act → World → Prop} {l2 : List Oper} (h2 : ∀ a w, Kept W w → E a → wpList P ops Q l2 a w) (l1 : List Oper) :
    ∀ (a : Act) (w : World), Kept W w → wpGrow P ops W E l1 a → wpList P ops Q (l1 ++ l2) a w := by
  induction l1 with
  | nil => intro a w hw h; exact h2 a w hw h
  | cons o l1 ih =>
    intro a w hw ⟨v, hg, hn⟩
    rw [List.cons_append]
    unfold wpList
    rcases hg with ⟨hwt, hg⟩ | ⟨hwf, rfl⟩
    · rw [if_pos hwt]
      exact .inl (wp_of_grow (hg w hw) fun w' hb => ih _ w' (hw.trans hb) hn)
    · rw [if_neg (by rw [hwf]; simp)]
      exact ih _ w hw hn

theorem wp_region_seq {id : Nat} {Q : Exit → Act → World → Prop} {a : Act} {w : World} {l : List Oper} (n : Nat)
    (h : wpGrow P l.toArray w (fun a' => ∀ w', Kept w w' → wpList P l.toArray Q (l.drop n) a' w') (l.take n) a) : (Code.region id l.toArray false).wp P Q a w := by
  refine wp_region_lit ?_
  have e := wpList_of_grow (l2 := l.drop n) (fun a' w' hk hE => hE w' hk) (l.take n) a w (Kept.refl _) h
  rwa [List.take_append_drop] at e

/-- An operation whose guard is a test left open. -/
theorem grow_guard {W : World} {E : Act → Prop} {a : Act} {o : Oper} {rest : List Oper} (b : Bool) (hw : Region.wanted o (yielded ops a.tmps) = b)
    (h : ∃ v, (b = true → ∀ w, Kept W w → growAt P o a w v) ∧ ∀ K : Act → Prop, (∀ a', wpGrow P ops W E rest a' → K a') → K (a.put o.dst (if b then v else undef))) : wpGrow P ops W E (o :: rest) a := by
  obtain ⟨v, hv, h⟩ := h
  cases b
  · exact ⟨undef, .inr ⟨hw, rfl⟩, h _ (fun _ h => h)⟩
  · exact ⟨v, .inl ⟨hw, hv rfl⟩, h _ (fun _ h => h)⟩

theorem wanted_yes {o : Oper} {a : Act} {g : Nat} {b : Bool} (hg : o.guard = some (g, true)) (hy : yielded ops a.tmps g = some b) : Region.wanted o (yielded ops a.tmps) = b := by
  unfold Region.wanted; rw [hg]; simp only [hy]; cases b <;> rfl
theorem wanted_no {o : Oper} {a : Act} {g : Nat} {b : Bool} (hg : o.guard = some (g, false)) (hy : yielded ops a.tmps g = some b) : Region.wanted o (yielded ops a.tmps) = !b := by
  unfold Region.wanted; rw [hg]; simp only [hy]; cases b <;> rfl

theorem pick_and {p q : Prop} [Decidable p] [Decidable q] (c : Bool) (h : p → q) : (if p then (if q then Value.bool c else undef) else Value.bool false) = Value.bool (decide p && c) := by
  by_cases hp : p
  · simp [hp, h hp]
  · simp [hp]
theorem pick_or {p q : Prop} [Decidable p] [Decidable q] (c : Bool) (h : ¬ p → q) : (if p then Value.bool true else (if q then Value.bool c else undef)) = Value.bool (decide p || c) := by
  by_cases hp : p
  · simp [hp]
  · simp [hp, h hp]
end
end Go.Proofs.Ytoipcnpemmajaaa
