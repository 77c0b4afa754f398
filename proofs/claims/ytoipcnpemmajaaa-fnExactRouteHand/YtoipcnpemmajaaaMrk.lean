/- Marks among the deferred calls: what a range over a function leaves there, and how a frame goes out over them. -/
import Derived.Test.YtoipcnpemmajaaaPts
import Derived.Test.YtoipcnpemmajaaaDraw1
import Derived.Test.YtoipcnpemmajaaaMade2
namespace Go.Proofs.Ytoipcnpemmajaaa
open Go.RowKit Go.Shelf
set_option linter.unusedVariables false

def marks (Ds : List Nat) : List Deferred := Ds.map fun D => { target := .collected D, args := #[] }

/-- Ds are blocks from lo on that hold marks; none twice. -/
structure Mks (w : World) (lo : Nat) (Ds : List Nat) : Prop where
  at_ : ∀ D ∈ Ds, lo ≤ D ∧ D < w.heap.size ∧ w.heap[D]? = some (.deferred (some []))
  once : Ds.Nodup

theorem Mks.nil (w : World) (lo : Nat) : Mks w lo [] := ⟨fun D h => (by cases h), List.nodup_nil⟩
theorem Mks.cons {w : World} {lo D : Nat} {Ds : List Nat} (h : Mks w lo Ds) (hD : w.heap[D]? = some (.deferred (some []))) (hlo : lo ≤ D) (hn : ∀ E ∈ Ds, E < D) : Mks w lo (D :: Ds) := by
  refine ⟨fun E hE => ?_, List.nodup_cons.2 ⟨fun hm => Nat.lt_irrefl _ (hn D hm), h.once⟩⟩
  rcases List.mem_cons.1 hE with rfl | hE
  · exact ⟨hlo, (Array.getElem?_eq_some_iff.1 hD).1, hD⟩
  · exact h.at_ E hE
theorem Mks.turn {w w' : World} {lo b : Nat} {Ds : List Nat} (h : Mks w lo Ds) (t : Turn b w w') (hb : b < lo) : Mks w' lo Ds :=
  ⟨fun D hD => by obtain ⟨h1, h2, h3⟩ := h.at_ D hD; exact ⟨h1, Nat.lt_of_lt_of_le h2 t.size, (t.block D h2 (by omega)).trans h3⟩, h.once⟩

/-- A frame on its way out over marks alone. -/
theorem leave_marks {F : Fence} {n : Nat} {P : Program} {fn : Func} {tmps : Array Value} {R : Ending → World → Prop} (lo : Nat) (Ds : List Nat) : ∀ (w : World), Mks w lo Ds → lo ≤ w.heap.size →
    (∀ w', Below lo w w' → LeavesInM F n P fn tmps R [] .returning w') → LeavesInM F n P fn tmps R (marks Ds) .returning w := by
  induction Ds with
  | nil => intro w _ _ h; exact h w (Below.refl _ _)
  | cons D Ds ih =>
    intro w hM hlo h
    obtain ⟨h1, h2, h3⟩ := hM.at_ D (by simp)
    have hb : Below lo w (w.putObj D (.deferred none)) := ⟨rfl, rfl, rfl, by simp, fun k hk => World.putObj_heap_other (by omega)⟩
    refine ⟨by simp, .inl ⟨D, w.putObj D (.deferred none), rfl, run_takeDeferred h3, ih _ ⟨fun E hE => ?_, (List.nodup_cons.1 hM.once).2⟩ (by simpa using hlo) fun w' k => h w' (hb.trans k)⟩⟩
    obtain ⟨g1, g2, g3⟩ := hM.at_ E (by simp [hE])
    have hne : E ≠ D := fun e => (List.nodup_cons.1 hM.once).1 (e ▸ hE)
    exact ⟨g1, by simpa using g2, (World.putObj_heap_other hne).trans g3⟩

/-- Which points the iterator tells. -/
theorem mem_rowPts {x y p q : Int} {n : Nat} : (p, q) ∈ rowPts x y n ↔ x ≤ p ∧ p < x + n ∧ q = y := by
  unfold rowPts
  simp only [List.mem_map, List.mem_range, Prod.mk.injEq]
  constructor
  · rintro ⟨i, hi, rfl, rfl⟩; omega
  · rintro ⟨h1, h2, rfl⟩; exact ⟨(p - x).toNat, by omega, by omega, rfl⟩
theorem mem_rowsPts {x y p q : Int} {n m : Nat} : (p, q) ∈ rowsPts x y n m ↔ x ≤ p ∧ p < x + n ∧ y ≤ q ∧ q < y + m := by
  unfold rowsPts
  simp only [List.mem_flatMap, List.mem_range, mem_rowPts]
  constructor
  · rintro ⟨j, hj, h1, h2, rfl⟩; omega
  · rintro ⟨h1, h2, h3, h4⟩; exact ⟨(q - y).toNat, by omega, h1, h2, by omega⟩
theorem mem_pts {r : Rc} (hf : rfB r.x r.y r.w r.h = false) (p q : Int) : (p, q) ∈ ptsOf r ↔ inB r.x r.y r.w r.h p q = true := by
  obtain ⟨_, _, h3, h4⟩ := rfB_no hf
  unfold ptsOf inB
  rw [mem_rowsPts, decide_eq_true_iff]
  omega

end Go.Proofs.Ytoipcnpemmajaaa
