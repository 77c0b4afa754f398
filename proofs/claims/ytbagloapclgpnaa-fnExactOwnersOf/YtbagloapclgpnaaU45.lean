/- Whose each point is: what the program's walk needs. -/
import Derived.Test.YtbagloapclgpnaaU38
import Derived.Test.YtbagloapclgpnaaU44
namespace Go.Proofs.Ytbagloapclgpnaa
open Go.RowKit Go.Shelf Go.Maps
set_option linter.unusedVariables false

/-- A frame on its way out over marks alone; what is no mark stays. -/
theorem leave_marksO {F : Fence} {n : Nat} {P : Program} {fn : Func} {tmps : Array Value} {R : Ending → World → Prop} (lo : Nat) (Ds : List Nat) : ∀ (w : World), Mks w lo Ds → lo ≤ w.heap.size →
    (∀ w', Below lo w w' → (∀ k, (∀ D ∈ Ds, k ≠ D) → w'.heap[k]? = w.heap[k]?) → LeavesInM F n P fn tmps R [] .returning w') → LeavesInM F n P fn tmps R (marks Ds) .returning w := by
  induction Ds with
  | nil => intro w _ _ h; exact h w (Below.refl _ _) (fun _ _ => rfl)
  | cons D Ds ih =>
    intro w hM hlo h
    obtain ⟨h1, h2, h3⟩ := hM.at_ D (by simp)
    have hb : Below lo w (w.putObj D (.deferred none)) := ⟨rfl, rfl, rfl, by simp, fun k hk => World.putObj_heap_other (by omega)⟩
    refine ⟨by simp, .inl ⟨D, w.putObj D (.deferred none), rfl, run_takeDeferred h3, ih _ ⟨fun E hE => ?_, (List.nodup_cons.1 hM.once).2⟩ (by simpa using hlo) fun w' k hk => h w' (hb.trans k) fun j hj => (hk j fun E hE => hj E (by simp [hE])).trans (World.putObj_heap_other (hj D (by simp)))⟩⟩
    obtain ⟨g1, g2, g3⟩ := hM.at_ E (by simp [hE])
    have hne : E ≠ D := fun e => (List.nodup_cons.1 hM.once).1 (e ▸ hE)
    exact ⟨g1, by simpa using g2, (World.putObj_heap_other hne).trans g3⟩

theorem ownR_cells {w : World} {base : Nat} {so : Option Addr} {sc : Nat} {M : List Int} (h : OwnR .i64 2 w base so sc M) {a : Addr} (ha : so = some a) : ∃ cur, w.heap[a.block]? = some (.cells cur 2 (0, 0)) := by
  rcases h.2 with ⟨hv, _⟩ | ⟨g, cap, cur, hv, _, hg, _⟩
  · subst ha; cases hv
  · subst ha; cases hv; exact ⟨cur, hg⟩
theorem ownR_same {w w' : World} {base : Nat} {so : Option Addr} {sc : Nat} {M : List Int} (h : OwnR .i64 2 w base so sc M) (e : ∀ a, so = some a → w'.heap[a.block]? = w.heap[a.block]?) : OwnR .i64 2 w' base so sc M := by
  refine ⟨h.1, ?_⟩
  rcases h.2 with h1 | ⟨g, cap, cur, hv, hb, hg, r⟩
  · exact .inl h1
  · cases hv
    exact .inr ⟨g, sc, cur, rfl, hb, (e ⟨g, 0, none⟩ rfl).trans hg, r⟩

section
variable {Wk W W' : World} {base bl bx off : Nat} {so : Option Addr} {sc : Nat} {M : List Int}
theorem os_own {α : Type} (B : Nat) (hB : Wk.heap.size ≤ B) (hx : bx < Wk.heap.size) (F : List α → List Int) : OwnFrom B (fun (pre : List α) W => ∃ so sc, OS Wk W base bl bx off so sc (F pre)) := fun s A W' row hs hg hr => by
  obtain ⟨so, sc, O⟩ := hs
  have hxA : bx < A.heap.size := Nat.lt_of_lt_of_le hx O.size
  have hb := hg.block bx hxA (fun e => by have := (hr bx e.symm).1; omega)
  refine ⟨so, sc, ownR_same O.own fun a ha => hg.block _ ?_ fun e => ?_, O.row, (World.cell?_of_block (a := ⟨bx, off, none⟩) hb).trans O.cell, (World.frozen?_of_block (a := ⟨bx, off, none⟩) hb).trans O.free, fun c hc => (World.cell?_of_block (a := ⟨bx, c, none⟩) hb).trans (O.oth c hc),
    fun k hk h1 h2 => (hg.block k (Nat.lt_of_lt_of_le hk O.size) (fun e => by have := (hr k e.symm).1; omega)).trans (O.blk k hk h1 h2), hg.os.trans O.os, hg.tape.trans O.tape, hg.output.trans O.output, Nat.le_trans O.size hg.size⟩
  · obtain ⟨cur, hc⟩ := ownR_cells O.own ha
    exact (Array.getElem?_eq_some_iff.1 hc).1
  · obtain ⟨cur, hc⟩ := ownR_cells O.own ha
    obtain ⟨_, o, ho, hcell⟩ := hr _ e.symm
    rw [hc] at ho
    cases ho
    cases hcell

/-- What is no row of numbers stays behind one more number and the store. -/
theorem OS.keepsFrom {B : Nat} {w2 : World} {so' : Option Addr} {sc' : Nat} {N : List Int} {v : Value} {o : Obj} (h : OS Wk W base bl bx off so sc M) (hx : bx < B) (s : Snoc base (W.alloc o) so N so' sc' w2) : KeepsFrom B W (w2.setCell ⟨bx, off, none⟩ v) := by
  have ka := kal5 W o
  refine ⟨Nat.le_trans (Nat.le_trans ka.size s.below.size) (Turn.store w2 ⟨bx, off, none⟩ v).size, fun k o' hB hk hc => ?_⟩
  have hkl := (Array.getElem?_eq_some_iff.1 hk).1
  have hsz := ka.size
  refine ((Turn.store w2 ⟨bx, off, none⟩ v).block k (Nat.lt_of_lt_of_le (Nat.lt_of_lt_of_le hkl ka.size) s.below.size) (by show k ≠ bx; omega)).trans ?_
  refine (s.blk k (Nat.lt_of_lt_of_le hkl ka.size) fun a ha e => ?_).trans ((ka.block k hkl).trans hk)
  obtain ⟨cur, hcur⟩ := ownR_cells h.own ha
  rw [e, hk] at hcur
  cases hcur
  cases hc
end
end Go.Proofs.Ytbagloapclgpnaa
