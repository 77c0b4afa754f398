/- Lists of requests: how great, copied, held against each other, marked, by the laws' own functions. -/
import Derived.Test.YtgjbjafodkiilaaTj14
namespace Go.Proofs.Ytgjbjafodkiilaa
open Go.RowKit
set_option linter.unusedVariables false

theorem Try.infoRq : (Try.prog.info? 42).map (fun i => (i.zero, i.size, i.bytes)) = some (some (.agg #[.int .i64 0, .slice none 0 0, .slice none 0 0]), 3, 56) := by kernel_rfl

theorem mid_in {α : Type} {X Y L : List α} {r : α} (h : X ++ r :: Y = L) : (X ++ [r]) ++ Y = L := by rw [← h]; simp

/-- A copy of a list of requests, its first ones there. -/
structure FillQ (w wr : World) (g n : Nat) (M : List Rq) : Prop where
  below : Below w.heap.size w wr
  own : OwnQ wr g wr.heap.size M
  there : ∀ c, c < n * 3 → ∃ u, wr.cell? ⟨g, c, none⟩ = some u
  le : w.heap.size ≤ g
theorem FillQ.keep {w wr wr' : World} {g n : Nat} {M : List Rq} (h : FillQ w wr g n M) (k : Below wr.heap.size wr wr') : Below w.heap.size w wr' ∧ OwnQ wr' g wr.heap.size M ∧ (∀ c, c < n * 3 → ∃ u, wr'.cell? ⟨g, c, none⟩ = some u) := by
  have hg := h.own.sp.le
  exact ⟨h.below.trans (k.mono h.below.size), h.own.keep k (Nat.le_refl _), fun c hc => by obtain ⟨u, hu⟩ := h.there c hc; exact ⟨u, (k.cell (p := ⟨g, c, none⟩) (by show g < _; omega)).trans hu⟩⟩
theorem FillQ.step {w wr w2 : World} {g n mid : Nat} {M : List Rq} {r : Rq} (h : FillQ w wr g n M) (hi : M.length < n) (k : Below wr.heap.size wr w2) (R : Req w2 wr.heap.size mid w2.heap.size r.ao r.bo r.A r.D) :
    FillQ w (((w2.setCell ⟨g, M.length * 3, none⟩ (.int .i64 r.k)).setCell ⟨g, M.length * 3 + 1, none⟩ (.slice r.ao r.A.length r.ca)).setCell ⟨g, M.length * 3 + 2, none⟩ (.slice r.bo r.D.length r.cb)) g n (M ++ [r]) := by
  obtain ⟨hb, ho, ht⟩ := h.keep k
  have hg := h.own.sp.le
  have hgl : w.heap.size ≤ g := h.le
  obtain ⟨u0, t0⟩ := ht (M.length * 3) (by omega)
  obtain ⟨u1, t1⟩ := ht (M.length * 3 + 1) (by omega)
  obtain ⟨u2, t2⟩ := ht (M.length * 3 + 2) (by omega)
  have F : Far g (g + 1) w2 (((w2.setCell ⟨g, M.length * 3, none⟩ (.int .i64 r.k)).setCell ⟨g, M.length * 3 + 1, none⟩ (.slice r.ao r.A.length r.ca)).setCell ⟨g, M.length * 3 + 2, none⟩ (.slice r.bo r.D.length r.cb)) :=
    (((Far.refl g (g + 1) w2).setCell (p := ⟨g, _, none⟩) (Nat.le_refl _) (by show g < g + 1; omega) _).setCell (p := ⟨g, _, none⟩) (Nat.le_refl _) (by show g < g + 1; omega) _).setCell (p := ⟨g, _, none⟩) (Nat.le_refl _) (by show g < g + 1; omega) _
  refine ⟨((hb.setCell (p := ⟨g, _, none⟩) hgl _).setCell (p := ⟨g, _, none⟩) hgl _).setCell (p := ⟨g, _, none⟩) hgl _, ⟨fun i hi' => ?_, fun c => by simpa using ho.free c, ?_⟩, fun c hc => ?_, hgl⟩
  · by_cases e : i < M.length
    · rw [List.getElem_append_left e]
      obtain ⟨c0, c1, c2⟩ := ho.cells i e
      refine ⟨?_, ?_, ?_⟩ <;> (repeat rw [cell_set_other (by omega)]) <;> assumption
    · obtain rfl : i = M.length := by simp at hi'; omega
      simp only [List.getElem_append_right (Nat.le_refl _), Nat.sub_self, List.getElem_cons_zero]
      refine ⟨?_, ?_, ?_⟩
      · rw [cell_set_other (by omega), cell_set_other (by omega)]; exact cell_set_same t0
      · rw [cell_set_other (by omega)]; exact cell_set_same ((cell_set_other (by omega)).trans t1)
      · exact cell_set_same ((cell_set_other (by omega)).trans ((cell_set_other (by omega)).trans t2))
  · simp only [World.size_setCell]
    exact Sp.snoc (ho.sp.far F (Nat.le_refl _)) (R.far F (.inr (by omega)))
  · have key : ∀ (W : World) (d : Nat) (v : Value), (∃ u, W.cell? ⟨g, c, none⟩ = some u) → ∃ u, (W.setCell ⟨g, d, none⟩ v).cell? ⟨g, c, none⟩ = some u := fun W d v ⟨u, hu⟩ => by
      by_cases e : c = d
      · subst e; exact ⟨v, cell_set_same hu⟩
      · exact ⟨u, (cell_set_other e).trans hu⟩
    exact key _ _ _ (key _ _ _ (key _ _ _ (ht c hc)))
theorem fillQ_new {w w1 : World} {n : Nat} {xs : List Value} (ho : w1.ownsRow w.heap.size 42 3 (.slice (some ⟨w.heap.size, 0, none⟩) n n) n xs) (hg : w.grownBy w1 none) : FillQ w w1 w.heap.size n [] := by
  have hlt := (World.ownsRow.lt ho w.heap.size rfl).2
  refine ⟨⟨hg.os, hg.tape, hg.output, hg.size, fun k hk => hg.block k hk (by simp)⟩, ⟨fun i hi => by simp at hi, fun c => World.ownsRow.frozenAt ho c, by omega, Nat.le_refl _⟩, fun c hc => ?_, Nat.le_refl _⟩
  rw [World.ownsRow.cellAt ho c hc]
  exact ⟨xs[c]'(by rw [ho.1]; exact hc), by simp⟩

theorem ct_at {X Y : List Rq} {r : Rq} {M : List Rq} (h : M.map Rq.ct = (X ++ r :: Y).map Rq.ct) : ∃ Z W s, M = Z ++ s :: W ∧ Z.length = X.length ∧ s.k = r.k ∧ s.A = r.A ∧ s.D = r.D := by
  have hl : M.length = X.length + Y.length + 1 := by have := congrArg List.length h; simp at this; omega
  have hlt : X.length < M.length := by omega
  have e : M = M.take X.length ++ M[X.length] :: M.drop (X.length + 1) := by simp
  have h2 : (M[X.length]).ct = r.ct := by
    have : (M.map Rq.ct)[X.length]'(by simpa using hlt) = ((X ++ r :: Y).map Rq.ct)[X.length]'(by simp) := by simp only [h]
    simpa using this
  simp only [Rq.ct, Prod.mk.injEq] at h2
  exact ⟨_, _, _, e, by simp; omega, h2.1, h2.2.1, h2.2.2⟩

end Go.Proofs.Ytgjbjafodkiilaa
