/- Regions whose order is open, with lists joined: what only reads is taken first, the rest comes up one at a time; the source of a join, nil or not. No conditions on the program. -/
import Derived.Test.YtbceacnadkhdoaaLst1
import Derived.Test.YtbceacnadkhdoaaHeld0
namespace Go.Proofs.Ytbceacnadkhdoaa
open Go.RowKit
set_option linter.unusedVariables false

/-- A list of rectangles that is joined to another one: nil, or cells in a block ahead of N. -/
def SrcL (w : World) (N : Nat) (ao : Option Addr) (cap : Nat) (L : List Rc) : Prop :=
  (ao = none ∧ cap = 0 ∧ L = []) ∨ ∃ g, ao = some ⟨g, 0, none⟩ ∧ (L ≠ [] → g < N) ∧ ∀ j u, (rcs L)[j]? = some u → w.cell? ((⟨g, 0, none⟩ : Addr).add j) = some u

theorem Own.src {w : World} {base : Nat} {ao : Option Addr} {cap : Nat} {L : List Rc} (h : Own w base ao cap L) : SrcL w w.heap.size ao cap L := by
  rcases h.2 with ⟨hv, h0⟩ | ⟨g, cap', cur, hv, hb, hg, _⟩
  · simp only [Value.slice.injEq] at hv
    obtain ⟨rfl, _, rfl⟩ := hv
    exact .inl ⟨rfl, rfl, List.length_eq_zero_iff.1 h0⟩
  · cases hv
    exact .inr ⟨g, rfl, fun _ => (Array.getElem?_eq_some_iff.1 hg).1, World.ownsRow.cells h (g := g) rfl⟩
theorem SrcL.keep {w w' : World} {N n : Nat} {ao : Option Addr} {cap : Nat} {L : List Rc} (h : SrcL w N ao cap L) (k : Below n w w') (hn : N ≤ n) : SrcL w' N ao cap L := by
  rcases h with h | ⟨g, ha, hg, hc⟩
  · exact .inl h
  · refine .inr ⟨g, ha, hg, fun j u hu => ?_⟩
    by_cases e : L = []
    · subst e; simp [rcs] at hu
    · have hb : ((⟨g, 0, none⟩ : Addr).add j).block = g := by unfold Addr.add; split <;> rfl
      rw [k.cell (by rw [hb]; have := hg e; omega)]
      exact hc j u hu
theorem SrcL.wide {w : World} {N N' : Nat} {ao : Option Addr} {cap : Nat} {L : List Rc} (h : SrcL w N ao cap L) (hn : N ≤ N') : SrcL w N' ao cap L := by
  rcases h with h | ⟨g, ha, hg, hc⟩
  · exact .inl h
  · exact .inr ⟨g, ha, fun e => Nat.lt_of_lt_of_le (hg e) hn, hc⟩

theorem rcs_one (L : List Rc) : ∀ u ∈ rcs L, u.oneCell' = true := by
  induction L with
  | nil => intro u hu; simp [rcs] at hu
  | cons r L ih =>
    intro u hu
    rcases List.mem_append.1 hu with hu | hu
    · simp [Rc.cells] at hu; rcases hu with rfl | rfl | rfl | rfl <;> rfl
    · exact ih u hu

theorem wp_append_src {o : Oper} {a : Act} {w : World} {K : Act → World → Prop} {Q : Exit → Act → World → Prop} (s x : Operand)
    (ho : o.op = .call { callee := .builtin .append, args := #[s, x], argTypes := #[28, 28] })
    (base : Nat) (v : Value) (M : List Rc) (hs : a.eval s = v) (hown : w.ownsRow base 25 4 v M.length (rcs M)) (N : Nat) (ao : Option Addr) (cap : Nat) (L : List Rc) (hx : a.eval x = .slice ao L.length cap) (hsrc : SrcL w N ao cap L)
    (hn : M.length + L.length ≤ 1000) (hbase : base ≤ w.heap.size)
    (h : ∀ ao' cap' w', Own w' base ao' cap' (M ++ L) → w.grownBy w' v.ownBlock → K (a.put o.dst (.slice ao' (M ++ L).length cap')) w') : o.wp Try.prog a w K Q := by
  obtain ⟨i0, hi0, hz0, hz1, hz2⟩ := info_parts Try.infoRect
  rcases hsrc with ⟨rfl, rfl, rfl⟩ | ⟨g, rfl, _, hc⟩
  · have hrun := run_append_owned_none (P := Try.prog) (w := w) base 28 o.type 25 i0 4 Try.underlying28 hi0 v M.length (rcs M) hown
    have hr : (execOp a.eval o).run Try.prog w = .ok (.value v) w := by
      unfold execOp
      simp only [ho, resolve, invoke, builtin, Sem.run_bind, Sem.run_pure, Result.andThen_ok, List.map_toArray, List.map_cons, List.map_nil, hs, hx, List.length_nil, hrun]
    obtain ⟨ao', cap', rfl, O⟩ := own_form (L := M ++ []) (by simpa using hown)
    exact wp_of_run hr (h ao' cap' w O ⟨rfl, rfl, rfl, Nat.le_refl _, fun _ _ _ => rfl⟩)
  · refine wp_append_own w s x 28 ho base 25 i0 (.agg #[.int .i64 0, .int .i64 0, .int .i64 0, .int .i64 0]) 4 32 Try.underlying28 hi0 hz0 hz1 hz2 rfl (by decide) v M.length (rcs M) hs hown ⟨g, 0, none⟩ L.length cap (rcs L) hx (rcs_len L) hc (rcs_one L) (by unfold maxLen; omega) (by omega) hbase fun v' w' ho' hg' _ => ?_
    have e : w'.ownsRow base 25 4 v' (M ++ L).length (rcs (M ++ L)) := by rw [rcs_app, List.length_append]; exact ho'
    obtain ⟨ao', cap', rfl, O⟩ := own_form e
    exact h ao' cap' w' O hg'

end Go.Proofs.Ytbceacnadkhdoaa
