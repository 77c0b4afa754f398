/- Reading of a body by the model: where there is no request, and copies of bytes. Regions in open order: one of two that come up; what leaves no value. Reading of a body by the model: where there are numbers enough. -/
import Derived.Test.YtgjbjafodkiilaaTj29
import Derived.Test.YtgjbjafodkiilaaTj8
import Derived.Test.YtgjbjafodkiilaaTj24
import Derived.Test.YtgjbjafodkiilaaTj10
import Derived.Test.YtgjbjafodkiilaaTj12
namespace Go.Proofs.Ytgjbjafodkiilaa
open Go.RowKit
set_option linter.unusedVariables false
attribute [local go_sem high] sl_from sl_upto

/-- What the model's reading leaves: whether there is a request; if so, its lists. -/
def ReadS (w : World) (L : List Int) (e : Ending) (w' : World) : Prop :=
  (rdC L = 5 ∧ (∃ x ao' na ca' bo' nb cb', e = .returned (.tuple #[.agg #[.int .i64 x, .slice ao' na ca', .slice bo' nb cb'], .bool false])) ∧ Below w.heap.size w w') ∨
  (rdC L = 0 ∧ ∃ ao' ca' bo' cb' mid, e = .returned (.tuple #[.agg #[.int .i64 (rdK L), .slice ao' (rdA L).length ca', .slice bo' (rdD L).length cb'], .bool true]) ∧ Below w.heap.size w w' ∧ w.heap.size ≤ mid ∧ mid ≤ w'.heap.size ∧ Wrt .i64 w' w.heap.size mid ao' (rdA L) ∧ Wrt .u8 w' mid w'.heap.size bo' (rdD L))

end Go.Proofs.Ytgjbjafodkiilaa

namespace Go.Proofs.Ytgjbjafodkiilaa
open Go.RowKit
set_option linter.unusedVariables false

section
variable {P : Program} {md : Region.Mode} {ops : Array Oper} {Q : Exit → Act → World → Prop} {S : World → Prop}
theorem held_two {i j : Nat} {oi oj : Oper} {fuel : Nat} {listed : Array Bool} {a : Act} {w : World} (hi : ops[i]? = some oi) (hj : ops[j]? = some oj) (hr : Region.ready md ops listed = [i, j]) (hw : Region.wanted oi (yielded ops a.tmps) = true) (hw' : Region.wanted oj (yielded ops a.tmps) = true)
    (h : oi.wp P a w (fun a' w' => S w' ∧ wpAnyH P md ops Q S fuel (listed.setIfInBounds i true) a' w') Q) (h' : oj.wp P a w (fun a' w' => S w' ∧ wpAnyH P md ops Q S fuel (listed.setIfInBounds j true) a' w') Q) : wpAnyH P md ops Q S (fuel + 1) listed a w :=
  wpAnyH_all hr (by simp) (fun k hk => by
    unfold wpOp
    simp only [List.mem_cons, List.not_mem_nil, or_false] at hk
    rcases hk with rfl | rfl
    · simp only [hi]; rw [if_pos hw]; exact .inl h
    · simp only [hj]; rw [if_pos hw']; exact .inl h')
end

theorem wp_of_skip {P : Program} {Q : Exit → Act → World → Prop} {o : Oper} {a : Act} {w w' : World} {K : Act → World → Prop} (h : (execOp a.eval o).run P w = .ok .skip w') (hk : K (a.put o.dst undef) w') : o.wp P a w K Q := by
  unfold Oper.wp
  rw [h]
  exact hk
end Go.Proofs.Ytgjbjafodkiilaa

namespace Go.Proofs.Ytgjbjafodkiilaa
open Go.RowKit
set_option linter.unusedVariables false
attribute [local go_sem high] sl_from sl_upto
attribute [local go_sem] growUpon growAt

theorem rF_read {k : Int} {r : List Int} (h1 : 1 ≤ k) (h2 : k ≤ 13) (h : aN k ≤ r.length) (hB : byts r) : rF k (r.take (aN k)) (r.drop (aN k)).length = if r.length - aN k ≤ mD k then 0 else 2 := by
  have hl : (r.take (aN k)).length = aN k := by simp; omega
  have hd : (r.drop (aN k)).length = r.length - aN k := by simp
  by_cases hm : r.length - aN k ≤ mD k
  · rw [if_pos hm, rF_args h1 h2 (mny_no hl (by omega)), aF_yes (all_none fun i hi => ?_)]
    unfold isB
    exact decide_eq_true (byts_take hB (aN k) i hi)
  · rw [if_neg hm, rF_many h1 h2 (mny_yes (.inr (by omega)))]

theorem R3.far {w w' : World} {b lo hi : Nat} {v0 v1 v2 : Value} (h : R3 w b v0 v1 v2) (f : Far lo hi w w') (hd : b < lo ∨ hi ≤ b) : R3 w' b v0 v1 v2 :=
  ⟨(f.cell b 0 h.lt hd).trans h.c0, (f.cell b 1 h.lt hd).trans h.c1, (f.cell b 2 h.lt hd).trans h.c2, (f.frozen b 0 h.lt hd).trans h.f0, (f.frozen b 1 h.lt hd).trans h.f1, (f.frozen b 2 h.lt hd).trans h.f2, Nat.lt_of_lt_of_le h.lt f.size⟩
/-- It answered that number. -/
def SaidNum (x : Int) (w2 : World) (v : Value) : Prop := v = .int .i64 x

end Go.Proofs.Ytgjbjafodkiilaa
