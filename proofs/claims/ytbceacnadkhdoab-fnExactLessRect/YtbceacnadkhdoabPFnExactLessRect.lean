/- At every two rectangles LessRect answers as the model does, its answer owns its memory, and the arguments read as before. No conditions. -/
import Derived.Test.YtbceacnadkhdoabRows
import Derived.Test.YtbceacnadkhdoabLess4
import Derived.ProofKit
import Derived.Lib.SmallJoins
import Derived.ShutString
import Derived.Below
namespace Go.Proofs.Ytbceacnadkhdoab.FnExactLessRect
open Go.ChangeShapes Go.WideShapes Go.ChangeAt Go.RowKit Go.Joins
open Go.ChangeMaps (open_string shut_string)
set_option linter.unusedVariables false

theorem own : ownKnob Try.prog.godebug = none := by kernel_rfl
theorem laidOut : laidOutB Try.prog = true := by kernel_rfl
theorem cellsRect : Try.prog.cellsOf 23 = 4 := by kernel_rfl

set_option maxRecDepth 100000 in
theorem lifted (os : Os) (started : os.Started) (H : Type) (enc : TypeId × Value → H) :
    ReturnsInHanded {} Try.checked os 3 .any (Rows.fnExactLessRectSpec.pre6 enc Try.prog Try.f3 Rows.fnExactLessRectRow.domain false) (Rows.fnExactLessRectSpec.post enc Try.prog Try.f3 false true false false) := by
  refine returnsInHanded_of_change (C := Try.checked) own started (by kernel_rfl) Try.func3
    (ChangeSpec.witness6 (enc := enc) (C := Try.checked) false ⟨#[], #[.agg #[.int .i64 0, .int .i64 0, .int .i64 0, .int .i64 0], .agg #[.int .i64 0, .int .i64 0, .int .i64 0, .int .i64 0]], []⟩ 8 (by kernel_rfl) (by kernel_rfl) (by kernel_rfl) (by kernel_rfl)) ?_
  intro W base args ds gs before hval0 hW hcnd _
  have hval : ∀ (j : Nat) t v, Try.f3.params[j]? = some t → args[j]? = some v → Value.okWide Try.prog W .any base t v := hval0
  have hW' := hW
  obtain ⟨p, q, hA0, hV, rfl, hfz, hnd⟩ := hW
  have hA : DataW.TrodAll enc Try.prog W 0 (fun _ => true) true Try.f3.params.toList args.toList ds p := hA0
  rw [Try.params3] at hA hval
  obtain ⟨v0, vs0, d0, ds0, p0, q0, hargs, rfl, rfl, h0, r0⟩ := trodAll_cons hA
  obtain ⟨v1, vs1, d1, ds1, p1, q1, rfl, rfl, rfl, h1, r1⟩ := trodAll_cons r0
  obtain ⟨rfl, rfl, rfl⟩ := trodAll_nil r1
  obtain rfl : args = #[v0, v1] := by cases args; simp_all
  obtain ⟨rfl, rfl⟩ := trodVars_none hV
  have k0 := h0
  have lt0 : ∀ x ∈ p0, x.block < W.heap.size := by obtain ⟨m, hm⟩ := k0; exact DataW.trod_lt m _ _ _ hm
  obtain ⟨c0, e0, g0, j0, y0, z0, s0, t0, m0, rfl, rfl, rfl, hy0, hz0, hs0, ht0⟩ := open_agg4 Try.underlying23 (by kernel_rfl) cellsRect (hval 0 23 v0 rfl rfl) h0
  obtain ⟨a0n, ea0, rfl, wa0⟩ := DataW.trod_int Try.underlying2 hy0
  simp at ea0
  subst ea0
  obtain ⟨b0n, eb0, rfl, wb0⟩ := DataW.trod_int Try.underlying2 hz0
  simp at eb0
  subst eb0
  obtain ⟨u0n, eu0, rfl, wu0⟩ := DataW.trod_int Try.underlying2 hs0
  simp at eu0
  subst eu0
  obtain ⟨v0n, ev0, rfl, wv0⟩ := DataW.trod_int Try.underlying2 ht0
  simp at ev0
  subst ev0
  have k1 := h1
  have lt1 : ∀ x ∈ p1, x.block < W.heap.size := by obtain ⟨m, hm⟩ := k1; exact DataW.trod_lt m _ _ _ hm
  obtain ⟨c1, e1, g1, j1, y1, z1, s1, t1, m1, rfl, rfl, rfl, hy1, hz1, hs1, ht1⟩ := open_agg4 Try.underlying23 (by kernel_rfl) cellsRect (hval 1 23 v1 rfl rfl) h1
  obtain ⟨a1n, ea1, rfl, wa1⟩ := DataW.trod_int Try.underlying2 hy1
  simp at ea1
  subst ea1
  obtain ⟨b1n, eb1, rfl, wb1⟩ := DataW.trod_int Try.underlying2 hz1
  simp at eb1
  subst eb1
  obtain ⟨u1n, eu1, rfl, wu1⟩ := DataW.trod_int Try.underlying2 hs1
  simp at eu1
  subst eu1
  obtain ⟨v1n, ev1, rfl, wv1⟩ := DataW.trod_int Try.underlying2 ht1
  simp at ev1
  subst ev1
  clear hA0 hval0
  refine (less_law_i a0n b0n u0n v0n a1n b1n u1n v1n W).mono fun e W' ⟨he, bel⟩ => ?_
  subst he
  exact ⟨_, rfl, _, _, _, [], _, [], hW', trodAll_mk1 (shut_bool Try.underlying4 _), (trodAll_cons_mk (Below.trod laidOut (by kernel_rfl) (of_decide_eq_true (by kernel_rfl)) k0 bel lt0) (trodAll_cons_mk (Below.trod laidOut (by kernel_rfl) (of_decide_eq_true (by kernel_rfl)) k1 bel lt1) trodAll_mk0)), rfl, bel.frame _, fun h => by cases h⟩

theorem over : Rows.fnExactLessRectRow.holds Try.pinned (OpenSpec.ofChange Rows.fnExactLessRectSpec) :=
  OpenClaim.holds_of_wide 3 Try.f3 rfl rfl rfl rfl rfl rfl rfl ⟨rfl, rfl, rfl, rfl, rfl⟩ rfl rfl rfl rfl rfl (by kernel_rfl) Try.func3 (by kernel_rfl)
    (of_decide_eq_true (by kernel_rfl)) (by unfold Func.isWrapper; first | (rw [if_pos (by decide +kernel)]; kernel_rfl) | (rw [if_neg (by decide +kernel)]; exact ⟨rfl, rfl⟩))
    (fun os started H enc _ => lifted os started H enc)

end Go.Proofs.Ytbceacnadkhdoab.FnExactLessRect
namespace Go.Proofs.Ytbceacnadkhdoab
theorem fnExactLessRect_holds : Rows.FnExactLessRectSaid := FnExactLessRect.over
end Go.Proofs.Ytbceacnadkhdoab
