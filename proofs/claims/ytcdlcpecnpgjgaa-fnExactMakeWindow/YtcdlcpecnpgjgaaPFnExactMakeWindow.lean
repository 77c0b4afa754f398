/- For every stack, every slot and every rectangle the law FnExactMakeWindow returns true: MakeWindow answers as its model, field by field, writes into no argument, and its answer owns its memory, behind another call too; nothing old in memory turns. No conditions. -/
import Derived.Test.YtcdlcpecnpgjgaaArgW
import Derived.Test.YtcdlcpecnpgjgaaRows
import Derived.Test.YtcdlcpecnpgjgaaLwMake
import Derived.ProofKit
import Derived.Lib.SmallJoins
import Derived.ShutString
import Derived.Below
namespace Go.Proofs.Ytcdlcpecnpgjgaa.FnExactMakeWindow
open Go.ChangeShapes Go.WideShapes Go.ChangeAt Go.RowKit Go.Joins
open Go.ChangeMaps (open_string shut_string)
set_option linter.unusedVariables false

theorem own : ownKnob Try.prog.godebug = none := by kernel_rfl
theorem laidOut : laidOutB Try.prog = true := by kernel_rfl
theorem cellsRect : Try.prog.cellsOf 24 = 4 := by kernel_rfl

set_option maxRecDepth 100000 in
theorem lifted (os : Os) (started : os.Started) (H : Type) (enc : TypeId × Value → H) :
    ReturnsInHanded {} Try.checked os 3 .any (Rows.fnExactMakeWindowSpec.pre6 enc Try.prog Try.f3 Rows.fnExactMakeWindowRow.domain false) (Rows.fnExactMakeWindowSpec.post enc Try.prog Try.f3 false true false false) := by
  refine returnsInHanded_of_change (C := Try.checked) own started (by kernel_rfl) Try.func3
    (ChangeSpec.witness6 (enc := enc) (C := Try.checked) false ⟨#[], #[.slice none 0 0, .int .i64 0, .agg #[.int .i64 0, .int .i64 0, .int .i64 0, .int .i64 0]], []⟩ 8 (by kernel_rfl) (by kernel_rfl) (by kernel_rfl) (by kernel_rfl)) ?_
  intro W base args ds gs before hval0 hW hcnd _
  have hval : ∀ (j : Nat) t v, Try.f3.params[j]? = some t → args[j]? = some v → Value.okWide Try.prog W .any base t v := hval0
  have hW' := hW
  obtain ⟨p, q, hA0, hV, rfl, hfz, hnd⟩ := hW
  have hA : DataW.TrodAll enc Try.prog W 0 (fun _ => true) true Try.f3.params.toList args.toList ds p := hA0
  rw [Try.params3] at hA hval
  obtain ⟨v0, vs0, d0, ds0, p0, q0, hargs, rfl, rfl, h0, r0⟩ := trodAll_cons hA
  obtain ⟨v1, vs1, d1, ds1, p1, q1, rfl, rfl, rfl, h1, r1⟩ := trodAll_cons r0
  obtain ⟨v2, vs2, d2, ds2, p2, q2, rfl, rfl, rfl, h2, r2⟩ := trodAll_cons r1
  obtain ⟨rfl, rfl, rfl⟩ := trodAll_nil r2
  obtain rfl : args = #[v0, v1, v2] := by cases args; simp_all
  obtain ⟨rfl, rfl⟩ := trodVars_none hV
  have k0 := h0
  have lt0 : ∀ x ∈ p0, x.block < W.heap.size := by obtain ⟨m, hm⟩ := k0; exact DataW.trod_lt m _ _ _ hm
  obtain ⟨a0, len0, cap0, rfl⟩ := okWide_slice Try.underlying22 (hval 0 22 v0 rfl rfl)
  obtain ⟨L0, rfl, hm0, hL0, hw0⟩ : ∃ L : List Wn, L.length = len0 ∧ len0 ≤ maxLen ∧ Ws W 0 W.heap.size a0 L ∧ ∀ r ∈ L, r.b.L.length ≤ maxLen := by
    obtain ⟨fuel, hf⟩ := h0
    obtain ⟨ao, len, cap, L, hcs, hl, hm, hL, hw⟩ := open_wins hf
    simp [Value.cells] at hcs
    obtain ⟨rfl, rfl, rfl⟩ := hcs
    exact ⟨L, hl, hm, hL, hw⟩
  have k1 := h1
  have lt1 : ∀ x ∈ p1, x.block < W.heap.size := by obtain ⟨m, hm⟩ := k1; exact DataW.trod_lt m _ _ _ hm
  obtain ⟨a1, rfl, rfl, rfl, w1⟩ := open_int Try.underlying2 (hval 1 2 v1 rfl rfl) h1
  have k2 := h2
  have lt2 : ∀ x ∈ p2, x.block < W.heap.size := by obtain ⟨m, hm⟩ := k2; exact DataW.trod_lt m _ _ _ hm
  obtain ⟨c2, e2, g2, j2, y2, z2, s2, t2, m2, rfl, rfl, rfl, hy2, hz2, hs2, ht2⟩ := open_agg4 Try.underlying24 (by kernel_rfl) cellsRect (hval 2 24 v2 rfl rfl) h2
  obtain ⟨a2n, ea2, rfl, wa2⟩ := DataW.trod_int Try.underlying2 hy2
  simp at ea2
  subst ea2
  obtain ⟨b2n, eb2, rfl, wb2⟩ := DataW.trod_int Try.underlying2 hz2
  simp at eb2
  subst eb2
  obtain ⟨u2n, eu2, rfl, wu2⟩ := DataW.trod_int Try.underlying2 hs2
  simp at eu2
  subst eu2
  obtain ⟨v2n, ev2, rfl, wv2⟩ := DataW.trod_int Try.underlying2 ht2
  simp at ev2
  subst ev2
  clear hA0 hval0
  refine (law_MakeWindow a0 cap0 L0 a1 a2n b2n u2n v2n W hm0 hL0 hw0).mono fun e W' ⟨he, bel⟩ => ?_
  subst he
  exact ⟨_, rfl, _, _, _, [], _, [], hW', trodAll_mk1 (shut_bool Try.underlying4 _), (trodAll_cons_mk (Below.trod laidOut (by kernel_rfl) (of_decide_eq_true (by kernel_rfl)) k0 bel lt0) (trodAll_cons_mk (Below.trod laidOut (by kernel_rfl) (of_decide_eq_true (by kernel_rfl)) k1 bel lt1) (trodAll_cons_mk (Below.trod laidOut (by kernel_rfl) (of_decide_eq_true (by kernel_rfl)) k2 bel lt2) trodAll_mk0))), rfl, bel.frame _, fun h => by cases h⟩

theorem over : Rows.fnExactMakeWindowRow.holds Try.pinned (OpenSpec.ofChange Rows.fnExactMakeWindowSpec) :=
  OpenClaim.holds_of_wide 3 Try.f3 rfl rfl rfl rfl rfl rfl rfl ⟨rfl, rfl, rfl, rfl, rfl⟩ rfl rfl rfl rfl rfl (by kernel_rfl) Try.func3 (by kernel_rfl)
    (of_decide_eq_true (by kernel_rfl)) (by unfold Func.isWrapper; first | (rw [if_pos (by decide +kernel)]; kernel_rfl) | (rw [if_neg (by decide +kernel)]; exact ⟨rfl, rfl⟩))
    (fun os started H enc _ => lifted os started H enc)

end Go.Proofs.Ytcdlcpecnpgjgaa.FnExactMakeWindow
namespace Go.Proofs.Ytcdlcpecnpgjgaa
theorem fnExactMakeWindow_holds : Rows.FnExactMakeWindowSaid := FnExactMakeWindow.over
end Go.Proofs.Ytcdlcpecnpgjgaa
