/- For every request the law FnExactPackRequest returns true: PackRequest answers as its model, field by field, writes into no argument, and its answer owns its memory, behind another call too; nothing old in memory turns. No conditions. -/
import Derived.Test.YtbceacnadkhdoabArgQ
import Derived.Test.YtbceacnadkhdoabRows
import Derived.Test.YtbceacnadkhdoabPck5
import Derived.ProofKit
import Derived.Lib.SmallJoins
import Derived.ShutString
import Derived.Below
namespace Go.Proofs.Ytbceacnadkhdoab.FnExactPackRequest
open Go.ChangeShapes Go.WideShapes Go.ChangeAt Go.RowKit Go.Joins
open Go.ChangeMaps (open_string shut_string)
set_option linter.unusedVariables false

theorem own : ownKnob Try.prog.godebug = none := by kernel_rfl
theorem laidOut : laidOutB Try.prog = true := by kernel_rfl
theorem cellsReq : Try.prog.cellsOf 47 = 3 := by kernel_rfl

set_option maxRecDepth 100000 in
theorem lifted (os : Os) (started : os.Started) (H : Type) (enc : TypeId × Value → H) :
    ReturnsInHanded {} Try.checked os 7 .any (Rows.fnExactPackRequestSpec.pre6 enc Try.prog Try.f7 Rows.fnExactPackRequestRow.domain false) (Rows.fnExactPackRequestSpec.post enc Try.prog Try.f7 false true false false) := by
  refine returnsInHanded_of_change (C := Try.checked) own started (by kernel_rfl) Try.func7
    (ChangeSpec.witness6 (enc := enc) (C := Try.checked) false ⟨#[], #[.agg #[.int .i64 0, .slice none 0 0, .slice none 0 0]], []⟩ 8 (by kernel_rfl) (by kernel_rfl) (by kernel_rfl) (by kernel_rfl)) ?_
  intro W base args ds gs before hval0 hW hcnd _
  have hval : ∀ (j : Nat) t v, Try.f7.params[j]? = some t → args[j]? = some v → Value.okWide Try.prog W .any base t v := hval0
  have hW' := hW
  obtain ⟨p, q, hA0, hV, rfl, hfz, hnd⟩ := hW
  have hA : DataW.TrodAll enc Try.prog W 0 (fun _ => true) true Try.f7.params.toList args.toList ds p := hA0
  rw [Try.params7] at hA hval
  obtain ⟨v0, vs0, d0, ds0, p0, q0, hargs, rfl, rfl, h0, r0⟩ := trodAll_cons hA
  obtain ⟨rfl, rfl, rfl⟩ := trodAll_nil r0
  obtain rfl : args = #[v0] := by cases args; simp_all
  obtain ⟨rfl, rfl⟩ := trodVars_none hV
  have k0 := h0
  have lt0 : ∀ x ∈ p0, x.block < W.heap.size := by obtain ⟨m, hm⟩ := k0; exact DataW.trod_lt m _ _ _ hm
  obtain ⟨c0, e0, g0, y0, z0, s0, m0, rfl, rfl, rfl, hy0, hz0, hs0⟩ := open_agg3 Try.underlying47 (by kernel_rfl) cellsReq (hval 0 47 v0 rfl rfl) h0
  obtain ⟨a0n, ea0, rfl, wa0⟩ := DataW.trod_int Try.underlying2 hy0
  simp at ea0
  subst ea0
  obtain ⟨bo0, bl0, bc0, bL0, hcsb0, rfl, hmb0, hRb0, hWb0⟩ := open_nums Try.underlying44 Try.underlying2 (by kernel_rfl) hz0
  simp only [List.cons.injEq, and_true] at hcsb0
  subst hcsb0
  obtain ⟨do0, dl0, dc0, dL0, hcsd0, rfl, hmd0, hRd0, hWd0⟩ := open_nums Try.underlying45 Try.underlying5 (by kernel_rfl) hs0
  simp only [List.cons.injEq, and_true] at hcsd0
  subst hcsd0
  clear hA0 hval0
  refine (pack_law a0n bo0 bc0 bL0 do0 dc0 dL0 W hmb0 hRb0 hWb0 hmd0 hRd0 hWd0).mono fun e W' ⟨he, bel⟩ => ?_
  subst he
  exact ⟨_, rfl, _, _, _, [], _, [], hW', trodAll_mk1 (shut_bool Try.underlying4 _), (trodAll_cons_mk (Below.trod laidOut (by kernel_rfl) (of_decide_eq_true (by kernel_rfl)) k0 bel lt0) trodAll_mk0), rfl, bel.frame _, fun h => by cases h⟩

theorem over : Rows.fnExactPackRequestRow.holds Try.pinned (OpenSpec.ofChange Rows.fnExactPackRequestSpec) :=
  OpenClaim.holds_of_wide 7 Try.f7 rfl rfl rfl rfl rfl rfl rfl ⟨rfl, rfl, rfl, rfl, rfl⟩ rfl rfl rfl rfl rfl (by kernel_rfl) Try.func7 (by kernel_rfl)
    (of_decide_eq_true (by kernel_rfl)) (by unfold Func.isWrapper; first | (rw [if_pos (by decide +kernel)]; kernel_rfl) | (rw [if_neg (by decide +kernel)]; exact ⟨rfl, rfl⟩))
    (fun os started H enc _ => lifted os started H enc)

end Go.Proofs.Ytbceacnadkhdoab.FnExactPackRequest
namespace Go.Proofs.Ytbceacnadkhdoab
theorem fnExactPackRequest_holds : Rows.FnExactPackRequestSaid := FnExactPackRequest.over
end Go.Proofs.Ytbceacnadkhdoab
