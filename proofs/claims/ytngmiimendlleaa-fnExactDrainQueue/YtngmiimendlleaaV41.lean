/- The model's push of a message into a queue. The model's pushes. -/
import Derived.Test.YtngmiimendlleaaV40
namespace Go.Proofs.Ytngmiimendlleaa
open Go.RowKit
set_option linter.unusedVariables false
attribute [local go_sem] growUpon growAt growUponR growAtR

/-- One message more, in a region whose order is open. -/
theorem made_appM {R : World → World → Prop} {w : World} {o : Oper} {a : Act} {K : World → Value → Prop}
    (s x : Operand) (ho : o.op = .call { callee := .builtin .append, args := #[s, x], argTypes := #[26, 26] })
    (base : Nat) (so : Option Addr) (sc : Nat) (L : List Mg) (hs : a.eval s = .slice so L.length sc) (hown : OwnM w base so sc L)
    (g cb : Nat) (m : Mg) (hx : a.eval x = .slice (some ⟨g, 0, none⟩) 1 cb) (hc : m.cells w g 0) (hn : L.length ≤ 1048577) (hbase : base ≤ w.heap.size)
    (h : ∀ so' sc' w', OwnM w' base so' sc' (L ++ [m]) → w.grownBy w' (Value.ownBlock (.slice so L.length sc)) → Below base w w' → R w w' ∧ K w' (.slice so' (L.length + 1) sc')) : madeAtR R Try.prog o a w K := by
  obtain ⟨i0, hi0, hz0, hz1, hz2⟩ := info_parts Try.infoM
  obtain ⟨v', w', hr, h2, h3, h4⟩ := run_append_own (P := Try.prog) w base 26 o.type 52 i0 (.agg #[.int .i64 0, .slice none 0 0]) 2 32 Try.underlying26 hi0 hz0 hz1 hz2 rfl (by decide) (.slice so L.length sc) L.length (mcs L) hown.row ⟨g, 0, none⟩ 1 cb m.vals (by simp [Mg.vals]) (fun j u hj => by
    rw [add_none]
    have hj' : j < 2 := by have := (List.getElem?_eq_some_iff.1 hj).1; simpa [Mg.vals] using this
    match j, hj' with
    | 0, _ => simp [Mg.vals] at hj; subst hj; exact hc.c0
    | 1, _ => simp [Mg.vals] at hj; subst hj; exact hc.c1) (fun v hv => by simp [Mg.vals] at hv; rcases hv with rfl | rfl <;> rfl) (by unfold maxLen; omega) (by omega) hbase
  have hr' : (execOp a.eval o).run Try.prog w = .ok (.value v') w' := by
    unfold execOp
    simp only [ho, resolve, invoke, builtin, Sem.run_bind, Sem.run_pure, Result.andThen_ok, List.map_toArray, List.map_cons, List.map_nil, hs, hx, hr]
  have ho2 : w'.ownsRow base 52 2 v' (L ++ [m]).length (mcs (L ++ [m])) := by
    rw [mcs_app, List.length_append]
    simpa [mcs] using h2
  have hbel : Below base w w' := (Below.refl base w).grown h3 hbase fun q hq => (World.ownsRow.lt hown.row q hq).1
  obtain ⟨g', cap', hv, _, _⟩ := World.ownsRow.form ho2 (by simp)
  subst hv
  have hh := h (some ⟨g', 0, none⟩) cap' w' ⟨ho2, fun e => by simp at e⟩ h3 hbel
  unfold madeAtR
  rw [hr']
  simpa [madeUponR] using hh

theorem pcC_yes {room : Int} {C : List (Int × List Int)} {t : Int × List Int} (h : room ≤ (C.length : Int)) : pcC room C t = C := by unfold pcC; rw [if_pos h]
theorem pcC_no {room : Int} {C : List (Int × List Int)} {t : Int × List Int} (h : ¬ room ≤ (C.length : Int)) : pcC room C t = C ++ [t] := by unfold pcC; rw [if_neg h]
theorem pcV_yes {room : Int} {C : List (Int × List Int)} {v : Bool} (h : room ≤ (C.length : Int)) : pcV room C v = true := by unfold pcV; rw [if_pos h]
theorem pcV_no {room : Int} {C : List (Int × List Int)} {v : Bool} (h : ¬ room ≤ (C.length : Int)) : pcV room C v = v := by unfold pcV; rw [if_neg h]
/-- What a push of the model leaves. -/
def PshA (b base : Nat) (C : List (Int × List Int)) (v : Bool) (w' : World) : Prop := ∃ (s' : Option Addr) (c' : Nat) (N : List Mg), LBox w' b base N v s' c' ∧ N.map Mg.ct = C

end Go.Proofs.Ytngmiimendlleaa

namespace Go.Proofs.Ytngmiimendlleaa
open Go.RowKit
set_option linter.unusedVariables false

end Go.Proofs.Ytngmiimendlleaa
