/- RequestFault: the law's walk. -/
import Derived.Test.YtbceacnadkhdoabDoorReq5
import Derived.Test.YtbceacnadkhdoabDoorHeld0
namespace Go.Proofs.YtbceacnadkhdoabDoor
open Go.RowKit
set_option linter.unusedVariables false

/-- What is told of a fresh copy of a request. -/
def CopyR (w : World) (k : Int) (A D : List Int) (w2 : World) (v : Value) : Prop := ∃ ao' bo' mid, v = .agg #[.int .i64 k, .slice ao' A.length A.length, .slice bo' D.length D.length] ∧ Req w2 w.heap.size mid w2.heap.size ao' bo' A D
theorem toReq_made (lo hi : Nat) (k : Int) (ao bo : Option Addr) (ca cb : Nat) (A D : List Int) (w : World) (ha : Row .i64 w lo hi ao A) (hb : Row .u8 w lo hi bo D) (h1 : hi ≤ w.heap.size) (hA : A.length ≤ 1048576) (hD : D.length ≤ 1048576) :
    Calls Tryd.prog 6 #[.agg #[.int .i64 k, .slice ao A.length ca, .slice bo D.length cb]] w fun e w'' => ∃ v, e = .returned v ∧ Below w.heap.size w w'' ∧ CopyR w k A D w'' v :=
  (toReq_any lo hi k ao bo ca cb A D w ha hb h1 hA hD).mono fun e w'' ⟨ao', bo', mid, he, hb, hr⟩ => ⟨_, he, hb, ao', bo', mid, rfl, hr⟩
/-- It answered yes. -/
def SaidYes (w2 : World) (v : Value) : Prop := v = .bool true
theorem true_made {P : Program} {f : FuncId} {args : Array Value} {w : World} (h : Calls P f args w fun e w' => e = .returned (.bool true) ∧ Below w.heap.size w w') :
    Calls P f args w fun e w'' => ∃ v, e = .returned v ∧ Below w.heap.size w w'' ∧ SaidYes w'' v := h.mono fun e w' ⟨he, hb⟩ => ⟨_, he, hb, rfl⟩
theorem Req.rowA {w : World} {lo mid hi : Nat} {ao bo : Option Addr} {A D : List Int} (h : Req w lo mid hi ao bo A D) : Row .i64 w lo hi ao A := h.args.row.wide (Nat.le_refl _) h.mh
theorem Req.rowD {w : World} {lo mid hi : Nat} {ao bo : Option Addr} {A D : List Int} (h : Req w lo mid hi ao bo A D) : Row .u8 w lo hi bo D := h.data.row.wide h.lm (Nat.le_refl _)

end Go.Proofs.YtbceacnadkhdoabDoor
