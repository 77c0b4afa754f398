/- CutRects: the model's and the program's. -/
import Derived.Test.YtbagloapclgpnaaLst5
import Derived.Test.YtbagloapclgpnaaRec2
import Derived.Test.YtbagloapclgpnaaMade2
namespace Go.Proofs.Ytbagloapclgpnaa
open Go.RowKit
set_option linter.unusedVariables false

def mxI (a b : Int) : Int := if b > a then b else a
def mnI (a b : Int) : Int := if b < a then b else a
theorem mxI_eq (a b : Int) : (mxI a b = a ∧ b ≤ a) ∨ (mxI a b = b ∧ a ≤ b) := by unfold mxI; split <;> omega
theorem mnI_eq (a b : Int) : (mnI a b = a ∧ a ≤ b) ∨ (mnI a b = b ∧ b ≤ a) := by unfold mnI; split <;> omega
theorem run_max_mx {P : Program} {w : World} (ts : Array TypeId) (t : TypeId) (k k' : IntKind) (x y : Int) : (Builtin.max_ ts t #[.int k x, .int k' y]).run P w = .ok (.int k (mxI x y)) w := run_max_int2 w ts t k k' x y
theorem run_min_mn {P : Program} {w : World} (ts : Array TypeId) (t : TypeId) (k k' : IntKind) (x y : Int) : (Builtin.min_ ts t #[.int k x, .int k' y]).run P w = .ok (.int k (mnI x y)) w := run_min_int2 w ts t k k' x y

def cutL (a b : Rc) : List Rc := putR [] (mxI a.x b.x) (mxI a.y b.y) (mnI (a.x + a.w) (b.x + b.w)) (mnI (a.y + a.h) (b.y + b.h))
def cutR (a b : Rc) : List Rc := if a.flt || b.flt then [] else cutL a b

/-- A result with a list: its code, its list, which lies among the blocks that were made since w1. -/
def Res (c : Int) (L : List Rc) (w1 : World) (v : Value) (w2 : World) : Prop := ∃ ao cap, v = .agg #[.int .i64 c, .slice ao L.length cap] ∧ Own w2 w1.heap.size ao cap L

theorem rfB_of {a b : Rc} (h : (a.flt || b.flt) = false) : rfB a.x a.y a.w a.h = false ∧ rfB b.x b.y b.w b.h = false := by
  simpa [Rc.flt] using h

end Go.Proofs.Ytbagloapclgpnaa
