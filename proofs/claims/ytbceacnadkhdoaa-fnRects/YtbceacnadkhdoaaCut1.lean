/- CutRects: the model's and the program's. -/
import Derived.Test.YtbceacnadkhdoaaLst5
import Derived.Test.YtbceacnadkhdoaaRec2
import Derived.Test.YtbceacnadkhdoaaMade2
namespace Go.Proofs.Ytbceacnadkhdoaa
open Go.RowKit
set_option linter.unusedVariables false

def mxI (a b : Int) : Int := if b > a then b else a
def mnI (a b : Int) : Int := if b < a then b else a
theorem mxI_eq (a b : Int) : (mxI a b = a ∧ b ≤ a) ∨ (mxI a b = b ∧ a ≤ b) := by unfold mxI; split <;> omega
theorem mnI_eq (a b : Int) : (mnI a b = a ∧ a ≤ b) ∨ (mnI a b = b ∧ b ≤ a) := by unfold mnI; split <;> omega
theorem run_max_mx {P : Program} {w : World} (ts : Array TypeId) (t : TypeId) (k k' : IntKind) (x y : Int) : (Builtin.max_ ts t #[.int k x, .int k' y]).run P w = .ok (.int k (mxI x y)) w := run_max_int2 w ts t k k' x y
theorem run_min_mn {P : Program} {w : World} (ts : Array TypeId) (t : TypeId) (k k' : IntKind) (x y : Int) : (Builtin.min_ ts t #[.int k x, .int k' y]).run P w = .ok (.int k (mnI x y)) w := run_min_int2 w ts t k k' x y

set_option maxHeartbeats 400000 in
theorem max_any (a b : Int) (w : World) : Calls Try.prog 49 #[.int .i64 a, .int .i64 b] w fun e w' => e = .returned (.int .i64 (mxI a b)) ∧ w' = w := by
  have hm := hideP (mxI_eq a b)
  by_cases h : b < a
  all_goals
    go_enter Try.func49, Try.ntmps49
    go_wp2
    go_returns
    exact ⟨congrArg (fun n => Ending.returned (.int .i64 n)) (by have := hm.out; omega), rfl⟩

set_option maxHeartbeats 400000 in
theorem min_any (a b : Int) (w : World) : Calls Try.prog 50 #[.int .i64 a, .int .i64 b] w fun e w' => e = .returned (.int .i64 (mnI a b)) ∧ w' = w := by
  have hm := hideP (mnI_eq a b)
  by_cases h : a < b
  all_goals
    go_enter Try.func50, Try.ntmps50
    go_wp2
    go_returns
    exact ⟨congrArg (fun n => Ending.returned (.int .i64 n)) (by have := hm.out; omega), rfl⟩

set_option maxHeartbeats 400000 in
theorem l2B_any (ba oa bb ob : Nat) (a b : Rc) (w : World) (A : IsRect w ba oa a.x a.y a.w a.h) (B : IsRect w bb ob b.x b.y b.w b.h) :
    Calls Try.prog 48 #[.pointer (some ⟨ba, oa, none⟩), .pointer (some ⟨bb, ob, none⟩)] w fun e w' => e = .returned (.int .i64 (rfOf (a.flt || b.flt))) ∧ w' = w := by
  cases ha : rfB a.x a.y a.w a.h
  · have he := hideP (show (a.flt || b.flt) = rfB b.x b.y b.w b.h by show (rfB a.x a.y a.w a.h || _) = _; rw [ha]; rfl)
    go_enter Try.func48, Try.ntmps48
    go_wp2_with (first | (go_at_call 67; refine Calls.mono (l2F_ok _ _ a.x a.y a.w a.h _ A ha) ?_; rintro e w1 ⟨rfl, rfl⟩; clear ha) | (go_at_call 67; refine Calls.mono (l2F_any _ _ b.x b.y b.w b.h _ B) ?_; rintro e w1 ⟨rfl, rfl⟩))
    go_returns
    exact ⟨by rw [he.out]; rfl, rfl⟩
  · have he := hideP (show (a.flt || b.flt) = true by show (rfB a.x a.y a.w a.h || _) = _; rw [ha]; rfl)
    go_enter Try.func48, Try.ntmps48
    go_wp2_with (first | (go_at_call 67; refine Calls.mono (l2F_no _ _ a.x a.y a.w a.h _ A ha) ?_; rintro e w1 ⟨rfl, rfl⟩))
    go_returns
    exact ⟨by rw [he.out]; rfl, rfl⟩

def cutL (a b : Rc) : List Rc := putR [] (mxI a.x b.x) (mxI a.y b.y) (mnI (a.x + a.w) (b.x + b.w)) (mnI (a.y + a.h) (b.y + b.h))
def cutR (a b : Rc) : List Rc := if a.flt || b.flt then [] else cutL a b

/-- A result with a list: its code, its list, which lies among the blocks that were made since w1. -/
def Res (c : Int) (L : List Rc) (w1 : World) (v : Value) (w2 : World) : Prop := ∃ ao cap, v = .agg #[.int .i64 c, .slice ao L.length cap] ∧ Own w2 w1.heap.size ao cap L

theorem rfB_of {a b : Rc} (h : (a.flt || b.flt) = false) : rfB a.x a.y a.w a.h = false ∧ rfB b.x b.y b.w b.h = false := by
  simpa [Rc.flt] using h

end Go.Proofs.Ytbceacnadkhdoaa
