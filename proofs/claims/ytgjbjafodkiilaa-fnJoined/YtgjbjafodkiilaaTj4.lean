/- Sizes of slices, told by the laws' own functions. Rows of int64 numbers: copied, held against each other, marked. Rows of bytes: copied, held against each other, marked. Requests in memory: copied, held against each other, marked, by the laws' own functions. -/
import Derived.Test.YtgjbjafodkiilaaTj3
namespace Go.Proofs.Ytgjbjafodkiilaa
open Go.RowKit
set_option linter.unusedVariables false

/-- What is left of a size. -/
def szV (l : Int) (n : Nat) : Int := if (n : Int) ≤ l then l - n else -1
theorem szV_yes {l : Int} {n : Nat} (h : (n : Int) ≤ l) : szV l n = l - n := by unfold szV; rw [if_pos h]
theorem szV_no {l : Int} {n : Nat} (h : l < (n : Int)) : szV l n = -1 := by unfold szV; rw [if_neg (by omega)]

end Go.Proofs.Ytgjbjafodkiilaa

namespace Go.Proofs.Ytgjbjafodkiilaa
open Go.RowKit
set_option linter.unusedVariables false

theorem Try.infoI : (Try.prog.info? 2).map (fun i => (i.zero, i.size, i.bytes)) = some (some (.int .i64 0), 1, 8) := by kernel_rfl

/-- What number a place is marked with. -/
def mkI (k : Int) (i : Nat) : Int := k + i

end Go.Proofs.Ytgjbjafodkiilaa

namespace Go.Proofs.Ytgjbjafodkiilaa
open Go.RowKit
set_option linter.unusedVariables false

theorem Try.infoB : (Try.prog.info? 5).map (fun i => (i.zero, i.size, i.bytes)) = some (some (.int .u8 0), 1, 1) := by kernel_rfl

/-- What number a place is marked with. -/
def mkB (k : Int) (i : Nat) : Int := (k + i) % 256

end Go.Proofs.Ytgjbjafodkiilaa

namespace Go.Proofs.Ytgjbjafodkiilaa
open Go.RowKit
set_option linter.unusedVariables false

/-- A request's two lists, each in blocks of its own, and writable. -/
structure Req (w : World) (lo mid hi : Nat) (ao bo : Option Addr) (A D : List Int) : Prop where
  lm : lo ≤ mid
  mh : mid ≤ hi
  hs : hi ≤ w.heap.size
  args : Wrt .i64 w lo mid ao A
  data : Wrt .u8 w mid hi bo D
theorem Req.keep {w w' : World} {lo mid hi B : Nat} {ao bo : Option Addr} {A D : List Int} (h : Req w lo mid hi ao bo A D) (k : Below B w w') (hb : hi ≤ B) : Req w' lo mid hi ao bo A D :=
  ⟨h.lm, h.mh, Nat.le_trans h.hs k.size, h.args.keep k (Nat.le_trans h.mh hb), h.data.keep k hb⟩
theorem Req.far {w w' : World} {lo mid hi lo' hi' : Nat} {ao bo : Option Addr} {A D : List Int} (h : Req w lo mid hi ao bo A D) (f : Far lo' hi' w w') (hd : hi ≤ lo' ∨ hi' ≤ lo) : Req w' lo mid hi ao bo A D :=
  ⟨h.lm, h.mh, Nat.le_trans h.hs f.size, h.args.far f (by have := h.mh; omega) (by have := h.mh; have := h.hs; omega), h.data.far f (by have := h.lm; omega) h.hs⟩

end Go.Proofs.Ytgjbjafodkiilaa
