/- Requests in memory: copied, held against each other, marked, by the laws' own functions. -/
import Derived.Test.YtbceacnadkhdoaaGreatDoorRowI
import Derived.Test.YtbceacnadkhdoaaGreatDoorRowB
namespace Go.Proofs.YtbceacnadkhdoaaGreatDoor
open Go.RowKit
set_option linter.unusedVariables false

/-- A request's two lists, each in blocks of its own, and writable. -/
structure Req (w : World) (lo mid hi : Nat) (ao bo : Option Addr) (A D : List Int) : Prop where
  lm : lo ≤ mid
  mh : mid ≤ hi
  hs : hi ≤ w.heap.size
  args : Wrt .i64 w lo mid ao A
  data : Wrt .u8 w mid hi bo D
theorem Req.keep {w w' : World} {lo mid hi B : Nat} {ao bo : Option Addr} {A D : List Int} (h : Req w lo mid hi ao bo A D) (k : Below B w w') (hb : hi ≤ B) : Req w' lo mid hi ao bo A D :=
  ⟨h.lm, h.mh, Nat.le_trans h.hs k.size, h.args.keep k (Nat.le_trans h.mh hb), h.data.keep k hb⟩
theorem Req.far {w w' : World} {lo mid hi lo' hi' : Nat} {ao bo : Option Addr} {A D : List Int} (h : Req w lo mid hi ao bo A D) (f : Far lo' hi' w w') (hd : hi ≤ lo' ∨ hi' ≤ lo) : Req w' lo mid hi ao bo A D :=
  ⟨h.lm, h.mh, Nat.le_trans h.hs f.size, h.args.far f (by have := h.mh; omega) (by have := h.mh; have := h.hs; omega), h.data.far f (by have := h.lm; omega) h.hs⟩

end Go.Proofs.YtbceacnadkhdoaaGreatDoor
