/- Results with bytes, and requests: held against each other, marked, held; what is known of a law's boxes. -/
import Derived.Test.YtbceacnadkhdoaaGreatDoorReq6
import Derived.Test.YtbceacnadkhdoaaGreatDoorPck3
namespace Go.Proofs.YtbceacnadkhdoaaGreatDoor
open Go.RowKit
set_option linter.unusedVariables false

/-- Behind new blocks what turns of the old ones turns still. -/
theorem Far.after {lo hi : Nat} {w w1 w2 : World} (k : Below w.heap.size w w1) (f : Far lo hi w1 w2) : Far lo hi w w2 := (Far.of_below k).trans f

/-- A result with bytes, its box and its row. -/
structure PW (W : World) (b lo hi : Nat) (c : Int) (ao : Option Addr) (ca : Nat) (L : List Int) : Prop where
  box : Rb W b (.int .i64 c) (.slice ao L.length ca)
  row : Wrt .u8 W lo hi ao L
  le : lo ≤ hi
  hs : hi ≤ W.heap.size
theorem PW.keep {W W' : World} {b lo hi B : Nat} {c : Int} {ao : Option Addr} {ca : Nat} {L : List Int} (h : PW W b lo hi c ao ca L) (k : Below B W W') (hb : b < B) (hh : hi ≤ B) : PW W' b lo hi c ao ca L :=
  ⟨h.box.keep k hb, h.row.keep k hh, h.le, Nat.le_trans h.hs k.size⟩
theorem PW.far {W W' : World} {b lo hi lo' hi' : Nat} {c : Int} {ao : Option Addr} {ca : Nat} {L : List Int} (h : PW W b lo hi c ao ca L) (f : Far lo' hi' W W') (hb : b < lo' ∨ hi' ≤ b) (hd : hi ≤ lo' ∨ hi' ≤ lo) : PW W' b lo hi c ao ca L :=
  ⟨h.box.far f hb, h.row.far f hd h.hs, h.le, Nat.le_trans h.hs f.size⟩
theorem PW.lt {W : World} {b lo hi : Nat} {c : Int} {ao : Option Addr} {ca : Nat} {L : List Int} (h : PW W b lo hi c ao ca L) : b < W.heap.size := h.box.lt
/-- .. just put into its box. -/
theorem PW.new {w : World} {base : Nat} {c : Int} {ao : Option Addr} {ca : Nat} {L : List Int} {T : TypeId} (O : OwnR .u8 5 w base ao ca L) (hb : base ≤ w.heap.size) : PW (w.alloc (.cells #[.int .i64 c, .slice ao L.length ca] T)) w.heap.size base w.heap.size c ao ca L :=
  ⟨⟨by simp, by simp, by simp, by simp, by simp⟩, O.wrt.keep (B := w.heap.size) ((Below.refl _ _).alloc (Nat.le_refl _) _) (Nat.le_refl _), hb, by simp⟩

/-- A request, its box and its rows. -/
structure PX (W : World) (b lo mid hi : Nat) (k : Int) (ao bo : Option Addr) (ca cb : Nat) (A D : List Int) : Prop where
  box : Bx W b k (.slice ao A.length ca) (.slice bo D.length cb)
  req : Req W lo mid hi ao bo A D
  lt : b < W.heap.size
theorem PX.keep {W W' : World} {b lo mid hi B : Nat} {k : Int} {ao bo : Option Addr} {ca cb : Nat} {A D : List Int} (h : PX W b lo mid hi k ao bo ca cb A D) (kk : Below B W W') (hb : b < B) (hh : hi ≤ B) : PX W' b lo mid hi k ao bo ca cb A D :=
  ⟨h.box.keep kk hb, h.req.keep kk hh, Nat.lt_of_lt_of_le h.lt kk.size⟩
theorem PX.new {w : World} {base mid : Nat} {k : Int} {ao bo : Option Addr} {ca cb : Nat} {A D : List Int} {T : TypeId} (R : Req w base mid w.heap.size ao bo A D) : PX (w.alloc (.cells #[.int .i64 k, .slice ao A.length ca, .slice bo D.length cb] T)) w.heap.size base mid w.heap.size k ao bo ca cb A D :=
  ⟨⟨by simp, by simp, by simp⟩, R.keep (B := w.heap.size) ((Below.refl _ _).alloc (Nat.le_refl _) _) (Nat.le_refl _), by simp⟩

theorem pkL_len' (k : Int) (A D : List Int) : (pkL k A D).length ≤ 1048576 := by have := pkL_len k A D; omega

end Go.Proofs.YtbceacnadkhdoaaGreatDoor
