/- Results with bytes, and requests: held against each other, marked, held; what is known of a law's boxes. -/
import Derived.Test.YtlagcanbmenglajDoorReq6
import Derived.Test.YtlagcanbmenglajDoorPck3
namespace Go.Proofs.YtlagcanbmenglajDoor
open Go.RowKit
set_option linter.unusedVariables false

/-- Behind new blocks what turns of the old ones turns still. -/
theorem Far.after {lo hi : Nat} {w w1 w2 : World} (k : Below w.heap.size w w1) (f : Far lo hi w1 w2) : Far lo hi w w2 := (Far.of_below k).trans f

set_option maxHeartbeats 400000 in
theorem markR_any (lo mid hi : Nat) (q : Int) (ao bo : Option Addr) (ca cb : Nat) (k : Int) (A D : List Int) (w : World) (R : Req w lo mid hi ao bo A D) (hA : A.length ≤ 1048576) (hD : D.length ≤ 1048576) (k0 : 0 ≤ k) (k1 : k ≤ 1048576) :
    Calls Tryd.prog 32 #[.agg #[.int .i64 q, .slice ao A.length ca, .slice bo D.length cb], .int .i64 k] w fun e w' => e = .returned (.int .i64 (k + A.length + D.length)) ∧ Far lo hi w w' ∧ Req w' lo mid hi ao bo (rowOf (mkI k) A.length) (rowOf (mkB (k + A.length)) D.length) := by
  have HR := hideP R
  have hlm := R.lm
  have hmh := R.mh
  have hhs := R.hs
  clear R
  have hA' : (A.length : Int) ≤ 1048576 := by omega
  go_enter Tryd.func32, Tryd.ntmps32
  go_wp2_with fail
  have kg : ∀ o : Obj, Below w.heap.size w (w.alloc o) := fun o => (Below.refl _ _).alloc (Nat.le_refl _) o
  refine Calls.mono (markI_any lo mid ao ca k A _ (HR.out.args.keep (B := w.heap.size) (kg _) (by omega)) (by simp; omega) hA k0 (by omega)) ?_
  rintro e w1 ⟨rfl, f1, W1⟩
  have F1 : Hid (Far lo hi w w1) := hideP ((Far.after (kg _) f1).wide (Nat.le_refl _) hmh)
  have X1 : Bx w1 w.heap.size q (.slice ao A.length ca) (.slice bo D.length cb) := Bx.far ⟨by simp, by simp, by simp⟩ f1 (by simp) (by omega)
  have H1 := hideP W1
  have D1 := hideP ((HR.out.data.keep (B := w.heap.size) (kg _) (by omega)).far f1 (by omega) (by simp; omega))
  have n1 := f1.size
  simp only [World.size_alloc] at n1
  obtain ⟨p0, p1, p2⟩ := X1
  clear f1 W1 kg
  go_wp2_with fail
  clear p0 p1 p2
  refine Calls.mono (markB_any mid hi bo cb _ D w1 D1.out (by omega) hD (by omega) (by omega)) ?_
  rintro e w2 ⟨rfl, f2, W2⟩
  have F2 : Hid (Far lo hi w w2) := hideP (F1.out.trans (f2.wide hlm (Nat.le_refl _)))
  have R2 : Hid (Req w2 lo mid hi ao bo (rowOf (mkI k) A.length) (rowOf (mkB (k + A.length)) D.length)) := hideP ⟨hlm, hmh, by have := f2.size; omega, H1.out.far f2 (by omega) (by omega), W2⟩
  clear f2 W2
  go_wp2
  go_returns
  exact ⟨rfl, F2.out, R2.out⟩

/-- A result with bytes, its box and its row. -/
structure PW (W : World) (b lo hi : Nat) (c : Int) (ao : Option Addr) (ca : Nat) (L : List Int) : Prop where
  box : Rb W b (.int .i64 c) (.slice ao L.length ca)
  row : Wrt .u8 W lo hi ao L
  le : lo ≤ hi
  hs : hi ≤ W.heap.size
theorem PW.keep {W W' : World} {b lo hi B : Nat} {c : Int} {ao : Option Addr} {ca : Nat} {L : List Int} (h : PW W b lo hi c ao ca L) (k : Below B W W') (hb : b < B) (hh : hi ≤ B) : PW W' b lo hi c ao ca L :=
  ⟨h.box.keep k hb, h.row.keep k hh, h.le, Nat.le_trans h.hs k.size⟩
theorem PW.far {W W' : World} {b lo hi lo' hi' : Nat} {c : Int} {ao : Option Addr} {ca : Nat} {L : List Int} (h : PW W b lo hi c ao ca L) (f : Far lo' hi' W W') (hb : b < lo' ∨ hi' ≤ b) (hd : hi ≤ lo' ∨ hi' ≤ lo) : PW W' b lo hi c ao ca L :=
  ⟨h.box.far f hb, h.row.far f hd h.hs, h.le, Nat.le_trans h.hs f.size⟩
theorem PW.lt {W : World} {b lo hi : Nat} {c : Int} {ao : Option Addr} {ca : Nat} {L : List Int} (h : PW W b lo hi c ao ca L) : b < W.heap.size := h.box.lt
/-- .. just put into its box. -/
theorem PW.new {w : World} {base : Nat} {c : Int} {ao : Option Addr} {ca : Nat} {L : List Int} {T : TypeId} (O : OwnR .u8 5 w base ao ca L) (hb : base ≤ w.heap.size) : PW (w.alloc (.cells #[.int .i64 c, .slice ao L.length ca] T)) w.heap.size base w.heap.size c ao ca L :=
  ⟨⟨by simp, by simp, by simp, by simp, by simp⟩, O.wrt.keep (B := w.heap.size) ((Below.refl _ _).alloc (Nat.le_refl _) _) (Nat.le_refl _), hb, by simp⟩

/-- A request, its box and its rows. -/
structure PX (W : World) (b lo mid hi : Nat) (k : Int) (ao bo : Option Addr) (ca cb : Nat) (A D : List Int) : Prop where
  box : Bx W b k (.slice ao A.length ca) (.slice bo D.length cb)
  req : Req W lo mid hi ao bo A D
  lt : b < W.heap.size
theorem PX.keep {W W' : World} {b lo mid hi B : Nat} {k : Int} {ao bo : Option Addr} {ca cb : Nat} {A D : List Int} (h : PX W b lo mid hi k ao bo ca cb A D) (kk : Below B W W') (hb : b < B) (hh : hi ≤ B) : PX W' b lo mid hi k ao bo ca cb A D :=
  ⟨h.box.keep kk hb, h.req.keep kk hh, Nat.lt_of_lt_of_le h.lt kk.size⟩
theorem PX.new {w : World} {base mid : Nat} {k : Int} {ao bo : Option Addr} {ca cb : Nat} {A D : List Int} {T : TypeId} (R : Req w base mid w.heap.size ao bo A D) : PX (w.alloc (.cells #[.int .i64 k, .slice ao A.length ca, .slice bo D.length cb] T)) w.heap.size base mid w.heap.size k ao bo ca cb A D :=
  ⟨⟨by simp, by simp, by simp⟩, R.keep (B := w.heap.size) ((Below.refl _ _).alloc (Nat.le_refl _) _) (Nat.le_refl _), by simp⟩

theorem pkL_len' (k : Int) (A D : List Int) : (pkL k A D).length ≤ 1048576 := by have := pkL_len k A D; omega

end Go.Proofs.YtlagcanbmenglajDoor
