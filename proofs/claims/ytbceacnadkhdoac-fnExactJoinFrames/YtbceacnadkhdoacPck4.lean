/- Results with bytes, and requests: held against each other, marked, held; what is known of a law's boxes. -/
import Derived.Test.YtbceacnadkhdoacReq6
import Derived.Test.YtbceacnadkhdoacPck3
namespace Go.Proofs.Ytbceacnadkhdoac
open Go.RowKit
set_option linter.unusedVariables false

set_option maxHeartbeats 400000 in
theorem eqBR_same (lo hi lo2 hi2 : Nat) (c : Int) (ao bo : Option Addr) (ca cb : Nat) (L : List Int) (w : World) (ha : Row .u8 w lo hi ao L) (hb : Row .u8 w lo2 hi2 bo L) (h1 : hi ≤ w.heap.size) (h2 : hi2 ≤ w.heap.size) (hl : L.length ≤ 1048576) :
    Calls Try.prog 8 #[.agg #[.int .i64 c, .slice ao L.length ca], .agg #[.int .i64 c, .slice bo L.length cb]] w fun e w' => e = .returned (.bool true) ∧ Below w.heap.size w w' := by
  have HA := hideP ha
  have HB := hideP hb
  clear ha hb
  go_enter Try.func8, Try.ntmps8
  go_wp2_with fail
  refine Calls.mono (eqB_same lo hi lo2 hi2 ao bo ca cb L _ (HA.out.keep (B := w.heap.size) (by go_grown) h1) (HB.out.keep (B := w.heap.size) (by go_grown) h2) (by simp; omega) (by simp; omega) hl) ?_
  rintro e w1 ⟨rfl, k1⟩
  go_wp2
  go_returns
  refine ⟨rfl, ?_⟩
  repeat' (first | (with_reducible exact Below.refl _ _) | (with_reducible refine kept_below ?_ (by assumption) ?_) | (with_reducible refine Below.alloc ?_ ?_ _) | (with_reducible refine Below.drew ?_) | (with_reducible refine Below.setCell ?_ ?_ _) | go_size)

/-- Behind new blocks what turns of the old ones turns still. -/
theorem Far.after {lo hi : Nat} {w w1 w2 : World} (k : Below w.heap.size w w1) (f : Far lo hi w1 w2) : Far lo hi w w2 := (Far.of_below k).trans f

set_option maxHeartbeats 400000 in
theorem markBR_any (lo hi : Nat) (c : Int) (ao : Option Addr) (ca : Nat) (k : Int) (L : List Int) (w : World) (ha : Wrt .u8 w lo hi ao L) (h1 : hi ≤ w.heap.size) (hl : L.length ≤ 1048576) (k0 : 0 ≤ k) (k1 : k ≤ 4194304) :
    Calls Try.prog 11 #[.agg #[.int .i64 c, .slice ao L.length ca], .int .i64 k] w fun e w' => e = .returned (.int .i64 (k + L.length)) ∧ Far lo hi w w' ∧ Wrt .u8 w' lo hi ao (rowOf (mkB k) L.length) := by
  have HA := hideP ha
  clear ha
  go_enter Try.func11, Try.ntmps11
  go_wp2_with fail
  refine Calls.mono (markB_any lo hi ao ca k L _ (HA.out.keep (B := w.heap.size) (by go_grown) h1) (by simp; omega) hl k0 k1) ?_
  rintro e w1 ⟨rfl, f1, W1⟩
  have F1 : Hid (Far lo hi w w1) := hideP (Far.after (by go_grown) f1)
  have H1 := hideP W1
  clear f1 W1
  go_wp2
  go_returns
  exact ⟨rfl, F1.out, H1.out⟩

set_option maxHeartbeats 400000 in
theorem heldBR_any (lo hi : Nat) (c : Int) (ao : Option Addr) (ca n : Nat) (k : Int) (w : World) (ha : Row .u8 w lo hi ao (rowOf (mkB k) n)) (h1 : hi ≤ w.heap.size) (hl : n ≤ 1048576) (k0 : 0 ≤ k) (k1 : k ≤ 4194304) :
    Calls Try.prog 12 #[.agg #[.int .i64 c, .slice ao n ca], .int .i64 k] w fun e w' => e = .returned (.int .i64 (k + n)) ∧ Below w.heap.size w w' := by
  have HA := hideP ha
  have hk : 0 ≤ k + (n : Int) := by omega
  clear ha
  go_enter Try.func12, Try.ntmps12
  go_wp2_with fail
  refine Calls.mono (heldB_any lo hi ao ca n k _ (HA.out.keep (B := w.heap.size) (by go_grown) h1) hl k0 k1) ?_
  rintro e w1 ⟨rfl, rfl⟩
  go_wp2
  go_returns
  exact ⟨rfl, by go_grown⟩

/-- A result with bytes, its box and its row. -/
structure PW (W : World) (b lo hi : Nat) (c : Int) (ao : Option Addr) (ca : Nat) (L : List Int) : Prop where
  box : Rb W b (.int .i64 c) (.slice ao L.length ca)
  row : Wrt .u8 W lo hi ao L
  le : lo ≤ hi
  hs : hi ≤ W.heap.size
theorem PW.keep {W W' : World} {b lo hi B : Nat} {c : Int} {ao : Option Addr} {ca : Nat} {L : List Int} (h : PW W b lo hi c ao ca L) (k : Below B W W') (hb : b < B) (hh : hi ≤ B) : PW W' b lo hi c ao ca L :=
  ⟨h.box.keep k hb, h.row.keep k hh, h.le, Nat.le_trans h.hs k.size⟩
theorem PW.far {W W' : World} {b lo hi lo' hi' : Nat} {c : Int} {ao : Option Addr} {ca : Nat} {L : List Int} (h : PW W b lo hi c ao ca L) (f : Far lo' hi' W W') (hb : b < lo' ∨ hi' ≤ b) (hd : hi ≤ lo' ∨ hi' ≤ lo) : PW W' b lo hi c ao ca L :=
  ⟨h.box.far f hb, h.row.far f hd h.hs, h.le, Nat.le_trans h.hs f.size⟩
theorem PW.lt {W : World} {b lo hi : Nat} {c : Int} {ao : Option Addr} {ca : Nat} {L : List Int} (h : PW W b lo hi c ao ca L) : b < W.heap.size := h.box.lt
/-- .. just put into its box. -/
theorem PW.new {w : World} {base : Nat} {c : Int} {ao : Option Addr} {ca : Nat} {L : List Int} {T : TypeId} (O : OwnR .u8 5 w base ao ca L) (hb : base ≤ w.heap.size) : PW (w.alloc (.cells #[.int .i64 c, .slice ao L.length ca] T)) w.heap.size base w.heap.size c ao ca L :=
  ⟨⟨by simp, by simp, by simp, by simp, by simp⟩, O.wrt.keep (B := w.heap.size) ((Below.refl _ _).alloc (Nat.le_refl _) _) (Nat.le_refl _), hb, by simp⟩

/-- A request, its box and its rows. -/
structure PX (W : World) (b lo mid hi : Nat) (k : Int) (ao bo : Option Addr) (ca cb : Nat) (A D : List Int) : Prop where
  box : Bx W b k (.slice ao A.length ca) (.slice bo D.length cb)
  req : Req W lo mid hi ao bo A D
  lt : b < W.heap.size
theorem PX.keep {W W' : World} {b lo mid hi B : Nat} {k : Int} {ao bo : Option Addr} {ca cb : Nat} {A D : List Int} (h : PX W b lo mid hi k ao bo ca cb A D) (kk : Below B W W') (hb : b < B) (hh : hi ≤ B) : PX W' b lo mid hi k ao bo ca cb A D :=
  ⟨h.box.keep kk hb, h.req.keep kk hh, Nat.lt_of_lt_of_le h.lt kk.size⟩
theorem PX.new {w : World} {base mid : Nat} {k : Int} {ao bo : Option Addr} {ca cb : Nat} {A D : List Int} {T : TypeId} (R : Req w base mid w.heap.size ao bo A D) : PX (w.alloc (.cells #[.int .i64 k, .slice ao A.length ca, .slice bo D.length cb] T)) w.heap.size base mid w.heap.size k ao bo ca cb A D :=
  ⟨⟨by simp, by simp, by simp⟩, R.keep (B := w.heap.size) ((Below.refl _ _).alloc (Nat.le_refl _) _) (Nat.le_refl _), by simp⟩

theorem pkL_len' (k : Int) (A D : List Int) : (pkL k A D).length ≤ 1048576 := by have := pkL_len k A D; omega

end Go.Proofs.Ytbceacnadkhdoac
