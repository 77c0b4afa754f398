/- Results with a list of numbers: held against each other, marked. -/
import Derived.Test.YtbagloapclgpnaaRowI
import Derived.Test.YtbagloapclgpnaaApp
namespace Go.Proofs.Ytbagloapclgpnaa
open Go.RowKit
set_option linter.unusedVariables false

theorem kal5 (w : World) (o : Obj) : Below w.heap.size w (w.alloc o) := (Below.refl _ _).alloc (Nat.le_refl _) o

set_option maxHeartbeats 400000 in
theorem eqIS_same (lo hi lo2 hi2 : Nat) (c : Int) (ao bo : Option Addr) (ca cb : Nat) (L : List Int) (w : World) (ha : Row .i64 w lo hi ao L) (hb : Row .i64 w lo2 hi2 bo L) (h1 : hi ≤ w.heap.size) (h2 : hi2 ≤ w.heap.size) (hl : L.length ≤ 1048576) :
    Calls Try.prog 42 #[.agg #[.int .i64 c, .slice ao L.length ca], .agg #[.int .i64 c, .slice bo L.length cb]] w fun e w' => e = .returned (.bool true) ∧ Below w.heap.size w w' := by
  have HA := hideP ha
  have HB := hideP hb
  clear ha hb
  go_enter Try.func42, Try.ntmps42
  go_wp2_with fail
  refine Calls.mono (eqI_same lo hi lo2 hi2 ao bo ca cb L _ (HA.out.keep (B := w.heap.size) (by go_grown) h1) (HB.out.keep (B := w.heap.size) (by go_grown) h2) (by simp; omega) (by simp; omega) hl) ?_
  rintro e w1 ⟨rfl, k1⟩
  go_wp2
  go_returns
  refine ⟨rfl, ?_⟩
  repeat' (first | (with_reducible exact Below.refl _ _) | (with_reducible refine kept_below ?_ (by assumption) ?_) | (with_reducible refine Below.alloc ?_ ?_ _) | (with_reducible refine Below.drew ?_) | (with_reducible refine Below.setCell ?_ ?_ _) | go_size)

theorem Far.after5 {lo hi : Nat} {w w1 w2 : World} (k : Below w.heap.size w w1) (f : Far lo hi w1 w2) : Far lo hi w w2 := (Far.of_below k).trans f

set_option maxHeartbeats 400000 in
theorem markIS_any (lo hi : Nat) (c : Int) (ao : Option Addr) (ca : Nat) (k : Int) (L : List Int) (w : World) (ha : Wrt .i64 w lo hi ao L) (h1 : hi ≤ w.heap.size) (hl : L.length ≤ 1048576) (k0 : 0 ≤ k) (k1 : k ≤ 16777216) :
    Calls Try.prog 43 #[.agg #[.int .i64 c, .slice ao L.length ca], .int .i64 k] w fun e w' => e = .returned (.int .i64 (k + L.length)) ∧ Far lo hi w w' ∧ Wrt .i64 w' lo hi ao (rowOf (mkI k) L.length) := by
  have HA := hideP ha
  clear ha
  go_enter Try.func43, Try.ntmps43
  go_wp2_with fail
  refine Calls.mono (markI_any lo hi ao ca k L _ (HA.out.keep (B := w.heap.size) (by go_grown) h1) (by simp; omega) hl k0 k1) ?_
  rintro e w1 ⟨rfl, f1, W1⟩
  have F1 : Hid (Far lo hi w w1) := hideP (Far.after5 (by go_grown) f1)
  have H1 := hideP W1
  clear f1 W1
  go_wp2
  go_returns
  exact ⟨rfl, F1.out, H1.out⟩

set_option maxHeartbeats 400000 in
theorem heldIS_any (lo hi : Nat) (c : Int) (ao : Option Addr) (ca n : Nat) (k : Int) (w : World) (ha : Row .i64 w lo hi ao (rowOf (mkI k) n)) (h1 : hi ≤ w.heap.size) (hl : n ≤ 1048576) (k0 : 0 ≤ k) (k1 : k ≤ 16777216) :
    Calls Try.prog 44 #[.agg #[.int .i64 c, .slice ao n ca], .int .i64 k] w fun e w' => e = .returned (.int .i64 (k + n)) ∧ Below w.heap.size w w' := by
  have HA := hideP ha
  have hk : 0 ≤ k + (n : Int) := by omega
  clear ha
  go_enter Try.func44, Try.ntmps44
  go_wp2_with fail
  refine Calls.mono (heldI_any lo hi ao ca n k _ (HA.out.keep (B := w.heap.size) (by go_grown) h1) hl k0 k1) ?_
  rintro e w1 ⟨rfl, rfl⟩
  go_wp2
  go_returns
  exact ⟨rfl, by go_grown⟩

/-- A result, its box and its row. -/
structure PI (W : World) (b lo hi : Nat) (c : Int) (ao : Option Addr) (ca : Nat) (L : List Int) : Prop where
  box : Rb W b (.int .i64 c) (.slice ao L.length ca)
  row : Wrt .i64 W lo hi ao L
  le : lo ≤ hi
  hs : hi ≤ W.heap.size
theorem PI.keep {W W' : World} {b lo hi B : Nat} {c : Int} {ao : Option Addr} {ca : Nat} {L : List Int} (h : PI W b lo hi c ao ca L) (k : Below B W W') (hb : b < B) (hh : hi ≤ B) : PI W' b lo hi c ao ca L :=
  ⟨h.box.keep k hb, h.row.keep k hh, h.le, Nat.le_trans h.hs k.size⟩
theorem PI.far {W W' : World} {b lo hi lo' hi' : Nat} {c : Int} {ao : Option Addr} {ca : Nat} {L : List Int} (h : PI W b lo hi c ao ca L) (f : Far lo' hi' W W') (hb : b < lo' ∨ hi' ≤ b) (hd : hi ≤ lo' ∨ hi' ≤ lo) : PI W' b lo hi c ao ca L :=
  ⟨h.box.far f hb, h.row.far f hd h.hs, h.le, Nat.le_trans h.hs f.size⟩
/-- .. just put into its box. -/
theorem PI.new {w : World} {base : Nat} {c : Int} {ao : Option Addr} {ca : Nat} {L : List Int} {T : TypeId} (O : OwnR .i64 2 w base ao ca L) (hb : base ≤ w.heap.size) : PI (w.alloc (.cells #[.int .i64 c, .slice ao L.length ca] T)) w.heap.size base w.heap.size c ao ca L :=
  ⟨⟨by simp, by simp, by simp, by simp, by simp⟩, O.wrt.keep (B := w.heap.size) ((Below.refl _ _).alloc (Nat.le_refl _) _) (Nat.le_refl _), hb, by simp⟩
end Go.Proofs.Ytbagloapclgpnaa
