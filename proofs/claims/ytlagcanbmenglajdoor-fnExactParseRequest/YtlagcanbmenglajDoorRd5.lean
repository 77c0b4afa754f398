/- ReadBody of the model; results with requests: held against each other, marked, held. -/
import Derived.Test.YtlagcanbmenglajDoorRd4
import Derived.Test.YtlagcanbmenglajDoorPck4
namespace Go.Proofs.YtlagcanbmenglajDoor
open Go.RowKit
set_option linter.unusedVariables false

set_option maxHeartbeats 800000 in
theorem eqRR_same (lo hi lo2 hi2 : Nat) (c k : Int) (ao bo ao2 bo2 : Option Addr) (ca cb ca2 cb2 : Nat) (A D : List Int) (w : World) (ha : Row .i64 w lo hi ao A) (hd : Row .u8 w lo hi bo D) (ha2 : Row .i64 w lo2 hi2 ao2 A) (hd2 : Row .u8 w lo2 hi2 bo2 D)
    (h1 : hi ≤ w.heap.size) (h2 : hi2 ≤ w.heap.size) (hA : A.length ≤ 1048576) (hD : D.length ≤ 1048576) :
    Calls Tryd.prog 13 #[.agg #[.int .i64 c, .int .i64 k, .slice ao A.length ca, .slice bo D.length cb], .agg #[.int .i64 c, .int .i64 k, .slice ao2 A.length ca2, .slice bo2 D.length cb2]] w fun e w' => e = .returned (.bool true) ∧ Below w.heap.size w w' := by
  have H1 := hideP ha
  have H2 := hideP hd
  have H3 := hideP ha2
  have H4 := hideP hd2
  clear ha hd ha2 hd2
  go_enter Tryd.func13, Tryd.ntmps13
  go_wp2_with fail
  refine Calls.mono (eqR_same lo hi lo2 hi2 k ao bo ao2 bo2 ca cb ca2 cb2 A D _ (H1.out.keep (B := w.heap.size) (by go_grown) h1) (H2.out.keep (B := w.heap.size) (by go_grown) h1) (H3.out.keep (B := w.heap.size) (by go_grown) h2) (H4.out.keep (B := w.heap.size) (by go_grown) h2) (by simp; omega) (by simp; omega) hA hD) ?_
  rintro e w1 ⟨rfl, k1⟩
  go_wp2
  go_returns
  refine ⟨rfl, ?_⟩
  repeat' (first | (with_reducible exact Below.refl _ _) | (with_reducible refine kept_below ?_ (by assumption) ?_) | (with_reducible refine Below.alloc ?_ ?_ _) | (with_reducible refine Below.drew ?_) | (with_reducible refine Below.setCell ?_ ?_ _) | go_size)

set_option maxHeartbeats 400000 in
theorem markRR_any (lo mid hi : Nat) (c q : Int) (ao bo : Option Addr) (ca cb : Nat) (k : Int) (A D : List Int) (w : World) (R : Req w lo mid hi ao bo A D) (hA : A.length ≤ 1048576) (hD : D.length ≤ 1048576) (k0 : 0 ≤ k) (k1 : k ≤ 1048576) :
    Calls Tryd.prog 14 #[.agg #[.int .i64 c, .int .i64 q, .slice ao A.length ca, .slice bo D.length cb], .int .i64 k] w fun e w' => e = .returned (.int .i64 (k + A.length + D.length)) ∧ Far lo hi w w' ∧ Req w' lo mid hi ao bo (rowOf (mkI k) A.length) (rowOf (mkB (k + A.length)) D.length) := by
  have HR := hideP R
  have hhs := R.hs
  clear R
  go_enter Tryd.func14, Tryd.ntmps14
  go_wp2_with fail
  refine Calls.mono (markR_any lo mid hi q ao bo ca cb k A D _ (HR.out.keep (B := w.heap.size) (by go_grown) hhs) hA hD k0 k1) ?_
  rintro e w1 ⟨rfl, f1, R1⟩
  have F1 : Hid (Far lo hi w w1) := hideP (Far.after (by go_grown) f1)
  have H1 := hideP R1
  clear f1 R1
  go_wp2
  go_returns
  exact ⟨rfl, F1.out, H1.out⟩

set_option maxHeartbeats 400000 in
theorem heldR_any (lo hi : Nat) (q : Int) (ao bo : Option Addr) (ca cb na nd : Nat) (k : Int) (w : World) (ha : Row .i64 w lo hi ao (rowOf (mkI k) na)) (hd : Row .u8 w lo hi bo (rowOf (mkB (k + na)) nd)) (h1 : hi ≤ w.heap.size) (hA : na ≤ 1048576) (hD : nd ≤ 1048576) (k0 : 0 ≤ k) (k1 : k ≤ 1048576) :
    Calls Tryd.prog 33 #[.agg #[.int .i64 q, .slice ao na ca, .slice bo nd cb], .int .i64 k] w fun e w' => e = .returned (.int .i64 (k + na + nd)) ∧ Below w.heap.size w w' := by
  have HA := hideP ha
  have HD := hideP hd
  have hA' : (na : Int) ≤ 1048576 := by omega
  have hk : ¬ k + (na : Int) < 0 := by omega
  have hk2 : ¬ k + (na : Int) + (nd : Int) < 0 := by omega
  clear ha hd
  go_enter Tryd.func33, Tryd.ntmps33
  go_wp2_with fail
  refine Calls.mono (heldI_any lo hi ao ca na k _ (HA.out.keep (B := w.heap.size) (by go_grown) h1) hA k0 (by omega)) ?_
  rintro e w1 ⟨rfl, rfl⟩
  go_wp2_with fail
  refine Calls.mono (heldB_any lo hi bo cb nd _ _ (HD.out.keep (B := w.heap.size) (by go_grown) h1) hD (by omega) (by omega)) ?_
  rintro e w2 ⟨rfl, rfl⟩
  go_wp2
  go_returns
  exact ⟨rfl, by go_grown⟩

set_option maxHeartbeats 400000 in
theorem heldRR_any (lo hi : Nat) (c q : Int) (ao bo : Option Addr) (ca cb na nd : Nat) (k : Int) (w : World) (ha : Row .i64 w lo hi ao (rowOf (mkI k) na)) (hd : Row .u8 w lo hi bo (rowOf (mkB (k + na)) nd)) (h1 : hi ≤ w.heap.size) (hA : na ≤ 1048576) (hD : nd ≤ 1048576) (k0 : 0 ≤ k) (k1 : k ≤ 1048576) :
    Calls Tryd.prog 15 #[.agg #[.int .i64 c, .int .i64 q, .slice ao na ca, .slice bo nd cb], .int .i64 k] w fun e w' => e = .returned (.int .i64 (k + na + nd)) ∧ Below w.heap.size w w' := by
  have HA := hideP ha
  have HD := hideP hd
  have hk2 : ¬ k + (na : Int) + (nd : Int) < 0 := by omega
  clear ha hd
  go_enter Tryd.func15, Tryd.ntmps15
  go_wp2_with fail
  refine Calls.mono (heldR_any lo hi q ao bo ca cb na nd k _ (HA.out.keep (B := w.heap.size) (by go_grown) h1) (HD.out.keep (B := w.heap.size) (by go_grown) h1) (by simp; omega) hA hD k0 k1) ?_
  rintro e w1 ⟨rfl, k1'⟩
  have K1 : Hid (Below w.heap.size w w1) := hideP (Below.trans (by go_grown) (k1'.mono (by simp)))
  clear k1'
  go_wp2
  go_returns
  exact ⟨rfl, K1.out⟩

/-- A result with a request, its box and its rows. -/
structure PR (W : World) (b lo mid hi : Nat) (c k : Int) (ao bo : Option Addr) (ca cb : Nat) (A D : List Int) : Prop where
  box : R4 W b (.int .i64 c) (.int .i64 k) (.slice ao A.length ca) (.slice bo D.length cb)
  req : Req W lo mid hi ao bo A D
theorem PR.lt {W : World} {b lo mid hi : Nat} {c k : Int} {ao bo : Option Addr} {ca cb : Nat} {A D : List Int} (h : PR W b lo mid hi c k ao bo ca cb A D) : b < W.heap.size := h.box.lt
theorem PR.keep {W W' : World} {b lo mid hi B : Nat} {c k : Int} {ao bo : Option Addr} {ca cb : Nat} {A D : List Int} (h : PR W b lo mid hi c k ao bo ca cb A D) (kk : Below B W W') (hb : b < B) (hh : hi ≤ B) : PR W' b lo mid hi c k ao bo ca cb A D :=
  ⟨h.box.keep kk hb, h.req.keep kk hh⟩
theorem PR.far {W W' : World} {b lo mid hi lo' hi' : Nat} {c k : Int} {ao bo : Option Addr} {ca cb : Nat} {A D : List Int} (h : PR W b lo mid hi c k ao bo ca cb A D) (f : Far lo' hi' W W') (hb : b < lo' ∨ hi' ≤ b) (hd : hi ≤ lo' ∨ hi' ≤ lo) : PR W' b lo mid hi c k ao bo ca cb A D :=
  ⟨h.box.far f hb, h.req.far f hd⟩
theorem PR.new {w : World} {base mid : Nat} {c k : Int} {ao bo : Option Addr} {ca cb : Nat} {A D : List Int} {T : TypeId} (h1 : base ≤ mid) (h2 : mid ≤ w.heap.size) (W1 : Wrt .i64 w base mid ao A) (W2 : Wrt .u8 w mid w.heap.size bo D) :
    PR (w.alloc (.cells #[.int .i64 c, .int .i64 k, .slice ao A.length ca, .slice bo D.length cb] T)) w.heap.size base mid w.heap.size c k ao bo ca cb A D :=
  ⟨⟨by simp, by simp, by simp, by simp, by simp, by simp, by simp, by simp, by simp⟩, Req.keep (B := w.heap.size) ⟨h1, h2, Nat.le_refl _, W1, W2⟩ ((Below.refl _ _).alloc (Nat.le_refl _) _) (Nat.le_refl _)⟩

end Go.Proofs.YtlagcanbmenglajDoor
