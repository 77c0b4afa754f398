/- ReadBody of the model; results with requests: held against each other, marked, held. -/
import Derived.Test.YtbceacnadkhdoaaGreatDoorV40
import Derived.Test.YtbceacnadkhdoaaGreatDoorV43
namespace Go.Proofs.YtbceacnadkhdoaaGreatDoor
open Go.RowKit
set_option linter.unusedVariables false

set_option maxHeartbeats 1000000 in
theorem sRead_any (lo hi : Nat) (ao : Option Addr) (ca : Nat) (L : List Int) (w : World) (hR : Row .u8 w lo hi ao L) (hs : hi ≤ w.heap.size) (hn : L.length ≤ ca) (hl : L.length ≤ 2097152) (hB : byts L) :
    Calls Tryz.prog 10 #[.slice ao L.length ca] w (ReadAns w L) := by
  have HR := hideP hR
  have HB := hideP hB
  clear hR hB
  go_enter Tryz.func10, Tryz.ntmps10
  go_wp2_with fail
  refine Calls.mono (sRd_any lo hi ao ca L _ (HR.out.keep (B := w.heap.size) ((Below.refl _ _).alloc (Nat.le_refl _) _) hs) (by simp; omega) hn hl HB.out) ?_
  intro e w1 hS
  rcases hS with ⟨h5, ⟨x, ao', na, ca', bo', nb, cb', rfl⟩, k1⟩ | ⟨h0, ao', ca', bo', cb', mid, rfl, k1, hm1, hm2, W1, W2⟩
  · have K1 : Hid (Below w.heap.size w w1) := hideP (Below.trans (by go_grown) (k1.mono (by simp)))
    obtain ⟨r0, r1, r2, r3, r4, r5, r6, r7, r8⟩ : R4 w1 w.heap.size (.int .i64 0) (.int .i64 0) (.slice none 0 0) (.slice none 0 0) := R4.keep ⟨by simp, by simp, by simp, by simp, by simp, by simp, by simp, by simp, by simp⟩ k1 (by simp)
    have hne1 : ¬ w.heap.size = w1.heap.size := by omega
    have H5 := hideP h5
    clear k1 h5
    go_wp2
    refine bodyPost_ret (v := .agg #[.int .i64 5, .int .i64 0, .slice none 0 0, .slice none 0 0]) (by simp [results, Tryz.results10, go_sem, *]) rfl ?_
    refine ans_no (rd_five H5.out) rfl ?_
    repeat' (first | exact K1.out | (with_reducible refine Below.setCell ?_ ?_ _) | (with_reducible refine Below.alloc ?_ ?_ _) | go_size)
  · have K1 : Hid (Below w.heap.size w w1) := hideP (Below.trans (by go_grown) (k1.mono (by simp)))
    obtain ⟨r0, r1, r2, r3, r4, r5, r6, r7, r8⟩ : R4 w1 w.heap.size (.int .i64 0) (.int .i64 0) (.slice none 0 0) (.slice none 0 0) := R4.keep ⟨by simp, by simp, by simp, by simp, by simp, by simp, by simp, by simp, by simp⟩ k1 (by simp)
    have hne1 : ¬ w.heap.size = w1.heap.size := by omega
    have H0 := hideP h0
    have HW1 := hideP W1
    have HW2 := hideP W2
    simp only [World.size_alloc] at hm1
    clear k1 h0 W1 W2
    generalize hA : rdA L = A at *
    generalize hD : rdD L = D at *
    generalize hK : rdK L = k at *
    have EA := hideP hA
    have ED := hideP hD
    have EK := hideP hK
    clear hA hD hK
    go_wp2
    refine bodyPost_ret (v := .agg #[.int .i64 0, .int .i64 k, .slice ao' A.length ca', .slice bo' D.length cb']) (by simp [results, Tryz.results10, go_sem, *]) rfl ?_
    refine ⟨ao', ca', bo', cb', mid, by rw [H0.out, EA.out, ED.out, EK.out], ?_, by omega, by simp; omega, ?_, ?_⟩
    · repeat' (first | exact K1.out | (with_reducible refine Below.setCell ?_ ?_ _) | (with_reducible refine Below.alloc ?_ ?_ _) | go_size)
    · rw [EA.out]
      refine Wrt.wide (lo := w.heap.size + 1) (hi := mid) ?_ (by omega) (Nat.le_refl _)
      refine Wrt.keep ?_ ((Below.refl _ _).alloc (Nat.le_refl _) _) (by simp; omega)
      repeat (refine Wrt.set ?_ _ _ (by dsimp only; omega))
      exact HW1.out.wide (by simp) (Nat.le_refl _)
    · rw [ED.out]
      refine Wrt.wide (lo := mid) (hi := w1.heap.size) ?_ (Nat.le_refl _) (by simp)
      refine Wrt.keep ?_ ((Below.refl _ _).alloc (Nat.le_refl _) _) (by simp)
      repeat (refine Wrt.set ?_ _ _ (by dsimp only; omega))
      exact HW2.out

/-- A result with a request, its box and its rows. -/
structure PR (W : World) (b lo mid hi : Nat) (c k : Int) (ao bo : Option Addr) (ca cb : Nat) (A D : List Int) : Prop where
  box : R4 W b (.int .i64 c) (.int .i64 k) (.slice ao A.length ca) (.slice bo D.length cb)
  req : Req W lo mid hi ao bo A D
theorem PR.lt {W : World} {b lo mid hi : Nat} {c k : Int} {ao bo : Option Addr} {ca cb : Nat} {A D : List Int} (h : PR W b lo mid hi c k ao bo ca cb A D) : b < W.heap.size := h.box.lt
theorem PR.keep {W W' : World} {b lo mid hi B : Nat} {c k : Int} {ao bo : Option Addr} {ca cb : Nat} {A D : List Int} (h : PR W b lo mid hi c k ao bo ca cb A D) (kk : Below B W W') (hb : b < B) (hh : hi ≤ B) : PR W' b lo mid hi c k ao bo ca cb A D :=
  ⟨h.box.keep kk hb, h.req.keep kk hh⟩
theorem PR.far {W W' : World} {b lo mid hi lo' hi' : Nat} {c k : Int} {ao bo : Option Addr} {ca cb : Nat} {A D : List Int} (h : PR W b lo mid hi c k ao bo ca cb A D) (f : Far lo' hi' W W') (hb : b < lo' ∨ hi' ≤ b) (hd : hi ≤ lo' ∨ hi' ≤ lo) : PR W' b lo mid hi c k ao bo ca cb A D :=
  ⟨h.box.far f hb, h.req.far f hd⟩
theorem PR.new {w : World} {base mid : Nat} {c k : Int} {ao bo : Option Addr} {ca cb : Nat} {A D : List Int} {T : TypeId} (h1 : base ≤ mid) (h2 : mid ≤ w.heap.size) (W1 : Wrt .i64 w base mid ao A) (W2 : Wrt .u8 w mid w.heap.size bo D) :
    PR (w.alloc (.cells #[.int .i64 c, .int .i64 k, .slice ao A.length ca, .slice bo D.length cb] T)) w.heap.size base mid w.heap.size c k ao bo ca cb A D :=
  ⟨⟨by simp, by simp, by simp, by simp, by simp, by simp, by simp, by simp, by simp⟩, Req.keep (B := w.heap.size) ⟨h1, h2, Nat.le_refl _, W1, W2⟩ ((Below.refl _ _).alloc (Nat.le_refl _) _) (Nat.le_refl _)⟩

end Go.Proofs.YtbceacnadkhdoaaGreatDoor
