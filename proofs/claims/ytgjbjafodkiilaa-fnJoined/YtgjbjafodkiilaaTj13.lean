/- PackRequest of the model. Results with bytes, and requests: held against each other, marked, held; what is known of a law's boxes. -/
import Derived.Test.YtgjbjafodkiilaaTj12
import Derived.Test.YtgjbjafodkiilaaTj10
namespace Go.Proofs.Ytgjbjafodkiilaa
open Go.RowKit
set_option linter.unusedVariables false

set_option maxHeartbeats 2000000 in
theorem sBody_any (lo hi b : Nat) (k : Int) (ao bo : Option Addr) (ca cb : Nat) (A D : List Int) (w : World) (X : Bx w b k (.slice ao A.length ca) (.slice bo D.length cb)) (hA : Row .i64 w lo hi ao A) (hD : Row .u8 w lo hi bo D) (hs : hi ≤ w.heap.size) (hbl : b < w.heap.size) (hk : 0 ≤ k ∧ k ≤ 255) (hB : A.all isB = true) (hl : A.length + D.length ≤ 1000) :
    Calls Try.prog 43 #[.pointer (some ⟨b, 0, none⟩)] w fun e w' => ∃ ao' cap', e = .returned (.slice ao' (bod k A D).length cap') ∧ OwnR .u8 5 w' w.heap.size ao' cap' (bod k A D) ∧ Below w.heap.size w w' := by
  have HA := hideP hA
  have HD := hideP hD
  have HB := hideP hB
  have HX := hideP X
  obtain ⟨kk0, kk1⟩ := hk
  have hm : k % 256 = k := by omega
  have hl' : (A.length : Int) ≤ 1000 := by omega
  clear hA hD hB X
  obtain ⟨p0, p1, p2⟩ := HX.out
  go_enter Try.func43, Try.ntmps43
  go_wp2
  clear p0 p1 p2
  have O0 : Hid (OwnR .u8 5 (w.alloc (.cells #[.int .u8 k] 5)) w.heap.size (some ⟨w.heap.size, 0, none⟩) 1 ([k] ++ A.take 0)) := hideP (OwnR.lit .u8 5 w w.heap.size [k] _ rfl (Nat.le_refl _) (by unfold maxLen; simp))
  go_loopw [3, 4] (fun t i wr => ∃ (j : Nat) (ao' : Option Addr) (cap' : Nat), j ≤ A.length ∧ i = .int .i64 j ∧ t = .slice ao' (([k] ++ A.take j).length) cap' ∧ OwnR .u8 5 wr w.heap.size ao' cap' ([k] ++ A.take j) ∧ Below w.heap.size w wr) (fun _ i _ => A.length - (intOf i).toNat)
  case atStart => exact ⟨0, _, 1, Nat.zero_le _, rfl, rfl, O0.out, by go_grown⟩
  case round =>
    obtain ⟨j, ao1, cap1, hj, rfl, rfl, O1, K1⟩ := hrel
    have HO1 := hideP O1
    have HK1 := hideP K1
    have hz := K1.size
    have X1 := HX.out.keep K1 hbl
    obtain ⟨p0, p1, p2⟩ := X1
    clear O1 K1 O0
    by_cases hlt : j < A.length
    · have hlt' : (j : Int) < (A.length : Int) := by omega
      have hne : A ≠ [] := fun e => by rw [e] at hlt; simp at hlt
      rcases HA.out with e | ⟨g, o, rfl, _, hg, hc⟩
      · exact absurd e hne
      have a0 := (HK1.out.cell (p := ⟨g, o + j, none⟩) (by show g < _; omega)).trans (hc j hlt)
      have hx := all_at HB.out j hlt
      have HT : Hid ([k] ++ A.take (j + 1) = ([k] ++ A.take j) ++ [A[j]]) := hideP (by rw [take_app A j hlt, List.append_assoc])
      have HL1 := hideP (show ([k] ++ A.take j).length ≤ 1048576 by simp; omega)
      clear hc hne
      generalize A[j] = x at *
      obtain ⟨x0, x1⟩ := hx
      have hm2 : x % 256 = x := by omega
      generalize [k] ++ A.take j = M1 at *
      go_wp2_with (first | (at_builtin; refine wpList_app (k := .u8) (T := 5) (S := 22) (bytes := 1) Try.underlying22 Try.infoB (by omega) rfl _ _ rfl w.heap.size ao1 cap1 M1 rfl (HO1.out.alloc _) _ 1 [x] rfl (src_one .u8 wr x 5) (by have := HL1.out; simp; omega) (by simp; omega) ?_; intro ao2 cap2 w2 O2 K2; refine Hid.out ?_) | go_in)
      have HO2 := hideP O2
      have HK2 : Hid (Below w.heap.size w w2) := hideP ((HK1.out.alloc (by omega) _).trans K2)
      clear O2 K2 p0 p1 p2
      refine hideP ?_
      go_wp2
      go_roundw
      case rel => exact ⟨j + 1, ao2, cap2, by omega, by go_num, by rw [HT.out]; simp, by rw [HT.out]; exact HO2.out, HK2.out⟩
      case measure => simp [intOf]; omega
    · obtain rfl : j = A.length := by omega
      rw [List.take_length] at HO1 ⊢
      have HS := hideP ((HD.out.keep HK1.out hs).src)
      go_wp2_with (first | (at_builtin; refine wpList_app (k := .u8) (T := 5) (S := 22) (bytes := 1) Try.underlying22 Try.infoB (by omega) rfl _ _ rfl w.heap.size ao1 cap1 ([k] ++ A) (by rfl) HO1.out bo cb D rfl HS.out (by simp; omega) (by omega) ?_; intro ao3 cap3 w3 O3 K3; refine Hid.out ?_) | go_in)
      have HO3 : Hid (OwnR .u8 5 w3 w.heap.size ao3 cap3 (bod k A D)) := hideP O3
      have HK3 := hideP (HK1.out.trans K3)
      clear O3 K3 p0 p1 p2
      refine hideP ?_
      go_wp2
      go_returns
      exact ⟨ao3, cap3, by rw [bod_len]; rfl, HO3.out, HK3.out⟩

set_option maxHeartbeats 2000000 in
theorem sPk_any (lo hi b : Nat) (k : Int) (ao bo : Option Addr) (ca cb : Nat) (A D : List Int) (w : World) (X : Bx w b k (.slice ao A.length ca) (.slice bo D.length cb)) (hA : Row .i64 w lo hi ao A) (hD : Row .u8 w lo hi bo D) (hs : hi ≤ w.heap.size) (hbl : b < w.heap.size) (h : rF k A D.length = 0) :
    Calls Try.prog 22 #[.pointer (some ⟨b, 0, none⟩)] w fun e w' => ∃ ao' cap', e = .returned (.slice ao' (pkL k A D).length cap') ∧ OwnR .u8 5 w' w.heap.size ao' cap' (pkL k A D) ∧ Below w.heap.size w w' := by
  have HA := hideP hA
  have HD := hideP hD
  have HX := hideP X
  obtain ⟨l1, l2, q1, q2, q3⟩ := rF_lens h
  have HB := hideP q3
  have HP := hideP (pkL_yes h)
  have hbl2 : Hid ((bod k A D).length = A.length + D.length + 1) := hideP (bod_len _ _ _)
  have hpl : Hid ((pkL k A D).length = A.length + D.length + 1 + 1) := hideP (by rw [HP.out, List.length_cons, bod_len])
  clear hA hD h q3 X
  go_enter Try.func22, Try.ntmps22
  go_wp2_with fail
  refine Calls.mono (sBody_any lo hi b k ao bo ca cb A D w HX.out HA.out HD.out hs hbl ⟨by omega, by omega⟩ HB.out (by omega)) ?_
  rintro e w2 ⟨ao2, cap2, rfl, O2, k2⟩
  rw [hbl2.out]
  have HO2 := hideP O2
  have K2 := hideP k2
  have n2 := k2.size
  have x0 : (0 : Int) ≤ (A.length : Int) + (D.length : Int) + 1 := by omega
  have x1 : (A.length : Int) + (D.length : Int) + 1 ≤ 255 := by omega
  have HXX : Hid (((bod k A D).length : Int) = (A.length : Int) + (D.length : Int) + 1) := hideP (by rw [hbl2.out]; omega)
  have hm : ((A.length : Int) + (D.length : Int) + 1) % 256 = (A.length : Int) + (D.length : Int) + 1 := by omega
  clear O2 k2
  go_wp2_with (first | (at_builtin; refine wpList_app (k := .u8) (T := 5) (S := 22) (bytes := 1) Try.underlying22 Try.infoB (by omega) rfl _ _ rfl w2.heap.size (some ⟨w2.heap.size, 0, none⟩) 1 [(A.length : Int) + (D.length : Int) + 1] rfl (OwnR.lit .u8 5 w2 w2.heap.size [(A.length : Int) + (D.length : Int) + 1] _ rfl (Nat.le_refl _) (by unfold maxLen; simp)) ao2 cap2 (bod k A D) (by rw [hbl2.out]; rfl) (HO2.out.alloc _).src (by rw [hbl2.out]; simp; omega) (by simp) ?_; intro ao4 cap4 w4 O4 k4; refine Hid.out ?_) | go_in)
  have HO4 : Hid (OwnR .u8 5 w4 w.heap.size ao4 cap4 (pkL k A D)) := hideP (by rw [HP.out, HXX.out]; exact O4.le n2)
  have K4 : Hid (Below w.heap.size w w4) := hideP ((K2.out.alloc n2 _).trans (k4.mono n2))
  clear O4 k4
  refine hideP ?_
  go_wp2
  go_returns
  exact ⟨ao4, cap4, by rw [hpl.out, ← hbl2.out]; rfl, HO4.out, K4.out⟩

end Go.Proofs.Ytgjbjafodkiilaa

namespace Go.Proofs.Ytgjbjafodkiilaa
open Go.RowKit
set_option linter.unusedVariables false

/-- Behind new blocks what turns of the old ones turns still. -/
theorem Far.after {lo hi : Nat} {w w1 w2 : World} (k : Below w.heap.size w w1) (f : Far lo hi w1 w2) : Far lo hi w w2 := (Far.of_below k).trans f

/-- A result with bytes, its box and its row. -/
structure PW (W : World) (b lo hi : Nat) (c : Int) (ao : Option Addr) (ca : Nat) (L : List Int) : Prop where
  box : Rb W b (.int .i64 c) (.slice ao L.length ca)
  row : Wrt .u8 W lo hi ao L
  le : lo ≤ hi
  hs : hi ≤ W.heap.size
theorem PW.keep {W W' : World} {b lo hi B : Nat} {c : Int} {ao : Option Addr} {ca : Nat} {L : List Int} (h : PW W b lo hi c ao ca L) (k : Below B W W') (hb : b < B) (hh : hi ≤ B) : PW W' b lo hi c ao ca L :=
  ⟨h.box.keep k hb, h.row.keep k hh, h.le, Nat.le_trans h.hs k.size⟩
theorem PW.far {W W' : World} {b lo hi lo' hi' : Nat} {c : Int} {ao : Option Addr} {ca : Nat} {L : List Int} (h : PW W b lo hi c ao ca L) (f : Far lo' hi' W W') (hb : b < lo' ∨ hi' ≤ b) (hd : hi ≤ lo' ∨ hi' ≤ lo) : PW W' b lo hi c ao ca L :=
  ⟨h.box.far f hb, h.row.far f hd h.hs, h.le, Nat.le_trans h.hs f.size⟩
theorem PW.lt {W : World} {b lo hi : Nat} {c : Int} {ao : Option Addr} {ca : Nat} {L : List Int} (h : PW W b lo hi c ao ca L) : b < W.heap.size := h.box.lt
/-- .. just put into its box. -/
theorem PW.new {w : World} {base : Nat} {c : Int} {ao : Option Addr} {ca : Nat} {L : List Int} {T : TypeId} (O : OwnR .u8 5 w base ao ca L) (hb : base ≤ w.heap.size) : PW (w.alloc (.cells #[.int .i64 c, .slice ao L.length ca] T)) w.heap.size base w.heap.size c ao ca L :=
  ⟨⟨by simp, by simp, by simp, by simp, by simp⟩, O.wrt.keep (B := w.heap.size) ((Below.refl _ _).alloc (Nat.le_refl _) _) (Nat.le_refl _), hb, by simp⟩

/-- A request, its box and its rows. -/
structure PX (W : World) (b lo mid hi : Nat) (k : Int) (ao bo : Option Addr) (ca cb : Nat) (A D : List Int) : Prop where
  box : Bx W b k (.slice ao A.length ca) (.slice bo D.length cb)
  req : Req W lo mid hi ao bo A D
  lt : b < W.heap.size
theorem PX.keep {W W' : World} {b lo mid hi B : Nat} {k : Int} {ao bo : Option Addr} {ca cb : Nat} {A D : List Int} (h : PX W b lo mid hi k ao bo ca cb A D) (kk : Below B W W') (hb : b < B) (hh : hi ≤ B) : PX W' b lo mid hi k ao bo ca cb A D :=
  ⟨h.box.keep kk hb, h.req.keep kk hh, Nat.lt_of_lt_of_le h.lt kk.size⟩
theorem PX.new {w : World} {base mid : Nat} {k : Int} {ao bo : Option Addr} {ca cb : Nat} {A D : List Int} {T : TypeId} (R : Req w base mid w.heap.size ao bo A D) : PX (w.alloc (.cells #[.int .i64 k, .slice ao A.length ca, .slice bo D.length cb] T)) w.heap.size base mid w.heap.size k ao bo ca cb A D :=
  ⟨⟨by simp, by simp, by simp⟩, R.keep (B := w.heap.size) ((Below.refl _ _).alloc (Nat.le_refl _) _) (Nat.le_refl _), by simp⟩

theorem pkL_len' (k : Int) (A D : List Int) : (pkL k A D).length ≤ 1048576 := by have := pkL_len k A D; omega

end Go.Proofs.Ytgjbjafodkiilaa
