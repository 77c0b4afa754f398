/- PackRequest: bytes told by the program; the body by both. PackRequest of the program. -/
import Derived.Test.YtgjbjafodkiilaaTj11
import Derived.Test.YtgjbjafodkiilaaTj4
import Derived.Test.YtgjbjafodkiilaaTj5
import Derived.Test.YtgjbjafodkiilaaTj8
import Derived.Test.YtgjbjafodkiilaaTj7
namespace Go.Proofs.Ytgjbjafodkiilaa
open Go.RowKit
set_option linter.unusedVariables false

theorem take_app (L : List Int) (j : Nat) (h : j < L.length) : L.take (j + 1) = L.take j ++ [L[j]] := by
  rw [List.take_succ_eq_append_getElem h]

set_option maxHeartbeats 2000000 in
theorem tell_any (lo hi base : Nat) (ao bo : Option Addr) (cap cb : Nat) (M L : List Int) (w : World) (hO : OwnR .u8 5 w base ao cap M) (hR : Row .i64 w lo hi bo L) (hb : base ≤ w.heap.size) (hh : hi ≤ base) (hl : M.length + L.length ≤ 1048576) (hB : L.all isB = true) :
    Calls Try.prog 35 #[.slice ao M.length cap, .slice bo L.length cb] w fun e w' => ∃ ao' cap', e = .returned (.slice ao' (M ++ L).length cap') ∧ OwnR .u8 5 w' base ao' cap' (M ++ L) ∧ Below base w w' := by
  have HO := hideP hO
  have HR := hideP hR
  have HB := hideP hB
  have hl' : (L.length : Int) ≤ 1048576 := by omega
  have hll : L.length ≤ 1048576 := by omega
  clear hO hR hB
  go_enter Try.func35, Try.ntmps35
  go_wp2
  go_loopw [0, 9] (fun t i wr => ∃ (j : Nat) (ao' : Option Addr) (cap' : Nat), j ≤ L.length ∧ i = .int .i64 j ∧ t = .slice ao' (M ++ L.take j).length cap' ∧ OwnR .u8 5 wr base ao' cap' (M ++ L.take j) ∧ Below base w wr) (fun _ i _ => L.length - (intOf i).toNat)
  case atStart => exact ⟨0, ao, cap, Nat.zero_le _, rfl, by simp, by simpa using HO.out, Below.refl _ _⟩
  case round =>
    obtain ⟨j, ao1, cap1, hj, rfl, rfl, O1, K1⟩ := hrel
    have HO1 := hideP O1
    have HK1 := hideP K1
    have hz := K1.size
    clear O1 K1
    by_cases hlt : j < L.length
    · have hlt' : (j : Int) < (L.length : Int) := by omega
      have hne : L ≠ [] := fun e => by rw [e] at hlt; simp at hlt
      rcases HR.out with e | ⟨g, o, rfl, _, hg, hc⟩
      · exact absurd e hne
      have a0 := (HK1.out.cell (p := ⟨g, o + j, none⟩) (by show g < base; omega)).trans (hc j hlt)
      have hx := all_at HB.out j hlt
      have HT : Hid (M ++ L.take (j + 1) = (M ++ L.take j) ++ [L[j]]) := hideP (by rw [take_app L j hlt, List.append_assoc])
      have HL1 := hideP (show (M ++ L.take j).length ≤ 1048576 by simp; omega)
      clear hc hne
      generalize L[j] = x at *
      obtain ⟨x0, x1⟩ := hx
      have hm : x % 256 = x := by omega
      generalize M ++ L.take j = M1 at *
      go_wp2_with (first | (at_builtin; refine wpList_app (k := .u8) (T := 5) (S := 22) (bytes := 1) Try.underlying22 Try.infoB (by omega) rfl _ _ rfl base ao1 cap1 M1 rfl (HO1.out.alloc _) _ 1 [x] rfl (src_one .u8 wr x 5) (by have := HL1.out; simp; omega) (by simp; omega) ?_; intro ao2 cap2 w2 O2 K2; refine Hid.out ?_) | go_in)
      have HO2 := hideP O2
      have HK2 : Hid (Below base w w2) := hideP ((HK1.out.alloc (by omega) _).trans K2)
      clear O2 K2
      refine hideP ?_
      go_wp2
      go_roundw
      case rel => exact ⟨j + 1, ao2, cap2, by omega, by go_num, by rw [HT.out]; simp, by rw [HT.out]; exact HO2.out, HK2.out⟩
      case measure => simp [intOf]; omega
    · obtain rfl : j = L.length := by omega
      rw [List.take_length] at HO1
      go_wp2
      go_returns
      exact ⟨ao1, cap1, by rw [List.take_length]; rfl, HO1.out, HK1.out⟩

theorem tell_nil (lo hi : Nat) (bo : Option Addr) (cb : Nat) (L : List Int) (w : World) (hR : Row .i64 w lo hi bo L) (hh : hi ≤ w.heap.size) (hl : L.length ≤ 1048576) (hB : L.all isB = true) :
    Calls Try.prog 35 #[.slice none 0 0, .slice bo L.length cb] w fun e w' => ∃ ao' cap', e = .returned (.slice ao' L.length cap') ∧ OwnR .u8 5 w' w.heap.size ao' cap' L ∧ Below w.heap.size w w' :=
  tell_any lo hi w.heap.size none bo 0 cb [] L w (OwnR.nil _ _ _ _) hR (Nat.le_refl _) hh (by simpa using hl) hB

theorem row_one (k : IntKind) (w : World) (x : Int) (T : TypeId) (b : Nat) (hb : b = w.heap.size) : Row k (w.alloc (.cells #[.int k x] T)) b (b + 1) (some ⟨b, 0, none⟩) [x] := by
  subst hb
  refine .inr ⟨_, _, rfl, Nat.le_refl _, by omega, fun i hi => ?_⟩
  obtain rfl : i = 0 := by simpa using hi
  rw [World.cell?_alloc_new]; rfl
theorem all_one {k : Int} (h0 : 0 ≤ k) (h1 : k ≤ 255) : [k].all isB = true := by simp [isB, h0, h1]

set_option maxHeartbeats 2000000 in
theorem body_any (lo hi : Nat) (k : Int) (ao bo : Option Addr) (ca cb : Nat) (A D : List Int) (w : World) (hA : Row .i64 w lo hi ao A) (hD : Row .u8 w lo hi bo D) (hs : hi ≤ w.heap.size) (hk : 0 ≤ k ∧ k ≤ 255) (hB : A.all isB = true) (hl : A.length + D.length ≤ 1000) :
    Calls Try.prog 34 #[.agg #[.int .i64 k, .slice ao A.length ca, .slice bo D.length cb]] w fun e w' => ∃ ao' cap', e = .returned (.slice ao' (bod k A D).length cap') ∧ OwnR .u8 5 w' w.heap.size ao' cap' (bod k A D) ∧ Below w.heap.size w w' := by
  have HA := hideP hA
  have HD := hideP hD
  have HB := hideP hB
  obtain ⟨kk0, kk1⟩ := hk
  clear hA hD hB
  go_enter Try.func34, Try.ntmps34
  go_wp2_with fail
  refine Calls.mono (tell_nil (w.heap.size + 1) (w.heap.size + 1 + 1) _ 1 [k] _ (row_one .i64 _ k 2 _ (by simp)) (by simp) (by simp) (all_one kk0 kk1)) ?_
  rintro e w1 ⟨ao1, cap1, rfl, O1, k1⟩
  have HO1 : Hid (OwnR .u8 5 w1 (w.heap.size + 1 + 1) ao1 cap1 [k]) := hideP (O1.le (by simp))
  have HK1 : Hid (Below w.heap.size w w1) := hideP (Below.trans (by go_grown) (k1.mono (by simp; omega)))
  have X1 : Hid (Bx w1 w.heap.size k (.slice ao A.length ca) (.slice bo D.length cb)) := hideP (Bx.keep (B := w.heap.size + 1) ⟨by simp, by simp, by simp⟩ (k1.mono (by simp)) (by omega))
  have n1 : w.heap.size + 1 + 1 ≤ w1.heap.size := by have := k1.size; simpa using this
  clear O1 k1
  obtain ⟨p0, p1, p2⟩ := X1.out
  go_wp2_with fail
  clear p0 p1 p2
  refine Calls.mono (tell_any lo hi (w.heap.size + 1 + 1) ao1 ao cap1 ca [k] A w1 HO1.out (HA.out.keep HK1.out hs) n1 (by omega) (by simp; omega) HB.out) ?_
  rintro e w2 ⟨ao2, cap2, rfl, O2, K2⟩
  have HO2 := hideP O2
  have HK2 := hideP (HK1.out.trans (K2.mono (by omega)))
  have X2 := hideP (X1.out.keep K2 (by omega))
  have n2 : w.heap.size + 1 + 1 ≤ w2.heap.size := by have := K2.size; omega
  clear O2 K2 HO1 X1 HK1
  obtain ⟨p0, p1, p2⟩ := X2.out
  have HS := hideP ((HD.out.keep HK2.out hs).src)
  go_wp2_with (first | (at_builtin; refine wpList_app (k := .u8) (T := 5) (S := 22) (bytes := 1) Try.underlying22 Try.infoB (by omega) rfl _ _ rfl (w.heap.size + 1 + 1) ao2 cap2 ([k] ++ A) rfl HO2.out bo cb D rfl HS.out (by simp; omega) n2 ?_; intro ao3 cap3 w3 O3 K3; refine Hid.out ?_) | go_in)
  have HO3 : Hid (OwnR .u8 5 w3 w.heap.size ao3 cap3 (bod k A D)) := hideP (O3.le (by omega))
  have HK3 := hideP (HK2.out.trans (K3.mono (by omega)))
  clear O3 K3 p0 p1 p2 X2
  refine hideP ?_
  go_wp2
  go_returns
  exact ⟨ao3, cap3, by rw [bod_len]; rfl, HO3.out, HK3.out⟩

end Go.Proofs.Ytgjbjafodkiilaa

namespace Go.Proofs.Ytgjbjafodkiilaa
open Go.RowKit
set_option linter.unusedVariables false

/-- A request's bytes; nothing, where it has a fault. -/
def pkL (k : Int) (A D : List Int) : List Int := if rF k A D.length = 0 then ((bod k A D).length : Int) :: bod k A D else []
theorem pkL_yes {k : Int} {A D : List Int} (h : rF k A D.length = 0) : pkL k A D = ((bod k A D).length : Int) :: bod k A D := by unfold pkL; rw [if_pos h]
theorem pkL_no {k : Int} {A D : List Int} (h : rF k A D.length ≠ 0) : pkL k A D = [] := by unfold pkL; rw [if_neg h]
theorem rF_lens {k : Int} {A : List Int} {nd : Nat} (h : rF k A nd = 0) : A.length ≤ 7 ∧ nd ≤ 24 ∧ 1 ≤ k ∧ k ≤ 13 ∧ A.all isB = true := by
  obtain ⟨h1, h2, h3, h4⟩ := rF_ok h
  have := aN_le k
  have := mD_le k
  exact ⟨by omega, by omega, h1.1, h1.2, h4⟩

set_option maxHeartbeats 1000000 in
theorem iPack_no (lo hi : Nat) (k : Int) (ao bo : Option Addr) (ca cb : Nat) (A D : List Int) (w : World) (hA : Row .i64 w lo hi ao A) (hs : hi ≤ w.heap.size) (h : rF k A D.length ≠ 0) :
    Calls Try.prog 18 #[.agg #[.int .i64 k, .slice ao A.length ca, .slice bo D.length cb]] w fun e w' => e = .returned (.agg #[.int .i64 (rF k A D.length), .slice none 0 0]) ∧ Below w.heap.size w w' := by
  have HA := hideP hA
  clear hA
  obtain ⟨c, hc⟩ : ∃ c, rF k A D.length = c := ⟨_, rfl⟩
  have HC := hideP hc
  have hne : (c != 0) = true := by rw [← hc]; simpa using h
  clear h hc
  go_enter Try.func18, Try.ntmps18
  go_wp2_with fail
  refine Calls.mono (iFault_any lo hi k ao bo ca D.length cb A _ (HA.out.keep (B := w.heap.size) (by go_grown) hs) (by simp; omega)) ?_
  rintro e w1 ⟨rfl, k1⟩
  rw [HC.out]
  replace k1 := Kept.below k1
  have hc1 := Kept.cell k1
  have hf1 := Kept.frozen k1
  have hz1 := k1.size
  try simp only [World.size_alloc] at hz1
  try simp only [World.size_setCell] at hz1
  try simp only [World.size_drew] at hz1
  try (first | have hs1 := sz12 hz1 | have hs1 := sz11 hz1 | have hs1 := sz10 hz1 | have hs1 := sz9 hz1 | have hs1 := sz8 hz1 | have hs1 := sz7 hz1 | have hs1 := sz6 hz1 | have hs1 := sz5 hz1 | have hs1 := sz4 hz1 | have hs1 := sz3 hz1 | have hs1 := sz2 hz1 | have hs1 := sz1 hz1)
  go_wp2
  refine bodyPost_ret (v := .agg #[.int .i64 c, .slice none 0 0]) (by simp [results, Try.results18, go_sem, *]) rfl ⟨by rw [HC.out], ?_⟩
  repeat' (first | (with_reducible exact Below.refl _ _) | (with_reducible refine kept_below ?_ (by assumption) ?_) | (with_reducible refine Below.alloc ?_ ?_ _) | (with_reducible refine Below.drew ?_) | (with_reducible refine Below.setCell ?_ ?_ _) | go_size)

set_option maxHeartbeats 2000000 in
theorem iPack_yes (lo hi : Nat) (k : Int) (ao bo : Option Addr) (ca cb : Nat) (A D : List Int) (w : World) (hA : Row .i64 w lo hi ao A) (hD : Row .u8 w lo hi bo D) (hs : hi ≤ w.heap.size) (h : rF k A D.length = 0) :
    Calls Try.prog 18 #[.agg #[.int .i64 k, .slice ao A.length ca, .slice bo D.length cb]] w fun e w' => ∃ ao' cap', e = .returned (.agg #[.int .i64 0, .slice ao' (pkL k A D).length cap']) ∧ OwnR .u8 5 w' w.heap.size ao' cap' (pkL k A D) ∧ Below w.heap.size w w' := by
  have HA := hideP hA
  have HD := hideP hD
  obtain ⟨l1, l2, q1, q2, q3⟩ := rF_lens h
  have HB := hideP q3
  have HC := hideP h
  have HP := hideP (pkL_yes h)
  have hbl : Hid ((bod k A D).length = A.length + D.length + 1) := hideP (bod_len _ _ _)
  have hpl : Hid ((pkL k A D).length = A.length + D.length + 1 + 1) := hideP (by rw [HP.out, List.length_cons, bod_len])
  clear hA hD h q3
  go_enter Try.func18, Try.ntmps18
  go_wp2_with fail
  refine Calls.mono (iFault_any lo hi k ao bo ca D.length cb A _ (HA.out.keep (B := w.heap.size) (by go_grown) hs) (by simp; omega)) ?_
  rintro e w1 ⟨rfl, k1⟩
  rw [HC.out]
  have K1 : Hid (Below w.heap.size w w1) := hideP (Below.trans (by go_grown) (k1.mono (by simp; omega)))
  have R1 : Hid (Rb w1 (w.heap.size + 1) (.int .i64 0) (.slice none 0 0)) := hideP (Rb.keep ⟨by simp, by simp, by simp, by simp, by simp⟩ k1 (by simp))
  have n1 : w.heap.size + 1 < w1.heap.size := R1.out.lt
  obtain ⟨p0, p1, p2⟩ : Bx w1 w.heap.size k (.slice ao A.length ca) (.slice bo D.length cb) := Bx.keep ⟨by simp, by simp, by simp⟩ k1 (by simp; omega)
  clear k1
  go_wp2_with fail
  clear p0 p1 p2
  refine Calls.mono (body_any lo hi k ao bo ca cb A D w1 (HA.out.keep K1.out hs) (HD.out.keep K1.out hs) (by omega) ⟨by omega, by omega⟩ HB.out (by omega)) ?_
  rintro e w2 ⟨ao2, cap2, rfl, O2, k2⟩
  rw [hbl.out]
  have HO2 := hideP O2
  have K2 : Hid (Below w.heap.size w w2) := hideP (K1.out.trans (k2.mono (by omega)))
  have R2 := hideP (R1.out.keep k2 n1)
  have hz12 := k2.size
  clear O2 k2
  go_wp2_with fail
  have x0 : (0 : Int) ≤ (A.length : Int) + (D.length : Int) + 1 := by omega
  have x1 : (A.length : Int) + (D.length : Int) + 1 ≤ 255 := by omega
  have HX : Hid (((bod k A D).length : Int) = (A.length : Int) + (D.length : Int) + 1) := hideP (by rw [hbl.out]; omega)
  generalize (A.length : Int) + (D.length : Int) + 1 = x at *
  refine Calls.mono (tell_nil w2.heap.size (w2.heap.size + 1) _ 1 [x] _ (row_one .i64 _ x 2 _ rfl) (by simp) (by simp) (all_one x0 x1)) ?_
  rintro e w3 ⟨ao3, cap3, rfl, O3, k3⟩
  have HO3 := hideP O3
  have k23 : Hid (Below w2.heap.size w2 w3) := hideP (Below.trans (by go_grown) (k3.mono (by simp)))
  have K3 : Hid (Below w.heap.size w w3) := hideP (K2.out.trans (k23.out.mono (by omega)))
  have HS := hideP (HO2.out.keep k23.out).src
  have n3 : (w2.alloc (.cells #[.int .i64 x] 2)).heap.size ≤ w3.heap.size := k3.size
  have R3 := hideP (R2.out.keep k23.out (by omega))
  have hz23 := k3.size
  simp only [World.size_alloc] at hz23
  clear O3 k3
  go_wp2_with (first | (at_builtin; refine wpList_app (k := .u8) (T := 5) (S := 22) (bytes := 1) Try.underlying22 Try.infoB (by omega) rfl _ _ rfl _ ao3 cap3 [x] rfl HO3.out ao2 cap2 (bod k A D) (by rw [hbl.out]; rfl) HS.out (by rw [hbl.out]; simp; omega) n3 ?_; intro ao4 cap4 w4 O4 k4; refine Hid.out ?_) | go_in)
  have HO4 : Hid (OwnR .u8 5 w4 w2.heap.size ao4 cap4 (pkL k A D)) := hideP (by rw [HP.out, HX.out]; exact O4.le (by simp))
  have K4 : Hid (Below w.heap.size w w4) := hideP (K3.out.trans (k4.mono (by simp; omega)))
  have R4 := R3.out.keep (k4.mono (B' := w2.heap.size) (by simp)) (by omega)
  clear O4 k4
  refine hideP ?_
  obtain ⟨r0, r1, r2, r3, r4⟩ := R4
  go_wp2
  refine bodyPost_ret (v := .agg #[.int .i64 0, .slice ao4 ((bod k A D).length + 1) cap4]) (by simp [results, Try.results18, go_sem, *]) rfl ⟨ao4, cap4, by rw [hpl.out, hbl.out], ?_, ?_⟩
  · refine OwnR.le (base := w2.heap.size) ?_ (by omega)
    repeat (refine OwnR.set ?_ _ _ (by dsimp only; omega))
    exact HO4.out
  · repeat' (first | exact K4.out | (with_reducible refine Below.setCell ?_ ?_ _) | go_size)

/-- PackRequest of the program at every request. -/
theorem iPack_any (lo hi : Nat) (k : Int) (ao bo : Option Addr) (ca cb : Nat) (A D : List Int) (w : World) (hA : Row .i64 w lo hi ao A) (hD : Row .u8 w lo hi bo D) (hs : hi ≤ w.heap.size) :
    Calls Try.prog 18 #[.agg #[.int .i64 k, .slice ao A.length ca, .slice bo D.length cb]] w fun e w' => ∃ ao' cap', e = .returned (.agg #[.int .i64 (rF k A D.length), .slice ao' (pkL k A D).length cap']) ∧ OwnR .u8 5 w' w.heap.size ao' cap' (pkL k A D) ∧ Below w.heap.size w w' := by
  by_cases h : rF k A D.length = 0
  · rw [h]; exact iPack_yes lo hi k ao bo ca cb A D w hA hD hs h
  · refine (iPack_no lo hi k ao bo ca cb A D w hA hs h).mono fun e w' ⟨he, hb⟩ => ⟨none, 0, ?_, ?_, hb⟩
    · rw [he, pkL_no h]; rfl
    · rw [pkL_no h]; exact OwnR.nil _ _ _ _

theorem pkL_len (k : Int) (A D : List Int) : (pkL k A D).length ≤ 33 := by
  by_cases h : rF k A D.length = 0
  · obtain ⟨h1, h2, _⟩ := rF_lens h
    rw [pkL_yes h, List.length_cons, bod_len]; omega
  · rw [pkL_no h]; simp

end Go.Proofs.Ytgjbjafodkiilaa
