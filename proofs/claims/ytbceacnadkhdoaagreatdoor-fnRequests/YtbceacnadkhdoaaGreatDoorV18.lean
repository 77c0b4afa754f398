/- PackRequest of the model. -/
import Derived.Test.YtbceacnadkhdoaaGreatDoorV15
namespace Go.Proofs.YtbceacnadkhdoaaGreatDoor
open Go.RowKit
set_option linter.unusedVariables false

set_option maxHeartbeats 2000000 in
theorem sBody_any (lo hi b : Nat) (k : Int) (ao bo : Option Addr) (ca cb : Nat) (A D : List Int) (w : World) (X : Bx w b k (.slice ao A.length ca) (.slice bo D.length cb)) (hA : Row .i64 w lo hi ao A) (hD : Row .u8 w lo hi bo D) (hs : hi ≤ w.heap.size) (hbl : b < w.heap.size) (hk : 0 ≤ k ∧ k ≤ 255) (hB : A.all isB = true) (hl : A.length + D.length ≤ 1000) :
    Calls Tryz.prog 23 #[.pointer (some ⟨b, 0, none⟩)] w fun e w' => ∃ ao' cap', e = .returned (.slice ao' (bod k A D).length cap') ∧ OwnR .u8 5 w' w.heap.size ao' cap' (bod k A D) ∧ Below w.heap.size w w' := by
  have HA := hideP hA
  have HD := hideP hD
  have HB := hideP hB
  have HX := hideP X
  obtain ⟨kk0, kk1⟩ := hk
  have hm : k % 256 = k := by omega
  have hl' : (A.length : Int) ≤ 1000 := by omega
  clear hA hD hB X
  obtain ⟨p0, p1, p2⟩ := HX.out
  go_enter Tryz.func23, Tryz.ntmps23
  go_wp2
  clear p0 p1 p2
  have O0 : Hid (OwnR .u8 5 (w.alloc (.cells #[.int .u8 k] 5)) w.heap.size (some ⟨w.heap.size, 0, none⟩) 1 ([k] ++ A.take 0)) := hideP (OwnR.lit .u8 5 w w.heap.size [k] _ rfl (Nat.le_refl _) (by unfold maxLen; simp))
  go_loopw [3, 4] (fun t i wr => ∃ (j : Nat) (ao' : Option Addr) (cap' : Nat), j ≤ A.length ∧ i = .int .i64 j ∧ t = .slice ao' (([k] ++ A.take j).length) cap' ∧ OwnR .u8 5 wr w.heap.size ao' cap' ([k] ++ A.take j) ∧ Below w.heap.size w wr) (fun _ i _ => A.length - (intOf i).toNat)
  case atStart => exact ⟨0, _, 1, Nat.zero_le _, rfl, rfl, O0.out, by go_grown⟩
  case round =>
    obtain ⟨j, ao1, cap1, hj, rfl, rfl, O1, K1⟩ := hrel
    have HO1 := hideP O1
    have HK1 := hideP K1
    have hz := K1.size
    have X1 := HX.out.keep K1 hbl
    obtain ⟨p0, p1, p2⟩ := X1
    clear O1 K1 O0
    by_cases hlt : j < A.length
    · have hlt' : (j : Int) < (A.length : Int) := by omega
      have hne : A ≠ [] := fun e => by rw [e] at hlt; simp at hlt
      rcases HA.out with e | ⟨g, o, rfl, _, hg, hc⟩
      · exact absurd e hne
      have a0 := (HK1.out.cell (p := ⟨g, o + j, none⟩) (by show g < _; omega)).trans (hc j hlt)
      have hx := all_at HB.out j hlt
      have HT : Hid ([k] ++ A.take (j + 1) = ([k] ++ A.take j) ++ [A[j]]) := hideP (by rw [take_app A j hlt, List.append_assoc])
      have HL1 := hideP (show ([k] ++ A.take j).length ≤ 1048576 by simp; omega)
      clear hc hne
      generalize A[j] = x at *
      obtain ⟨x0, x1⟩ := hx
      have hm2 : x % 256 = x := by omega
      generalize [k] ++ A.take j = M1 at *
      go_wp2_with (first | (at_builtin; refine wpList_app (k := .u8) (T := 5) (S := 22) (bytes := 1) Tryz.underlying22 Tryz.infoB (by omega) rfl _ _ rfl w.heap.size ao1 cap1 M1 rfl (HO1.out.alloc _) _ 1 [x] rfl (src_one .u8 wr x 5) (by have := HL1.out; simp; omega) (by simp; omega) ?_; intro ao2 cap2 w2 O2 K2; refine Hid.out ?_) | go_in)
      have HO2 := hideP O2
      have HK2 : Hid (Below w.heap.size w w2) := hideP ((HK1.out.alloc (by omega) _).trans K2)
      clear O2 K2 p0 p1 p2
      refine hideP ?_
      go_wp2
      go_roundw
      case rel => exact ⟨j + 1, ao2, cap2, by omega, by go_num, by rw [HT.out]; simp, by rw [HT.out]; exact HO2.out, HK2.out⟩
      case measure => simp [intOf]; omega
    · obtain rfl : j = A.length := by omega
      rw [List.take_length] at HO1 ⊢
      have HS := hideP ((HD.out.keep HK1.out hs).src)
      go_wp2_with (first | (at_builtin; refine wpList_app (k := .u8) (T := 5) (S := 22) (bytes := 1) Tryz.underlying22 Tryz.infoB (by omega) rfl _ _ rfl w.heap.size ao1 cap1 ([k] ++ A) (by rfl) HO1.out bo cb D rfl HS.out (by simp; omega) (by omega) ?_; intro ao3 cap3 w3 O3 K3; refine Hid.out ?_) | go_in)
      have HO3 : Hid (OwnR .u8 5 w3 w.heap.size ao3 cap3 (bod k A D)) := hideP O3
      have HK3 := hideP (HK1.out.trans K3)
      clear O3 K3 p0 p1 p2
      refine hideP ?_
      go_wp2
      go_returns
      exact ⟨ao3, cap3, by rw [bod_len]; rfl, HO3.out, HK3.out⟩

set_option maxHeartbeats 2000000 in
theorem sPk_any (lo hi b : Nat) (k : Int) (ao bo : Option Addr) (ca cb : Nat) (A D : List Int) (w : World) (X : Bx w b k (.slice ao A.length ca) (.slice bo D.length cb)) (hA : Row .i64 w lo hi ao A) (hD : Row .u8 w lo hi bo D) (hs : hi ≤ w.heap.size) (hbl : b < w.heap.size) (h : rF k A D.length = 0) :
    Calls Tryz.prog 40 #[.pointer (some ⟨b, 0, none⟩)] w fun e w' => ∃ ao' cap', e = .returned (.slice ao' (pkL k A D).length cap') ∧ OwnR .u8 5 w' w.heap.size ao' cap' (pkL k A D) ∧ Below w.heap.size w w' := by
  have HA := hideP hA
  have HD := hideP hD
  have HX := hideP X
  obtain ⟨l1, l2, q1, q2, q3⟩ := rF_lens h
  have HB := hideP q3
  have HP := hideP (pkL_yes h)
  have hbl2 : Hid ((bod k A D).length = A.length + D.length + 1) := hideP (bod_len _ _ _)
  have hpl : Hid ((pkL k A D).length = A.length + D.length + 1 + 1) := hideP (by rw [HP.out, List.length_cons, bod_len])
  clear hA hD h q3 X
  go_enter Tryz.func40, Tryz.ntmps40
  go_wp2_with fail
  refine Calls.mono (sBody_any lo hi b k ao bo ca cb A D w HX.out HA.out HD.out hs hbl ⟨by omega, by omega⟩ HB.out (by omega)) ?_
  rintro e w2 ⟨ao2, cap2, rfl, O2, k2⟩
  rw [hbl2.out]
  have HO2 := hideP O2
  have K2 := hideP k2
  have n2 := k2.size
  have x0 : (0 : Int) ≤ (A.length : Int) + (D.length : Int) + 1 := by omega
  have x1 : (A.length : Int) + (D.length : Int) + 1 ≤ 255 := by omega
  have HXX : Hid (((bod k A D).length : Int) = (A.length : Int) + (D.length : Int) + 1) := hideP (by rw [hbl2.out]; omega)
  have hm : ((A.length : Int) + (D.length : Int) + 1) % 256 = (A.length : Int) + (D.length : Int) + 1 := by omega
  clear O2 k2
  go_wp2_with (first | (at_builtin; refine wpList_app (k := .u8) (T := 5) (S := 22) (bytes := 1) Tryz.underlying22 Tryz.infoB (by omega) rfl _ _ rfl w2.heap.size (some ⟨w2.heap.size, 0, none⟩) 1 [(A.length : Int) + (D.length : Int) + 1] rfl (OwnR.lit .u8 5 w2 w2.heap.size [(A.length : Int) + (D.length : Int) + 1] _ rfl (Nat.le_refl _) (by unfold maxLen; simp)) ao2 cap2 (bod k A D) (by rw [hbl2.out]; rfl) (HO2.out.alloc _).src (by rw [hbl2.out]; simp; omega) (by simp) ?_; intro ao4 cap4 w4 O4 k4; refine Hid.out ?_) | go_in)
  have HO4 : Hid (OwnR .u8 5 w4 w.heap.size ao4 cap4 (pkL k A D)) := hideP (by rw [HP.out, HXX.out]; exact O4.le n2)
  have K4 : Hid (Below w.heap.size w w4) := hideP ((K2.out.alloc n2 _).trans (k4.mono n2))
  clear O4 k4
  refine hideP ?_
  go_wp2
  go_returns
  exact ⟨ao4, cap4, by rw [hpl.out, ← hbl2.out]; rfl, HO4.out, K4.out⟩

set_option maxHeartbeats 1000000 in
theorem sPack_no (lo hi : Nat) (k : Int) (ao bo : Option Addr) (ca cb : Nat) (A D : List Int) (w : World) (hA : Row .i64 w lo hi ao A) (hs : hi ≤ w.heap.size) (h : rF k A D.length ≠ 0) :
    Calls Tryz.prog 18 #[.agg #[.int .i64 k, .slice ao A.length ca, .slice bo D.length cb]] w fun e w' => e = .returned (.agg #[.int .i64 (rF k A D.length), .slice none 0 0]) ∧ Below w.heap.size w w' := by
  have HA := hideP hA
  clear hA
  obtain ⟨c, hc⟩ : ∃ c, rF k A D.length = c := ⟨_, rfl⟩
  have HC := hideP hc
  have hne : (c != 0) = true := by rw [← hc]; simpa using h
  clear h hc
  go_enter Tryz.func18, Tryz.ntmps18
  go_wp2_with fail
  refine Calls.mono (l3F_any lo hi _ 0 k ao bo ca D.length cb A _ ⟨by simp, by simp, by simp⟩ (HA.out.keep (B := w.heap.size) (by go_grown) hs) (by simp; omega)) ?_
  rintro e w1 ⟨rfl, k1⟩
  rw [HC.out]
  replace k1 := Kept.below k1
  have hc1 := Kept.cell k1
  have hf1 := Kept.frozen k1
  have hz1 := k1.size
  try simp only [World.size_alloc] at hz1
  try simp only [World.size_setCell] at hz1
  try simp only [World.size_drew] at hz1
  have hb1_0 : w.heap.size < w1.heap.size ∧ w.heap.size ≤ w1.heap.size ∧ w.heap.size ≤ w1.heap.size + 1 ∧ ¬ w.heap.size = w1.heap.size ∧ ¬ w.heap.size = w1.heap.size + 1 := by omega
  have hb1_1 : w.heap.size + 1 < w1.heap.size ∧ w.heap.size + 1 ≤ w1.heap.size ∧ w.heap.size + 1 ≤ w1.heap.size + 1 ∧ ¬ w.heap.size + 1 = w1.heap.size ∧ ¬ w.heap.size + 1 = w1.heap.size + 1 := by omega
  go_wp2
  refine bodyPost_ret (v := .agg #[.int .i64 c, .slice none 0 0]) (by simp [results, Tryz.results18, go_sem, *]) rfl ⟨by rw [HC.out], ?_⟩
  repeat' (first | (with_reducible exact Below.refl _ _) | (with_reducible refine kept_below ?_ (by assumption) ?_) | (with_reducible refine Below.alloc ?_ ?_ _) | (with_reducible refine Below.drew ?_) | (with_reducible refine Below.setCell ?_ ?_ _) | go_size)

set_option maxHeartbeats 2000000 in
theorem sPack_yes (lo hi : Nat) (k : Int) (ao bo : Option Addr) (ca cb : Nat) (A D : List Int) (w : World) (hA : Row .i64 w lo hi ao A) (hD : Row .u8 w lo hi bo D) (hs : hi ≤ w.heap.size) (h : rF k A D.length = 0) :
    Calls Tryz.prog 18 #[.agg #[.int .i64 k, .slice ao A.length ca, .slice bo D.length cb]] w fun e w' => ∃ ao' cap', e = .returned (.agg #[.int .i64 0, .slice ao' (pkL k A D).length cap']) ∧ OwnR .u8 5 w' w.heap.size ao' cap' (pkL k A D) ∧ Below w.heap.size w w' := by
  have HA := hideP hA
  have HD := hideP hD
  have HC := hideP h
  clear hA hD h
  go_enter Tryz.func18, Tryz.ntmps18
  go_wp2_with fail
  refine Calls.mono (l3F_any lo hi _ 0 k ao bo ca D.length cb A _ ⟨by simp, by simp, by simp⟩ (HA.out.keep (B := w.heap.size) (by go_grown) hs) (by simp; omega)) ?_
  rintro e w1 ⟨rfl, k1⟩
  rw [HC.out]
  have K1 : Hid (Below w.heap.size w w1) := hideP (Below.trans (by go_grown) (k1.mono (by simp; omega)))
  have R1 : Hid (Rb w1 (w.heap.size + 1) (.int .i64 0) (.slice none 0 0)) := hideP (Rb.keep ⟨by simp, by simp, by simp, by simp, by simp⟩ k1 (by simp))
  have n1 : w.heap.size + 1 < w1.heap.size := R1.out.lt
  have X1 : Hid (Bx w1 w.heap.size k (.slice ao A.length ca) (.slice bo D.length cb)) := hideP (Bx.keep ⟨by simp, by simp, by simp⟩ k1 (by simp; omega))
  clear k1
  go_wp2_with fail
  refine Calls.mono (sPk_any lo hi w.heap.size k ao bo ca cb A D w1 X1.out (HA.out.keep K1.out hs) (HD.out.keep K1.out hs) (by omega) (by omega) HC.out) ?_
  rintro e w4 ⟨ao4, cap4, rfl, O4, k4⟩
  have HO4 := hideP O4
  have K4 : Hid (Below w.heap.size w w4) := hideP (K1.out.trans (k4.mono (by omega)))
  have R4 := R1.out.keep k4 n1
  obtain ⟨r0, r1, r2, r3, r4⟩ := R4
  clear O4 k4
  go_wp2
  refine bodyPost_ret (v := .agg #[.int .i64 0, .slice ao4 (pkL k A D).length cap4]) (by simp [results, Tryz.results18, go_sem, *]) rfl ⟨ao4, cap4, rfl, ?_, ?_⟩
  · refine OwnR.le (base := w1.heap.size) ?_ (by omega)
    repeat (refine OwnR.set ?_ _ _ (by dsimp only; omega))
    exact HO4.out
  · repeat' (first | exact K4.out | (with_reducible refine Below.setCell ?_ ?_ _) | go_size)

/-- PackRequest of the model at every request. -/
theorem sPack_any (lo hi : Nat) (k : Int) (ao bo : Option Addr) (ca cb : Nat) (A D : List Int) (w : World) (hA : Row .i64 w lo hi ao A) (hD : Row .u8 w lo hi bo D) (hs : hi ≤ w.heap.size) :
    Calls Tryz.prog 18 #[.agg #[.int .i64 k, .slice ao A.length ca, .slice bo D.length cb]] w fun e w' => ∃ ao' cap', e = .returned (.agg #[.int .i64 (rF k A D.length), .slice ao' (pkL k A D).length cap']) ∧ OwnR .u8 5 w' w.heap.size ao' cap' (pkL k A D) ∧ Below w.heap.size w w' := by
  by_cases h : rF k A D.length = 0
  · rw [h]; exact sPack_yes lo hi k ao bo ca cb A D w hA hD hs h
  · refine (sPack_no lo hi k ao bo ca cb A D w hA hs h).mono fun e w' ⟨he, hb⟩ => ⟨none, 0, ?_, ?_, hb⟩
    · rw [he, pkL_no h]; rfl
    · rw [pkL_no h]; exact OwnR.nil _ _ _ _

end Go.Proofs.YtbceacnadkhdoaaGreatDoor
