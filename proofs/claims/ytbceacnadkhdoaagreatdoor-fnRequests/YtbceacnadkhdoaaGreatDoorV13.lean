/- PackRequest: bytes told by the program; the body by both. -/
import Derived.Test.YtbceacnadkhdoaaGreatDoorV6
import Derived.Test.YtbceacnadkhdoaaGreatDoorV10
import Derived.Test.YtbceacnadkhdoaaGreatDoorV7
import Derived.Test.YtbceacnadkhdoaaGreatDoorV2
import Derived.Test.YtbceacnadkhdoaaGreatDoorV12
namespace Go.Proofs.YtbceacnadkhdoaaGreatDoor
open Go.RowKit
set_option linter.unusedVariables false

theorem take_app (L : List Int) (j : Nat) (h : j < L.length) : L.take (j + 1) = L.take j ++ [L[j]] := by
  rw [List.take_succ_eq_append_getElem h]

set_option maxHeartbeats 2000000 in
theorem tell_any (lo hi base : Nat) (ao bo : Option Addr) (cap cb : Nat) (M L : List Int) (w : World) (hO : OwnR .u8 5 w base ao cap M) (hR : Row .i64 w lo hi bo L) (hb : base ≤ w.heap.size) (hh : hi ≤ base) (hl : M.length + L.length ≤ 1048576) (hB : L.all isB = true) :
    Calls Tryz.prog 32 #[.slice ao M.length cap, .slice bo L.length cb] w fun e w' => ∃ ao' cap', e = .returned (.slice ao' (M ++ L).length cap') ∧ OwnR .u8 5 w' base ao' cap' (M ++ L) ∧ Below base w w' := by
  have HO := hideP hO
  have HR := hideP hR
  have HB := hideP hB
  have hl' : (L.length : Int) ≤ 1048576 := by omega
  have hll : L.length ≤ 1048576 := by omega
  clear hO hR hB
  go_enter Tryz.func32, Tryz.ntmps32
  go_wp2
  go_loopw [0, 9] (fun t i wr => ∃ (j : Nat) (ao' : Option Addr) (cap' : Nat), j ≤ L.length ∧ i = .int .i64 j ∧ t = .slice ao' (M ++ L.take j).length cap' ∧ OwnR .u8 5 wr base ao' cap' (M ++ L.take j) ∧ Below base w wr) (fun _ i _ => L.length - (intOf i).toNat)
  case atStart => exact ⟨0, ao, cap, Nat.zero_le _, rfl, by simp, by simpa using HO.out, Below.refl _ _⟩
  case round =>
    obtain ⟨j, ao1, cap1, hj, rfl, rfl, O1, K1⟩ := hrel
    have HO1 := hideP O1
    have HK1 := hideP K1
    have hz := K1.size
    clear O1 K1
    by_cases hlt : j < L.length
    · have hlt' : (j : Int) < (L.length : Int) := by omega
      have hne : L ≠ [] := fun e => by rw [e] at hlt; simp at hlt
      rcases HR.out with e | ⟨g, o, rfl, _, hg, hc⟩
      · exact absurd e hne
      have a0 := (HK1.out.cell (p := ⟨g, o + j, none⟩) (by show g < base; omega)).trans (hc j hlt)
      have hx := all_at HB.out j hlt
      have HT : Hid (M ++ L.take (j + 1) = (M ++ L.take j) ++ [L[j]]) := hideP (by rw [take_app L j hlt, List.append_assoc])
      have HL1 := hideP (show (M ++ L.take j).length ≤ 1048576 by simp; omega)
      clear hc hne
      generalize L[j] = x at *
      obtain ⟨x0, x1⟩ := hx
      have hm : x % 256 = x := by omega
      generalize M ++ L.take j = M1 at *
      go_wp2_with (first | (at_builtin; refine wpList_app (k := .u8) (T := 5) (S := 22) (bytes := 1) Tryz.underlying22 Tryz.infoB (by omega) rfl _ _ rfl base ao1 cap1 M1 rfl (HO1.out.alloc _) _ 1 [x] rfl (src_one .u8 wr x 5) (by have := HL1.out; simp; omega) (by simp; omega) ?_; intro ao2 cap2 w2 O2 K2; refine Hid.out ?_) | go_in)
      have HO2 := hideP O2
      have HK2 : Hid (Below base w w2) := hideP ((HK1.out.alloc (by omega) _).trans K2)
      clear O2 K2
      refine hideP ?_
      go_wp2
      go_roundw
      case rel => exact ⟨j + 1, ao2, cap2, by omega, by go_num, by rw [HT.out]; simp, by rw [HT.out]; exact HO2.out, HK2.out⟩
      case measure => simp [intOf]; omega
    · obtain rfl : j = L.length := by omega
      rw [List.take_length] at HO1
      go_wp2
      go_returns
      exact ⟨ao1, cap1, by rw [List.take_length]; rfl, HO1.out, HK1.out⟩

theorem tell_nil (lo hi : Nat) (bo : Option Addr) (cb : Nat) (L : List Int) (w : World) (hR : Row .i64 w lo hi bo L) (hh : hi ≤ w.heap.size) (hl : L.length ≤ 1048576) (hB : L.all isB = true) :
    Calls Tryz.prog 32 #[.slice none 0 0, .slice bo L.length cb] w fun e w' => ∃ ao' cap', e = .returned (.slice ao' L.length cap') ∧ OwnR .u8 5 w' w.heap.size ao' cap' L ∧ Below w.heap.size w w' :=
  tell_any lo hi w.heap.size none bo 0 cb [] L w (OwnR.nil _ _ _ _) hR (Nat.le_refl _) hh (by simpa using hl) hB

theorem row_one (k : IntKind) (w : World) (x : Int) (T : TypeId) (b : Nat) (hb : b = w.heap.size) : Row k (w.alloc (.cells #[.int k x] T)) b (b + 1) (some ⟨b, 0, none⟩) [x] := by
  subst hb
  refine .inr ⟨_, _, rfl, Nat.le_refl _, by omega, fun i hi => ?_⟩
  obtain rfl : i = 0 := by simpa using hi
  rw [World.cell?_alloc_new]; rfl
theorem all_one {k : Int} (h0 : 0 ≤ k) (h1 : k ≤ 255) : [k].all isB = true := by simp [isB, h0, h1]

set_option maxHeartbeats 2000000 in
theorem body_any (lo hi : Nat) (k : Int) (ao bo : Option Addr) (ca cb : Nat) (A D : List Int) (w : World) (hA : Row .i64 w lo hi ao A) (hD : Row .u8 w lo hi bo D) (hs : hi ≤ w.heap.size) (hk : 0 ≤ k ∧ k ≤ 255) (hB : A.all isB = true) (hl : A.length + D.length ≤ 1000) :
    Calls Tryz.prog 31 #[.agg #[.int .i64 k, .slice ao A.length ca, .slice bo D.length cb]] w fun e w' => ∃ ao' cap', e = .returned (.slice ao' (bod k A D).length cap') ∧ OwnR .u8 5 w' w.heap.size ao' cap' (bod k A D) ∧ Below w.heap.size w w' := by
  have HA := hideP hA
  have HD := hideP hD
  have HB := hideP hB
  obtain ⟨kk0, kk1⟩ := hk
  clear hA hD hB
  go_enter Tryz.func31, Tryz.ntmps31
  go_wp2_with fail
  refine Calls.mono (tell_nil (w.heap.size + 1) (w.heap.size + 1 + 1) _ 1 [k] _ (row_one .i64 _ k 2 _ (by simp)) (by simp) (by simp) (all_one kk0 kk1)) ?_
  rintro e w1 ⟨ao1, cap1, rfl, O1, k1⟩
  have HO1 : Hid (OwnR .u8 5 w1 (w.heap.size + 1 + 1) ao1 cap1 [k]) := hideP (O1.le (by simp))
  have HK1 : Hid (Below w.heap.size w w1) := hideP (Below.trans (by go_grown) (k1.mono (by simp; omega)))
  have X1 : Hid (Bx w1 w.heap.size k (.slice ao A.length ca) (.slice bo D.length cb)) := hideP (Bx.keep (B := w.heap.size + 1) ⟨by simp, by simp, by simp⟩ (k1.mono (by simp)) (by omega))
  have n1 : w.heap.size + 1 + 1 ≤ w1.heap.size := by have := k1.size; simpa using this
  clear O1 k1
  obtain ⟨p0, p1, p2⟩ := X1.out
  go_wp2_with fail
  clear p0 p1 p2
  refine Calls.mono (tell_any lo hi (w.heap.size + 1 + 1) ao1 ao cap1 ca [k] A w1 HO1.out (HA.out.keep HK1.out hs) n1 (by omega) (by simp; omega) HB.out) ?_
  rintro e w2 ⟨ao2, cap2, rfl, O2, K2⟩
  have HO2 := hideP O2
  have HK2 := hideP (HK1.out.trans (K2.mono (by omega)))
  have X2 := hideP (X1.out.keep K2 (by omega))
  have n2 : w.heap.size + 1 + 1 ≤ w2.heap.size := by have := K2.size; omega
  clear O2 K2 HO1 X1 HK1
  obtain ⟨p0, p1, p2⟩ := X2.out
  have HS := hideP ((HD.out.keep HK2.out hs).src)
  go_wp2_with (first | (at_builtin; refine wpList_app (k := .u8) (T := 5) (S := 22) (bytes := 1) Tryz.underlying22 Tryz.infoB (by omega) rfl _ _ rfl (w.heap.size + 1 + 1) ao2 cap2 ([k] ++ A) rfl HO2.out bo cb D rfl HS.out (by simp; omega) n2 ?_; intro ao3 cap3 w3 O3 K3; refine Hid.out ?_) | go_in)
  have HO3 : Hid (OwnR .u8 5 w3 w.heap.size ao3 cap3 (bod k A D)) := hideP (O3.le (by omega))
  have HK3 := hideP (HK2.out.trans (K3.mono (by omega)))
  clear O3 K3 p0 p1 p2 X2
  refine hideP ?_
  go_wp2
  go_returns
  exact ⟨ao3, cap3, by rw [bod_len]; rfl, HO3.out, HK3.out⟩

end Go.Proofs.YtbceacnadkhdoaaGreatDoor
