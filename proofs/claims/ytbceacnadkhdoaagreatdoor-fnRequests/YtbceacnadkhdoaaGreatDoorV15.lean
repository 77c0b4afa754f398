/- PackRequest of the program. -/
import Derived.Test.YtbceacnadkhdoaaGreatDoorV13
import Derived.Test.YtbceacnadkhdoaaGreatDoorV14
namespace Go.Proofs.YtbceacnadkhdoaaGreatDoor
open Go.RowKit
set_option linter.unusedVariables false

/-- A request's bytes; nothing, where it has a fault. -/
def pkL (k : Int) (A D : List Int) : List Int := if rF k A D.length = 0 then ((bod k A D).length : Int) :: bod k A D else []
theorem pkL_yes {k : Int} {A D : List Int} (h : rF k A D.length = 0) : pkL k A D = ((bod k A D).length : Int) :: bod k A D := by unfold pkL; rw [if_pos h]
theorem pkL_no {k : Int} {A D : List Int} (h : rF k A D.length ≠ 0) : pkL k A D = [] := by unfold pkL; rw [if_neg h]
theorem rF_lens {k : Int} {A : List Int} {nd : Nat} (h : rF k A nd = 0) : A.length ≤ 7 ∧ nd ≤ 24 ∧ 1 ≤ k ∧ k ≤ 13 ∧ A.all isB = true := by
  obtain ⟨h1, h2, h3, h4⟩ := rF_ok h
  have := aN_le k
  have := mD_le k
  exact ⟨by omega, by omega, h1.1, h1.2, h4⟩

set_option maxHeartbeats 1000000 in
theorem iPack_no (lo hi : Nat) (k : Int) (ao bo : Option Addr) (ca cb : Nat) (A D : List Int) (w : World) (hA : Row .i64 w lo hi ao A) (hs : hi ≤ w.heap.size) (h : rF k A D.length ≠ 0) :
    Calls Tryz.prog 11 #[.agg #[.int .i64 k, .slice ao A.length ca, .slice bo D.length cb]] w fun e w' => e = .returned (.agg #[.int .i64 (rF k A D.length), .slice none 0 0]) ∧ Below w.heap.size w w' := by
  have HA := hideP hA
  clear hA
  obtain ⟨c, hc⟩ : ∃ c, rF k A D.length = c := ⟨_, rfl⟩
  have HC := hideP hc
  have hne : (c != 0) = true := by rw [← hc]; simpa using h
  clear h hc
  go_enter Tryz.func11, Tryz.ntmps11
  go_wp2_with fail
  refine Calls.mono (iFault_any lo hi k ao bo ca D.length cb A _ (HA.out.keep (B := w.heap.size) (by go_grown) hs) (by simp; omega)) ?_
  rintro e w1 ⟨rfl, k1⟩
  rw [HC.out]
  replace k1 := Kept.below k1
  have hc1 := Kept.cell k1
  have hf1 := Kept.frozen k1
  have hz1 := k1.size
  try simp only [World.size_alloc] at hz1
  try simp only [World.size_setCell] at hz1
  try simp only [World.size_drew] at hz1
  try (first | have hs1 := sz12 hz1 | have hs1 := sz11 hz1 | have hs1 := sz10 hz1 | have hs1 := sz9 hz1 | have hs1 := sz8 hz1 | have hs1 := sz7 hz1 | have hs1 := sz6 hz1 | have hs1 := sz5 hz1 | have hs1 := sz4 hz1 | have hs1 := sz3 hz1 | have hs1 := sz2 hz1 | have hs1 := sz1 hz1)
  go_wp2
  refine bodyPost_ret (v := .agg #[.int .i64 c, .slice none 0 0]) (by simp [results, Tryz.results11, go_sem, *]) rfl ⟨by rw [HC.out], ?_⟩
  repeat' (first | (with_reducible exact Below.refl _ _) | (with_reducible refine kept_below ?_ (by assumption) ?_) | (with_reducible refine Below.alloc ?_ ?_ _) | (with_reducible refine Below.drew ?_) | (with_reducible refine Below.setCell ?_ ?_ _) | go_size)

set_option maxHeartbeats 2000000 in
theorem iPack_yes (lo hi : Nat) (k : Int) (ao bo : Option Addr) (ca cb : Nat) (A D : List Int) (w : World) (hA : Row .i64 w lo hi ao A) (hD : Row .u8 w lo hi bo D) (hs : hi ≤ w.heap.size) (h : rF k A D.length = 0) :
    Calls Tryz.prog 11 #[.agg #[.int .i64 k, .slice ao A.length ca, .slice bo D.length cb]] w fun e w' => ∃ ao' cap', e = .returned (.agg #[.int .i64 0, .slice ao' (pkL k A D).length cap']) ∧ OwnR .u8 5 w' w.heap.size ao' cap' (pkL k A D) ∧ Below w.heap.size w w' := by
  have HA := hideP hA
  have HD := hideP hD
  obtain ⟨l1, l2, q1, q2, q3⟩ := rF_lens h
  have HB := hideP q3
  have HC := hideP h
  have HP := hideP (pkL_yes h)
  have hbl : Hid ((bod k A D).length = A.length + D.length + 1) := hideP (bod_len _ _ _)
  have hpl : Hid ((pkL k A D).length = A.length + D.length + 1 + 1) := hideP (by rw [HP.out, List.length_cons, bod_len])
  clear hA hD h q3
  go_enter Tryz.func11, Tryz.ntmps11
  go_wp2_with fail
  refine Calls.mono (iFault_any lo hi k ao bo ca D.length cb A _ (HA.out.keep (B := w.heap.size) (by go_grown) hs) (by simp; omega)) ?_
  rintro e w1 ⟨rfl, k1⟩
  rw [HC.out]
  have K1 : Hid (Below w.heap.size w w1) := hideP (Below.trans (by go_grown) (k1.mono (by simp; omega)))
  have R1 : Hid (Rb w1 (w.heap.size + 1) (.int .i64 0) (.slice none 0 0)) := hideP (Rb.keep ⟨by simp, by simp, by simp, by simp, by simp⟩ k1 (by simp))
  have n1 : w.heap.size + 1 < w1.heap.size := R1.out.lt
  obtain ⟨p0, p1, p2⟩ : Bx w1 w.heap.size k (.slice ao A.length ca) (.slice bo D.length cb) := Bx.keep ⟨by simp, by simp, by simp⟩ k1 (by simp; omega)
  clear k1
  go_wp2_with fail
  clear p0 p1 p2
  refine Calls.mono (body_any lo hi k ao bo ca cb A D w1 (HA.out.keep K1.out hs) (HD.out.keep K1.out hs) (by omega) ⟨by omega, by omega⟩ HB.out (by omega)) ?_
  rintro e w2 ⟨ao2, cap2, rfl, O2, k2⟩
  rw [hbl.out]
  have HO2 := hideP O2
  have K2 : Hid (Below w.heap.size w w2) := hideP (K1.out.trans (k2.mono (by omega)))
  have R2 := hideP (R1.out.keep k2 n1)
  have hz12 := k2.size
  clear O2 k2
  go_wp2_with fail
  have x0 : (0 : Int) ≤ (A.length : Int) + (D.length : Int) + 1 := by omega
  have x1 : (A.length : Int) + (D.length : Int) + 1 ≤ 255 := by omega
  have HX : Hid (((bod k A D).length : Int) = (A.length : Int) + (D.length : Int) + 1) := hideP (by rw [hbl.out]; omega)
  generalize (A.length : Int) + (D.length : Int) + 1 = x at *
  refine Calls.mono (tell_nil w2.heap.size (w2.heap.size + 1) _ 1 [x] _ (row_one .i64 _ x 2 _ rfl) (by simp) (by simp) (all_one x0 x1)) ?_
  rintro e w3 ⟨ao3, cap3, rfl, O3, k3⟩
  have HO3 := hideP O3
  have k23 : Hid (Below w2.heap.size w2 w3) := hideP (Below.trans (by go_grown) (k3.mono (by simp)))
  have K3 : Hid (Below w.heap.size w w3) := hideP (K2.out.trans (k23.out.mono (by omega)))
  have HS := hideP (HO2.out.keep k23.out).src
  have n3 : (w2.alloc (.cells #[.int .i64 x] 2)).heap.size ≤ w3.heap.size := k3.size
  have R3 := hideP (R2.out.keep k23.out (by omega))
  have hz23 := k3.size
  simp only [World.size_alloc] at hz23
  clear O3 k3
  go_wp2_with (first | (at_builtin; refine wpList_app (k := .u8) (T := 5) (S := 22) (bytes := 1) Tryz.underlying22 Tryz.infoB (by omega) rfl _ _ rfl _ ao3 cap3 [x] rfl HO3.out ao2 cap2 (bod k A D) (by rw [hbl.out]; rfl) HS.out (by rw [hbl.out]; simp; omega) n3 ?_; intro ao4 cap4 w4 O4 k4; refine Hid.out ?_) | go_in)
  have HO4 : Hid (OwnR .u8 5 w4 w2.heap.size ao4 cap4 (pkL k A D)) := hideP (by rw [HP.out, HX.out]; exact O4.le (by simp))
  have K4 : Hid (Below w.heap.size w w4) := hideP (K3.out.trans (k4.mono (by simp; omega)))
  have R4 := R3.out.keep (k4.mono (B' := w2.heap.size) (by simp)) (by omega)
  clear O4 k4
  refine hideP ?_
  obtain ⟨r0, r1, r2, r3, r4⟩ := R4
  go_wp2
  refine bodyPost_ret (v := .agg #[.int .i64 0, .slice ao4 ((bod k A D).length + 1) cap4]) (by simp [results, Tryz.results11, go_sem, *]) rfl ⟨ao4, cap4, by rw [hpl.out, hbl.out], ?_, ?_⟩
  · refine OwnR.le (base := w2.heap.size) ?_ (by omega)
    repeat (refine OwnR.set ?_ _ _ (by dsimp only; omega))
    exact HO4.out
  · repeat' (first | exact K4.out | (with_reducible refine Below.setCell ?_ ?_ _) | go_size)

/-- PackRequest of the program at every request. -/
theorem iPack_any (lo hi : Nat) (k : Int) (ao bo : Option Addr) (ca cb : Nat) (A D : List Int) (w : World) (hA : Row .i64 w lo hi ao A) (hD : Row .u8 w lo hi bo D) (hs : hi ≤ w.heap.size) :
    Calls Tryz.prog 11 #[.agg #[.int .i64 k, .slice ao A.length ca, .slice bo D.length cb]] w fun e w' => ∃ ao' cap', e = .returned (.agg #[.int .i64 (rF k A D.length), .slice ao' (pkL k A D).length cap']) ∧ OwnR .u8 5 w' w.heap.size ao' cap' (pkL k A D) ∧ Below w.heap.size w w' := by
  by_cases h : rF k A D.length = 0
  · rw [h]; exact iPack_yes lo hi k ao bo ca cb A D w hA hD hs h
  · refine (iPack_no lo hi k ao bo ca cb A D w hA hs h).mono fun e w' ⟨he, hb⟩ => ⟨none, 0, ?_, ?_, hb⟩
    · rw [he, pkL_no h]; rfl
    · rw [pkL_no h]; exact OwnR.nil _ _ _ _

theorem pkL_len (k : Int) (A D : List Int) : (pkL k A D).length ≤ 33 := by
  by_cases h : rF k A D.length = 0
  · obtain ⟨h1, h2, _⟩ := rF_lens h
    rw [pkL_yes h, List.length_cons, bod_len]; omega
  · rw [pkL_no h]; simp

end Go.Proofs.YtbceacnadkhdoaaGreatDoor
