/- ScreenOf by the specification. -/
import Derived.Test.YtbagloapclgpnaaV25
import Derived.Test.YtbagloapclgpnaaV37
namespace Go.Proofs.Ytbagloapclgpnaa
open Go.RowKit Go.Maps
set_option linter.unusedVariables false

def scrC (C : List Wc) (LL : List La) (A : List Int) : List Int := A ++ (ptsOf stripR).map (scrP LL C)
def scrZ (C : List Wc) (LL : List La) (A : List Int) : Int := if stF C = 0 then (if laF LL = 0 then (if A.length = 12 then (if A.all (btw 0 999) then 0 else 3) else 2) else laF LL) else stF C
def scrL (C : List Wc) (LL : List La) (A : List Int) : List Int := if scrZ C LL A = 0 then scrC C LL A else []
theorem scrZ_st {C : List Wc} {LL : List La} {A : List Int} (h : ¬ stF C = 0) : scrZ C LL A = stF C := by unfold scrZ; rw [if_neg h]
theorem scrZ_la {C : List Wc} {LL : List La} {A : List Int} (h : stF C = 0) (h2 : ¬ laF LL = 0) : scrZ C LL A = laF LL := by unfold scrZ; rw [if_pos h, if_neg h2]
theorem scrZ_len {C : List Wc} {LL : List La} {A : List Int} (h : stF C = 0) (h2 : laF LL = 0) (h3 : ¬ A.length = 12) : scrZ C LL A = 2 := by unfold scrZ; rw [if_pos h, if_pos h2, if_neg h3]
theorem scrZ_bad {C : List Wc} {LL : List La} {A : List Int} (h : stF C = 0) (h2 : laF LL = 0) (h3 : A.length = 12) (h4 : A.all (btw 0 999) = false) : scrZ C LL A = 3 := by unfold scrZ; rw [if_pos h, if_pos h2, if_pos h3, h4]; rfl
theorem scrZ_ok {C : List Wc} {LL : List La} {A : List Int} (h : stF C = 0) (h2 : laF LL = 0) (h3 : A.length = 12) (h4 : A.all (btw 0 999) = true) : scrZ C LL A = 0 := by unfold scrZ; rw [if_pos h, if_pos h2, if_pos h3, h4]; rfl
theorem scrL_no {C : List Wc} {LL : List La} {A : List Int} (h : scrZ C LL A ≠ 0) : scrL C LL A = [] := by unfold scrL; rw [if_neg h]
theorem scrL_yes {C : List Wc} {LL : List La} {A : List Int} (h : scrZ C LL A = 0) : scrL C LL A = scrC C LL A := by unfold scrL; rw [if_pos h]
theorem scrZ_parts {C : List Wc} {LL : List La} {A : List Int} (h : scrZ C LL A = 0) : stF C = 0 ∧ laF LL = 0 ∧ A.length = 12 ∧ A.all (btw 0 999) = true := by
  by_cases h1 : stF C = 0
  · by_cases h2 : laF LL = 0
    · by_cases h3 : A.length = 12
      · cases h4 : A.all (btw 0 999)
        · rw [scrZ_bad h1 h2 h3 h4] at h; cases h
        · exact ⟨h1, h2, h3, rfl⟩
      · rw [scrZ_len h1 h2 h3] at h; cases h
    · rw [scrZ_la h1 h2] at h; exact absurd h h2
  · rw [scrZ_st h1] at h; exact absurd h h1
theorem scrC_len {C : List Wc} {LL : List La} {A : List Int} (h : A.length = 12) : (scrC C LL A).length = 96 := by unfold scrC; rw [List.length_append, List.length_map, pts_strip, rowsPts_len, h]
theorem scrL_len (C : List Wc) (LL : List La) (A : List Int) : (scrL C LL A).length ≤ 96 := by
  unfold scrL
  split
  case isTrue h => rw [scrC_len (scrZ_parts h).2.2.1]; exact Nat.le_refl _
  case isFalse => simp

set_option maxRecDepth 100000 in
set_option maxHeartbeats 400000 in
theorem ints9_any (lo hi : Nat) (ao : Option Addr) (ca : Nat) (L : List Int) (w : World) (hR : Row .i64 w lo hi ao L) (hs : hi ≤ w.heap.size) (hl : L.length ≤ 2097152) :
    Calls Try.prog 93 #[.slice ao L.length ca] w fun e w' => ∃ so sc, e = .returned (.slice so L.length sc) ∧ OwnR .i64 2 w' w.heap.size so sc L ∧ Below w.heap.size w w' := by
  have HR := hideP hR
  clear hR
  go_enter Try.func93, Try.ntmps93
  go_wp2_with (first | (at_builtin; refine wpList_app (k := .i64) (T := 2) (S := 26) (bytes := 8) Try.underlying26 Try.infoO9 (by omega) rfl _ _ rfl w.heap.size (some ⟨w.heap.size, 0, none⟩) 0 [] rfl (OwnR.lit .i64 2 w w.heap.size [] _ rfl (Nat.le_refl _) (by unfold maxLen; simp)) ao ca L rfl (HR.out.keep (B := w.heap.size) ((Below.refl _ _).alloc (Nat.le_refl _) _) hs).src (by simp; omega) (by simp) ?_; intro ao2 cap2 w2 O2 K2; refine Hid.out ?_) | go_in)
  have HO2 : Hid (OwnR .i64 2 w2 w.heap.size ao2 cap2 L) := hideP O2
  have HK2 : Hid (Below w.heap.size w w2) := hideP (Below.trans (by go_grown) K2)
  clear O2 K2
  refine hideP ?_
  go_wp2
  go_returns
  exact ⟨ao2, cap2, rfl, HO2.out, HK2.out⟩

set_option maxRecDepth 100000 in
set_option maxHeartbeats 4000000 in
theorem screen9_any (so : Option Addr) (sc : Nat) (L : List Wn) (la : Option Addr) (lc : Nat) (LL : List La) (ao : Option Addr) (ac : Nat) (A : List Int) (w : World) (hL : Ws w 0 w.heap.size so L) (hn : L.length ≤ 1048576) (hst : stF (L.map Wn.ct) = 0) (hf : laF LL = 0) (hA : Las w 0 w.heap.size la LL) (hR : Row .i64 w 0 w.heap.size ao A) (h12 : A.length = 12) :
    Calls Try.prog 67 #[.slice so L.length sc, .slice la LL.length lc, .slice ao A.length ac] w fun e w' => ∃ s c, e = .returned (.slice s 96 c) ∧ OwnR .i64 2 w' w.heap.size s c (scrC (L.map Wn.ct) LL A) ∧ Below w.heap.size w w' := by
  have CE := hideP (fun x y W (k : Below w.heap.size w W) (hx : -100 ≤ x ∧ x ≤ 100) (hy : -100 ≤ y ∧ y ≤ 100) => cell9_any so sc L la lc 0 W.heap.size LL x y W ((hL.keep k (Nat.le_refl _)).wide (Nat.le_refl _) k.size) hn hst hf ((hA.keep k (Nat.le_refl _)).wide (Nat.le_refl _) k.size) (Nat.le_refl _) hx hy)
  obtain ⟨G, hG⟩ : ∃ G, scrP LL (L.map Wn.ct) = G := ⟨_, rfl⟩
  have HR9 : Hid (scrC (L.map Wn.ct) LL A = partO A G 7 0) := hideP (by rw [partO_all, ← hG]; rfl)
  have H96 : Hid ((partO A G 7 0).length = 96) := hideP (by rw [partO_len, h12])
  have CE' : Hid (∀ x y W, Below w.heap.size w W → (-100 ≤ x ∧ x ≤ 100) → (-100 ≤ y ∧ y ≤ 100) → Calls Try.prog 94 #[.slice so L.length sc, .slice la LL.length lc, .int .i64 x, .int .i64 y] W fun e w' => e = .returned (.int .i64 (G (x, y))) ∧ Below W.heap.size W w') := hideP (by rw [← hG]; exact CE.out)
  have IN := hideP (ints9_any 0 w.heap.size ao ac A w hR (Nat.le_refl _) (by omega))
  have HLA := hideP h12
  clear CE hG hL hst hf hA hR h12
  go_enter Try.func67, Try.ntmps67
  go_wp2_with fail
  refine Calls.mono IN.out ?_
  rintro e w1 ⟨s1, c1, rfl, O1, k1⟩
  have HO1 := hideP O1
  have K1 := hideP k1
  have n1 := k1.size
  clear O1 k1 IN
  go_wp2
  go_loopw [7, 8] (fun v y wr => ∃ (j : Nat) (s : Option Addr) (c : Nat), j ≤ 7 ∧ y = .int .i64 (1 + (j : Int)) ∧ v = .slice s (partO A G j 0).length c ∧ OwnR .i64 2 wr w.heap.size s c (partO A G j 0) ∧ Below w.heap.size w wr) (fun _ y _ => (8 - intOf y).toNat)
  case atStart => exact ⟨0, s1, c1, Nat.zero_le _, by simp, by rw [partO_zero]; simp [rowsPts], by rw [partO_zero]; simpa [rowsPts] using HO1.out, K1.out⟩
  case round =>
    obtain ⟨j, s3, c3, hj, rfl, rfl, O, k⟩ := hrel
    have OJ := hideP O
    have KJ := hideP k
    clear O k HO1 K1
    by_cases hlt : j < 7
    · have hlt' : 1 + (j : Int) < 8 := by omega
      go_wp2
      go_loopw [7, 9] (fun v x wr => ∃ (i : Nat) (s : Option Addr) (c : Nat), i ≤ 12 ∧ x = .int .i64 (i : Int) ∧ v = .slice s (partO A G j i).length c ∧ OwnR .i64 2 wr w.heap.size s c (partO A G j i) ∧ Below w.heap.size w wr) (fun _ x _ => (12 - intOf x).toNat)
      case atStart => exact ⟨0, _, _, Nat.zero_le _, rfl, rfl, OJ.out, KJ.out⟩
      case round =>
        obtain ⟨i, s4, c4, hi, rfl, rfl, O, k⟩ := hrel
        have O4 := hideP O
        have K4 := hideP k
        clear O k OJ KJ
        by_cases hlt2 : i < 12
        · have hlt2' : (i : Int) < 12 := by omega
          have CC := hideP (CE'.out (i : Int) (1 + (j : Int)) wr K4.out (by omega) (by omega))
          have HZ := hideP (partO_step A G j i)
          have hML : (partO A G j i).length ≤ 96 := by rw [partO_len, HLA.out]; omega
          obtain ⟨M, hM⟩ : ∃ M, partO A G j i = M := ⟨_, rfl⟩
          obtain ⟨z, hz⟩ : ∃ z, G ((i : Int), 1 + (j : Int)) = z := ⟨_, rfl⟩
          rw [hM] at O4 HZ hML
          rw [hz] at HZ CC
          rw [hM]
          clear hM hz
          go_wp2_with fail
          refine Calls.mono CC.out ?_
          rintro e w5 ⟨rfl, k5⟩
          have O5 := hideP (O4.out.keep k5)
          have K5 := hideP (K4.out.trans (k5.mono K4.out.size))
          have n5 := K5.out.size
          clear k5 O4 K4 CC
          go_wp2_with (first | (at_builtin; refine wpList_app (k := .i64) (T := 2) (S := 26) (bytes := 8) Try.underlying26 Try.infoO9 (by omega) rfl _ _ rfl w.heap.size s4 c4 M rfl (O5.out.alloc _) _ 1 [z] rfl (src_one .i64 w5 z 2) (by simp; omega) (by simp; omega) ?_; intro s6 c6 w6 O6 k6; replace O6 := hideP O6; replace k6 := hideP k6; refine Hid.out ?_) | go_in)
          have K6 : Hid (Below w.heap.size w w6) := hideP (K5.out.trans (Below.trans ((Below.refl _ _).alloc n5 _) k6.out))
          rw [HZ.out] at O6
          have HL7 : Hid ((M ++ [z]).length = (partO A G j (i + 1)).length) := hideP (by rw [HZ.out])
          clear O5 K5 k6
          refine hideP ?_
          go_wp2
          go_roundw
          case rel => exact ⟨i + 1, s6, c6, by omega, by go_num, by rw [← HL7.out]; simp, O6.out, K6.out⟩
          case measure => simp [intOf]; omega
        · obtain rfl : i = 12 := by omega
          have HE := hideP (partO_row A G j)
          rw [HE.out] at O4
          have HE2 : Hid ((partO A G j 12).length = (partO A G (j + 1) 0).length) := hideP (by rw [HE.out])
          go_wp2
          go_roundw
          case rel => exact ⟨j + 1, s4, c4, by omega, by go_num, by rw [← HE2.out], O4.out, K4.out⟩
          case measure => simp [intOf]; omega
    · obtain rfl : j = 7 := by omega
      have h96 := H96.out
      go_wp2
      go_returns
      exact ⟨s3, c3, by rw [← h96]; rfl, by rw [HR9.out]; exact OJ.out, KJ.out⟩
end Go.Proofs.Ytbagloapclgpnaa
