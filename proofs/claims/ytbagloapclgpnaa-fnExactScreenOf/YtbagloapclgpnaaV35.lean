/- Strips: what one tells; numbers within bounds; the strip that is made. -/
import Derived.Test.YtbagloapclgpnaaV26
import Derived.Test.YtbagloapclgpnaaV15
import Derived.Test.YtbagloapclgpnaaV12
namespace Go.Proofs.Ytbagloapclgpnaa
open Go.RowKit
set_option linter.unusedVariables false

def btw (p q n : Int) : Bool := decide (p ≤ n ∧ n ≤ q)
theorem btw_no {p q n : Int} (h : btw p q n = false) : n < p ∨ q < n := by unfold btw at h; simp at h; omega
theorem btw_yes {p q n : Int} (h : btw p q n = true) : p ≤ n ∧ n ≤ q := by unfold btw at h; simpa using h
theorem all_on {f : Int → Bool} {D : List Int} {j : Nat} (hj : j < D.length) (h : (D.take j).all f = true) (hx : f D[j] = true) : (D.take (j + 1)).all f = true := by
  rw [List.take_succ_eq_append_getElem hj, List.all_append, h]; simp [hx]
theorem all_off {f : Int → Bool} {D : List Int} {j : Nat} (hj : j < D.length) (hx : f D[j] = false) : D.all f = false := by
  rw [Bool.eq_false_iff]
  intro e
  have := List.all_eq_true.1 e D[j] (List.getElem_mem hj)
  rw [hx] at this; cases this

theorem Try.infoS9 : (Try.prog.info? 2).map (fun i => (i.zero, i.size, i.bytes)) = some (some (.int .i64 0), 1, 8) := by kernel_rfl

set_option maxHeartbeats 1000000 in
theorem all9_any (p q : Int) (lo hi : Nat) (ao : Option Addr) (ca : Nat) (D : List Int) (w : World) (hR : Row .i64 w lo hi ao D) (hs : hi ≤ w.heap.size) (hl : D.length ≤ 1048576) :
    Calls Try.prog 66 #[.slice ao D.length ca, .int .i64 p, .int .i64 q] w fun e w' => e = .returned (.bool (D.all (btw p q))) ∧ w' = w := by
  have hl' : (D.length : Int) ≤ 1048576 := by omega
  have HR := hideP hR
  clear hR
  go_enter Try.func66, Try.ntmps66
  go_wp2
  go_loop [7] (fun i => ∃ j : Nat, j ≤ D.length ∧ i = .int .i64 j ∧ (D.take j).all (btw p q) = true) (fun i => D.length - (intOf i).toNat)
  case atStart => exact ⟨0, Nat.zero_le _, rfl, rfl⟩
  case round =>
    obtain ⟨j, hj, rfl, hall⟩ := hrel
    by_cases hlt : j < D.length
    · have hlt' : (j : Int) < (D.length : Int) := by omega
      have hne' : D ≠ [] := fun e => by rw [e] at hlt; simp at hlt
      rcases HR.out with e | ⟨g, o, rfl, _, hg, hc⟩
      · exact absurd e hne'
      have a0 := hc j hlt
      have hgl : g < w.heap.size := by omega
      have HBad := hideP (all_off (f := btw p q) hlt)
      have HOn := hideP (all_on (f := btw p q) hlt hall)
      clear hc hall HR hne'
      generalize D[j] = z at *
      cases hz : btw p q z
      · have hF := hideP (HBad.out hz)
        have hn := btw_no hz
        clear HBad HOn
        go_wp2_with (go_at_call 75; refine Calls.mono (in_no _ _ _ _ hn) ?_; rintro e w1 ⟨rfl, rfl⟩)
        go_returns
        exact ⟨by rw [hF.out]; rfl, rfl⟩
      · have hO := hideP (HOn.out hz)
        obtain ⟨hn1, hn2⟩ := btw_yes hz
        clear HBad HOn
        go_wp2_with (go_at_call 75; refine Calls.mono (in_yes _ _ _ _ hn1 hn2) ?_; rintro e w1 ⟨rfl, rfl⟩)
        go_round
        case rel => exact ⟨j + 1, by omega, by go_num, hO.out⟩
        case measure => simp [intOf]; omega
    · obtain rfl : j = D.length := by omega
      rw [List.take_length] at hall
      have hF := hideP hall
      clear hall
      go_wp2
      go_returns
      exact ⟨by rw [hF.out]; rfl, rfl⟩

set_option maxHeartbeats 400000 in
theorem in9_any (n p q : Int) (w : World) : Calls Try.prog 75 #[.int .i64 n, .int .i64 p, .int .i64 q] w fun e w' => e = .returned (.bool (btw p q n)) ∧ w' = w := by
  cases h : btw p q n
  · exact in_no n p q w (btw_no h)
  · exact in_yes n p q w (btw_yes h).1 (btw_yes h).2

set_option maxHeartbeats 400000 in
theorem coded_any (c : Int) (w : World) : Calls Try.prog 73 #[.int .i64 c] w fun e w' => e = .returned (.bool (btw 0 63 c)) ∧ w' = w := by
  cases h : btw 0 63 c
  · rcases btw_no h with h1 | h1
    · clear h
      go_enter Try.func73, Try.ntmps73
      go_wp2
      go_returns
      exact ⟨rfl, rfl⟩
    · have h2 : 0 ≤ c := by omega
      have h3 : decide (c ≤ 63) = false := by simp; omega
      clear h
      go_enter Try.func73, Try.ntmps73
      go_wp2
      go_returns
      exact ⟨rfl, rfl⟩
  · obtain ⟨h1, h2⟩ := btw_yes h
    clear h
    go_enter Try.func73, Try.ntmps73
    go_wp2
    go_returns
    exact ⟨rfl, rfl⟩

/-- What a strip that is right tells. -/
def stripC (m f : Int) (A : List Int) : List Int := ([400 + m, f + 1, (A.length : Int)] ++ A) ++ List.replicate (9 - A.length) 0
theorem stripC_len {m f : Int} {A : List Int} (h : A.length ≤ 4) : (stripC m f A).length = 12 := by unfold stripC; simp; omega
theorem strip_snoc (P : List Int) (j : Nat) : (P ++ List.replicate j 0) ++ [0] = P ++ List.replicate (j + 1) 0 := by rw [List.append_assoc, List.replicate_succ']

set_option maxRecDepth 100000 in
set_option maxHeartbeats 2000000 in
theorem sStrip_any (m f : Int) (lo hi : Nat) (ao : Option Addr) (ca : Nat) (A : List Int) (w : World) (hR : Row .i64 w lo hi ao A) (hs : hi ≤ w.heap.size) (hl : A.length ≤ 4) (hm : 0 ≤ m ∧ m ≤ 1) (hf : -1 ≤ f ∧ f ≤ 63) :
    Calls Try.prog 50 #[.int .i64 m, .int .i64 f, .slice ao A.length ca] w fun e w' => ∃ ao' cap', e = .returned (.slice ao' 12 cap') ∧ OwnR .i64 2 w' w.heap.size ao' cap' (stripC m f A) ∧ Below w.heap.size w w' := by
  have HR := hideP hR
  obtain ⟨m1, m2⟩ := hm
  obtain ⟨f1, f2⟩ := hf
  have hl' : (A.length : Int) ≤ 4 := by omega
  clear hR
  go_enter Try.func50, Try.ntmps50
  go_wp2_with (first | (at_builtin; refine wpList_app (k := .i64) (T := 2) (S := 26) (bytes := 8) Try.underlying26 Try.infoS9 (by omega) rfl _ _ rfl w.heap.size (some ⟨w.heap.size, 0, none⟩) 3 [400 + m, f + 1, (A.length : Int)] rfl (OwnR.lit .i64 2 w w.heap.size [400 + m, f + 1, (A.length : Int)] _ rfl (Nat.le_refl _) (by unfold maxLen; simp)) ao ca A rfl (HR.out.keep (B := w.heap.size) ((Below.refl _ _).alloc (Nat.le_refl _) _) hs).src (by simp; omega) (by simp) ?_; intro ao2 cap2 w2 O2 K2; refine Hid.out ?_) | go_in)
  have HO2 : Hid (OwnR .i64 2 w2 w.heap.size ao2 cap2 ([400 + m, f + 1, (A.length : Int)] ++ A)) := hideP O2
  have HK2 : Hid (Below w.heap.size w w2) := hideP (Below.trans (by go_grown) K2)
  have hn2 := HK2.out.size
  clear O2 K2
  refine hideP ?_
  go_wp2
  go_loopw [7] (fun v wr => ∃ (j : Nat) (so : Option Addr) (sc : Nat), j ≤ 9 - A.length ∧ v = .slice so (([400 + m, f + 1, (A.length : Int)] ++ A) ++ List.replicate j 0).length sc ∧ OwnR .i64 2 wr w.heap.size so sc (([400 + m, f + 1, (A.length : Int)] ++ A) ++ List.replicate j 0) ∧ Below w.heap.size w wr) (fun v _ => match v with | .slice _ n _ => 12 - n | _ => 0)
  case atStart => exact ⟨0, ao2, cap2, Nat.zero_le _, by simp, by simpa using HO2.out, HK2.out⟩
  case round =>
    obtain ⟨j, so, sc, hj, rfl, O, K⟩ := hrel
    have HO := hideP O
    have HK := hideP K
    have hn := K.size
    clear O K HO2 HK2
    have HP := hideP (strip_snoc ([400 + m, f + 1, (A.length : Int)] ++ A) j)
    obtain ⟨P, hP⟩ : ∃ P, [400 + m, f + 1, (A.length : Int)] ++ A = P := ⟨_, rfl⟩
    have hPl : P.length = 3 + A.length := by rw [← hP]; simp; omega
    have HPP := hideP hP
    rw [hP] at HO HP ⊢
    clear hP
    obtain ⟨M, hM⟩ : ∃ M, P ++ List.replicate j 0 = M := ⟨_, rfl⟩
    have hMl : M.length = 3 + A.length + j := by rw [← hM]; simp; omega
    have HMM := hideP hM
    rw [hM] at HO HP ⊢
    clear hM
    have hb : M.length ≤ 12 := by omega
    have HMl := hideP hMl
    by_cases hlt : j < 9 - A.length
    · have hlt' : (M.length : Int) < 12 := by omega
      clear hMl hPl
      go_wp2_with (first | (at_builtin; refine wpList_app (k := .i64) (T := 2) (S := 26) (bytes := 8) Try.underlying26 Try.infoS9 (by omega) rfl _ _ rfl w.heap.size so sc M rfl (HO.out.alloc _) _ 1 [0] rfl (src_one .i64 wr 0 2) (by simp; omega) (by simp; omega) ?_; intro ao4 ca4 w4 O4 K4; refine Hid.out ?_) | go_in)
      have HO4 : Hid (OwnR .i64 2 w4 w.heap.size ao4 ca4 (P ++ List.replicate (j + 1) 0)) := hideP (by rw [HP.out] at O4; exact O4)
      have HK4 : Hid (Below w.heap.size w w4) := hideP (HK.out.trans (Below.trans (by go_grown) K4))
      have HL : Hid ((M ++ [0]).length = (P ++ List.replicate (j + 1) 0).length) := hideP (by rw [HP.out])
      clear O4 K4 HO HK
      refine hideP ?_
      go_wp2
      go_roundw
      case rel => exact ⟨j + 1, ao4, ca4, by omega, by rw [← HL.out]; simp, HO4.out, HK4.out⟩
      case measure => simp; omega
    · obtain rfl : j = 9 - A.length := by omega
      have hge : ¬ (M.length : Int) < 12 := by omega
      have H12 := hideP (show M.length = 12 by omega)
      have HC : Hid (M = stripC m f A) := hideP (by rw [← HMM.out, ← HPP.out]; rfl)
      clear hMl hPl
      go_wp2
      go_returns
      exact ⟨so, sc, by rw [← H12.out]; rfl, by rw [← HC.out]; exact HO.out, HK.out⟩
end Go.Proofs.Ytbagloapclgpnaa
