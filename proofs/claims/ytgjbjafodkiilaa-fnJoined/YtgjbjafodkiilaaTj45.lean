/- A request within a list, packed by the model. JoinFrames of the program and of the model. -/
import Derived.Test.YtgjbjafodkiilaaTj44
namespace Go.Proofs.Ytgjbjafodkiilaa
open Go.RowKit
set_option linter.unusedVariables false

set_option maxHeartbeats 2000000 in
theorem sBodyAt_any (lo hi b o' : Nat) (k : Int) (ao bo : Option Addr) (ca cb : Nat) (A D : List Int) (w : World) (X : IsReq w b o' k (.slice ao A.length ca) (.slice bo D.length cb)) (hA : Row .i64 w lo hi ao A) (hD : Row .u8 w lo hi bo D) (hs : hi ≤ w.heap.size) (hbl : b < w.heap.size) (hk : 0 ≤ k ∧ k ≤ 255) (hB : A.all isB = true) (hl : A.length + D.length ≤ 1000) :
    Calls Try.prog 43 #[.pointer (some ⟨b, o', none⟩)] w fun e w' => ∃ ao' cap', e = .returned (.slice ao' (bod k A D).length cap') ∧ OwnR .u8 5 w' w.heap.size ao' cap' (bod k A D) ∧ Below w.heap.size w w' := by
  have HA := hideP hA
  have HD := hideP hD
  have HB := hideP hB
  have HX := hideP X
  obtain ⟨kk0, kk1⟩ := hk
  have hm : k % 256 = k := by omega
  have hl' : (A.length : Int) ≤ 1000 := by omega
  clear hA hD hB X
  obtain ⟨p0, p1, p2⟩ := HX.out
  go_enter Try.func43, Try.ntmps43
  go_wp2
  clear p0 p1 p2
  have O0 : Hid (OwnR .u8 5 (w.alloc (.cells #[.int .u8 k] 5)) w.heap.size (some ⟨w.heap.size, 0, none⟩) 1 ([k] ++ A.take 0)) := hideP (OwnR.lit .u8 5 w w.heap.size [k] _ rfl (Nat.le_refl _) (by unfold maxLen; simp))
  go_loopw [3, 4] (fun t i wr => ∃ (j : Nat) (ao' : Option Addr) (cap' : Nat), j ≤ A.length ∧ i = .int .i64 j ∧ t = .slice ao' (([k] ++ A.take j).length) cap' ∧ OwnR .u8 5 wr w.heap.size ao' cap' ([k] ++ A.take j) ∧ Below w.heap.size w wr) (fun _ i _ => A.length - (intOf i).toNat)
  case atStart => exact ⟨0, _, 1, Nat.zero_le _, rfl, rfl, O0.out, by go_grown⟩
  case round =>
    obtain ⟨j, ao1, cap1, hj, rfl, rfl, O1, K1⟩ := hrel
    have HO1 := hideP O1
    have HK1 := hideP K1
    have hz := K1.size
    have X1 := HX.out.keep K1 hbl
    obtain ⟨p0, p1, p2⟩ := X1
    clear O1 K1 O0
    by_cases hlt : j < A.length
    · have hlt' : (j : Int) < (A.length : Int) := by omega
      have hne : A ≠ [] := fun e => by rw [e] at hlt; simp at hlt
      rcases HA.out with e | ⟨g, o, rfl, _, hg, hc⟩
      · exact absurd e hne
      have a0 := (HK1.out.cell (p := ⟨g, o + j, none⟩) (by show g < _; omega)).trans (hc j hlt)
      have hx := all_at HB.out j hlt
      have HT : Hid ([k] ++ A.take (j + 1) = ([k] ++ A.take j) ++ [A[j]]) := hideP (by rw [take_app A j hlt, List.append_assoc])
      have HL1 := hideP (show ([k] ++ A.take j).length ≤ 1048576 by simp; omega)
      clear hc hne
      generalize A[j] = x at *
      obtain ⟨x0, x1⟩ := hx
      have hm2 : x % 256 = x := by omega
      generalize [k] ++ A.take j = M1 at *
      go_wp2_with (first | (at_builtin; refine wpList_app (k := .u8) (T := 5) (S := 22) (bytes := 1) Try.underlying22 Try.infoB (by omega) rfl _ _ rfl w.heap.size ao1 cap1 M1 rfl (HO1.out.alloc _) _ 1 [x] rfl (src_one .u8 wr x 5) (by have := HL1.out; simp; omega) (by simp; omega) ?_; intro ao2 cap2 w2 O2 K2; refine Hid.out ?_) | go_in)
      have HO2 := hideP O2
      have HK2 : Hid (Below w.heap.size w w2) := hideP ((HK1.out.alloc (by omega) _).trans K2)
      clear O2 K2 p0 p1 p2
      refine hideP ?_
      go_wp2
      go_roundw
      case rel => exact ⟨j + 1, ao2, cap2, by omega, by go_num, by rw [HT.out]; simp, by rw [HT.out]; exact HO2.out, HK2.out⟩
      case measure => simp [intOf]; omega
    · obtain rfl : j = A.length := by omega
      rw [List.take_length] at HO1 ⊢
      have HS := hideP ((HD.out.keep HK1.out hs).src)
      go_wp2_with (first | (at_builtin; refine wpList_app (k := .u8) (T := 5) (S := 22) (bytes := 1) Try.underlying22 Try.infoB (by omega) rfl _ _ rfl w.heap.size ao1 cap1 ([k] ++ A) (by rfl) HO1.out bo cb D rfl HS.out (by simp; omega) (by omega) ?_; intro ao3 cap3 w3 O3 K3; refine Hid.out ?_) | go_in)
      have HO3 : Hid (OwnR .u8 5 w3 w.heap.size ao3 cap3 (bod k A D)) := hideP O3
      have HK3 := hideP (HK1.out.trans K3)
      clear O3 K3 p0 p1 p2
      refine hideP ?_
      go_wp2
      go_returns
      exact ⟨ao3, cap3, by rw [bod_len]; rfl, HO3.out, HK3.out⟩

set_option maxHeartbeats 2000000 in
theorem sPkAt_any (lo hi b o' : Nat) (k : Int) (ao bo : Option Addr) (ca cb : Nat) (A D : List Int) (w : World) (X : IsReq w b o' k (.slice ao A.length ca) (.slice bo D.length cb)) (hA : Row .i64 w lo hi ao A) (hD : Row .u8 w lo hi bo D) (hs : hi ≤ w.heap.size) (hbl : b < w.heap.size) (h : rF k A D.length = 0) :
    Calls Try.prog 22 #[.pointer (some ⟨b, o', none⟩)] w fun e w' => ∃ ao' cap', e = .returned (.slice ao' (pkL k A D).length cap') ∧ OwnR .u8 5 w' w.heap.size ao' cap' (pkL k A D) ∧ Below w.heap.size w w' := by
  have HA := hideP hA
  have HD := hideP hD
  have HX := hideP X
  obtain ⟨l1, l2, q1, q2, q3⟩ := rF_lens h
  have HB := hideP q3
  have HP := hideP (pkL_yes h)
  have hbl2 : Hid ((bod k A D).length = A.length + D.length + 1) := hideP (bod_len _ _ _)
  have hpl : Hid ((pkL k A D).length = A.length + D.length + 1 + 1) := hideP (by rw [HP.out, List.length_cons, bod_len])
  clear hA hD h q3 X
  go_enter Try.func22, Try.ntmps22
  go_wp2_with fail
  refine Calls.mono (sBodyAt_any lo hi b o' k ao bo ca cb A D w HX.out HA.out HD.out hs hbl ⟨by omega, by omega⟩ HB.out (by omega)) ?_
  rintro e w2 ⟨ao2, cap2, rfl, O2, k2⟩
  rw [hbl2.out]
  have HO2 := hideP O2
  have K2 := hideP k2
  have n2 := k2.size
  have x0 : (0 : Int) ≤ (A.length : Int) + (D.length : Int) + 1 := by omega
  have x1 : (A.length : Int) + (D.length : Int) + 1 ≤ 255 := by omega
  have HXX : Hid (((bod k A D).length : Int) = (A.length : Int) + (D.length : Int) + 1) := hideP (by rw [hbl2.out]; omega)
  have hm : ((A.length : Int) + (D.length : Int) + 1) % 256 = (A.length : Int) + (D.length : Int) + 1 := by omega
  clear O2 k2
  go_wp2_with (first | (at_builtin; refine wpList_app (k := .u8) (T := 5) (S := 22) (bytes := 1) Try.underlying22 Try.infoB (by omega) rfl _ _ rfl w2.heap.size (some ⟨w2.heap.size, 0, none⟩) 1 [(A.length : Int) + (D.length : Int) + 1] rfl (OwnR.lit .u8 5 w2 w2.heap.size [(A.length : Int) + (D.length : Int) + 1] _ rfl (Nat.le_refl _) (by unfold maxLen; simp)) ao2 cap2 (bod k A D) (by rw [hbl2.out]; rfl) (HO2.out.alloc _).src (by rw [hbl2.out]; simp; omega) (by simp) ?_; intro ao4 cap4 w4 O4 k4; refine Hid.out ?_) | go_in)
  have HO4 : Hid (OwnR .u8 5 w4 w.heap.size ao4 cap4 (pkL k A D)) := hideP (by rw [HP.out, HXX.out]; exact O4.le n2)
  have K4 : Hid (Below w.heap.size w w4) := hideP ((K2.out.alloc n2 _).trans (k4.mono n2))
  clear O4 k4
  refine hideP ?_
  go_wp2
  go_returns
  exact ⟨ao4, cap4, by rw [hpl.out, ← hbl2.out]; rfl, HO4.out, K4.out⟩

end Go.Proofs.Ytgjbjafodkiilaa

namespace Go.Proofs.Ytgjbjafodkiilaa
open Go.RowKit
set_option linter.unusedVariables false

theorem jF_snoc {X : List (Int × List Int × List Int)} {t : Int × List Int × List Int} (h : jF X = 0) (ht : tF t = 0) : jF (X ++ [t]) = 0 := by rw [jF_pre h, jF, if_pos ht, jF]
theorem jL_snoc (X : List (Int × List Int × List Int)) (t : Int × List Int × List Int) : jL (X ++ [t]) = jL X ++ tP t := by rw [jL_app]; simp [jL]

set_option maxHeartbeats 4000000 in
theorem iJoin_any (lo hi : Nat) (so : Option Addr) (sc : Nat) (L : List Rq) (w : World) (hL : Rqs w lo hi so L) (hs : hi ≤ w.heap.size) (hn : L.length ≤ 1048576) :
    Calls Try.prog 6 #[.slice so L.length sc] w fun e w' => ∃ ao' cap', e = .returned (.agg #[.int .i64 (jC (L.map Rq.ct)), .slice ao' (jB (L.map Rq.ct)).length cap']) ∧ OwnR .u8 5 w' w.heap.size ao' cap' (jB (L.map Rq.ct)) ∧ Below w.heap.size w w' := by
  have hn' : (L.length : Int) ≤ 1048576 := by omega
  by_cases hten : 10 < L.length
  · obtain ⟨e1, e2⟩ := jC_many (C := L.map Rq.ct) (by simpa using hten)
    rw [e1, e2]
    clear e1 e2 hL
    go_enter Try.func6, Try.ntmps6
    go_wp2
    refine bodyPost_ret (v := .agg #[.int .i64 2, .slice none 0 0]) (by simp [results, Try.results6, go_sem, *]) rfl ⟨none, 0, rfl, OwnR.nil _ _ _ _, ?_⟩
    repeat' (first | (with_reducible exact Below.refl _ _) | (with_reducible refine kept_below ?_ (by assumption) ?_) | (with_reducible refine Below.alloc ?_ ?_ _) | (with_reducible refine Below.drew ?_) | (with_reducible refine Below.setCell ?_ ?_ _) | go_size)
  have HL := hideP hL
  have hc10 : Hid (¬ 10 < (L.map Rq.ct).length) := hideP (by simpa using hten)
  clear hL
  go_enter Try.func6, Try.ntmps6
  go_wp2
  have R0 : Hid (Rb (w.alloc (.cells #[.int .i64 0, .slice none 0 0] 27)) w.heap.size (.int .i64 0) (.slice none 0 0)) := hideP ⟨by simp, by simp, by simp, by simp, by simp⟩
  have K0 : Hid (Below w.heap.size w (w.alloc (.cells #[.int .i64 0, .slice none 0 0] 27))) := hideP ((Below.refl _ _).alloc (Nat.le_refl _) _)
  go_loopw [3, 13] (fun t i wr => ∃ (X Y : List Rq) (ao' : Option Addr) (cap' : Nat), X ++ Y = L ∧ i = .int .i64 (X.length : Nat) ∧ t = .slice ao' (jL (X.map Rq.ct)).length cap' ∧ jF (X.map Rq.ct) = 0 ∧ OwnR .u8 5 wr (w.heap.size + 1) ao' cap' (jL (X.map Rq.ct)) ∧ Below w.heap.size w wr ∧ Rb wr w.heap.size (.int .i64 0) (.slice none 0 0)) (fun _ i _ => L.length - (intOf i).toNat)
  case atStart => exact ⟨[], L, none, 0, rfl, rfl, rfl, rfl, OwnR.nil _ _ _ _, K0.out, R0.out⟩
  case round =>
    obtain ⟨X, Y, ao1, cap1, hXY, rfl, rfl, hF, O1, kb, RB⟩ := hrel
    have hlen : X.length + Y.length = L.length := by rw [← hXY]; simp
    have hjl := jL_len (X.map Rq.ct)
    rw [List.length_map] at hjl
    have hz := kb.size
    have hrl := RB.lt
    have HF := hideP hF
    have HB := hideP kb
    have HO := hideP O1
    have HR := hideP RB
    clear hF kb O1 RB R0 K0
    cases Y with
    | cons r Y =>
      have hlt : (X.length : Int) < (L.length : Int) := by simp at hlen; omega
      have h0 := HL.out
      rw [← hXY] at h0
      obtain ⟨g, o, rfl, hg, hc, hon⟩ := Rqs.at h0
      obtain ⟨a0, a1, a2⟩ := IsReq.keep hc HB.out (by omega)
      obtain ⟨rA, rD⟩ := hon
      have hgl : g < wr.heap.size := by omega
      have HXY := hideP hXY
      have HA := hideP (rA.keep HB.out hs)
      have HD := hideP (rD.keep HB.out hs)
      clear h0 hc hXY rA rD HL
      obtain ⟨k, ao, ca, A, bo, cb, D⟩ := r
      simp only at a0 a1 a2 HA HD
      have hx10 : X.length ≤ 10 := by omega
      go_wp2_with fail
      clear a0 a1 a2
      have ka : Below wr.heap.size wr (wr.alloc (.cells #[.int .i64 k, .slice ao A.length ca, .slice bo D.length cb] 42)) := (Below.refl _ _).alloc (Nat.le_refl _) _
      have HA1 := hideP (HA.out.keep ka (by omega))
      have HD1 := hideP (HD.out.keep ka (by omega))
      have HB1 := hideP (HB.out.trans (ka.mono hz))
      have HO1 := hideP (HO.out.keep ka)
      have HR1 := hideP (HR.out.keep ka hrl)
      have hz1 := ka.size
      clear ka HA HD HB HO HR
      generalize wr.alloc (.cells #[.int .i64 k, .slice ao A.length ca, .slice bo D.length cb] 42) = w1 at *
      refine Calls.mono (iPack_any lo hi k ao bo ca cb A D w1 HA1.out HD1.out (by omega)) ?_
      rintro e w2 ⟨ap, cp, rfl, O2, k2⟩
      have HB2 := hideP (HB1.out.trans (k2.mono (by omega)))
      have HO2 := hideP (HO1.out.keep k2)
      have HR2 := hideP (HR1.out.keep k2 (by omega))
      have HP2 := hideP O2
      have hpl := pkL_len k A D
      have hz2 := k2.size
      clear k2 O2 HA1 HD1 HB1 HO1 HR1
      by_cases hc : rF k A D.length = 0
      · have HC := hideP (show tF (Rq.ct ⟨k, ao, ca, A, bo, cb, D⟩) = 0 from hc)
        have HJ : Hid (jL ((X ++ [(⟨k, ao, ca, A, bo, cb, D⟩ : Rq)]).map Rq.ct) = jL (X.map Rq.ct) ++ pkL k A D) := hideP (by rw [List.map_append]; exact jL_snoc _ _)
        rw [hc]
        clear hc
        generalize pkL k A D = P at *
        generalize hJX : jL (X.map Rq.ct) = JX at *
        clear hJX
        have ka : Below w2.heap.size w2 (w2.alloc (.cells #[.int .i64 0, .slice ap P.length cp] 27)) := (Below.refl _ _).alloc (Nat.le_refl _) _
        have HO3 := hideP (HO2.out.keep ka)
        have HP3 := hideP (HP2.out.keep ka)
        have HB3 := hideP (HB2.out.trans (ka.mono (by omega)))
        have HR3 := hideP (HR2.out.keep ka (by omega))
        have HS := hideP HP3.out.src
        clear ka HO2 HP2 HB2 HR2
        go_wp2_with (first | (at_builtin; refine wpList_app (k := .u8) (T := 5) (S := 22) (bytes := 1) Try.underlying22 Try.infoB (by omega) rfl _ _ rfl (w.heap.size + 1) ao1 cap1 JX rfl HO3.out ap cp P rfl HS.out (by omega) (by simp; omega) ?_; intro ao4 cap4 w4 O4 k4; refine Hid.out ?_) | go_in)
        have HO4 := hideP O4
        have HB4 := hideP (HB3.out.trans (k4.mono (by omega)))
        have HR4 := hideP (HR3.out.keep k4 (by omega))
        clear O4 k4 HO3 HP3 HB3 HR3 HS
        refine hideP ?_
        go_wp2
        go_roundw
        case rel => exact ⟨X ++ [⟨k, ao, ca, A, bo, cb, D⟩], Y, ao4, cap4, mid_in HXY.out, by simp, by rw [HJ.out]; simp, by rw [List.map_append]; exact jF_snoc HF.out HC.out, by rw [HJ.out]; exact HO4.out, HB4.out, HR4.out⟩
        case measure => simp [intOf]; omega
      · obtain ⟨c, hcc⟩ : ∃ c, rF k A D.length = c := ⟨_, rfl⟩
        have hcn : (c != 0) = true := by rw [← hcc]; simpa using hc
        have HE : Hid (jC (L.map Rq.ct) = c ∧ jB (L.map Rq.ct) = []) := hideP (by
          have h := hc10.out
          rw [← HXY.out, List.map_append, List.map_cons] at h ⊢
          have := jC_fault h HF.out (show tF (Rq.ct ⟨k, ao, ca, A, bo, cb, D⟩) ≠ 0 from hc)
          exact ⟨this.1.trans hcc, this.2⟩)
        rw [hcc]
        obtain ⟨r0, r1, r2, r3, r4⟩ := HR2.out
        clear hc hcc HP2 HO2
        go_wp2
        refine bodyPost_ret (v := .agg #[.int .i64 c, .slice none 0 0]) (by simp [results, Try.results6, go_sem, *]) rfl ⟨none, 0, by rw [HE.out.1, HE.out.2]; rfl, by rw [HE.out.2]; exact OwnR.nil _ _ _ _, ?_⟩
        repeat' (first | exact HB2.out | (with_reducible refine Below.setCell ?_ ?_ _) | (with_reducible refine Below.alloc ?_ ?_ _) | go_size)
    | nil =>
      have hX : X = L := by simpa using hXY
      subst hX
      have HE := hideP (jC_all hc10.out HF.out)
      obtain ⟨r0, r1, r2, r3, r4⟩ := HR.out
      clear hXY HL hc10 HF
      have HJE := hideP HE.out.2
      generalize hJX : jL (X.map Rq.ct) = JX at *
      clear hJX
      go_wp2
      refine bodyPost_ret (v := .agg #[.int .i64 0, .slice ao1 JX.length cap1]) (by simp [results, Try.results6, go_sem, *]) rfl ⟨ao1, cap1, by rw [HE.out.1, HJE.out], ?_, ?_⟩
      · rw [HJE.out]
        refine OwnR.le (base := w.heap.size + 1) ?_ (by omega)
        repeat (refine OwnR.set ?_ _ _ (by dsimp only; omega))
        exact HO.out
      · repeat' (first | exact HB.out | (with_reducible refine Below.setCell ?_ ?_ _) | go_size)
end Go.Proofs.Ytgjbjafodkiilaa
