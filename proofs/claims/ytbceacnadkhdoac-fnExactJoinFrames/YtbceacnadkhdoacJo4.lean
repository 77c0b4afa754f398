/- JoinFrames of the program and of the model. -/
import Derived.Test.YtbceacnadkhdoacJo3
namespace Go.Proofs.Ytbceacnadkhdoac
open Go.RowKit
set_option linter.unusedVariables false

theorem jF_snoc {X : List (Int × List Int × List Int)} {t : Int × List Int × List Int} (h : jF X = 0) (ht : tF t = 0) : jF (X ++ [t]) = 0 := by rw [jF_pre h, jF, if_pos ht, jF]
theorem jL_snoc (X : List (Int × List Int × List Int)) (t : Int × List Int × List Int) : jL (X ++ [t]) = jL X ++ tP t := by rw [jL_app]; simp [jL]

set_option maxHeartbeats 4000000 in
theorem iJoin_any (lo hi : Nat) (so : Option Addr) (sc : Nat) (L : List Rq) (w : World) (hL : Rqs w lo hi so L) (hs : hi ≤ w.heap.size) (hn : L.length ≤ 1048576) :
    Calls Try.prog 7 #[.slice so L.length sc] w fun e w' => ∃ ao' cap', e = .returned (.agg #[.int .i64 (jC (L.map Rq.ct)), .slice ao' (jB (L.map Rq.ct)).length cap']) ∧ OwnR .u8 5 w' w.heap.size ao' cap' (jB (L.map Rq.ct)) ∧ Below w.heap.size w w' := by
  have hn' : (L.length : Int) ≤ 1048576 := by omega
  by_cases hten : 10 < L.length
  · obtain ⟨e1, e2⟩ := jC_many (C := L.map Rq.ct) (by simpa using hten)
    rw [e1, e2]
    clear e1 e2 hL
    go_enter Try.func7, Try.ntmps7
    go_wp2
    refine bodyPost_ret (v := .agg #[.int .i64 2, .slice none 0 0]) (by simp [results, Try.results7, go_sem, *]) rfl ⟨none, 0, rfl, OwnR.nil _ _ _ _, ?_⟩
    repeat' (first | (with_reducible exact Below.refl _ _) | (with_reducible refine kept_below ?_ (by assumption) ?_) | (with_reducible refine Below.alloc ?_ ?_ _) | (with_reducible refine Below.drew ?_) | (with_reducible refine Below.setCell ?_ ?_ _) | go_size)
  have HL := hideP hL
  have hc10 : Hid (¬ 10 < (L.map Rq.ct).length) := hideP (by simpa using hten)
  clear hL
  go_enter Try.func7, Try.ntmps7
  go_wp2
  have R0 : Hid (Rb (w.alloc (.cells #[.int .i64 0, .slice none 0 0] 26)) w.heap.size (.int .i64 0) (.slice none 0 0)) := hideP ⟨by simp, by simp, by simp, by simp, by simp⟩
  have K0 : Hid (Below w.heap.size w (w.alloc (.cells #[.int .i64 0, .slice none 0 0] 26))) := hideP ((Below.refl _ _).alloc (Nat.le_refl _) _)
  go_loopw [3, 13] (fun t i wr => ∃ (X Y : List Rq) (ao' : Option Addr) (cap' : Nat), X ++ Y = L ∧ i = .int .i64 (X.length : Nat) ∧ t = .slice ao' (jL (X.map Rq.ct)).length cap' ∧ jF (X.map Rq.ct) = 0 ∧ OwnR .u8 5 wr (w.heap.size + 1) ao' cap' (jL (X.map Rq.ct)) ∧ Below w.heap.size w wr ∧ Rb wr w.heap.size (.int .i64 0) (.slice none 0 0)) (fun _ i _ => L.length - (intOf i).toNat)
  case atStart => exact ⟨[], L, none, 0, rfl, rfl, rfl, rfl, OwnR.nil _ _ _ _, K0.out, R0.out⟩
  case round =>
    obtain ⟨X, Y, ao1, cap1, hXY, rfl, rfl, hF, O1, kb, RB⟩ := hrel
    have hlen : X.length + Y.length = L.length := by rw [← hXY]; simp
    have hjl := jL_len (X.map Rq.ct)
    rw [List.length_map] at hjl
    have hz := kb.size
    have hrl := RB.lt
    have HF := hideP hF
    have HB := hideP kb
    have HO := hideP O1
    have HR := hideP RB
    clear hF kb O1 RB R0 K0
    cases Y with
    | cons r Y =>
      have hlt : (X.length : Int) < (L.length : Int) := by simp at hlen; omega
      have h0 := HL.out
      rw [← hXY] at h0
      obtain ⟨g, o, rfl, hg, hc, hon⟩ := Rqs.at h0
      obtain ⟨a0, a1, a2⟩ := IsReq.keep hc HB.out (by omega)
      obtain ⟨rA, rD⟩ := hon
      have hgl : g < wr.heap.size := by omega
      have HXY := hideP hXY
      have HA := hideP (rA.keep HB.out hs)
      have HD := hideP (rD.keep HB.out hs)
      clear h0 hc hXY rA rD HL
      obtain ⟨k, ao, ca, A, bo, cb, D⟩ := r
      simp only at a0 a1 a2 HA HD
      have hx10 : X.length ≤ 10 := by omega
      go_wp2_with fail
      clear a0 a1 a2
      have ka : Below wr.heap.size wr (wr.alloc (.cells #[.int .i64 k, .slice ao A.length ca, .slice bo D.length cb] 41)) := (Below.refl _ _).alloc (Nat.le_refl _) _
      have HA1 := hideP (HA.out.keep ka (by omega))
      have HD1 := hideP (HD.out.keep ka (by omega))
      have HB1 := hideP (HB.out.trans (ka.mono hz))
      have HO1 := hideP (HO.out.keep ka)
      have HR1 := hideP (HR.out.keep ka hrl)
      have hz1 := ka.size
      clear ka HA HD HB HO HR
      generalize wr.alloc (.cells #[.int .i64 k, .slice ao A.length ca, .slice bo D.length cb] 41) = w1 at *
      refine Calls.mono (iPack_any lo hi k ao bo ca cb A D w1 HA1.out HD1.out (by omega)) ?_
      rintro e w2 ⟨ap, cp, rfl, O2, k2⟩
      have HB2 := hideP (HB1.out.trans (k2.mono (by omega)))
      have HO2 := hideP (HO1.out.keep k2)
      have HR2 := hideP (HR1.out.keep k2 (by omega))
      have HP2 := hideP O2
      have hpl := pkL_len k A D
      have hz2 := k2.size
      clear k2 O2 HA1 HD1 HB1 HO1 HR1
      by_cases hc : rF k A D.length = 0
      · have HC := hideP (show tF (Rq.ct ⟨k, ao, ca, A, bo, cb, D⟩) = 0 from hc)
        have HJ : Hid (jL ((X ++ [(⟨k, ao, ca, A, bo, cb, D⟩ : Rq)]).map Rq.ct) = jL (X.map Rq.ct) ++ pkL k A D) := hideP (by rw [List.map_append]; exact jL_snoc _ _)
        rw [hc]
        clear hc
        generalize pkL k A D = P at *
        generalize hJX : jL (X.map Rq.ct) = JX at *
        clear hJX
        have ka : Below w2.heap.size w2 (w2.alloc (.cells #[.int .i64 0, .slice ap P.length cp] 26)) := (Below.refl _ _).alloc (Nat.le_refl _) _
        have HO3 := hideP (HO2.out.keep ka)
        have HP3 := hideP (HP2.out.keep ka)
        have HB3 := hideP (HB2.out.trans (ka.mono (by omega)))
        have HR3 := hideP (HR2.out.keep ka (by omega))
        have HS := hideP HP3.out.src
        clear ka HO2 HP2 HB2 HR2
        go_wp2_with (first | (at_builtin; refine wpList_app (k := .u8) (T := 5) (S := 24) (bytes := 1) Try.underlying24 Try.infoB (by omega) rfl _ _ rfl (w.heap.size + 1) ao1 cap1 JX rfl HO3.out ap cp P rfl HS.out (by omega) (by simp; omega) ?_; intro ao4 cap4 w4 O4 k4; refine Hid.out ?_) | go_in)
        have HO4 := hideP O4
        have HB4 := hideP (HB3.out.trans (k4.mono (by omega)))
        have HR4 := hideP (HR3.out.keep k4 (by omega))
        clear O4 k4 HO3 HP3 HB3 HR3 HS
        refine hideP ?_
        go_wp2
        go_roundw
        case rel => exact ⟨X ++ [⟨k, ao, ca, A, bo, cb, D⟩], Y, ao4, cap4, mid_in HXY.out, by simp, by rw [HJ.out]; simp, by rw [List.map_append]; exact jF_snoc HF.out HC.out, by rw [HJ.out]; exact HO4.out, HB4.out, HR4.out⟩
        case measure => simp [intOf]; omega
      · obtain ⟨c, hcc⟩ : ∃ c, rF k A D.length = c := ⟨_, rfl⟩
        have hcn : (c != 0) = true := by rw [← hcc]; simpa using hc
        have HE : Hid (jC (L.map Rq.ct) = c ∧ jB (L.map Rq.ct) = []) := hideP (by
          have h := hc10.out
          rw [← HXY.out, List.map_append, List.map_cons] at h ⊢
          have := jC_fault h HF.out (show tF (Rq.ct ⟨k, ao, ca, A, bo, cb, D⟩) ≠ 0 from hc)
          exact ⟨this.1.trans hcc, this.2⟩)
        rw [hcc]
        obtain ⟨r0, r1, r2, r3, r4⟩ := HR2.out
        clear hc hcc HP2 HO2
        go_wp2
        refine bodyPost_ret (v := .agg #[.int .i64 c, .slice none 0 0]) (by simp [results, Try.results7, go_sem, *]) rfl ⟨none, 0, by rw [HE.out.1, HE.out.2]; rfl, by rw [HE.out.2]; exact OwnR.nil _ _ _ _, ?_⟩
        repeat' (first | exact HB2.out | (with_reducible refine Below.setCell ?_ ?_ _) | (with_reducible refine Below.alloc ?_ ?_ _) | go_size)
    | nil =>
      have hX : X = L := by simpa using hXY
      subst hX
      have HE := hideP (jC_all hc10.out HF.out)
      obtain ⟨r0, r1, r2, r3, r4⟩ := HR.out
      clear hXY HL hc10 HF
      have HJE := hideP HE.out.2
      generalize hJX : jL (X.map Rq.ct) = JX at *
      clear hJX
      go_wp2
      refine bodyPost_ret (v := .agg #[.int .i64 0, .slice ao1 JX.length cap1]) (by simp [results, Try.results7, go_sem, *]) rfl ⟨ao1, cap1, by rw [HE.out.1, HJE.out], ?_, ?_⟩
      · rw [HJE.out]
        refine OwnR.le (base := w.heap.size + 1) ?_ (by omega)
        repeat (refine OwnR.set ?_ _ _ (by dsimp only; omega))
        exact HO.out
      · repeat' (first | exact HB.out | (with_reducible refine Below.setCell ?_ ?_ _) | go_size)
end Go.Proofs.Ytbceacnadkhdoac
