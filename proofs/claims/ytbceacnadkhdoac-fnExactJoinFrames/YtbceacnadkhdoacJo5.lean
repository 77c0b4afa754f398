/- JoinFrames of the model. -/
import Derived.Test.YtbceacnadkhdoacJo4
namespace Go.Proofs.Ytbceacnadkhdoac
open Go.RowKit
set_option linter.unusedVariables false

set_option maxHeartbeats 4000000 in
theorem sJoin_any (lo hi : Nat) (so : Option Addr) (sc : Nat) (L : List Rq) (w : World) (hL : Rqs w lo hi so L) (hs : hi ≤ w.heap.size) (hn : L.length ≤ 1048576) :
    Calls Try.prog 5 #[.slice so L.length sc] w fun e w' => ∃ ao' cap', e = .returned (.agg #[.int .i64 (jC (L.map Rq.ct)), .slice ao' (jB (L.map Rq.ct)).length cap']) ∧ OwnR .u8 5 w' w.heap.size ao' cap' (jB (L.map Rq.ct)) ∧ Below w.heap.size w w' := by
  have hn' : (L.length : Int) ≤ 1048576 := by omega
  by_cases hten : 10 < L.length
  · obtain ⟨e1, e2⟩ := jC_many (C := L.map Rq.ct) (by simpa using hten)
    rw [e1, e2]
    clear e1 e2 hL
    go_enter Try.func5, Try.ntmps5
    go_wp2
    refine bodyPost_ret (v := .agg #[.int .i64 2, .slice none 0 0]) (by simp [results, Try.results5, go_sem, *]) rfl ⟨none, 0, rfl, OwnR.nil _ _ _ _, ?_⟩
    repeat' (first | (with_reducible exact Below.refl _ _) | (with_reducible refine kept_below ?_ (by assumption) ?_) | (with_reducible refine Below.alloc ?_ ?_ _) | (with_reducible refine Below.drew ?_) | (with_reducible refine Below.setCell ?_ ?_ _) | go_size)
  have HL := hideP hL
  have hc10 : Hid (¬ 10 < (L.map Rq.ct).length) := hideP (by simpa using hten)
  clear hL
  go_enter Try.func5, Try.ntmps5
  go_wp2
  have ST : Hid (∀ o : Obj, Below w.heap.size w ((w.alloc (.cells #[.int .i64 0, .slice none 0 0] 26)).alloc o) ∧ Rb ((w.alloc (.cells #[.int .i64 0, .slice none 0 0] 26)).alloc o) w.heap.size (.int .i64 0) (.slice none 0 0)) := hideP (fun o => ⟨((Below.refl _ _).alloc (Nat.le_refl _) _).alloc (by simp) _, Rb.keep (w := w.alloc (.cells #[.int .i64 0, .slice none 0 0] 26)) (B := w.heap.size + 1) ⟨by simp, by simp, by simp, by simp, by simp⟩ ((Below.refl _ _).alloc (by simp) _) (by omega)⟩)
  go_loopw [3, 4] (fun t i wr => ∃ (X Y : List Rq) (ao' : Option Addr) (cap' : Nat), X ++ Y = L ∧ i = .int .i64 (X.length : Nat) ∧ t = .slice ao' (jL (X.map Rq.ct)).length cap' ∧ jF (X.map Rq.ct) = 0 ∧ OwnR .u8 5 wr (w.heap.size + 1) ao' cap' (jL (X.map Rq.ct)) ∧ Below w.heap.size w wr ∧ Rb wr w.heap.size (.int .i64 0) (.slice none 0 0)) (fun _ i _ => L.length - (intOf i).toNat)
  case atStart => exact ⟨[], L, some ⟨w.heap.size + 1, 0, none⟩, 0, rfl, rfl, by simp [jL], rfl, by simpa [jL] using OwnR.lit .u8 5 (w.alloc (.cells #[.int .i64 0, .slice none 0 0] 26)) (w.heap.size + 1) [] _ rfl (by simp) (by unfold maxLen; simp), (ST.out _).1, (ST.out _).2⟩
  case round =>
    obtain ⟨X, Y, ao1, cap1, hXY, rfl, rfl, hF, O1, kb, RB⟩ := hrel
    have hlen : X.length + Y.length = L.length := by rw [← hXY]; simp
    have hjl := jL_len (X.map Rq.ct)
    rw [List.length_map] at hjl
    have hz := kb.size
    have hrl := RB.lt
    have HF := hideP hF
    have HB := hideP kb
    have HO := hideP O1
    have HR := hideP RB
    clear hF kb O1 RB ST
    cases Y with
    | cons r Y =>
      have hlt : (X.length : Int) < (L.length : Int) := by simp at hlen; omega
      have h0 := HL.out
      rw [← hXY] at h0
      obtain ⟨g, o, rfl, hg, hc, hon⟩ := Rqs.at h0
      have hcell := IsReq.keep hc HB.out (by omega)
      obtain ⟨rA, rD⟩ := hon
      have hgl : g < wr.heap.size := by omega
      have HXY := hideP hXY
      have HA := hideP (rA.keep HB.out hs)
      have HD := hideP (rD.keep HB.out hs)
      clear h0 hc hXY rA rD HL
      obtain ⟨k, ao, ca, A, bo, cb, D⟩ := r
      simp only at hcell HA HD
      have HX := hideP hcell
      have hx10 : X.length ≤ 10 := by omega
      obtain ⟨a0, a1, a2⟩ := hcell
      go_wp2_with fail
      clear a0 a1 a2
      refine Calls.mono (l3F_any lo hi g (o + X.length * 3) k ao bo ca D.length cb A wr HX.out HA.out (by omega)) ?_
      rintro e w1 ⟨rfl, k1⟩
      have HA1 := hideP (HA.out.keep k1 (by omega))
      have HD1 := hideP (HD.out.keep k1 (by omega))
      have HB1 := hideP (HB.out.trans (k1.mono hz))
      have HO1 := hideP (HO.out.keep k1)
      have HR1 := hideP (HR.out.keep k1 hrl)
      have HX1 := hideP (HX.out.keep k1 hgl)
      have hz1 := k1.size
      clear k1 HA HD HB HO HR HX
      by_cases hc : rF k A D.length = 0
      · have HC := hideP hc
        have HJ : Hid (jL ((X ++ [(⟨k, ao, ca, A, bo, cb, D⟩ : Rq)]).map Rq.ct) = jL (X.map Rq.ct) ++ pkL k A D) := hideP (by rw [List.map_append]; exact jL_snoc _ _)
        have SP := hideP (sPkAt_any lo hi g (o + X.length * 3) k ao bo ca cb A D w1 HX1.out HA1.out HD1.out (by omega) (by omega) hc)
        have hpl := pkL_len k A D
        have hgl1 : g < w1.heap.size := by omega
        obtain ⟨a0, a1, a2⟩ := HX1.out
        rw [hc]
        clear hc
        go_wp2_with fail
        clear a0 a1 a2 HX1
        refine Calls.mono SP.out ?_
        rintro e w2 ⟨ap, cp, rfl, O2, k2⟩
        have HP2 := hideP O2
        have HB2 := hideP (HB1.out.trans (k2.mono (by omega)))
        have HO2 := hideP (HO1.out.keep k2)
        have HR2 := hideP (HR1.out.keep k2 (by omega))
        have hz2 := k2.size
        clear k2 O2 HB1 HO1 HR1 SP HA1 HD1
        generalize pkL k A D = P at *
        generalize hJX : jL (X.map Rq.ct) = JX at *
        clear hJX
        have HS := hideP HP2.out.src
        go_wp2_with (first | (at_builtin; refine wpList_app (k := .u8) (T := 5) (S := 24) (bytes := 1) Try.underlying24 Try.infoB (by omega) rfl _ _ rfl (w.heap.size + 1) ao1 cap1 JX rfl HO2.out ap cp P rfl HS.out (by omega) (by omega) ?_; intro ao4 cap4 w4 O4 k4; refine Hid.out ?_) | go_in)
        have HO4 := hideP O4
        have HB4 := hideP (HB2.out.trans (k4.mono (by omega)))
        have HR4 := hideP (HR2.out.keep k4 (by omega))
        clear O4 k4 HO2 HP2 HB2 HR2 HS
        refine hideP ?_
        go_wp2
        go_roundw
        case rel => exact ⟨X ++ [⟨k, ao, ca, A, bo, cb, D⟩], Y, ao4, cap4, mid_in HXY.out, by simp, by rw [HJ.out]; simp, by rw [List.map_append]; exact jF_snoc HF.out HC.out, by rw [HJ.out]; exact HO4.out, HB4.out, HR4.out⟩
        case measure => simp [intOf]; omega
      · obtain ⟨c, hcc⟩ : ∃ c, rF k A D.length = c := ⟨_, rfl⟩
        have hcn : (c != 0) = true := by rw [← hcc]; simpa using hc
        have HE : Hid (jC (L.map Rq.ct) = c ∧ jB (L.map Rq.ct) = []) := hideP (by
          have h := hc10.out
          rw [← HXY.out, List.map_append, List.map_cons] at h ⊢
          have := jC_fault h HF.out (show tF (Rq.ct ⟨k, ao, ca, A, bo, cb, D⟩) ≠ 0 from hc)
          exact ⟨this.1.trans hcc, this.2⟩)
        rw [hcc]
        obtain ⟨r0, r1, r2, r3, r4⟩ := HR1.out
        clear hc hcc HO1 HX1 HA1 HD1
        go_wp2
        refine bodyPost_ret (v := .agg #[.int .i64 c, .slice none 0 0]) (by simp [results, Try.results5, go_sem, *]) rfl ⟨none, 0, by rw [HE.out.1, HE.out.2]; rfl, by rw [HE.out.2]; exact OwnR.nil _ _ _ _, ?_⟩
        repeat' (first | exact HB1.out | (with_reducible refine Below.setCell ?_ ?_ _) | (with_reducible refine Below.alloc ?_ ?_ _) | go_size)
    | nil =>
      have hX : X = L := by simpa using hXY
      subst hX
      have HE := hideP (jC_all hc10.out HF.out)
      obtain ⟨r0, r1, r2, r3, r4⟩ := HR.out
      clear hXY HL hc10 HF
      have HJE := hideP HE.out.2
      generalize hJX : jL (X.map Rq.ct) = JX at *
      clear hJX
      go_wp2
      refine bodyPost_ret (v := .agg #[.int .i64 0, .slice ao1 JX.length cap1]) (by simp [results, Try.results5, go_sem, *]) rfl ⟨ao1, cap1, by rw [HE.out.1, HJE.out], ?_, ?_⟩
      · rw [HJE.out]
        refine OwnR.le (base := w.heap.size + 1) ?_ (by omega)
        repeat (refine OwnR.set ?_ _ _ (by dsimp only; omega))
        exact HO.out
      · repeat' (first | exact HB.out | (with_reducible refine Below.setCell ?_ ?_ _) | go_size)
end Go.Proofs.Ytbceacnadkhdoac
