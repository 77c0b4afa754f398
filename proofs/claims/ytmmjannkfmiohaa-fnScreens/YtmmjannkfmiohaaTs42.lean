/- ScreenOf by the specification, at every argument; the program's faults. -/
import Derived.Test.YtmmjannkfmiohaaTs41
import Derived.Test.YtmmjannkfmiohaaTs14
import Derived.Test.YtmmjannkfmiohaaTs15
namespace Go.Proofs.Ytmmjannkfmiohaa
open Go.RowKit Go.Maps
set_option linter.unusedVariables false

theorem rb_new0 (w : World) (c : Int) (s : Value) (T : TypeId) : Rb (w.alloc (.cells #[.int .i64 c, s] T)) w.heap.size (.int .i64 c) s := ⟨by simp, by simp, by simp, by simp, by simp⟩

set_option maxRecDepth 100000 in
set_option maxHeartbeats 4000000 in
theorem sScreen_any (so : Option Addr) (sc : Nat) (L : List Wn) (la : Option Addr) (lc : Nat) (LL : List La) (ao : Option Addr) (ac : Nat) (A : List Int) (w : World) (hL : Ws w 0 w.heap.size so L) (hn : L.length + wzs L ≤ 1048576) (hA : Las w 0 w.heap.size la LL) (hl : LL.length ≤ 1048576) (hR : Row .i64 w 0 w.heap.size ao A) (ha : A.length ≤ 1048576) :
    Calls Try.prog 13 #[.slice so L.length sc, .slice la LL.length lc, .slice ao A.length ac] w (IsA w (scrZ (L.map Wn.ct) LL A) (scrL (L.map Wn.ct) LL A)) := by
  have SF := fun w1 (kk : Below w.heap.size w w1) => l7F_any 0 w.heap.size so sc L w1 (hL.keep kk (Nat.le_refl _)) kk.size hn
  have LF := fun w1 (kk : Below w.heap.size w w1) => sLabels_any 0 w.heap.size la lc LL w1 (hA.keep kk (Nat.le_refl _)) kk.size hl
  have AL := hideP (fun w1 (kk : Below w.heap.size w w1) => all9_any 0 999 0 w.heap.size ao ac A w1 (hR.keep kk (Nat.le_refl _)) kk.size ha)
  have ha' : (A.length : Int) ≤ 1048576 := by omega
  have k0 := hideP (kal5 w (.cells #[.int .i64 0, .slice none 0 0] 30))
  have X0 := hideP (rb_new0 w 0 (.slice none 0 0) 30)
  by_cases h1 : stF (L.map Wn.ct) = 0
  · rw [h1] at SF
    have SF' := hideP SF
    by_cases h2 : laF LL = 0
    · rw [h2] at LF
      have LF' := hideP LF
      by_cases h3 : A.length = 12
      · have h3' : ((A.length : Int) != 12) = false := by simp; omega
        cases h4 : A.all (btw 0 999)
        · have hz := scrZ_bad h1 h2 h3 h4
          rw [scrL_no (by rw [hz]; decide), hz]
          have H4 := hideP h4
          clear h1 h2 h3 h4 hz SF LF hL hA hR
          go_enter Try.func13, Try.ntmps13
          go_wp2_with fail
          refine Calls.mono (SF'.out _ k0.out) ?_
          rintro e w1 ⟨rfl, k1⟩
          have K1 := hideP (k0.out.trans (k1.mono k0.out.size))
          have X1 := hideP (X0.out.keep k1 X0.out.lt)
          clear k1
          go_wp2_with fail
          refine Calls.mono (LF'.out _ K1.out) ?_
          rintro e w2 ⟨rfl, k2⟩
          have K2 := hideP (K1.out.trans (k2.mono K1.out.size))
          obtain ⟨x0, x1, x2, x3, x4⟩ := X1.out.keep k2 X1.out.lt
          clear k2
          go_wp2_with (go_at_call 37; refine Calls.mono (AL.out _ K2.out) ?_; rintro e w3 ⟨rfl, rfl⟩; rw [H4.out])
          exact bodyPost_ret (v := .agg #[.int .i64 3, .slice none 0 0]) (by simp [results, Try.results13, go_sem, *]; done) rfl (IsA.nil w 3 rfl ((K2.out.setCell (p := ⟨w.heap.size, 0, none⟩) (Nat.le_refl _) _).setCell (p := ⟨w.heap.size, 1, none⟩) (Nat.le_refl _) _))
        · have hz := scrZ_ok h1 h2 h3 h4
          rw [scrL_yes hz, hz]
          have H4 := hideP h4
          have H96 := hideP (scrC_len (C := L.map Wn.ct) (LL := LL) h3)
          have SS := hideP (fun w1 (kk : Below w.heap.size w w1) => screen9_any so sc L la lc LL ao ac A w1 ((hL.keep kk (Nat.le_refl _)).wide (Nat.le_refl _) kk.size) (by omega) h1 h2 ((hA.keep kk (Nat.le_refl _)).wide (Nat.le_refl _) kk.size) ((hR.keep kk (Nat.le_refl _)).wide (Nat.le_refl _) kk.size) h3)
          clear h1 h2 h3 h4 hz SF LF hL hA hR
          go_enter Try.func13, Try.ntmps13
          go_wp2_with fail
          refine Calls.mono (SF'.out _ k0.out) ?_
          rintro e w1 ⟨rfl, k1⟩
          have K1 := hideP (k0.out.trans (k1.mono k0.out.size))
          have X1 := hideP (X0.out.keep k1 X0.out.lt)
          clear k1
          go_wp2_with fail
          refine Calls.mono (LF'.out _ K1.out) ?_
          rintro e w2 ⟨rfl, k2⟩
          have K2 := hideP (K1.out.trans (k2.mono K1.out.size))
          have X2 := hideP (X1.out.keep k2 X1.out.lt)
          clear k2
          go_wp2_with (first | (go_at_call 37; refine Calls.mono (AL.out _ K2.out) ?_; rintro e w3 ⟨rfl, rfl⟩; rw [H4.out]) | fail)
          refine Calls.mono (SS.out _ K2.out) ?_
          rintro e w4 ⟨s4, c4, rfl, O4, k4⟩
          have hO := hideP O4
          have n2 := X2.out.lt
          have K4 := hideP (K2.out.trans (k4.mono K2.out.size))
          obtain ⟨x0, x1, x2, x3, x4⟩ := X2.out.keep k4 X2.out.lt
          clear k4 O4
          go_wp2
          refine bodyPost_ret (v := .agg #[.int .i64 0, .slice s4 96 c4]) (by simp [results, Try.results13, go_sem, *]; done) rfl ⟨s4, c4, by rw [H96.out], ?_, (K4.out.setCell (p := ⟨w.heap.size, 0, none⟩) (Nat.le_refl _) _).setCell (p := ⟨w.heap.size, 1, none⟩) (Nat.le_refl _) _⟩
          exact ((hO.out.set ⟨w.heap.size, 0, none⟩ _ n2).set ⟨w.heap.size, 1, none⟩ _ n2).le (by omega)
      · have h3' : ((A.length : Int) != 12) = true := by simp; omega
        have hz := scrZ_len h1 h2 h3
        rw [scrL_no (by rw [hz]; decide), hz]
        clear h1 h2 h3 hz SF LF hL hA hR
        go_enter Try.func13, Try.ntmps13
        go_wp2_with fail
        refine Calls.mono (SF'.out _ k0.out) ?_
        rintro e w1 ⟨rfl, k1⟩
        have K1 := hideP (k0.out.trans (k1.mono k0.out.size))
        have X1 := hideP (X0.out.keep k1 X0.out.lt)
        clear k1
        go_wp2_with fail
        refine Calls.mono (LF'.out _ K1.out) ?_
        rintro e w2 ⟨rfl, k2⟩
        have K2 := hideP (K1.out.trans (k2.mono K1.out.size))
        obtain ⟨x0, x1, x2, x3, x4⟩ := X1.out.keep k2 X1.out.lt
        clear k2
        go_wp2
        exact bodyPost_ret (v := .agg #[.int .i64 2, .slice none 0 0]) (by simp [results, Try.results13, go_sem, *]; done) rfl (IsA.nil w 2 rfl ((K2.out.setCell (p := ⟨w.heap.size, 0, none⟩) (Nat.le_refl _) _).setCell (p := ⟨w.heap.size, 1, none⟩) (Nat.le_refl _) _))
    · have hz := scrZ_la (A := A) h1 h2
      rw [scrL_no (by rw [hz]; exact h2), hz]
      obtain ⟨F, hF⟩ : ∃ F, laF LL = F := ⟨_, rfl⟩
      rw [hF] at LF h2 ⊢
      have hne' : (F != 0) = true := by simpa using h2
      have LF' := hideP LF
      clear h1 h2 hz SF LF hL hA hR hF
      go_enter Try.func13, Try.ntmps13
      go_wp2_with fail
      refine Calls.mono (SF'.out _ k0.out) ?_
      rintro e w1 ⟨rfl, k1⟩
      have K1 := hideP (k0.out.trans (k1.mono k0.out.size))
      have X1 := hideP (X0.out.keep k1 X0.out.lt)
      clear k1
      go_wp2_with fail
      refine Calls.mono (LF'.out _ K1.out) ?_
      rintro e w2 ⟨rfl, k2⟩
      have K2 := hideP (K1.out.trans (k2.mono K1.out.size))
      obtain ⟨x0, x1, x2, x3, x4⟩ := X1.out.keep k2 X1.out.lt
      clear k2
      go_wp2
      exact bodyPost_ret (v := .agg #[.int .i64 F, .slice none 0 0]) (by simp [results, Try.results13, go_sem, *]; done) rfl (IsA.nil w F rfl ((K2.out.setCell (p := ⟨w.heap.size, 0, none⟩) (Nat.le_refl _) _).setCell (p := ⟨w.heap.size, 1, none⟩) (Nat.le_refl _) _))
  · have hz := scrZ_st (LL := LL) (A := A) h1
    rw [scrL_no (by rw [hz]; exact h1), hz]
    obtain ⟨F, hF⟩ : ∃ F, stF (L.map Wn.ct) = F := ⟨_, rfl⟩
    rw [hF] at SF h1 ⊢
    have hne' : (F != 0) = true := by simpa using h1
    have SF' := hideP SF
    clear h1 hz SF LF hL hA hR hF
    go_enter Try.func13, Try.ntmps13
    go_wp2_with fail
    refine Calls.mono (SF'.out _ k0.out) ?_
    rintro e w1 ⟨rfl, k1⟩
    have K1 := hideP (k0.out.trans (k1.mono k0.out.size))
    obtain ⟨x0, x1, x2, x3, x4⟩ := X0.out.keep k1 X0.out.lt
    clear k1
    go_wp2
    exact bodyPost_ret (v := .agg #[.int .i64 F, .slice none 0 0]) (by simp [results, Try.results13, go_sem, *]; done) rfl (IsA.nil w F rfl ((K1.out.setCell (p := ⟨w.heap.size, 0, none⟩) (Nat.le_refl _) _).setCell (p := ⟨w.heap.size, 1, none⟩) (Nat.le_refl _) _))

def strF (A : List Int) : Int := if A.length = 12 then (if A.all (btw 0 999) then 0 else 3) else 2

set_option maxHeartbeats 2000000 in
theorem iStripF_any (lo hi : Nat) (ao : Option Addr) (ca : Nat) (D : List Int) (w : World) (hR : Row .i64 w lo hi ao D) (hs : hi ≤ w.heap.size) (hl : D.length ≤ 1048576) :
    Calls Try.prog 46 #[.slice ao D.length ca] w fun e w' => e = .returned (.int .i64 (strF D)) ∧ Below w.heap.size w w' := by
  have hl' : (D.length : Int) ≤ 1048576 := by omega
  have HR := hideP hR
  clear hR
  by_cases h12 : D.length = 12
  · have h3' : ((D.length : Int) != 12) = false := by simp; omega
    have HS : Hid (strF D = if D.all (btw 0 999) then 0 else 3) := hideP (by unfold strF; rw [if_pos h12])
    clear h12
    go_enter Try.func46, Try.ntmps46
    go_wp2
    go_loop [10] (fun i => ∃ j : Nat, j ≤ D.length ∧ i = .int .i64 j ∧ (D.take j).all (btw 0 999) = true) (fun i => D.length - (intOf i).toNat)
    case atStart => exact ⟨0, Nat.zero_le _, rfl, rfl⟩
    case round =>
      obtain ⟨j, hj, rfl, hall⟩ := hrel
      by_cases hlt : j < D.length
      · have hlt' : (j : Int) < (D.length : Int) := by omega
        have hne' : D ≠ [] := fun e => by rw [e] at hlt; simp at hlt
        rcases HR.out with e | ⟨g, o, rfl, _, hg, hc⟩
        · exact absurd e hne'
        have a0 := hc j hlt
        have hgl : g < w.heap.size := by omega
        have HBad := hideP (all_off (f := btw 0 999) hlt)
        have HOn := hideP (all_on (f := btw 0 999) hlt hall)
        clear hc hall HR hne'
        generalize D[j] = z at *
        cases hz : btw 0 999 z
        · have hF := hideP (HBad.out hz)
          rcases btw_no hz with hn | hn
          · clear HBad HOn hz
            go_wp2
            go_returns
            exact ⟨by rw [HS.out, hF.out]; rfl, Below.refl _ _⟩
          · have hn0 : 0 ≤ z := by omega
            clear HBad HOn hz
            go_wp2
            go_returns
            exact ⟨by rw [HS.out, hF.out]; rfl, Below.refl _ _⟩
        · have hO := hideP (HOn.out hz)
          obtain ⟨hn1, hn2⟩ := btw_yes hz
          clear HBad HOn hz
          go_wp2
          go_round
          case rel => exact ⟨j + 1, by omega, by go_num, hO.out⟩
          case measure => simp [intOf]; omega
      · obtain rfl : j = D.length := by omega
        rw [List.take_length] at hall
        have hF := hideP hall
        clear hall
        go_wp2
        go_returns
        exact ⟨by rw [HS.out, hF.out]; rfl, Below.refl _ _⟩
  · have h3' : ((D.length : Int) != 12) = true := by simp; omega
    have HS : Hid (strF D = 2) := hideP (by unfold strF; rw [if_neg h12])
    go_enter Try.func46, Try.ntmps46
    go_wp2
    go_returns
    exact ⟨by rw [HS.out]; rfl, Below.refl _ _⟩

theorem scrZ_str {C : List Wc} {LL : List La} {A : List Int} (h : stF C = 0) (h2 : laF LL = 0) : scrZ C LL A = strF A := by unfold scrZ strF; rw [if_pos h, if_pos h2]

set_option maxHeartbeats 2000000 in
theorem fos9_any (so : Option Addr) (sc : Nat) (L : List Wn) (la : Option Addr) (lc : Nat) (LL : List La) (ao : Option Addr) (ac : Nat) (A : List Int) (W0 w : World) (hk : Below W0.heap.size W0 w) (hL : Ws W0 0 W0.heap.size so L) (hn : L.length + wzs L ≤ 1048576) (hA : Las W0 0 W0.heap.size la LL) (hl : LL.length ≤ 1048576) (hR : Row .i64 W0 0 W0.heap.size ao A) (ha : A.length ≤ 1048576) :
    Calls Try.prog 24 #[.slice so L.length sc, .slice la LL.length lc, .slice ao A.length ac] w fun e w' => e = .returned (.int .i64 (scrZ (L.map Wn.ct) LL A)) ∧ Below w.heap.size w w' := by
  have SF := fun w1 (kk : Below w.heap.size w w1) => iStack_any 0 W0.heap.size so sc L w1 (hL.keep (hk.trans (kk.mono hk.size)) (Nat.le_refl _)) (Nat.le_trans hk.size kk.size) hn
  have LF := fun w1 (kk : Below w.heap.size w w1) => iLabels_any 0 W0.heap.size la lc LL w1 (hA.keep (hk.trans (kk.mono hk.size)) (Nat.le_refl _)) (Nat.le_trans hk.size kk.size) hl
  have TF := hideP (fun w1 (kk : Below w.heap.size w w1) => iStripF_any 0 W0.heap.size ao ac A w1 (hR.keep (hk.trans (kk.mono hk.size)) (Nat.le_refl _)) (Nat.le_trans hk.size kk.size) ha)
  by_cases h1 : stF (L.map Wn.ct) = 0
  · rw [h1] at SF
    have SF' := hideP SF
    by_cases h2 : laF LL = 0
    · rw [h2] at LF
      rw [scrZ_str h1 h2]
      have LF' := hideP LF
      clear h1 h2 SF LF hL hA hR
      go_enter Try.func24, Try.ntmps24
      go_wp2_with fail
      refine Calls.mono (SF'.out _ (Below.refl _ _)) ?_
      rintro e w1 ⟨rfl, k1⟩
      have K1 := hideP k1
      clear k1
      go_wp2_with fail
      refine Calls.mono (LF'.out _ K1.out) ?_
      rintro e w2 ⟨rfl, k2⟩
      have K2 := hideP (K1.out.trans (k2.mono K1.out.size))
      clear k2
      go_wp2_with fail
      refine Calls.mono (TF.out _ K2.out) ?_
      rintro e w3 ⟨rfl, k3⟩
      have K3 := hideP (K2.out.trans (k3.mono K2.out.size))
      clear k3
      go_wp2
      go_returns
      exact ⟨rfl, K3.out⟩
    · rw [scrZ_la h1 h2]
      obtain ⟨F, hF⟩ : ∃ F, laF LL = F := ⟨_, rfl⟩
      rw [hF] at LF h2 ⊢
      have hne' : (F != 0) = true := by simpa using h2
      have LF' := hideP LF
      clear h1 h2 SF LF hL hA hR hF
      go_enter Try.func24, Try.ntmps24
      go_wp2_with fail
      refine Calls.mono (SF'.out _ (Below.refl _ _)) ?_
      rintro e w1 ⟨rfl, k1⟩
      have K1 := hideP k1
      clear k1
      go_wp2_with fail
      refine Calls.mono (LF'.out _ K1.out) ?_
      rintro e w2 ⟨rfl, k2⟩
      have K2 := hideP (K1.out.trans (k2.mono K1.out.size))
      clear k2
      go_wp2
      go_returns
      exact ⟨rfl, K2.out⟩
  · rw [scrZ_st h1]
    obtain ⟨F, hF⟩ : ∃ F, stF (L.map Wn.ct) = F := ⟨_, rfl⟩
    rw [hF] at SF h1 ⊢
    have hne' : (F != 0) = true := by simpa using h1
    have SF' := hideP SF
    clear h1 SF LF hL hA hR hF
    go_enter Try.func24, Try.ntmps24
    go_wp2_with fail
    refine Calls.mono (SF'.out _ (Below.refl _ _)) ?_
    rintro e w1 ⟨rfl, k1⟩
    have K1 := hideP k1
    clear k1
    go_wp2
    go_returns
    exact ⟨rfl, K1.out⟩
end Go.Proofs.Ytmmjannkfmiohaa
