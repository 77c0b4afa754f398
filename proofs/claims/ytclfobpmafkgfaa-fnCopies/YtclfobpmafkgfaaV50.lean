/- FnCopies: the law's walk. -/
import Derived.Test.YtclfobpmafkgfaaV44
import Derived.Test.YtclfobpmafkgfaaV49
namespace Go.Proofs.Ytclfobpmafkgfaa
open Go.RowKit Go.Maps
set_option linter.unusedVariables false
attribute [local go_sem] growUpon growAt growUponR growAtR
attribute [local go_sem high] fJ0 fJ1 fJ2

set_option maxRecDepth 100000 in
set_option maxHeartbeats 2000000 in
theorem copies_big (w : World) (a : Option Addr) (len cap : Nat) (hl : len ≤ maxLen) (h : 1048576 < len) :
    Calls Try.prog 4 #[.slice a len cap] w fun e w' => e = .returned (.bool true) ∧ Below w.heap.size w w' := by
  have hb := bigF w a len cap hl
  rw [decide_eq_true (by omega : (1048576 : Int) < (len : Int))] at hb
  go_enter Try.func4, Try.ntmps4
  go_wp2_with fail
  refine Calls.mono hb ?_
  rintro e w1 ⟨rfl, rfl⟩
  go_wp2
  go_returns
  exact ⟨rfl, Below.refl _ _⟩

set_option maxRecDepth 100000 in
set_option maxHeartbeats 20000000 in
theorem copies_small (w : World) (a : Option Addr) (len cap : Nat) (f : Nat → Int) (hB : Bytes w w.heap.size a len f) (hlm : len ≤ maxLen) (hl : len ≤ 1048576) :
    Calls Try.prog 4 #[.slice a len cap] w fun e w' => e = .returned (.bool true) ∧ Below w.heap.size w w' := by
  have hb := bigF w a len cap hlm
  rw [decide_eq_false (by omega : ¬ (1048576 : Int) < (len : Int))] at hb
  have HB := hideP hB
  clear hB
  go_enter Try.func4, Try.ntmps4
  go_wp2_with fail
  refine Calls.mono hb ?_
  rintro e w0 ⟨rfl, hw0⟩
  subst w0
  clear hb
  go_wp2_with fail
  refine Calls.mono (drawCopy_any w a len cap f HB.out hl) ?_
  rintro e w1 ⟨so, sc, L, vs, rfl, ⟨id, rx, ry, rp, rh, tx, ty, rfl⟩, hL, hz, k1, WL⟩
  simp only [List.append_toArray, List.singleton_append]
  have ka := kalC w1 (.cells #[.int .i64 rx, .int .i64 ry, .int .i64 rp, .int .i64 rh] 26)
  have Q2 := hideP (qr_new w1 rx ry rp rh 26)
  have L2 := hideP (((WL.keep ka (Nat.le_refl _))).wide (lo' := 0) (Nat.zero_le _) ka.size)
  have K2 := hideP (k1.trans (ka.mono k1.size))
  clear k1 WL ka
  have LS : Hid (L.length + wzs L ≤ 1048576) := hideP (by omega)
  obtain ⟨z, hzd⟩ : ∃ z, copyZ (L.map Wn.ct) id rx ry rp rh tx ty = z := ⟨_, rfl⟩
  have HZ := hideP hzd
  have SF := hideP (fun w1 (l1 : Ws w1 0 w1.heap.size so L) => sCopy_any so sc L id rx ry rp rh tx ty w1 l1 LS.out)
  have IF := hideP (iCopy_any so sc L id rx ry rp rh tx ty _ L2.out LS.out)
  rw [hzd] at SF IF
  clear hzd
  go_wp2_with fail
  generalize w1.alloc (.cells #[.int .i64 rx, .int .i64 ry, .int .i64 rp, .int .i64 rh] 26) = w2 at *
  refine Calls.mono IF.out ?_
  intro e w3 h3
  obtain ⟨s, c, M, rfl, hM, WM, k3⟩ := ansF h3
  have HMl := hideP hM
  have kb := kalC w3 (.cells #[.int .i64 z, .int .i64 0, .slice s M.length c] 30)
  have kk := k3.trans (kb.mono k3.size)
  have F10 : Hid (FS w (w3.alloc (.cells #[.int .i64 z, .int .i64 0, .slice s M.length c] 30)) so s L M w1.heap.size w3.heap.size c rx ry rp rh z 0) := hideP ⟨K2.out.trans (kk.mono K2.out.size), (L2.out.keep kk (Nat.le_refl _)).wide (Nat.le_refl _) kk.size, (WM.keep kb (Nat.le_refl _)).wide (Nat.le_refl _) kb.size, Q2.out.keep kk Q2.out.lt, r3_new w3 _ _ _ _⟩
  clear h3 hM WM k3 kb kk L2 K2 Q2 IF
  obtain ⟨r0, r1, r2, rf, rl⟩ := F10.out.r
  obtain ⟨q0, q1, q2, q3, ql⟩ := F10.out.q
  by_cases hz0 : z = 0
  · subst hz0
    clear q0 q1 q2 q3 ql SF
    obtain ⟨hst0, hrf, hby, -, hask⟩ := copy_ok HZ.out
    have hLp : 0 < L.length := by
      obtain ⟨_, X, r, Y, hf⟩ := askW_ok hask
      rw [hf.eq, List.length_append, List.length_cons]; omega
    have HLP := hideP hLp
    clear hask hLp
    have hfl := copy_len HZ.out
    rw [← HMl.out] at hfl
    simp only [List.length_map] at hfl
    have hne : ((M.length : Int) != (L.length : Int)) = false := by rw [hfl]; simp
    clear hfl
    have hsm : M.length + wzs M ≤ 1048576 := small_copy id rx ry rp rh tx ty LS.out M HMl.out
    have ST := iStack_any 0 (w3.alloc (.cells #[.int .i64 0, .int .i64 0, .slice s M.length c] 30)).heap.size s c M _ F10.out.m (Nat.le_refl _) hsm
    rw [show stF (M.map Wn.ct) = 0 by rw [HMl.out]; exact copy_st HZ.out] at ST
    have HS := hideP hsm
    clear hsm
    have hnear := near_yes hby
    have hrect := rfB_no hrf
    have HRF := hideP hrf
    have HST := hideP hst0
    clear hrf hby hst0
    go_wp2_with fail
    refine Calls.mono ST ?_
    rintro e w11 ⟨rfl, k11⟩
    have F11 := hideP (F10.out.keep k11)
    clear k11 ST F10 r0 r1 r2 rf rl
    generalize w1.heap.size = b5 at *
    generalize w3.heap.size = b7 at *
    have hL13 : (L.length : Int) ≤ 13 := by omega
    have PM := hideP (fun (ri a b : Int) w1 (l1 : Ws w1 0 w1.heap.size s M) => iPoint_any 0 w1.heap.size s c M ri a b w1 l1 (Nat.le_refl _) HS.out)
    have PT := hideP (fun (k : Nat) (hk : k < L.length) (a b : Int) => copy_pt (k := k) (a := a) (b := b) HZ.out (by rw [List.length_map]; exact hk))
    go_wp2
    go_loopw [9] (fun i wr => ∃ k : Nat, k ≤ L.length ∧ i = .int .i64 k ∧ Below w11.heap.size w11 wr) (fun i _ => L.length - (intOf i).toNat)
    case atStart => exact ⟨0, Nat.zero_le _, rfl, Below.refl _ _⟩
    case round =>
      obtain ⟨k, hk, rfl, hbel⟩ := hrel
      have FR := hideP (F11.out.keep hbel)
      have HB1 := hideP hbel
      clear hbel
      by_cases hlt : k < L.length
      · have hlt' : (k : Int) < (L.length : Int) := by omega
        rcases F11.out.l with e | ⟨g, o, rfl, -, hg, hc⟩
        · rw [e] at hlt; simp at hlt
        obtain ⟨r, hr⟩ : ∃ r, L[k] = r := ⟨_, rfl⟩
        have CL := hideP (hc k hlt).1
        have CR := hideP (hc k hlt).2
        have PK := PT.out k hlt
        have WF := wsF_mem (stF_ok HST.out).2 r.ct (by rw [← hr]; exact List.mem_map_of_mem (List.getElem_mem hlt))
        simp only [List.getElem_map] at PK
        rw [hr] at CL CR PK
        obtain ⟨ri, rx2, ry2, pw, ph, rm, ⟨bo, cb, gb, D⟩⟩ := r
        obtain ⟨hwr, hDl, -⟩ := winF_no WF
        obtain ⟨-, -, hpw, hph, -⟩ := wrB_no hwr
        simp only [Wn.ct] at hpw hph PK hDl
        have hD : D.length ≤ 1048576 := by have := area_le hpw hph; omega
        rw [← HMl.out] at PK
        have PK' := hideP PK
        have HD := hideP hD
        obtain ⟨a0, a1, a2, a3, a4, a5, a6⟩ := (CL.out.keep HB1.out hg).seven
        have CRr := hideP (CR.out.keep HB1.out (Nat.le_refl _))
        have hz1 := HB1.out.size
        clear hc PK WF hr hwr hDl hD CR
        have hgl : g < wr.heap.size := Nat.lt_of_lt_of_le hg HB1.out.size
        have kb := kalC wr (.cells #[.int .i64 ri, .int .i64 rx2, .int .i64 ry2, .int .i64 pw, .int .i64 ph, .bool rm, .slice bo D.length cb] 39)
        have CB := hideP (r7_new wr (.int .i64 ri) (.int .i64 rx2) (.int .i64 ry2) (.int .i64 pw) (.int .i64 ph) (.bool rm) (.slice bo D.length cb) 39)
        have FB := hideP (FR.out.keep kb)
        have KB := hideP (HB1.out.trans (kb.mono HB1.out.size))
        have CRb := hideP (CRr.out.keep kb hz1)
        have nB := kb.size
        have hz2 : w11.heap.size ≤ (wr.alloc (.cells #[.int .i64 ri, .int .i64 rx2, .int .i64 ry2, .int .i64 pw, .int .i64 ph, .bool rm, .slice bo D.length cb] 39)).heap.size := Nat.le_trans hz1 nB
        clear kb HB1 FR CRr
        go_wp2
        clear a0 a1 a2 a3 a4 a5 a6 hgl nB
        generalize wr.alloc (.cells #[.int .i64 ri, .int .i64 rx2, .int .i64 ry2, .int .i64 pw, .int .i64 ph, .bool rm, .slice bo D.length cb] 39) = W at *
        generalize wr.heap.size = bw at *
        go_loopw [11] (fun bb wq => ∃ j : Nat, (j : Int) ≤ ph ∧ bb = .int .i64 j ∧ Below W.heap.size W wq) (fun bb _ => (ph - intOf bb).toNat)
        case atStart => exact ⟨0, by omega, rfl, Below.refl _ _⟩
        case round =>
          obtain ⟨j, hj, rfl, hbel⟩ := hrel
          have HB2 := hideP hbel
          clear hbel
          obtain ⟨c0, c1, c2, c3, c4, c5, c6, cf, cl⟩ := CB.out.keep HB2.out CB.out.lt
          by_cases hjl : (j : Int) < ph
          · go_wp2
            clear c0 c1 c2 c3 c4 c5 c6 cf cl
            go_loopw [12] (fun aa wq => ∃ ii : Nat, (ii : Int) ≤ pw ∧ aa = .int .i64 ii ∧ Below W.heap.size W wq) (fun aa _ => (pw - intOf aa).toNat)
            case atStart => exact ⟨0, by omega, rfl, HB2.out⟩
            case round =>
              obtain ⟨ii, hi, rfl, hbel⟩ := hrel
              have HB3 := hideP hbel
              clear hbel HB2
              obtain ⟨c0, c1, c2, c3, c4, c5, c6, cf, cl⟩ := CB.out.keep HB3.out CB.out.lt
              by_cases hil : (ii : Int) < pw
              · have HPK := hideP (PK'.out (ii : Int) (j : Int) (by omega) hil (by omega) hjl)
                have R3' := hideP (CRb.out.keep HB3.out hz2)
                have n3 := Nat.le_trans hz2 HB3.out.size
                have C1 := iCell_any 0 w11.heap.size ri rx2 ry2 pw ph rm bo cb D (ii : Int) (j : Int) wr R3'.out n3 HD.out
                obtain ⟨Z1, hZ1⟩ : ∃ Z, celZ ⟨ri, rx2, ry2, pw, ph, rm, D⟩ (ii : Int) (j : Int) = Z := ⟨_, rfl⟩
                obtain ⟨V1, hV1⟩ : ∃ Z, celV ⟨ri, rx2, ry2, pw, ph, rm, D⟩ (ii : Int) (j : Int) = Z := ⟨_, rfl⟩
                rw [hZ1, hV1] at C1
                have HV1 := hideP hV1
                clear hZ1 hV1
                go_wp2_with fail
                refine Calls.mono C1 ?_
                rintro e w4 ⟨rfl, k4⟩
                have HB4 := hideP (HB3.out.trans (k4.mono HB3.out.size))
                have R4' := hideP (R3'.out.keep k4 n3)
                have n4 := Nat.le_trans n3 k4.size
                clear k4 C1 c0 c1 c2 c3 c4 c5 c6 cf cl HB3 R3'
                obtain ⟨c0, c1, c2, c3, c4, c5, c6, cf, cl⟩ := CB.out.keep HB4.out CB.out.lt
                obtain ⟨q0, q1, q2, q3, ql⟩ := (FB.out.keep HB4.out).q
                have C2 := iCell_any 0 w11.heap.size ri rx2 ry2 pw ph rm bo cb D ((ii : Int) - tx + rx) ((j : Int) - ty + ry) w4 R4'.out n4 HD.out
                obtain ⟨Z2, hZ2⟩ : ∃ Z, celZ ⟨ri, rx2, ry2, pw, ph, rm, D⟩ ((ii : Int) - tx + rx) ((j : Int) - ty + ry) = Z := ⟨_, rfl⟩
                obtain ⟨V2, hV2⟩ : ∃ Z, celV ⟨ri, rx2, ry2, pw, ph, rm, D⟩ ((ii : Int) - tx + rx) ((j : Int) - ty + ry) = Z := ⟨_, rfl⟩
                rw [hZ2, hV2] at C2
                have HZ2 := hideP hZ2
                have HV2 := hideP hV2
                clear hZ2 hV2
                go_wp2_with fail
                refine Calls.mono C2 ?_
                rintro e w5 ⟨rfl, k5⟩
                have kb := kalC w5 (.cells #[.int .i64 Z2, .int .i64 V2] 35)
                have kk := k5.trans (kb.mono k5.size)
                have HB6 := hideP (HB4.out.trans (kk.mono HB4.out.size))
                have B6 := hideP (rb_newT w5 (.int .i64 Z2) (.int .i64 V2) 35)
                clear k5 kb kk C2 c0 c1 c2 c3 c4 c5 c6 cf cl q0 q1 q2 q3 ql HB4 R4' n3 n4
                obtain ⟨c0, c1, c2, c3, c4, c5, c6, cf, cl⟩ := CB.out.keep HB6.out CB.out.lt
                obtain ⟨q0, q1, q2, q3, ql⟩ := (FB.out.keep HB6.out).q
                obtain ⟨d0, d1, df0, df1, dl⟩ := B6.out
                by_cases hid : ri = id
                · have hbe : (ri == id) = true := by simpa using hid
                  have hHid := hideP hid
                  clear hid
                  by_cases hzz : Z2 = 0
                  · have hze : (Z2 == 0) = true := by simpa using hzz
                    have hHz := hideP hzz
                    clear hzz
                    go_wp2_with fail
                    generalize w5.alloc (.cells #[.int .i64 Z2, .int .i64 V2] 35) = w6 at *
                    generalize w5.heap.size = b14 at *
                    refine Calls.mono (lwInF_any rx ry rp rh ((ii : Int) - tx + rx) ((j : Int) - ty + ry) w6 HRF.out) ?_
                    rintro e w7 ⟨rfl, k7⟩
                    have HB5 := hideP (HB6.out.trans (k7.mono HB6.out.size))
                    have B7 := hideP (B6.out.keep k7 B6.out.lt)
                    clear k7 c0 c1 c2 c3 c4 c5 c6 cf cl q0 q1 q2 q3 ql d0 d1 df0 df1 dl HB6 B6
                    cases hin : inB rx ry rp rh ((ii : Int) - tx + rx) ((j : Int) - ty + ry)
                    · have HIN := hideP hin
                      clear hin
                      dsimp only
                      have hv : ptV (M.map Wn.ct) ri (ii : Int) (j : Int) = V1 := HPK.out.trans ((if_neg (fun e => by rw [HIN.out] at e; exact absurd e.2.2 (by decide))).trans HV1.out)
                      have PM5 := PM.out ri (ii : Int) (j : Int) _ (FB.out.keep HB5.out).m
                      rw [hv] at PM5
                      clear hv
                      generalize ptZ (M.map Wn.ct) ri (ii : Int) (j : Int) = Z5 at PM5
                      obtain ⟨c0, c1, c2, c3, c4, c5, c6, cf, cl⟩ := CB.out.keep HB5.out CB.out.lt
                      obtain ⟨r0, r1, r2, rf, rl⟩ := (FB.out.keep HB5.out).r
                      obtain ⟨d0, d1, df0, df1, dl⟩ := B7.out
                      go_wp2_with fail
                      refine Calls.mono PM5 ?_
                      rintro e w8 ⟨rfl, k8⟩
                      have HB8 := hideP (HB5.out.trans (k8.mono HB5.out.size))
                      clear k8 PM5 c0 c1 c2 c3 c4 c5 c6 cf cl r0 r1 r2 rf rl HB5
                      go_wp2
                      go_roundw
                      case rel => exact ⟨ii + 1, by omega, by go_num, HB8.out⟩
                      case measure => simp [intOf]; omega

                    · have HIN := hideP hin
                      clear hin
                      dsimp only
                      have hv : ptV (M.map Wn.ct) ri (ii : Int) (j : Int) = V2 := HPK.out.trans ((if_pos ⟨hHid.out, HZ2.out.trans hHz.out, HIN.out⟩).trans HV2.out)
                      have PM5 := PM.out ri (ii : Int) (j : Int) _ (FB.out.keep HB5.out).m
                      rw [hv] at PM5
                      clear hv
                      generalize ptZ (M.map Wn.ct) ri (ii : Int) (j : Int) = Z5 at PM5
                      obtain ⟨c0, c1, c2, c3, c4, c5, c6, cf, cl⟩ := CB.out.keep HB5.out CB.out.lt
                      obtain ⟨r0, r1, r2, rf, rl⟩ := (FB.out.keep HB5.out).r
                      obtain ⟨d0, d1, df0, df1, dl⟩ := B7.out
                      go_wp2_with fail
                      refine Calls.mono PM5 ?_
                      rintro e w8 ⟨rfl, k8⟩
                      have HB8 := hideP (HB5.out.trans (k8.mono HB5.out.size))
                      clear k8 PM5 c0 c1 c2 c3 c4 c5 c6 cf cl r0 r1 r2 rf rl HB5
                      go_wp2
                      go_roundw
                      case rel => exact ⟨ii + 1, by omega, by go_num, HB8.out⟩
                      case measure => simp [intOf]; omega

                  · have hze : (Z2 == 0) = false := by simpa using hzz
                    have hHz := hideP hzz
                    clear hzz
                    have HB5 := HB6
                    clear c0 c1 c2 c3 c4 c5 c6 cf cl
                    have hv : ptV (M.map Wn.ct) ri (ii : Int) (j : Int) = V1 := HPK.out.trans ((if_neg (fun e => hHz.out (HZ2.out.symm.trans e.2.1))).trans HV1.out)
                    have PM5 := PM.out ri (ii : Int) (j : Int) _ (FB.out.keep HB5.out).m
                    rw [hv] at PM5
                    clear hv
                    generalize ptZ (M.map Wn.ct) ri (ii : Int) (j : Int) = Z5 at PM5
                    obtain ⟨c0, c1, c2, c3, c4, c5, c6, cf, cl⟩ := CB.out.keep HB5.out CB.out.lt
                    obtain ⟨r0, r1, r2, rf, rl⟩ := (FB.out.keep HB5.out).r
                    go_wp2_with fail
                    refine Calls.mono PM5 ?_
                    rintro e w8 ⟨rfl, k8⟩
                    have HB8 := hideP (HB5.out.trans (k8.mono HB5.out.size))
                    clear k8 PM5 c0 c1 c2 c3 c4 c5 c6 cf cl r0 r1 r2 rf rl HB5
                    go_wp2
                    go_roundw
                    case rel => exact ⟨ii + 1, by omega, by go_num, HB8.out⟩
                    case measure => simp [intOf]; omega

                · have hbe : (ri == id) = false := by simpa using hid
                  have hHid := hideP hid
                  clear hid
                  have HB5 := HB6
                  clear c0 c1 c2 c3 c4 c5 c6 cf cl
                  have hv : ptV (M.map Wn.ct) ri (ii : Int) (j : Int) = V1 := HPK.out.trans ((if_neg (fun e => hHid.out e.1)).trans HV1.out)
                  have PM5 := PM.out ri (ii : Int) (j : Int) _ (FB.out.keep HB5.out).m
                  rw [hv] at PM5
                  clear hv
                  generalize ptZ (M.map Wn.ct) ri (ii : Int) (j : Int) = Z5 at PM5
                  obtain ⟨c0, c1, c2, c3, c4, c5, c6, cf, cl⟩ := CB.out.keep HB5.out CB.out.lt
                  obtain ⟨r0, r1, r2, rf, rl⟩ := (FB.out.keep HB5.out).r
                  go_wp2_with fail
                  refine Calls.mono PM5 ?_
                  rintro e w8 ⟨rfl, k8⟩
                  have HB8 := hideP (HB5.out.trans (k8.mono HB5.out.size))
                  clear k8 PM5 c0 c1 c2 c3 c4 c5 c6 cf cl r0 r1 r2 rf rl HB5
                  go_wp2
                  go_roundw
                  case rel => exact ⟨ii + 1, by omega, by go_num, HB8.out⟩
                  case measure => simp [intOf]; omega

              · go_wp2
                go_roundw
                case rel => exact ⟨j + 1, by omega, by go_num, HB3.out⟩
                case measure => simp [intOf]; omega
          · go_wp2
            go_roundw
            case rel => exact ⟨k + 1, by omega, by go_num, KB.out.trans (HB2.out.mono hz2)⟩
            case measure => simp [intOf]; omega
      · go_wp2
        go_returns
        exact ⟨by show Ending.returned (Value.bool (decide (0 < L.length))) = _; rw [decide_eq_true HLP.out], FR.out.k⟩
  · have hz1 : (z != 0) = true := by simpa using hz0
    go_wp2
    generalize w1.heap.size = b5 at *
    generalize w3.alloc (.cells #[.int .i64 z, .int .i64 0, .slice s M.length c] 30) = w4 at *
    generalize w3.heap.size = b7 at *
    refine wp_region_plan (R := Kept) (G := Kept) rel_keptA rel_keptA (fun h => h) 9 [(true, 0), (true, 1), (true, 2), (true, 3), (true, 4), (true, 7), (true, 8), (false, 5), (true, 6)] (by kernel_rfl) (by kernel_rfl) ?_
    simp only [selP, List.filterMap_cons, List.filterMap_nil, List.getElem?_cons_succ, List.getElem?_cons_zero, Option.map_some]
    repeat (refine plan_take _ (by first | exact wanted_free rfl | exact wanted_yes rfl rfl | exact wanted_no rfl rfl) (by first | with_reducible rfl | decide) ?_; apply Exists.intro; refine ⟨fun w' k1 => ?_, fun K hK => ?_⟩; (focus (have hc := Kept.cell k1; go_simp; first | done | rfl)); (go_simp; refine hK _ ?_; clear hK K))
    refine plan_made _ (by first | exact wanted_free rfl | exact wanted_yes rfl rfl | exact wanted_no rfl rfl) (by first | with_reducible rfl | decide) fun v5 j5 => ?_
    have jj5 := Kept.below j5
    refine made_callsR (by go_simp; first | done | rfl) ((SF.out v5 ((F10.out.l.keep jj5 (Nat.le_refl _)).wide (Nat.le_refl _) jj5.size)).mono ?_)
    intro e v6 h6
    obtain ⟨s6, c6, M6, rfl, -, -, k6⟩ := ansF h6
    have F6 := hideP (F10.out.keep (jj5.trans (k6.mono jj5.size)))
    refine ⟨_, rfl, k6, fun K hK => ?_⟩
    go_simp
    refine hK _ ?_
    clear hK K h6 k6 jj5 j5 r0 r1 r2 rf rl q0 q1 q2 q3 ql
    repeat (refine plan_take _ (by first | exact wanted_free rfl | exact wanted_yes rfl rfl | exact wanted_no rfl rfl) (by first | with_reducible rfl | decide) ?_; apply Exists.intro; refine ⟨fun w' k1 => ?_, fun K hK => ?_⟩; (focus (have hc := Kept.cell k1; go_simp; first | done | rfl)); (go_simp; refine hK _ ?_; clear hK K))
    refine plan_nil fun w7 k7 => ?_
    try simp only [List.drop_succ_cons, List.drop_zero]
    have F7 := hideP (F6.out.keep (Kept.below k7))
    clear F6 F10 k7
    go_wp2
    go_returns
    exact ⟨rfl, F7.out.k⟩

theorem copies_law (a : Option Addr) (len cap : Nat) (zs : List Int) (w : World) (h : IsRow .u8 w a len cap zs) :
    Calls Try.prog 4 #[.slice a len cap] w fun e w' => e = .returned (.bool true) ∧ Below w.heap.size w w' := by
  have hm : len ≤ maxLen := by
    rcases h with ⟨_, h, _⟩ | ⟨x, _, h1, h2, _⟩
    · rw [h]; exact Nat.zero_le _
    · omega
  by_cases hl : len ≤ 1048576
  · exact copies_small w a len cap _ h.bytes hm hl
  · exact copies_big w a len cap hm (by omega)
end Go.Proofs.Ytclfobpmafkgfaa
