/- FnFills: the law's walk. -/
import Derived.Test.YtclfobpmafkgfaaU49
namespace Go.Proofs.Ytclfobpmafkgfaa
open Go.RowKit Go.Maps
set_option linter.unusedVariables false
attribute [local go_sem] growUpon growAt growUponR growAtR
attribute [local go_sem high] fJ0 fJ1 fJ2

set_option maxRecDepth 100000 in
set_option maxHeartbeats 20000000 in
theorem fills_small (w : World) (a : Option Addr) (len cap : Nat) (f : Nat → Int) (hB : Bytes w w.heap.size a len f) (hlm : len ≤ maxLen) (hl : len ≤ 1048576) :
    Calls Try.prog 3 #[.slice a len cap] w fun e w' => e = .returned (.bool true) ∧ Below w.heap.size w w' := by
  have hb := bigF w a len cap hlm
  rw [decide_eq_false (by omega : ¬ (1048576 : Int) < (len : Int))] at hb
  have HB := hideP hB
  clear hB
  go_enter Try.func3, Try.ntmps3
  go_wp2_with fail
  refine Calls.mono hb ?_
  rintro e w0 ⟨rfl, hw0⟩
  subst w0
  clear hb
  go_wp2_with fail
  refine Calls.mono (drawFill_any w a len cap f HB.out hl) ?_
  rintro e w1 ⟨so, sc, L, vs, rfl, ⟨id, rx, ry, rp, rh, col, rfl⟩, hL, hz, k1, WL⟩
  simp only [List.append_toArray, List.singleton_append]
  have ka := kalC w1 (.cells #[.int .i64 rx, .int .i64 ry, .int .i64 rp, .int .i64 rh] 26)
  have Q2 := hideP (qr_new w1 rx ry rp rh 26)
  have L2 := hideP (((WL.keep ka (Nat.le_refl _))).wide (lo' := 0) (Nat.zero_le _) ka.size)
  have K2 := hideP (k1.trans (ka.mono k1.size))
  clear k1 WL ka
  have LS : Hid (L.length + wzs L ≤ 1048576) := hideP (by omega)
  obtain ⟨z, hzd⟩ : ∃ z, fillZ (L.map Wn.ct) id rx ry rp rh col = z := ⟨_, rfl⟩
  have HZ := hideP hzd
  have SF := hideP (fun w1 (l1 : Ws w1 0 w1.heap.size so L) => sFill_any so sc L id rx ry rp rh col w1 l1 LS.out)
  have IF := hideP (iFill_any so sc L id rx ry rp rh col _ L2.out LS.out)
  rw [hzd] at SF IF
  clear hzd
  go_wp2_with fail
  generalize w1.alloc (.cells #[.int .i64 rx, .int .i64 ry, .int .i64 rp, .int .i64 rh] 26) = w2 at *
  refine Calls.mono IF.out ?_
  intro e w3 h3
  obtain ⟨s, c, M, rfl, hM, WM, k3⟩ := ansF h3
  have HMl := hideP hM
  have kb := kalC w3 (.cells #[.int .i64 z, .int .i64 0, .slice s M.length c] 30)
  have kk := k3.trans (kb.mono k3.size)
  have F4 : Hid (FS w (w3.alloc (.cells #[.int .i64 z, .int .i64 0, .slice s M.length c] 30)) so s L M w1.heap.size w3.heap.size c rx ry rp rh z 0) := hideP ⟨K2.out.trans (kk.mono K2.out.size), (L2.out.keep kk (Nat.le_refl _)).wide (Nat.le_refl _) kk.size, (WM.keep kb (Nat.le_refl _)).wide (Nat.le_refl _) kb.size, Q2.out.keep kk Q2.out.lt, r3_new w3 _ _ _ _⟩
  clear h3 hM WM k3 kb kk L2 K2 Q2 IF
  go_wp2_with fail
  generalize w1.heap.size = b5 at *
  generalize w3.alloc (.cells #[.int .i64 z, .int .i64 0, .slice s M.length c] 30) = w4 at *
  generalize w3.heap.size = b7 at *
  refine Calls.mono (drawPoint_any w4 a len cap f (HB.out.upF F4.out.k) hl) ?_
  rintro e w5 ⟨so2, sc2, L2, vs, rfl, ⟨n, x, y, rfl⟩, hL2, hz2, k5, WL⟩
  simp only [List.append_toArray, List.singleton_append]
  have F5 := hideP (F4.out.keep k5)
  have P5 := hideP (WL.wide (lo' := 0) (Nat.zero_le _) (Nat.le_refl _))
  have LS2 : Hid (L2.length + wzs L2 ≤ 1048576) := hideP (by omega)
  have SP := hideP (fun w1 (l1 : Ws w1 0 w5.heap.size so2 L2) (hs : w5.heap.size ≤ w1.heap.size) => sPoint_any 0 w5.heap.size so2 sc2 L2 n x y w1 l1 hs LS2.out)
  have IP := hideP (iPoint_any 0 w5.heap.size so2 sc2 L2 n x y w5 P5.out (Nat.le_refl _) LS2.out)
  obtain ⟨z1, hz1⟩ : ∃ z, ptZ (L2.map Wn.ct) n x y = z := ⟨_, rfl⟩
  obtain ⟨v1, hv1⟩ : ∃ z, ptV (L2.map Wn.ct) n x y = z := ⟨_, rfl⟩
  rw [hz1, hv1] at SP IP
  clear hz1 hv1 k5 WL F4
  go_wp2_with fail
  refine Calls.mono IP.out ?_
  rintro e w6 ⟨rfl, k6⟩
  have kb := kalC w6 (.cells #[.int .i64 z1, .int .i64 v1] 35)
  have kk := k6.trans (kb.mono k6.size)
  have F7 := hideP (F5.out.keep kk)
  have P7 := hideP (P5.out.keep kk (Nat.le_refl _))
  have h57 := kk.size
  have B7 := hideP (rb_newT w6 (.int .i64 z1) (.int .i64 v1) 35)
  clear kk kb k6 F5 IP P5
  go_wp2_with fail
  generalize w6.alloc (.cells #[.int .i64 z1, .int .i64 v1] 35) = w7 at *
  generalize w6.heap.size = b12 at *
  refine Calls.mono (drawCell_any w7 a len cap f (HB.out.upF F7.out.k) hl) ?_
  rintro e w8 ⟨i, cx0, cy0, p, h, m, ao, ca, D, cx, cy, rfl, hD, k8, WR⟩
  have kb := kalC w8 (.cells #[.int .i64 i, .int .i64 cx0, .int .i64 cy0, .int .i64 p, .int .i64 h, .bool m, .slice ao D.length ca] 39)
  have kk := k8.trans (kb.mono k8.size)
  have F9 := hideP (F7.out.keep kk)
  have P9 := hideP (P7.out.keep kk h57)
  have B9 := hideP (B7.out.keep kk B7.out.lt)
  have C9 := hideP (r7_new w8 (.int .i64 i) (.int .i64 cx0) (.int .i64 cy0) (.int .i64 p) (.int .i64 h) (.bool m) (.slice ao D.length ca) 39)
  have R9 := hideP ((WR.wide (lo' := 0) (Nat.zero_le _) (Nat.le_refl _)).keep kb (Nat.le_refl _))
  have h89 := kb.size
  have h59 : w5.heap.size ≤ (w8.alloc (.cells #[.int .i64 i, .int .i64 cx0, .int .i64 cy0, .int .i64 p, .int .i64 h, .bool m, .slice ao D.length ca] 39)).heap.size := Nat.le_trans h57 kk.size
  have IC := hideP (fun w1 (r1 : Row .i64 w1 0 w8.heap.size ao D) (hs : w8.heap.size ≤ w1.heap.size) => iCell_any 0 w8.heap.size i cx0 cy0 p h m ao ca D cx cy w1 r1 hs (by omega))
  have SC := hideP (fun w1 (r1 : Row .i64 w1 0 w8.heap.size ao D) (hs : w8.heap.size ≤ w1.heap.size) => sCell_any 0 w8.heap.size i cx0 cy0 p h m ao ca D cx cy w1 r1 hs (by omega))
  obtain ⟨z2, hz2⟩ : ∃ z, celZ ⟨i, cx0, cy0, p, h, m, D⟩ cx cy = z := ⟨_, rfl⟩
  obtain ⟨v2, hv2⟩ : ∃ z, celV ⟨i, cx0, cy0, p, h, m, D⟩ cx cy = z := ⟨_, rfl⟩
  rw [hz2, hv2] at SC IC
  clear hz2 hv2 kk kb k8 WR P7 B7 h57 hD F7
  go_wp2
  have hb12 := B9.out.lt
  have hb13 := C9.out.lt
  obtain ⟨b0, b1, bf0, bf1, bl⟩ := B9.out
  obtain ⟨c0, c1, c2, c3, c4, c5, c6, cf, cl⟩ := C9.out
  generalize w8.alloc (.cells #[.int .i64 i, .int .i64 cx0, .int .i64 cy0, .int .i64 p, .int .i64 h, .bool m, .slice ao D.length ca] 39) = w9 at *
  have SP9 := hideP (fun w1 (kk : Kept w9 w1) => SP.out w1 (P9.out.keep (Kept.below kk) h59) (Nat.le_trans h59 (Kept.below kk).size))
  have IC9 := hideP (fun w1 (kk : Kept w9 w1) => IC.out w1 (R9.out.keep (Kept.below kk) h89) (Nat.le_trans h89 (Kept.below kk).size))
  have SC9 := hideP (fun w1 (kk : Kept w9 w1) => SC.out w1 (R9.out.keep (Kept.below kk) h89) (Nat.le_trans h89 (Kept.below kk).size))
  clear SP IC SC P9 R9 B9 C9
  generalize w8.heap.size = b13 at *
  rename_i Ka aa Kb ab
  have AA := hideP aa
  have AB := hideP ab
  clear aa ab
  refine wp_region_wq (by kernel_rfl) (by kernel_rfl) ?_
  repeat (first | (refine wq_up _ (by first | exact wanted_free rfl | exact wanted_yes rfl rfl | exact wanted_no rfl rfl | exact wanted_lost rfl rfl) (by first | with_reducible rfl | decide) ?_; apply Exists.intro; refine ⟨fun w1 k1 => ?_, fun K hK => ?_⟩; (focus (have hc := Kept.cell k1; go_simp; first | done | rfl | (go_at_call 15; exact kept_call k1 (SP9.out _ k1)) | (go_at_call 16; exact kept_call k1 (IC9.out _ k1)) | (go_at_call 17; exact kept_call k1 (SC9.out _ k1)))); (go_simp; refine hK _ ?_; clear hK K)) | (refine wq_off _ (by first | exact wanted_free rfl | exact wanted_yes rfl rfl | exact wanted_no rfl rfl | exact wanted_lost rfl rfl) (by first | with_reducible rfl | decide) ?_; intro K hK; go_simp; refine hK _ ?_; clear hK K))
  refine wq_nil ?_
  intro w10 k10
  replace k10 := Kept.below k10
  have hc10 := Kept.cell k10
  have hf10 := Kept.frozen k10
  have hz10 := k10.size
  try simp only [World.size_alloc] at hz10
  try simp only [World.size_setCell] at hz10
  try simp only [World.size_drew] at hz10
  try (first | have hs10 := sz12 hz10 | have hs10 := sz11 hz10 | have hs10 := sz10 hz10 | have hs10 := sz9 hz10 | have hs10 := sz8 hz10 | have hs10 := sz7 hz10 | have hs10 := sz6 hz10 | have hs10 := sz5 hz10 | have hs10 := sz4 hz10 | have hs10 := sz3 hz10 | have hs10 := sz2 hz10 | have hs10 := sz1 hz10)
  have aa := AA.out
  have ab := AB.out
  clear AA AB
  have F10 := hideP (F9.out.keep k10)
  clear b0 b1 bf0 bf1 bl c0 c1 c2 c3 c4 c5 c6 cf cl SP9 IC9 SC9 F9
  clear hc10 hf10 k10
  obtain ⟨r0, r1, r2, rf, rl⟩ := F10.out.r
  obtain ⟨q0, q1, q2, q3, ql⟩ := F10.out.q
  by_cases hz0 : z = 0
  · subst hz0
    clear q0 q1 q2 q3 ql SF
    have hfl := fill_len HZ.out
    rw [← HMl.out] at hfl
    simp only [List.length_map] at hfl
    have hne : ((M.length : Int) != (L.length : Int)) = false := by rw [hfl]; simp
    have hlM : Hid (M.length = L.length) := hideP hfl
    clear hfl
    have hsm : M.length + wzs M ≤ 1048576 := small_fill id rx ry rp rh col LS.out M HMl.out
    have ST := iStack_any 0 w10.heap.size s c M w10 F10.out.m (Nat.le_refl _) hsm
    rw [show stF (M.map Wn.ct) = 0 by rw [HMl.out]; exact fill_st HZ.out] at ST
    have HS := hideP hsm
    clear hsm
    go_wp2_with fail
    refine Calls.mono ST ?_
    rintro e w11 ⟨rfl, k11⟩
    have F11 := hideP (F10.out.keep k11)
    clear k11 ST F10 r0 r1 r2 rf rl
    have hL13 : (L.length : Int) ≤ 13 := by omega
    obtain ⟨hst0, hrf, hby, -⟩ := fill_ok HZ.out
    have HRF := hideP hrf
    have HST := hideP hst0
    clear hrf hby hst0
    have PL := hideP (fun (ri a b : Int) w1 (l1 : Ws w1 0 w1.heap.size so L) => iPoint_any 0 w1.heap.size so sc L ri a b w1 l1 (Nat.le_refl _) LS.out)
    have PM := hideP (fun (ri a b : Int) w1 (l1 : Ws w1 0 w1.heap.size s M) => iPoint_any 0 w1.heap.size s c M ri a b w1 l1 (Nat.le_refl _) HS.out)
    have PT := hideP (fun (k : Nat) (hk : k < L.length) (a b : Int) => fill_pt (k := k) (a := a) (b := b) HZ.out (by rw [List.length_map]; exact hk))
    go_wp2
    go_loopw [16] (fun i wr => ∃ k : Nat, k ≤ L.length ∧ i = .int .i64 k ∧ Below w11.heap.size w11 wr) (fun i _ => L.length - (intOf i).toNat)
    case atStart => exact ⟨0, Nat.zero_le _, rfl, Below.refl _ _⟩
    case round =>
      obtain ⟨k, hk, rfl, hbel⟩ := hrel
      have FR := hideP (F11.out.keep hbel)
      have HB1 := hideP hbel
      clear hbel
      by_cases hlt : k < L.length
      · have hlt' : (k : Int) < (L.length : Int) := by omega
        rcases F11.out.l with e | ⟨g, o, rfl, -, hg, hc⟩
        · rw [e] at hlt; simp at hlt
        obtain ⟨r, hr⟩ : ∃ r, L[k] = r := ⟨_, rfl⟩
        have CL := hideP (hc k hlt).1
        have PK := PT.out k hlt
        have WF := wsF_mem (stF_ok HST.out).2 r.ct (by rw [← hr]; exact List.mem_map_of_mem (List.getElem_mem hlt))
        simp only [List.getElem_map] at PK
        rw [hr] at CL PK
        obtain ⟨ri, rx2, ry2, pw, ph, rm, rb⟩ := r
        obtain ⟨-, -, hpw, hph, -⟩ := wrB_no (winF_no WF).1
        simp only [Wn.ct] at hpw hph PK
        rw [← HMl.out] at PK
        have PK' := hideP PK
        clear hc PK WF hr FR
        have hgl : g < wr.heap.size := Nat.lt_of_lt_of_le hg HB1.out.size
        go_wp2
        go_loopw [17] (fun bb wq => ∃ j : Nat, (j : Int) ≤ ph ∧ bb = .int .i64 j ∧ Below w11.heap.size w11 wq) (fun bb _ => (ph - intOf bb).toNat)
        case atStart => exact ⟨0, by omega, rfl, HB1.out⟩
        case round =>
          obtain ⟨j, hj, rfl, hbel⟩ := hrel
          have HB2 := hideP hbel
          clear hbel HB1 hgl
          obtain ⟨a0, a1, a2, a3, a4, a5, a6⟩ := (CL.out.keep HB2.out hg).seven
          have hgl : g < wr.heap.size := Nat.lt_of_lt_of_le hg HB2.out.size
          by_cases hjl : (j : Int) < ph
          · clear a0 a1 a2 a3 a5 a6
            go_wp2
            clear a4
            go_loopw [18] (fun aa wq => ∃ ii : Nat, (ii : Int) ≤ pw ∧ aa = .int .i64 ii ∧ Below w11.heap.size w11 wq) (fun aa _ => (pw - intOf aa).toNat)
            case atStart => exact ⟨0, by omega, rfl, HB2.out⟩
            case round =>
              obtain ⟨ii, hi, rfl, hbel⟩ := hrel
              have HB3 := hideP hbel
              clear hbel HB2 hgl
              obtain ⟨a0, a1, a2, a3, a4, a5, a6⟩ := (CL.out.keep HB3.out hg).seven
              have hgl : g < wr.heap.size := Nat.lt_of_lt_of_le hg HB3.out.size
              by_cases hil : (ii : Int) < pw
              · have PKK := PK'.out (ii : Int) (j : Int) (by omega) hil (by omega) hjl
                have PLK := PL.out ri (ii : Int) (j : Int) wr (F11.out.keep HB3.out).l
                have HPK := hideP PKK
                clear PKK
                obtain ⟨Z, hZ⟩ : ∃ Z, ptZ (L.map Wn.ct) ri (ii : Int) (j : Int) = Z := ⟨_, rfl⟩
                rw [hZ] at PLK
                clear hZ
                generalize hV : ptV (L.map Wn.ct) ri (ii : Int) (j : Int) = V at PLK
                have HV := hideP hV
                clear hV
                clear a1 a2 a4 a5 a6
                go_wp2_with fail
                refine Calls.mono PLK ?_
                rintro e w4 ⟨rfl, k4⟩
                have HB4 := hideP (HB3.out.trans (k4.mono HB3.out.size))
                clear k4 PLK a0 a3 hgl HB3
                obtain ⟨a0, a1, a2, a3, a4, a5, a6⟩ := (CL.out.keep HB4.out hg).seven
                have hgl : g < w4.heap.size := Nat.lt_of_lt_of_le hg HB4.out.size
                clear a1 a2 a3 a4 a5 a6
                by_cases hid : ri = id
                · have hbe : (ri == id) = true := by simpa using hid
                  obtain ⟨q0, q1, q2, q3, ql⟩ := (F11.out.keep HB4.out).q
                  have hHid := hideP hid
                  clear hid
                  go_wp2_with fail
                  refine Calls.mono (lwInF_any rx ry rp rh (ii : Int) (j : Int) w4 HRF.out) ?_
                  rintro e w5 ⟨rfl, k5⟩
                  have HB5 := hideP (HB4.out.trans (k5.mono HB4.out.size))
                  have F5 := hideP (F11.out.keep HB5.out)
                  clear k5 q0 q1 q2 q3 ql a0 hgl HB4
                  cases hin : inB rx ry rp rh (ii : Int) (j : Int)
                  · have HIN := hideP hin
                    clear hin
                    dsimp only
                    have hv : ptV (M.map Wn.ct) ri (ii : Int) (j : Int) = V := HPK.out.trans ((if_neg (fun e => by rw [HIN.out] at e; exact absurd e.2 (by decide))).trans HV.out)
                    have PM5 := hideP (fun w1 (kk : Kept w5 w1) => PM.out ri (ii : Int) (j : Int) w1 (F5.out.keep (Kept.below kk)).m)
                    rw [hv] at PM5
                    clear hv
                    generalize ptZ (M.map Wn.ct) ri (ii : Int) (j : Int) = Z5 at PM5
                    obtain ⟨r0, r1, r2, rf, rl⟩ := F5.out.r
                    obtain ⟨a0, a1, a2, a3, a4, a5, a6⟩ := (CL.out.keep HB5.out hg).seven
                    have hgl : g < w5.heap.size := Nat.lt_of_lt_of_le hg HB5.out.size
                    go_wp2
                    refine wp_region_wq (by kernel_rfl) (by kernel_rfl) ?_
                    repeat (first | (refine wq_up _ (by first | exact wanted_free rfl | exact wanted_yes rfl rfl | exact wanted_no rfl rfl | exact wanted_lost rfl rfl) (by first | with_reducible rfl | decide) ?_; apply Exists.intro; refine ⟨fun w1 k1 => ?_, fun K hK => ?_⟩; (focus (have hc := Kept.cell k1; go_simp; first | done | rfl | (go_at_call 13; exact kept_call k1 (PM5.out _ k1)))); (go_simp; refine hK _ ?_; clear hK K)) | (refine wq_off _ (by first | exact wanted_free rfl | exact wanted_yes rfl rfl | exact wanted_no rfl rfl | exact wanted_lost rfl rfl) (by first | with_reducible rfl | decide) ?_; intro K hK; go_simp; refine hK _ ?_; clear hK K))
                    refine wq_nil ?_
                    intro w26 k26
                    replace k26 := Kept.below k26
                    have hc26 := Kept.cell k26
                    have hf26 := Kept.frozen k26
                    have hz26 := k26.size
                    try simp only [World.size_alloc] at hz26
                    try simp only [World.size_setCell] at hz26
                    try simp only [World.size_drew] at hz26
                    try (first | have hs26 := sz12 hz26 | have hs26 := sz11 hz26 | have hs26 := sz10 hz26 | have hs26 := sz9 hz26 | have hs26 := sz8 hz26 | have hs26 := sz7 hz26 | have hs26 := sz6 hz26 | have hs26 := sz5 hz26 | have hs26 := sz4 hz26 | have hs26 := sz3 hz26 | have hs26 := sz2 hz26 | have hs26 := sz1 hz26)
                    have HB6 := hideP (HB5.out.trans (k26.mono HB5.out.size))
                    clear k26 hc26 hf26 hz26 PM5 r0 r1 r2 rf rl a0 a1 a2 a3 a4 a5 a6 hgl F5
                    go_wp2
                    go_roundw
                    case rel => exact ⟨ii + 1, by omega, by go_num, HB6.out⟩
                    case measure => simp [intOf]; omega

                  · have HIN := hideP hin
                    clear hin
                    dsimp only
                    have hv : ptV (M.map Wn.ct) ri (ii : Int) (j : Int) = col := HPK.out.trans (if_pos ⟨hHid.out, HIN.out⟩)
                    have PM5 := hideP (fun w1 (kk : Kept w5 w1) => PM.out ri (ii : Int) (j : Int) w1 (F5.out.keep (Kept.below kk)).m)
                    rw [hv] at PM5
                    clear hv
                    generalize ptZ (M.map Wn.ct) ri (ii : Int) (j : Int) = Z5 at PM5
                    obtain ⟨r0, r1, r2, rf, rl⟩ := F5.out.r
                    obtain ⟨a0, a1, a2, a3, a4, a5, a6⟩ := (CL.out.keep HB5.out hg).seven
                    have hgl : g < w5.heap.size := Nat.lt_of_lt_of_le hg HB5.out.size
                    go_wp2
                    refine wp_region_wq (by kernel_rfl) (by kernel_rfl) ?_
                    repeat (first | (refine wq_up _ (by first | exact wanted_free rfl | exact wanted_yes rfl rfl | exact wanted_no rfl rfl | exact wanted_lost rfl rfl) (by first | with_reducible rfl | decide) ?_; apply Exists.intro; refine ⟨fun w1 k1 => ?_, fun K hK => ?_⟩; (focus (have hc := Kept.cell k1; go_simp; first | done | rfl | (go_at_call 13; exact kept_call k1 (PM5.out _ k1)))); (go_simp; refine hK _ ?_; clear hK K)) | (refine wq_off _ (by first | exact wanted_free rfl | exact wanted_yes rfl rfl | exact wanted_no rfl rfl | exact wanted_lost rfl rfl) (by first | with_reducible rfl | decide) ?_; intro K hK; go_simp; refine hK _ ?_; clear hK K))
                    refine wq_nil ?_
                    intro w26 k26
                    replace k26 := Kept.below k26
                    have hc26 := Kept.cell k26
                    have hf26 := Kept.frozen k26
                    have hz26 := k26.size
                    try simp only [World.size_alloc] at hz26
                    try simp only [World.size_setCell] at hz26
                    try simp only [World.size_drew] at hz26
                    try (first | have hs26 := sz12 hz26 | have hs26 := sz11 hz26 | have hs26 := sz10 hz26 | have hs26 := sz9 hz26 | have hs26 := sz8 hz26 | have hs26 := sz7 hz26 | have hs26 := sz6 hz26 | have hs26 := sz5 hz26 | have hs26 := sz4 hz26 | have hs26 := sz3 hz26 | have hs26 := sz2 hz26 | have hs26 := sz1 hz26)
                    have HB6 := hideP (HB5.out.trans (k26.mono HB5.out.size))
                    clear k26 hc26 hf26 hz26 PM5 r0 r1 r2 rf rl a0 a1 a2 a3 a4 a5 a6 hgl F5
                    go_wp2
                    go_roundw
                    case rel => exact ⟨ii + 1, by omega, by go_num, HB6.out⟩
                    case measure => simp [intOf]; omega

                · have hbe : (ri == id) = false := by simpa using hid
                  have hHid := hideP hid
                  clear hid
                  have HB5 := HB4
                  have F5 := hideP (F11.out.keep HB5.out)
                  clear HB4 hgl
                  clear a0
                  have hv : ptV (M.map Wn.ct) ri (ii : Int) (j : Int) = V := HPK.out.trans ((if_neg (fun e => hHid.out e.1)).trans HV.out)
                  have PM5 := hideP (fun w1 (kk : Kept w4 w1) => PM.out ri (ii : Int) (j : Int) w1 (F5.out.keep (Kept.below kk)).m)
                  rw [hv] at PM5
                  clear hv
                  generalize ptZ (M.map Wn.ct) ri (ii : Int) (j : Int) = Z5 at PM5
                  obtain ⟨r0, r1, r2, rf, rl⟩ := F5.out.r
                  obtain ⟨a0, a1, a2, a3, a4, a5, a6⟩ := (CL.out.keep HB5.out hg).seven
                  have hgl : g < w4.heap.size := Nat.lt_of_lt_of_le hg HB5.out.size
                  go_wp2
                  refine wp_region_wq (by kernel_rfl) (by kernel_rfl) ?_
                  repeat (first | (refine wq_up _ (by first | exact wanted_free rfl | exact wanted_yes rfl rfl | exact wanted_no rfl rfl | exact wanted_lost rfl rfl) (by first | with_reducible rfl | decide) ?_; apply Exists.intro; refine ⟨fun w1 k1 => ?_, fun K hK => ?_⟩; (focus (have hc := Kept.cell k1; go_simp; first | done | rfl | (go_at_call 13; exact kept_call k1 (PM5.out _ k1)))); (go_simp; refine hK _ ?_; clear hK K)) | (refine wq_off _ (by first | exact wanted_free rfl | exact wanted_yes rfl rfl | exact wanted_no rfl rfl | exact wanted_lost rfl rfl) (by first | with_reducible rfl | decide) ?_; intro K hK; go_simp; refine hK _ ?_; clear hK K))
                  refine wq_nil ?_
                  intro w26 k26
                  replace k26 := Kept.below k26
                  have hc26 := Kept.cell k26
                  have hf26 := Kept.frozen k26
                  have hz26 := k26.size
                  try simp only [World.size_alloc] at hz26
                  try simp only [World.size_setCell] at hz26
                  try simp only [World.size_drew] at hz26
                  try (first | have hs26 := sz12 hz26 | have hs26 := sz11 hz26 | have hs26 := sz10 hz26 | have hs26 := sz9 hz26 | have hs26 := sz8 hz26 | have hs26 := sz7 hz26 | have hs26 := sz6 hz26 | have hs26 := sz5 hz26 | have hs26 := sz4 hz26 | have hs26 := sz3 hz26 | have hs26 := sz2 hz26 | have hs26 := sz1 hz26)
                  have HB6 := hideP (HB5.out.trans (k26.mono HB5.out.size))
                  clear k26 hc26 hf26 hz26 PM5 r0 r1 r2 rf rl a0 a1 a2 a3 a4 a5 a6 hgl F5
                  go_wp2
                  go_roundw
                  case rel => exact ⟨ii + 1, by omega, by go_num, HB6.out⟩
                  case measure => simp [intOf]; omega

              · go_wp2
                go_roundw
                case rel => exact ⟨j + 1, by omega, by go_num, HB3.out⟩
                case measure => simp [intOf]; omega
          · go_wp2
            go_roundw
            case rel => exact ⟨k + 1, by omega, by go_num, HB2.out⟩
            case measure => simp [intOf]; omega
      · go_wp2
        go_returns
        exact ⟨rfl, FR.out.k⟩
  · have hz1 : (z != 0) = true := by simpa using hz0
    go_wp2
    refine wp_region_plan (R := Kept) (G := Kept) rel_keptA rel_keptA (fun h => h) 8 [(true, 0), (true, 1), (true, 2), (true, 3), (true, 6), (true, 7), (false, 4), (true, 5)] (by kernel_rfl) (by kernel_rfl) ?_
    simp only [selP, List.filterMap_cons, List.filterMap_nil, List.getElem?_cons_succ, List.getElem?_cons_zero, Option.map_some]
    repeat (refine plan_take _ (by first | exact wanted_free rfl | exact wanted_yes rfl rfl | exact wanted_no rfl rfl) (by first | with_reducible rfl | decide) ?_; apply Exists.intro; refine ⟨fun w' k1 => ?_, fun K hK => ?_⟩; (focus (have hc := Kept.cell k1; go_simp; first | done | rfl)); (go_simp; refine hK _ ?_; clear hK K))
    refine plan_made _ (by first | exact wanted_free rfl | exact wanted_yes rfl rfl | exact wanted_no rfl rfl) (by first | with_reducible rfl | decide) fun v5 j5 => ?_
    have jj5 := Kept.below j5
    refine made_callsR (by go_simp; first | done | rfl) ((SF.out v5 ((F10.out.l.keep jj5 (Nat.le_refl _)).wide (Nat.le_refl _) jj5.size)).mono ?_)
    intro e v6 h6
    obtain ⟨s6, c6, M6, rfl, -, -, k6⟩ := ansF h6
    have F6 := hideP (F10.out.keep (jj5.trans (k6.mono jj5.size)))
    refine ⟨_, rfl, k6, fun K hK => ?_⟩
    go_simp
    refine hK _ ?_
    clear hK K h6 k6 jj5 j5 r0 r1 r2 rf rl q0 q1 q2 q3 ql
    repeat (refine plan_take _ (by first | exact wanted_free rfl | exact wanted_yes rfl rfl | exact wanted_no rfl rfl) (by first | with_reducible rfl | decide) ?_; apply Exists.intro; refine ⟨fun w' k1 => ?_, fun K hK => ?_⟩; (focus (have hc := Kept.cell k1; go_simp; first | done | rfl)); (go_simp; refine hK _ ?_; clear hK K))
    refine plan_nil fun w7 k7 => ?_
    try simp only [List.drop_succ_cons, List.drop_zero]
    have F7 := hideP (F6.out.keep (Kept.below k7))
    clear F6 F10 k7
    go_wp2
    go_returns
    exact ⟨rfl, F7.out.k⟩

theorem fills_law (a : Option Addr) (len cap : Nat) (zs : List Int) (w : World) (h : IsRow .u8 w a len cap zs) :
    Calls Try.prog 3 #[.slice a len cap] w fun e w' => e = .returned (.bool true) ∧ Below w.heap.size w w' := by
  have hm : len ≤ maxLen := by
    rcases h with ⟨_, h, _⟩ | ⟨x, _, h1, h2, _⟩
    · rw [h]; exact Nat.zero_le _
    · omega
  by_cases hl : len ≤ 1048576
  · exact fills_small w a len cap _ h.bytes hm hl
  · exact fills_big w a len cap hm (by omega)
end Go.Proofs.Ytclfobpmafkgfaa
