/- RaiseWindow: the law's walk. -/
import Derived.Test.YtcdlcpecnpgjgaaWd13
import Derived.Test.YtcdlcpecnpgjgaaWiC
namespace Go.Proofs.Ytcdlcpecnpgjgaa
open Go.RowKit Go.Maps
set_option linter.unusedVariables false

set_option maxHeartbeats 400000 in
theorem big_RaiseWindow (so : Option Addr) (sc : Nat) (L : List Wn) (id : Int) (w : World) (hL : Ws w 0 w.heap.size so L) (hn : L.length ≤ maxLen) (hm : ∀ r ∈ L, r.b.L.length ≤ maxLen) (h : 1048576 < L.length + wzs L) :
    Calls Try.prog 7 #[.slice so L.length sc, .int .i64 id] w fun e w' => e = .returned (.bool true) ∧ Below w.heap.size w w' := by
  have SZ := fun w1 (kk : Below w.heap.size w w1) => szWS_any 0 w.heap.size so sc L 1048576 w1 (hL.keep kk (Nat.le_refl _)) kk.size hn hm (by omega) (by omega)
  rw [szV_no (by omega)] at SZ
  have SZ' := hideP SZ
  clear SZ hL hm hn h
  go_enter Try.func7, Try.ntmps7
  go_wp2_with fail
  refine Calls.mono (SZ'.out _ (by go_grown)) ?_
  rintro e w1 ⟨rfl, k1⟩
  have K1 : Hid (Below w.heap.size w w1) := hideP (Below.trans (by go_grown) (k1.mono (by first | exact Nat.le_refl _ | (simp; omega))))
  clear k1
  go_wp2
  go_returns
  exact ⟨rfl, K1.out⟩

set_option maxRecDepth 100000 in
set_option maxHeartbeats 8000000 in
theorem small_RaiseWindow (so : Option Addr) (sc : Nat) (L : List Wn) (id : Int) (w : World) (hL : Ws w 0 w.heap.size so L) (h : L.length + wzs L ≤ 1048576) :
    Calls Try.prog 7 #[.slice so L.length sc, .int .i64 id] w fun e w' => e = .returned (.bool true) ∧ Below w.heap.size w w' := by
  have SZ := szW_n (sc := sc) hL (Nat.le_refl _) h
  have TO := copyW 0 w.heap.size so sc L w hL (Nat.le_refl _) h
  have SP := fun (M : List Wn) (hl : M.length = L.length) (hz : wzs M = wzs L) (hc : M.map Wn.ct = L.map Wn.ct) s W (a1 : Ws W 0 W.heap.size s M) => sRaise_any s M.length M id W a1 (by omega)
  have IP := fun (M : List Wn) (hl : M.length = L.length) (hz : wzs M = wzs L) (hc : M.map Wn.ct = L.map Wn.ct) s W (a1 : Ws W 0 W.heap.size s M) => iRaise_any s M.length M id W a1 (by omega)
  have SM := small_raise (L := L) id h
  obtain ⟨n, hnL⟩ : ∃ n, L.length = n := ⟨_, rfl⟩
  obtain ⟨z, hzL⟩ : ∃ z, wzs L = z := ⟨_, rfl⟩
  obtain ⟨C, hC⟩ : ∃ C, L.map Wn.ct = C := ⟨_, rfl⟩
  rw [hC] at SM
  obtain ⟨ZZ, hZ⟩ : ∃ ZZ : Int, askW C id = ZZ := ⟨_, rfl⟩
  obtain ⟨VV, hV⟩ : ∃ VV : Int, (0 : Int) = VV := ⟨_, rfl⟩
  obtain ⟨P, hP⟩ : ∃ P, raiseP C id = P := ⟨_, rfl⟩
  obtain ⟨pn, hpn⟩ : ∃ pn, P.length = pn := ⟨_, rfl⟩
  rw [hP] at SM
  have SM' : Hid (∀ N : List Wn, N.map Wn.ct = P → pn + wzs N ≤ 1048576) := hideP (fun N e => by have := SM N e; rw [← hpn, ← e]; simpa using this)
  rw [hnL, hzL, hC] at TO
  rw [hnL, hzL] at SZ h
  have SP' : Hid (∀ (M : List Wn), M.length = n → wzs M = z → M.map Wn.ct = C → ∀ s W, Ws W 0 W.heap.size s M → Calls Try.prog 25 #[.slice s n n, .int .i64 id] W (SAns ZZ VV P pn W)) := hideP (fun M hl hz hc s W a1 => by
    have hh := SP M (hl.trans hnL.symm) (hz.trans hzL.symm) (hc.trans hC.symm) s W a1
    rw [hc, hl, hZ, hP, hpn] at hh
    first | exact hh | (rw [hV] at hh; exact hh) | (subst hV; exact hh))
  have IP' : Hid (∀ (M : List Wn), M.length = n → wzs M = z → M.map Wn.ct = C → ∀ s W, Ws W 0 W.heap.size s M → Calls Try.prog 26 #[.slice s n n, .int .i64 id] W (SAns ZZ VV P pn W)) := hideP (fun M hl hz hc s W a1 => by
    have hh := IP M (hl.trans hnL.symm) (hz.trans hzL.symm) (hc.trans hC.symm) s W a1
    rw [hc, hl, hZ, hP, hpn] at hh
    first | exact hh | (rw [hV] at hh; exact hh) | (subst hV; exact hh))
  have hz0 : ¬ (1048576 : Int) - ((n + z : Nat) : Int) < 0 := by omega
  have hk0 : ¬ (1 + 6 * (n : Int) + (z : Int) < 0) := by omega
  have hnz : n + z ≤ 1048576 := h
  rw [hnL]
  obtain ⟨q, hq⟩ : ∃ q, (1048576 : Int) - ((n + z : Nat) : Int) = q := ⟨_, rfl⟩
  rw [hq] at SZ hz0
  have SZ' := hideP SZ
  have TO' := hideP TO
  clear SP IP SM hP hZ hV hpn hC hzL hnL hL hq SZ TO h
  have TO := TO'
  clear TO'
  go_enter Try.func7, Try.ntmps7
  go_wp2_with fail
  refine Calls.mono SZ'.out ?_
  rintro e w1 ⟨rfl, k1⟩
  have K_1 := hideP k1
  have sz1 := k1.size
  clear k1 SZ'
  go_wp2_with fail
  refine Calls.mono (TO.out w1 K_1.out) ?_
  rintro e w2 ⟨sa, Ma, rfl, la, za, ca, Qa, ka⟩
  have Ca := hideP ca
  have La := hideP la
  have Za := hideP za
  have loa : w1.heap.size ≤ w2.heap.size := ka.size
  have K_w2 := hideP (K_1.out.trans (ka.mono K_1.out.size))
  clear K_1
  have a_w2 := hideP Qa
  clear ka Qa ca la za
  go_wp2_with fail
  refine Calls.mono (SP'.out Ma La.out Za.out Ca.out sa w2 (a_w2.out.ws.wide (Nat.zero_le _) (by have := a_w2.out.hs; omega))) ?_
  rintro e w3 ⟨sr, cr, Nr, rfl, hr, lr, Qr, kr⟩
  have ka := kalW w3 (.cells #[.int .i64 ZZ, .int .i64 VV, .slice sr pn cr] 28)
  have kk := kr.trans (ka.mono kr.size)
  have lor : w2.heap.size ≤ w3.heap.size := kr.size
  have hir : (w3.alloc (.cells #[.int .i64 ZZ, .int .i64 VV, .slice sr pn cr] 28)).heap.size = w3.heap.size + 1 := by simp
  have K_w4 := hideP (K_w2.out.trans (kk.mono K_w2.out.size))
  have a_w4 := hideP (a_w2.out.keep kk a_w2.out.hs)
  clear K_w2 a_w2
  have r_w4 : Hid (SW (w3.alloc (.cells #[.int .i64 ZZ, .int .i64 VV, .slice sr pn cr] 28)) w3.heap.size w2.heap.size w3.heap.size ZZ VV sr cr pn Nr) := hideP ⟨r3_new _ _ _ _ _, Qr.keep ka (Nat.le_refl _), lr⟩
  have Hr := hideP hr
  clear ka kk kr Qr hr lr
  go_wp2_with fail
  generalize w3.alloc (.cells #[.int .i64 ZZ, .int .i64 VV, .slice sr pn cr] 28) = w4 at *
  refine Calls.mono (TO.out w4 K_w4.out) ?_
  rintro e w5 ⟨sx, Mx, rfl, lx, zx, cx, Qx, kx⟩
  have Cx := hideP cx
  have Lx := hideP lx
  have Zx := hideP zx
  have lox : w4.heap.size ≤ w5.heap.size := kx.size
  have K_5 := hideP (K_w4.out.trans (kx.mono K_w4.out.size))
  have r_5 := hideP (r_w4.out.keep kx r_w4.out.box.lt r_w4.out.q.hs)
  clear K_w4 r_w4
  have x_5 := hideP Qx
  clear kx Qx cx lx zx
  go_wp2_with fail
  refine Calls.mono (IP'.out Mx Lx.out Zx.out Cx.out sx w5 (x_5.out.ws.wide (Nat.zero_le _) (by have := x_5.out.hs; omega))) ?_
  rintro e w6 ⟨sg, cg, Ng, rfl, hg, lg, Qg, kg⟩
  have ka := kalW w6 (.cells #[.int .i64 ZZ, .int .i64 VV, .slice sg pn cg] 28)
  have kk := kg.trans (ka.mono kg.size)
  have log : w5.heap.size ≤ w6.heap.size := kg.size
  have hig : (w6.alloc (.cells #[.int .i64 ZZ, .int .i64 VV, .slice sg pn cg] 28)).heap.size = w6.heap.size + 1 := by simp
  have K_w7 := hideP (K_5.out.trans (kk.mono K_5.out.size))
  have r_w7 := hideP (r_5.out.keep kk r_5.out.box.lt r_5.out.q.hs)
  have x_w7 := hideP (x_5.out.keep kk x_5.out.hs)
  clear K_5 r_5 x_5
  have g_w7 : Hid (SW (w6.alloc (.cells #[.int .i64 ZZ, .int .i64 VV, .slice sg pn cg] 28)) w6.heap.size w5.heap.size w6.heap.size ZZ VV sg cg pn Ng) := hideP ⟨r3_new _ _ _ _ _, Qg.keep ka (Nat.le_refl _), lg⟩
  have Hg := hideP hg
  clear ka kk kg Qg hg lg
  obtain ⟨r0, r1, r2, r3, r4⟩ := r_w7.out.box
  obtain ⟨g0, g1, g2, g3, g4⟩ := g_w7.out.box
  go_wp2_with fail
  clear r0 r1 r2 r3 r4 g0 g1 g2 g3 g4
  generalize w6.alloc (.cells #[.int .i64 ZZ, .int .i64 VV, .slice sg pn cg] 28) = w7 at *
  refine Calls.mono (eqSR_w g_w7.out r_w7.out (Hr.out.trans Hg.out.symm) (SM'.out Ng Hg.out)) ?_
  rintro e w8 ⟨rfl, k8⟩
  have n8 := k8.size
  have K_8 := hideP (K_w7.out.trans (k8.mono K_w7.out.size))
  have r_8 := hideP (r_w7.out.keep k8 r_w7.out.box.lt r_w7.out.q.hs)
  have x_8 := hideP (x_w7.out.keep k8 x_w7.out.hs)
  have g_8 := hideP (g_w7.out.keep k8 g_w7.out.box.lt g_w7.out.q.hs)
  clear K_w7 r_w7 x_w7 g_w7
  clear k8
  go_wp2_with fail
  refine Calls.mono (TO.out w8 K_8.out) ?_
  rintro e w9 ⟨sy, My, rfl, ly, zy, cy, Qy, ky⟩
  have Cy := hideP cy
  have Ly := hideP ly
  have Zy := hideP zy
  have loy : w8.heap.size ≤ w9.heap.size := ky.size
  have K_w9 := hideP (K_8.out.trans (ky.mono K_8.out.size))
  have r_w9 := hideP (r_8.out.keep ky r_8.out.box.lt r_8.out.q.hs)
  have x_w9 := hideP (x_8.out.keep ky x_8.out.hs)
  have g_w9 := hideP (g_8.out.keep ky g_8.out.box.lt g_8.out.q.hs)
  clear K_8 r_8 x_8 g_8
  have y_w9 := hideP Qy
  clear ky Qy cy ly zy
  have EQX := hideP (eqW_n (c := n) (d := n) n z Lx.out Zx.out Cx.out Cy.out x_w9.out y_w9.out hnz)
  go_wp2_with fail
  refine Calls.mono EQX.out ?_
  rintro e w10 ⟨rfl, k10⟩
  have n10 := k10.size
  clear EQX
  have K_10 := hideP (K_w9.out.trans (k10.mono K_w9.out.size))
  have r_10 := hideP (r_w9.out.keep k10 r_w9.out.box.lt r_w9.out.q.hs)
  have x_10 := hideP (x_w9.out.keep k10 x_w9.out.hs)
  have g_10 := hideP (g_w9.out.keep k10 g_w9.out.box.lt g_w9.out.q.hs)
  clear K_w9 r_w9 x_w9 g_w9
  clear k10
  have MX := markWS_any w4.heap.size w5.heap.size sx n Mx w10 x_10.out (by have := Lx.out; have := Zx.out; omega)
  rw [Lx.out, Zx.out] at MX
  have MX' := hideP MX
  clear MX
  go_wp2_with fail
  refine Calls.mono MX'.out ?_
  rintro e w11 ⟨rfl, f11, _⟩
  have n11 := f11.size
  have K_11 := hideP (K_10.out.trans (f11.below (by omega) (by have := K_10.out.size; omega)))
  have r_11 := hideP (r_10.out.far f11 (by omega) (by omega))
  have g_11 := hideP (g_10.out.far f11 (by omega) (by omega))
  clear K_10 r_10 g_10
  clear f11 MX'
  obtain ⟨r0, r1, r2, r3, r4⟩ := r_11.out.box
  obtain ⟨g0, g1, g2, g3, g4⟩ := g_11.out.box
  go_wp2_with fail
  clear r0 r1 r2 r3 r4 g0 g1 g2 g3 g4
  refine Calls.mono (eqSR_w g_11.out r_11.out (Hr.out.trans Hg.out.symm) (SM'.out Ng Hg.out)) ?_
  rintro e w12 ⟨rfl, k12⟩
  have n12 := k12.size
  have K_12 := hideP (K_11.out.trans (k12.mono K_11.out.size))
  have r_12 := hideP (r_11.out.keep k12 r_11.out.box.lt r_11.out.q.hs)
  have g_12 := hideP (g_11.out.keep k12 g_11.out.box.lt g_11.out.q.hs)
  clear K_11 r_11 g_11
  clear k12
  obtain ⟨Tm, hT0, MK, HK⟩ := markSR_w g_12.out (SM'.out Ng Hg.out)
  have MK' := hideP MK
  have HK' := hideP HK
  have hT1 : ¬ Tm < 0 := by omega
  have hTT : (Tm != Tm) = false := by simp
  clear MK HK hT0
  obtain ⟨g0, g1, g2, g3, g4⟩ := g_12.out.box
  go_wp2_with fail
  clear g0 g1 g2 g3 g4
  refine Calls.mono MK'.out ?_
  rintro e w13 ⟨rfl, f13, Q13⟩
  have n13 := f13.size
  have b_12 := hideP g_12.out.box
  have K_13 := hideP (K_12.out.trans (f13.below (by omega) (by have := K_12.out.size; omega)))
  have r_13 := hideP (r_12.out.far f13 (by omega) (by omega))
  have b_13 := hideP (b_12.out.far f13 (by omega))
  clear K_12 r_12 b_12
  have m_13 := hideP Q13
  clear f13 Q13 MK'
  obtain ⟨b0, b1, b2, b3, b4⟩ := b_13.out
  go_wp2_with fail
  clear b0 b1 b2 b3 b4
  refine Calls.mono (HK'.out _ m_13.out) ?_
  rintro e w14 ⟨rfl, k14⟩
  have n14 := k14.size
  have K_14 := hideP (K_13.out.trans (k14.mono K_13.out.size))
  have r_14 := hideP (r_13.out.keep k14 r_13.out.box.lt r_13.out.q.hs)
  have b_14 := hideP (b_13.out.keep k14 b_13.out.lt)
  have m_14 := hideP (m_13.out.keep k14 m_13.out.hs)
  clear K_13 r_13 b_13 m_13
  clear k14
  go_wp2_with fail
  refine Calls.mono (TO.out w14 K_14.out) ?_
  rintro e w15 ⟨sv, Mv, rfl, lv, zv, cv, Qv, kv⟩
  have Cv := hideP cv
  have Lv := hideP lv
  have Zv := hideP zv
  have lov : w14.heap.size ≤ w15.heap.size := kv.size
  have K_w15 := hideP (K_14.out.trans (kv.mono K_14.out.size))
  have r_w15 := hideP (r_14.out.keep kv r_14.out.box.lt r_14.out.q.hs)
  have b_w15 := hideP (b_14.out.keep kv b_14.out.lt)
  have m_w15 := hideP (m_14.out.keep kv m_14.out.hs)
  clear K_14 r_14 b_14 m_14
  have v_w15 := hideP Qv
  clear kv Qv cv lv zv
  go_wp2_with fail
  refine Calls.mono (IP'.out Mv Lv.out Zv.out Cv.out sv w15 (v_w15.out.ws.wide (Nat.zero_le _) (by have := v_w15.out.hs; omega))) ?_
  rintro e w16 ⟨sh, ch, Nh, rfl, hh, lh, Qh, kh⟩
  have ka := kalW w16 (.cells #[.int .i64 ZZ, .int .i64 VV, .slice sh pn ch] 28)
  have kk := kh.trans (ka.mono kh.size)
  have loh : w15.heap.size ≤ w16.heap.size := kh.size
  have hih : (w16.alloc (.cells #[.int .i64 ZZ, .int .i64 VV, .slice sh pn ch] 28)).heap.size = w16.heap.size + 1 := by simp
  have K_w17 := hideP (K_w15.out.trans (kk.mono K_w15.out.size))
  have r_w17 := hideP (r_w15.out.keep kk r_w15.out.box.lt r_w15.out.q.hs)
  have b_w17 := hideP (b_w15.out.keep kk b_w15.out.lt)
  have m_w17 := hideP (m_w15.out.keep kk m_w15.out.hs)
  have v_w17 := hideP (v_w15.out.keep kk v_w15.out.hs)
  clear K_w15 r_w15 b_w15 m_w15 v_w15
  have h_w17 : Hid (SW (w16.alloc (.cells #[.int .i64 ZZ, .int .i64 VV, .slice sh pn ch] 28)) w16.heap.size w15.heap.size w16.heap.size ZZ VV sh ch pn Nh) := hideP ⟨r3_new _ _ _ _ _, Qh.keep ka (Nat.le_refl _), lh⟩
  have Hh := hideP hh
  clear ka kk kh Qh hh lh
  obtain ⟨r0, r1, r2, r3, r4⟩ := r_w17.out.box
  obtain ⟨h0, h1, h2, h3, h4⟩ := h_w17.out.box
  go_wp2_with fail
  clear r0 r1 r2 r3 r4 h0 h1 h2 h3 h4
  generalize w16.alloc (.cells #[.int .i64 ZZ, .int .i64 VV, .slice sh pn ch] 28) = w17 at *
  refine Calls.mono (eqSR_w h_w17.out r_w17.out (Hr.out.trans Hh.out.symm) (SM'.out Nh Hh.out)) ?_
  rintro e w18 ⟨rfl, k18⟩
  have n18 := k18.size
  have K_18 := hideP (K_w17.out.trans (k18.mono K_w17.out.size))
  have b_18 := hideP (b_w17.out.keep k18 b_w17.out.lt)
  have m_18 := hideP (m_w17.out.keep k18 m_w17.out.hs)
  clear K_w17 b_w17 m_w17
  clear k18
  obtain ⟨b0, b1, b2, b3, b4⟩ := b_18.out
  go_wp2_with fail
  clear b0 b1 b2 b3 b4
  refine Calls.mono (HK'.out _ m_18.out) ?_
  rintro e w19 ⟨rfl, k19⟩
  have n19 := k19.size
  have K_19 := hideP (K_18.out.trans (k19.mono K_18.out.size))
  have b_19 := hideP (b_18.out.keep k19 b_18.out.lt)
  have m_19 := hideP (m_18.out.keep k19 m_18.out.hs)
  clear K_18 b_18 m_18
  clear k19
  go_wp2
  go_returns
  exact ⟨rfl, K_19.out⟩

theorem law_RaiseWindow (so : Option Addr) (sc : Nat) (L : List Wn) (id : Int) (w : World) (hn : L.length ≤ maxLen) (hL : Ws w 0 w.heap.size so L) (hm : ∀ r ∈ L, r.b.L.length ≤ maxLen) :
    Calls Try.prog 7 #[.slice so L.length sc, .int .i64 id] w fun e w' => e = .returned (.bool true) ∧ Below w.heap.size w w' := by
  by_cases h : L.length + wzs L ≤ 1048576
  · exact small_RaiseWindow so sc L id w hL h
  · exact big_RaiseWindow so sc L id w hL hn hm (by omega)
end Go.Proofs.Ytcdlcpecnpgjgaa
