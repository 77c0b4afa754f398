/- MakeWindow: the law's walk. -/
import Derived.Test.YtcdlcpecnpgjgaaWm5
import Derived.Test.YtcdlcpecnpgjgaaLwR
import Derived.Test.YtcdlcpecnpgjgaaWiC
namespace Go.Proofs.Ytcdlcpecnpgjgaa
open Go.RowKit Go.Maps
set_option linter.unusedVariables false
attribute [local go_sem] growUpon growAt

set_option maxHeartbeats 400000 in
theorem big_MakeWindow (so : Option Addr) (sc : Nat) (L : List Wn) (slot rx ry rp rh : Int) (w : World) (hL : Ws w 0 w.heap.size so L) (hn : L.length ≤ maxLen) (hm : ∀ r ∈ L, r.b.L.length ≤ maxLen) (h : 1048576 < L.length + wzs L) :
    Calls Try.prog 3 #[.slice so L.length sc, .int .i64 slot, .agg #[.int .i64 rx, .int .i64 ry, .int .i64 rp, .int .i64 rh]] w fun e w' => e = .returned (.bool true) ∧ Below w.heap.size w w' := by
  have SZ := fun w1 (kk : Below w.heap.size w w1) => szWS_any 0 w.heap.size so sc L 1048576 w1 (hL.keep kk (Nat.le_refl _)) kk.size hn hm (by omega) (by omega)
  rw [szV_no (by omega)] at SZ
  have SZ' := hideP SZ
  clear SZ hL hm hn h
  go_enter Try.func3, Try.ntmps3
  go_wp2_with fail
  refine Calls.mono (SZ'.out _ (by go_grown)) ?_
  rintro e w1 ⟨rfl, k1⟩
  have K1 : Hid (Below w.heap.size w w1) := hideP (Below.trans (by go_grown) (k1.mono (by first | exact Nat.le_refl _ | (simp; done) | (simp; omega))))
  clear k1
  go_wp2
  go_returns
  exact ⟨rfl, K1.out⟩

set_option maxRecDepth 100000 in
set_option maxHeartbeats 8000000 in
theorem small_MakeWindow (so : Option Addr) (sc : Nat) (L : List Wn) (slot rx ry rp rh : Int) (w : World) (hL : Ws w 0 w.heap.size so L) (h : L.length + wzs L ≤ 1048576) :
    Calls Try.prog 3 #[.slice so L.length sc, .int .i64 slot, .agg #[.int .i64 rx, .int .i64 ry, .int .i64 rp, .int .i64 rh]] w fun e w' => e = .returned (.bool true) ∧ Below w.heap.size w w' := by
  have SZ := fun w1 (kk : Below w.heap.size w w1) => szW_n (sc := sc) (hL.keep kk (Nat.le_refl _)) kk.size h
  have TO := copyW 0 w.heap.size so sc L w hL (Nat.le_refl _) h
  have SP := fun (M : List Wn) (hl : M.length = L.length) (hz : wzs M = wzs L) (hc : M.map Wn.ct = L.map Wn.ct) s W (a1 : Ws W 0 W.heap.size s M) => sMake_any s M.length M slot rx ry rp rh W a1 (by omega)
  have IP := fun (M : List Wn) (hl : M.length = L.length) (hz : wzs M = wzs L) (hc : M.map Wn.ct = L.map Wn.ct) s W (a1 : Ws W 0 W.heap.size s M) => iMake_any s M.length M slot rx ry rp rh W a1 (by omega)
  have SM := small_make (L := L) slot rx ry rp rh h
  obtain ⟨n, hnL⟩ : ∃ n, L.length = n := ⟨_, rfl⟩
  obtain ⟨z, hzL⟩ : ∃ z, wzs L = z := ⟨_, rfl⟩
  obtain ⟨C, hC⟩ : ∃ C, L.map Wn.ct = C := ⟨_, rfl⟩
  rw [hC] at SM
  obtain ⟨ZZ, hZ⟩ : ∃ ZZ : Int, mkZ C slot rx ry rp rh = ZZ := ⟨_, rfl⟩
  obtain ⟨VV, hV⟩ : ∃ VV : Int, mkV C slot rx ry rp rh = VV := ⟨_, rfl⟩
  obtain ⟨P, hP⟩ : ∃ P, mkP C slot rx ry rp rh = P := ⟨_, rfl⟩
  obtain ⟨pn, hpn⟩ : ∃ pn, P.length = pn := ⟨_, rfl⟩
  rw [hP] at SM
  have SM' : Hid (∀ N : List Wn, N.map Wn.ct = P → pn + wzs N ≤ 1048576) := hideP (fun N e => by have := SM N e; rw [← hpn, ← e]; simpa using this)
  rw [hnL, hzL, hC] at TO
  rw [hnL, hzL] at SZ h
  have SP' : Hid (∀ (M : List Wn), M.length = n → wzs M = z → M.map Wn.ct = C → ∀ s W, Ws W 0 W.heap.size s M → Calls Try.prog 10 #[.slice s n n, .int .i64 slot, .agg #[.int .i64 rx, .int .i64 ry, .int .i64 rp, .int .i64 rh]] W (SAns ZZ VV P pn W)) := hideP (fun M hl hz hc s W a1 => by
    have hh := SP M (hl.trans hnL.symm) (hz.trans hzL.symm) (hc.trans hC.symm) s W a1
    rw [hc, hl, hZ, hP, hpn] at hh
    first | exact hh | (rw [hV] at hh; exact hh) | (subst hV; exact hh))
  have IP' : Hid (∀ (M : List Wn), M.length = n → wzs M = z → M.map Wn.ct = C → ∀ s W, Ws W 0 W.heap.size s M → Calls Try.prog 13 #[.slice s n n, .int .i64 slot, .agg #[.int .i64 rx, .int .i64 ry, .int .i64 rp, .int .i64 rh]] W (SAns ZZ VV P pn W)) := hideP (fun M hl hz hc s W a1 => by
    have hh := IP M (hl.trans hnL.symm) (hz.trans hzL.symm) (hc.trans hC.symm) s W a1
    rw [hc, hl, hZ, hP, hpn] at hh
    first | exact hh | (rw [hV] at hh; exact hh) | (subst hV; exact hh))
  have hz0 : ¬ (1048576 : Int) - ((n + z : Nat) : Int) < 0 := by omega
  have hk0 : ¬ (1 + 6 * (n : Int) + (z : Int) < 0) := by omega
  have hnz : n + z ≤ 1048576 := h
  rw [hnL]
  obtain ⟨q, hq⟩ : ∃ q, (1048576 : Int) - ((n + z : Nat) : Int) = q := ⟨_, rfl⟩
  rw [hq] at SZ hz0
  have SZ' := hideP SZ
  have TO' := hideP TO
  clear SP IP SM hP hZ hV hpn hC hzL hnL hL hq SZ TO h
  have TO := TO'
  clear TO'
  go_enter Try.func3, Try.ntmps3
  go_wp2_with fail
  refine Calls.mono (SZ'.out _ (by go_grown)) ?_
  rintro e w1 ⟨rfl, k1⟩
  have K_1 : Hid (Below w.heap.size w w1) := hideP (Below.trans (by go_grown) (k1.mono (by simp)))
  have p_1 := hideP ((qr_new w rx ry rp rh 24).keep k1 (by simp))
  have sz1 := p_1.out.lt
  clear k1 SZ'
  obtain ⟨p0, p1, p2, p3, p4⟩ := p_1.out
  go_wp2_with fail
  refine wp_region_boxed 7 [0, 2, 3] [1, 4, 5] 6 (.cells #[.int .i64 0, .int .i64 0, .slice none 0 0] 28) rfl (by kernel_rfl) (by kernel_rfl) ?_
  simp only [sel, List.filterMap_cons, List.filterMap_nil, List.getElem?_cons_succ, List.getElem?_cons_zero]
  repeat (refine grow_step (by rfl) ?_; apply Exists.intro; refine ⟨fun w1 k1 => ?_, fun K hK => ?_⟩; (focus (have hc := Kept.cell k1; go_simp; first | done | rfl)); (go_simp; refine hK _ ?_; clear hK K))
  refine grow_nil ?_
  clear p0 p1 p2 p3 p4
  refine ⟨by rfl, fun w1 => (by go_simp), ?_⟩
  refine boxed_step (by rfl) fun va1 j1 => ?_
  have jj1 := Kept.below j1
  have ja1 := K_1.out.trans (jj1.mono K_1.out.size)
  refine made_calls (by go_simp; first | done | rfl) ((TO.out va1 ja1).mono ?_)
  rintro e wa1 ⟨sa, Ma, rfl, la, za, ca, Qa, ka⟩
  refine ⟨_, rfl, ka, fun K hK => ?_⟩
  go_simp
  refine hK _ ?_
  clear hK K
  refine boxed_step (by rfl) fun vb1 j2 => ?_
  have jj2 := Kept.below j2
  refine made_calls (by go_simp; first | done | rfl) ((toRect_any rx ry rp rh vb1).mono ?_)
  rintro e wb1 ⟨rfl, kq⟩
  refine ⟨_, rfl, kq, fun K hK => ?_⟩
  go_simp
  refine hK _ ?_
  clear hK K
  refine boxed_step (by rfl) fun vc1 j3 => ?_
  have jj3 := Kept.below j3
  have jx : Below wa1.heap.size wa1 vc1 := jj2.trans ((kq.trans (jj3.mono kq.size)).mono jj2.size)
  have e1 := jj1.size
  have e2 := ka.size
  have e3 := jx.size
  have Qy := Qa.keep jx (Nat.le_refl _)
  refine made_calls (by go_simp; first | done | rfl) ((SP'.out Ma la za ca sa vc1 (Qy.ws.wide (Nat.zero_le _) (by have := Qy.hs; omega))).mono ?_)
  rintro e wc1 ⟨sr, cr, Nr, rfl, hr, lr, Qr, kr⟩
  refine ⟨_, rfl, kr, fun K hK => ?_⟩
  go_simp
  refine hK _ ?_
  clear hK K
  refine boxed_nil fun B1 vd1 j4 hB0 hB1 hBb hBI => ?_
  have jj4 := Kept.below j4
  have e4 := kr.size
  have e5 := jj4.size
  have hB2 : B1 < vc1.heap.size ∨ wc1.heap.size ≤ B1 := hBI (vc1.heap.size, wc1.heap.size) (by simp)
  have BX := r3_at hBb
  have PX := BX.put (.int .i64 ZZ) (.int .i64 VV) (.slice sr pn cr)
  have FX := far_put3 (w := vd1) (b := B1) (.int .i64 ZZ) (.int .i64 VV) (.slice sr pn cr)
  have kW : Below w1.heap.size w1 vd1 := jj1.trans ((ka.trans ((jx.trans ((kr.trans (jj4.mono kr.size)).mono e3)).mono e2)).mono e1)
  have kk := kW.trans (FX.below (B := w1.heap.size) hB0 kW.size)
  have hir : (((vd1.setCell ⟨B1, 0, none⟩ (.int .i64 ZZ)).setCell ⟨B1, 1, none⟩ (.int .i64 VV)).setCell ⟨B1, 2, none⟩ (.slice sr pn cr)).heap.size = vd1.heap.size := by simp
  have loa : w1.heap.size ≤ vd1.heap.size := kW.size
  have lor : vc1.heap.size ≤ wc1.heap.size := e4
  have loB1 : w1.heap.size ≤ B1 ∧ B1 < vd1.heap.size ∧ wc1.heap.size ≤ vd1.heap.size ∧ w1.heap.size ≤ vc1.heap.size := ⟨hB0, hB1, e5, by omega⟩
  have p_w4 := hideP (p_1.out.keep kk p_1.out.lt)
  have K_w4 := hideP (K_1.out.trans (kk.mono K_1.out.size))
  clear p_1 K_1
  have r_w4 : Hid (SW (((vd1.setCell ⟨B1, 0, none⟩ (.int .i64 ZZ)).setCell ⟨B1, 1, none⟩ (.int .i64 VV)).setCell ⟨B1, 2, none⟩ (.slice sr pn cr)) B1 vc1.heap.size wc1.heap.size ZZ VV sr cr pn Nr) := hideP ⟨PX, (Qr.keep jj4 (Nat.le_refl _)).far FX (by omega), lr⟩
  have Hr := hideP hr
  obtain ⟨bx0, bx1, bx2, bx3, bx4⟩ := BX
  clear j1 jj1 ja1 ka Qa ca la za j2 jj2 kq j3 jj3 jx Qy kr Qr hr lr j4 jj4 hBb hBI PX FX kW kk e1 e2 e3 e4 e5 hB0 hB1
  go_wp2_with fail
  clear bx0 bx1 bx2 bx3 bx4
  generalize ((vd1.setCell ⟨B1, 0, none⟩ (.int .i64 ZZ)).setCell ⟨B1, 1, none⟩ (.int .i64 VV)).setCell ⟨B1, 2, none⟩ (.slice sr pn cr) = w4 at *
  refine Calls.mono (TO.out w4 K_w4.out) ?_
  rintro e w5 ⟨sx, Mx, rfl, lx, zx, cx, Qx, kx⟩
  have Cx := hideP cx
  have Lx := hideP lx
  have Zx := hideP zx
  have lox : w4.heap.size ≤ w5.heap.size := kx.size
  have p_5 := hideP (p_w4.out.keep kx p_w4.out.lt)
  have K_5 := hideP (K_w4.out.trans (kx.mono K_w4.out.size))
  have r_5 := hideP (r_w4.out.keep kx r_w4.out.box.lt r_w4.out.q.hs)
  clear p_w4 K_w4 r_w4
  have x_5 := hideP Qx
  clear kx Qx cx lx zx
  obtain ⟨p0, p1, p2, p3, p4⟩ := p_5.out
  go_wp2_with fail
  clear p0 p1 p2 p3 p4
  refine Calls.mono (toRect_any rx ry rp rh w5) ?_
  rintro e w5r ⟨rfl, kw5r⟩
  have low5r : w5.heap.size ≤ w5r.heap.size := kw5r.size
  have p_w5r := hideP (p_5.out.keep kw5r p_5.out.lt)
  have K_w5r := hideP (K_5.out.trans (kw5r.mono K_5.out.size))
  have r_w5r := hideP (r_5.out.keep kw5r r_5.out.box.lt r_5.out.q.hs)
  have x_w5r := hideP (x_5.out.keep kw5r x_5.out.hs)
  clear p_5 K_5 r_5 x_5
  clear kw5r
  go_wp2_with fail
  refine Calls.mono (IP'.out Mx Lx.out Zx.out Cx.out sx w5r (x_w5r.out.ws.wide (Nat.zero_le _) (by have := x_w5r.out.hs; omega))) ?_
  rintro e w6 ⟨sg, cg, Ng, rfl, hg, lg, Qg, kg⟩
  have ka := kalW w6 (.cells #[.int .i64 ZZ, .int .i64 VV, .slice sg pn cg] 28)
  have kk := kg.trans (ka.mono kg.size)
  have log : w5r.heap.size ≤ w6.heap.size := kg.size
  have hig : (w6.alloc (.cells #[.int .i64 ZZ, .int .i64 VV, .slice sg pn cg] 28)).heap.size = w6.heap.size + 1 := by simp
  have p_w7 := hideP (p_w5r.out.keep kk p_w5r.out.lt)
  have K_w7 := hideP (K_w5r.out.trans (kk.mono K_w5r.out.size))
  have r_w7 := hideP (r_w5r.out.keep kk r_w5r.out.box.lt r_w5r.out.q.hs)
  have x_w7 := hideP (x_w5r.out.keep kk x_w5r.out.hs)
  clear p_w5r K_w5r r_w5r x_w5r
  have g_w7 : Hid (SW (w6.alloc (.cells #[.int .i64 ZZ, .int .i64 VV, .slice sg pn cg] 28)) w6.heap.size w5r.heap.size w6.heap.size ZZ VV sg cg pn Ng) := hideP ⟨r3_new _ _ _ _ _, Qg.keep ka (Nat.le_refl _), lg⟩
  have Hg := hideP hg
  clear ka kk kg Qg hg lg
  obtain ⟨r0, r1, r2, r3, r4⟩ := r_w7.out.box
  obtain ⟨g0, g1, g2, g3, g4⟩ := g_w7.out.box
  go_wp2_with fail
  clear r0 r1 r2 r3 r4 g0 g1 g2 g3 g4
  generalize w6.alloc (.cells #[.int .i64 ZZ, .int .i64 VV, .slice sg pn cg] 28) = w7 at *
  refine Calls.mono (eqSR_w g_w7.out r_w7.out (Hr.out.trans Hg.out.symm) (SM'.out Ng Hg.out)) ?_
  rintro e w8 ⟨rfl, k8⟩
  have n8 := k8.size
  have p_8 := hideP (p_w7.out.keep k8 p_w7.out.lt)
  have K_8 := hideP (K_w7.out.trans (k8.mono K_w7.out.size))
  have r_8 := hideP (r_w7.out.keep k8 r_w7.out.box.lt r_w7.out.q.hs)
  have x_8 := hideP (x_w7.out.keep k8 x_w7.out.hs)
  have g_8 := hideP (g_w7.out.keep k8 g_w7.out.box.lt g_w7.out.q.hs)
  clear p_w7 K_w7 r_w7 x_w7 g_w7
  clear k8
  go_wp2_with fail
  refine Calls.mono (TO.out w8 K_8.out) ?_
  rintro e w9 ⟨sy, My, rfl, ly, zy, cy, Qy, ky⟩
  have Cy := hideP cy
  have Ly := hideP ly
  have Zy := hideP zy
  have loy : w8.heap.size ≤ w9.heap.size := ky.size
  have p_w9 := hideP (p_8.out.keep ky p_8.out.lt)
  have K_w9 := hideP (K_8.out.trans (ky.mono K_8.out.size))
  have r_w9 := hideP (r_8.out.keep ky r_8.out.box.lt r_8.out.q.hs)
  have x_w9 := hideP (x_8.out.keep ky x_8.out.hs)
  have g_w9 := hideP (g_8.out.keep ky g_8.out.box.lt g_8.out.q.hs)
  clear p_8 K_8 r_8 x_8 g_8
  have y_w9 := hideP Qy
  clear ky Qy cy ly zy
  have EQX := hideP (eqW_n (c := n) (d := n) n z Lx.out Zx.out Cx.out Cy.out x_w9.out y_w9.out hnz)
  go_wp2_with fail
  refine Calls.mono EQX.out ?_
  rintro e w10 ⟨rfl, k10⟩
  have n10 := k10.size
  clear EQX
  have p_10 := hideP (p_w9.out.keep k10 p_w9.out.lt)
  have K_10 := hideP (K_w9.out.trans (k10.mono K_w9.out.size))
  have r_10 := hideP (r_w9.out.keep k10 r_w9.out.box.lt r_w9.out.q.hs)
  have x_10 := hideP (x_w9.out.keep k10 x_w9.out.hs)
  have g_10 := hideP (g_w9.out.keep k10 g_w9.out.box.lt g_w9.out.q.hs)
  clear p_w9 K_w9 r_w9 x_w9 g_w9
  clear k10
  have MX := markWS_any w4.heap.size w5.heap.size sx n Mx w10 x_10.out (by have := Lx.out; have := Zx.out; omega)
  rw [Lx.out, Zx.out] at MX
  have MX' := hideP MX
  clear MX
  go_wp2_with fail
  refine Calls.mono MX'.out ?_
  rintro e w11 ⟨rfl, f11, _⟩
  have n11 := f11.size
  have p_11 := hideP (p_10.out.far f11 (by omega))
  have K_11 := hideP (K_10.out.trans (f11.below (by omega) (by have := K_10.out.size; omega)))
  have r_11 := hideP (r_10.out.far f11 (by omega) (by omega))
  have g_11 := hideP (g_10.out.far f11 (by omega) (by omega))
  clear p_10 K_10 r_10 g_10
  clear f11 MX'
  obtain ⟨r0, r1, r2, r3, r4⟩ := r_11.out.box
  obtain ⟨g0, g1, g2, g3, g4⟩ := g_11.out.box
  go_wp2_with fail
  clear r0 r1 r2 r3 r4 g0 g1 g2 g3 g4
  refine Calls.mono (eqSR_w g_11.out r_11.out (Hr.out.trans Hg.out.symm) (SM'.out Ng Hg.out)) ?_
  rintro e w12 ⟨rfl, k12⟩
  have n12 := k12.size
  have p_12 := hideP (p_11.out.keep k12 p_11.out.lt)
  have K_12 := hideP (K_11.out.trans (k12.mono K_11.out.size))
  have r_12 := hideP (r_11.out.keep k12 r_11.out.box.lt r_11.out.q.hs)
  have g_12 := hideP (g_11.out.keep k12 g_11.out.box.lt g_11.out.q.hs)
  clear p_11 K_11 r_11 g_11
  clear k12
  obtain ⟨Tm, hT0, MK, HK⟩ := markSR_w g_12.out (SM'.out Ng Hg.out)
  have MK' := hideP MK
  have HK' := hideP HK
  have hT1 : ¬ Tm < 0 := by omega
  have hTT : (Tm != Tm) = false := by simp
  clear MK HK hT0
  obtain ⟨g0, g1, g2, g3, g4⟩ := g_12.out.box
  go_wp2_with fail
  clear g0 g1 g2 g3 g4
  refine Calls.mono MK'.out ?_
  rintro e w13 ⟨rfl, f13, Q13⟩
  have n13 := f13.size
  have b_12 := hideP g_12.out.box
  have p_13 := hideP (p_12.out.far f13 (by omega))
  have K_13 := hideP (K_12.out.trans (f13.below (by omega) (by have := K_12.out.size; omega)))
  have r_13 := hideP (r_12.out.far f13 (by omega) (by omega))
  have b_13 := hideP (b_12.out.far f13 (by omega))
  clear p_12 K_12 r_12 b_12
  have m_13 := hideP Q13
  clear f13 Q13 MK'
  obtain ⟨b0, b1, b2, b3, b4⟩ := b_13.out
  go_wp2_with fail
  clear b0 b1 b2 b3 b4
  refine Calls.mono (HK'.out _ m_13.out) ?_
  rintro e w14 ⟨rfl, k14⟩
  have n14 := k14.size
  have p_14 := hideP (p_13.out.keep k14 p_13.out.lt)
  have K_14 := hideP (K_13.out.trans (k14.mono K_13.out.size))
  have r_14 := hideP (r_13.out.keep k14 r_13.out.box.lt r_13.out.q.hs)
  have b_14 := hideP (b_13.out.keep k14 b_13.out.lt)
  have m_14 := hideP (m_13.out.keep k14 m_13.out.hs)
  clear p_13 K_13 r_13 b_13 m_13
  clear k14
  obtain ⟨p0, p1, p2, p3, p4⟩ := p_14.out
  go_wp2_with fail
  refine wp_region_boxed 7 [0, 2, 3] [1, 4, 5] 6 (.cells #[.int .i64 0, .int .i64 0, .slice none 0 0] 28) rfl (by kernel_rfl) (by kernel_rfl) ?_
  simp only [sel, List.filterMap_cons, List.filterMap_nil, List.getElem?_cons_succ, List.getElem?_cons_zero]
  repeat (refine grow_step (by rfl) ?_; apply Exists.intro; refine ⟨fun w1 k1 => ?_, fun K hK => ?_⟩; (focus (have hc := Kept.cell k1; go_simp; first | done | rfl)); (go_simp; refine hK _ ?_; clear hK K))
  refine grow_nil ?_
  clear p0 p1 p2 p3 p4
  refine ⟨by rfl, fun w1 => (by go_simp), ?_⟩
  refine boxed_step (by rfl) fun va2 j1 => ?_
  have jj1 := Kept.below j1
  have ja1 := K_14.out.trans (jj1.mono K_14.out.size)
  refine made_calls (by go_simp; first | done | rfl) ((TO.out va2 ja1).mono ?_)
  rintro e wa2 ⟨sv, Mv, rfl, lv, zv, cv, Qv, kv⟩
  refine ⟨_, rfl, kv, fun K hK => ?_⟩
  go_simp
  refine hK _ ?_
  clear hK K
  refine boxed_step (by rfl) fun vb2 j2 => ?_
  have jj2 := Kept.below j2
  refine made_calls (by go_simp; first | done | rfl) ((toRect_any rx ry rp rh vb2).mono ?_)
  rintro e wb2 ⟨rfl, kq⟩
  refine ⟨_, rfl, kq, fun K hK => ?_⟩
  go_simp
  refine hK _ ?_
  clear hK K
  refine boxed_step (by rfl) fun vc2 j3 => ?_
  have jj3 := Kept.below j3
  have jx : Below wa2.heap.size wa2 vc2 := jj2.trans ((kq.trans (jj3.mono kq.size)).mono jj2.size)
  have e1 := jj1.size
  have e2 := kv.size
  have e3 := jx.size
  have Qy := Qv.keep jx (Nat.le_refl _)
  refine made_calls (by go_simp; first | done | rfl) ((IP'.out Mv lv zv cv sv vc2 (Qy.ws.wide (Nat.zero_le _) (by have := Qy.hs; omega))).mono ?_)
  rintro e wc2 ⟨sh, ch, Nh, rfl, hh, lh, Qh, kh⟩
  refine ⟨_, rfl, kh, fun K hK => ?_⟩
  go_simp
  refine hK _ ?_
  clear hK K
  refine boxed_nil fun B2 vd2 j4 hB0 hB1 hBb hBI => ?_
  have jj4 := Kept.below j4
  have e4 := kh.size
  have e5 := jj4.size
  have hB2 : B2 < vc2.heap.size ∨ wc2.heap.size ≤ B2 := hBI (vc2.heap.size, wc2.heap.size) (by simp)
  have BX := r3_at hBb
  have PX := BX.put (.int .i64 ZZ) (.int .i64 VV) (.slice sh pn ch)
  have FX := far_put3 (w := vd2) (b := B2) (.int .i64 ZZ) (.int .i64 VV) (.slice sh pn ch)
  have kW : Below w14.heap.size w14 vd2 := jj1.trans ((kv.trans ((jx.trans ((kh.trans (jj4.mono kh.size)).mono e3)).mono e2)).mono e1)
  have kk := kW.trans (FX.below (B := w14.heap.size) hB0 kW.size)
  have hih : (((vd2.setCell ⟨B2, 0, none⟩ (.int .i64 ZZ)).setCell ⟨B2, 1, none⟩ (.int .i64 VV)).setCell ⟨B2, 2, none⟩ (.slice sh pn ch)).heap.size = vd2.heap.size := by simp
  have lov : w14.heap.size ≤ vd2.heap.size := kW.size
  have loh : vc2.heap.size ≤ wc2.heap.size := e4
  have loB2 : w14.heap.size ≤ B2 ∧ B2 < vd2.heap.size ∧ wc2.heap.size ≤ vd2.heap.size ∧ w14.heap.size ≤ vc2.heap.size := ⟨hB0, hB1, e5, by omega⟩
  have p_w17 := hideP (p_14.out.keep kk p_14.out.lt)
  have K_w17 := hideP (K_14.out.trans (kk.mono K_14.out.size))
  have r_w17 := hideP (r_14.out.keep kk r_14.out.box.lt r_14.out.q.hs)
  have b_w17 := hideP (b_14.out.keep kk b_14.out.lt)
  have m_w17 := hideP (m_14.out.keep kk m_14.out.hs)
  clear p_14 K_14 r_14 b_14 m_14
  have h_w17 : Hid (SW (((vd2.setCell ⟨B2, 0, none⟩ (.int .i64 ZZ)).setCell ⟨B2, 1, none⟩ (.int .i64 VV)).setCell ⟨B2, 2, none⟩ (.slice sh pn ch)) B2 vc2.heap.size wc2.heap.size ZZ VV sh ch pn Nh) := hideP ⟨PX, (Qh.keep jj4 (Nat.le_refl _)).far FX (by omega), lh⟩
  have Hh := hideP hh
  obtain ⟨bx0, bx1, bx2, bx3, bx4⟩ := BX
  clear j1 jj1 ja1 kv Qv cv lv zv j2 jj2 kq j3 jj3 jx Qy kh Qh hh lh j4 jj4 hBb hBI PX FX kW kk e1 e2 e3 e4 e5 hB0 hB1
  obtain ⟨r0, r1, r2, r3, r4⟩ := r_w17.out.box
  obtain ⟨h0, h1, h2, h3, h4⟩ := h_w17.out.box
  go_wp2_with fail
  clear r0 r1 r2 r3 r4 h0 h1 h2 h3 h4
  clear bx0 bx1 bx2 bx3 bx4
  generalize ((vd2.setCell ⟨B2, 0, none⟩ (.int .i64 ZZ)).setCell ⟨B2, 1, none⟩ (.int .i64 VV)).setCell ⟨B2, 2, none⟩ (.slice sh pn ch) = w17 at *
  refine Calls.mono (eqSR_w h_w17.out r_w17.out (Hr.out.trans Hh.out.symm) (SM'.out Nh Hh.out)) ?_
  rintro e w18 ⟨rfl, k18⟩
  have n18 := k18.size
  have p_18 := hideP (p_w17.out.keep k18 p_w17.out.lt)
  have K_18 := hideP (K_w17.out.trans (k18.mono K_w17.out.size))
  have b_18 := hideP (b_w17.out.keep k18 b_w17.out.lt)
  have m_18 := hideP (m_w17.out.keep k18 m_w17.out.hs)
  clear p_w17 K_w17 b_w17 m_w17
  clear k18
  obtain ⟨b0, b1, b2, b3, b4⟩ := b_18.out
  go_wp2_with fail
  clear b0 b1 b2 b3 b4
  refine Calls.mono (HK'.out _ m_18.out) ?_
  rintro e w19 ⟨rfl, k19⟩
  have n19 := k19.size
  have p_19 := hideP (p_18.out.keep k19 p_18.out.lt)
  have K_19 := hideP (K_18.out.trans (k19.mono K_18.out.size))
  have b_19 := hideP (b_18.out.keep k19 b_18.out.lt)
  have m_19 := hideP (m_18.out.keep k19 m_18.out.hs)
  clear p_18 K_18 b_18 m_18
  clear k19
  go_wp2
  go_returns
  exact ⟨rfl, K_19.out⟩

theorem law_MakeWindow (so : Option Addr) (sc : Nat) (L : List Wn) (slot rx ry rp rh : Int) (w : World) (hn : L.length ≤ maxLen) (hL : Ws w 0 w.heap.size so L) (hm : ∀ r ∈ L, r.b.L.length ≤ maxLen) :
    Calls Try.prog 3 #[.slice so L.length sc, .int .i64 slot, .agg #[.int .i64 rx, .int .i64 ry, .int .i64 rp, .int .i64 rh]] w fun e w' => e = .returned (.bool true) ∧ Below w.heap.size w w' := by
  by_cases h : L.length + wzs L ≤ 1048576
  · exact small_MakeWindow so sc L slot rx ry rp rh w hL h
  · exact big_MakeWindow so sc L slot rx ry rp rh w hL hn hm (by omega)
end Go.Proofs.Ytcdlcpecnpgjgaa
