/- OwnersOf: the law's walk. -/
import Derived.Test.YtbagloapclgpnaaU47
import Derived.Test.YtbagloapclgpnaaU48
import Derived.Test.YtbagloapclgpnaaU37
import Derived.Test.YtbagloapclgpnaaU49
namespace Go.Proofs.Ytbagloapclgpnaa
open Go.RowKit Go.Maps
set_option linter.unusedVariables false

set_option maxRecDepth 100000 in
set_option maxHeartbeats 16000000 in
theorem small_OwnersOf (so : Option Addr) (sc : Nat) (L : List Wn) (w : World) (hL : Ws w 0 w.heap.size so L) (h : L.length + wzs L ≤ 1048576) :
    Calls Try.prog 8 #[.slice so L.length sc] w fun e w' => e = .returned (.bool true) ∧ Below w.heap.size w w' := by
  have SZ := szW_n (sc := sc) hL (Nat.le_refl _) (by omega : L.length + wzs L ≤ 1048576)
  have TO := copyW 0 w.heap.size so sc L w hL (Nat.le_refl _) (by omega)
  have HSm := h
  obtain ⟨n, hnL⟩ : ∃ n, L.length = n := ⟨_, rfl⟩
  obtain ⟨z, hzL⟩ : ∃ z, wzs L = z := ⟨_, rfl⟩
  obtain ⟨C, hC⟩ : ∃ C, L.map Wn.ct = C := ⟨_, rfl⟩
  obtain ⟨ZZ, hZ⟩ : ∃ ZZ : Int, stF C = ZZ := ⟨_, rfl⟩
  obtain ⟨P, hP⟩ : ∃ P, oscL C = P := ⟨_, rfl⟩
  have hpl : P.length ≤ 1048576 := by rw [← hP]; have := oscL_len C; omega
  have SP' : Hid (∀ (M : List Wn), M.length = n → wzs M = z → M.map Wn.ct = C → ∀ s W, Ws W 0 W.heap.size s M → Calls Try.prog 26 #[.slice s n n] W (IsA W ZZ P)) := hideP (fun M hl hz hc s W a1 => by
    have hh := sOwners_any s M.length M W a1 (by omega)
    rw [hc, hl, hZ, hP] at hh
    exact hh)
  have IP' : Hid (∀ (M : List Wn), M.length = n → wzs M = z → M.map Wn.ct = C → ∀ s W, Ws W 0 W.heap.size s M → Calls Try.prog 19 #[.slice s n n] W (IsA W ZZ P)) := hideP (fun M hl hz hc s W a1 => by
    have hh := iOwnersOf_any s M.length M W a1 (by omega)
    rw [hc, hl, hZ, hP] at hh
    exact hh)
  rw [hnL, hzL, hC] at TO
  rw [hnL, hzL] at SZ h
  have hnz : n + z ≤ 1048576 := by omega
  have hz0 : ¬ (1048576 : Int) - ((n + z : Nat) : Int) < 0 := by omega
  have hk0 : ¬ (1 + 6 * (n : Int) + (z : Int) < 0) := by omega
  rw [hnL]
  obtain ⟨q, hq⟩ : ∃ q, (1048576 : Int) - ((n + z : Nat) : Int) = q := ⟨_, rfl⟩
  have hq0 : 0 ≤ q ∧ q ≤ 1048576 := by omega
  rw [hq] at SZ hz0
  have SZ' := hideP SZ
  have TO' := hideP TO
  clear hZ hP hC hzL hq SZ TO h HSm hL
  have TO := TO'
  clear TO'
  go_enter Try.func8, Try.ntmps8
  go_wp2_with fail
  refine Calls.mono SZ'.out ?_
  rintro e w1 ⟨rfl, k1⟩
  have K_1 := hideP k1
  have sz1 := k1.size
  clear k1 SZ'
  go_wp2_with fail
  refine Calls.mono (TO.out w1 K_1.out) ?_
  rintro e w2 ⟨saW, MaW, rfl, laW, zaW, caW, QaW, kaW⟩
  have CaW := hideP caW
  have LaW := hideP laW
  have ZaW := hideP zaW
  have lo_w2 : w1.heap.size ≤ w2.heap.size := kaW.size
  have K_w2 := hideP (K_1.out.trans (kaW.mono K_1.out.size))
  clear K_1
  have aW_w2 := hideP QaW
  clear kaW QaW caW laW zaW
  go_wp2_with fail
  refine Calls.mono (SP'.out MaW LaW.out ZaW.out CaW.out saW w2 (aW_w2.out.ws.wide (Nat.zero_le _) (by have := aW_w2.out.hs; omega))) ?_
  rintro e w3 ⟨sr, cr, rfl, Or, kr⟩
  have ka := kal5 w3 (.cells #[.int .i64 ZZ, .slice sr P.length cr] 41)
  have kk := kr.trans (ka.mono kr.size)
  have lo_w3 : w2.heap.size ≤ w3.heap.size := kr.size
  have hi_w4 : (w3.alloc (.cells #[.int .i64 ZZ, .slice sr P.length cr] 41)).heap.size = w3.heap.size + 1 := by simp
  have K_w4 := hideP (K_w2.out.trans (kk.mono K_w2.out.size))
  have aW_w4 := hideP (aW_w2.out.keep kk aW_w2.out.hs)
  clear K_w2 aW_w2
  have r_w4 : Hid (PI (w3.alloc (.cells #[.int .i64 ZZ, .slice sr P.length cr] 41)) w3.heap.size w2.heap.size w3.heap.size ZZ sr cr P) := hideP (PI.new Or kr.size)
  clear ka kk kr Or
  go_wp2_with fail
  generalize w3.alloc (.cells #[.int .i64 ZZ, .slice sr P.length cr] 41) = w4 at *
  refine Calls.mono (TO.out w4 K_w4.out) ?_
  rintro e w5 ⟨sxW, MxW, rfl, lxW, zxW, cxW, QxW, kxW⟩
  have CxW := hideP cxW
  have LxW := hideP lxW
  have ZxW := hideP zxW
  have lo_w5 : w4.heap.size ≤ w5.heap.size := kxW.size
  have K_w5 := hideP (K_w4.out.trans (kxW.mono K_w4.out.size))
  have r_w5 := hideP (r_w4.out.keep kxW r_w4.out.box.lt r_w4.out.hs)
  clear K_w4 r_w4
  have xW_w5 := hideP QxW
  clear kxW QxW cxW lxW zxW
  go_wp2_with fail
  refine Calls.mono (IP'.out MxW LxW.out ZxW.out CxW.out sxW w5 (xW_w5.out.ws.wide (Nat.zero_le _) (by have := xW_w5.out.hs; omega))) ?_
  rintro e w6 ⟨sg, cg, rfl, Og, kg⟩
  have ka := kal5 w6 (.cells #[.int .i64 ZZ, .slice sg P.length cg] 41)
  have kk := kg.trans (ka.mono kg.size)
  have lo_w6 : w5.heap.size ≤ w6.heap.size := kg.size
  have hi_w7 : (w6.alloc (.cells #[.int .i64 ZZ, .slice sg P.length cg] 41)).heap.size = w6.heap.size + 1 := by simp
  have K_w7 := hideP (K_w5.out.trans (kk.mono K_w5.out.size))
  have r_w7 := hideP (r_w5.out.keep kk r_w5.out.box.lt r_w5.out.hs)
  have xW_w7 := hideP (xW_w5.out.keep kk xW_w5.out.hs)
  clear K_w5 r_w5 xW_w5
  have g_w7 : Hid (PI (w6.alloc (.cells #[.int .i64 ZZ, .slice sg P.length cg] 41)) w6.heap.size w5.heap.size w6.heap.size ZZ sg cg P) := hideP (PI.new Og kg.size)
  clear ka kk kg Og
  obtain ⟨r0, r1, r2, r3, r4⟩ := r_w7.out.box
  obtain ⟨g0, g1, g2, g3, g4⟩ := g_w7.out.box
  go_wp2_with fail
  clear r0 r1 r2 r3 r4 g0 g1 g2 g3 g4
  generalize w6.alloc (.cells #[.int .i64 ZZ, .slice sg P.length cg] 41) = w7 at *
  refine Calls.mono (eqIS_same _ _ _ _ ZZ sg sr cg cr P w7 g_w7.out.row.row r_w7.out.row.row g_w7.out.hs r_w7.out.hs hpl) ?_
  rintro e w8 ⟨rfl, kq⟩
  have lo_w8 : w7.heap.size ≤ w8.heap.size := kq.size
  have K_w8 := hideP (K_w7.out.trans (kq.mono K_w7.out.size))
  have r_w8 := hideP (r_w7.out.keep kq r_w7.out.box.lt r_w7.out.hs)
  have xW_w8 := hideP (xW_w7.out.keep kq xW_w7.out.hs)
  have g_w8 := hideP (g_w7.out.keep kq g_w7.out.box.lt g_w7.out.hs)
  clear K_w7 r_w7 xW_w7 g_w7
  clear kq
  go_wp2_with fail
  refine Calls.mono (TO.out w8 K_w8.out) ?_
  rintro e w9 ⟨syW, MyW, rfl, lyW, zyW, cyW, QyW, kyW⟩
  have CyW := hideP cyW
  have LyW := hideP lyW
  have ZyW := hideP zyW
  have lo_w9 : w8.heap.size ≤ w9.heap.size := kyW.size
  have K_w9 := hideP (K_w8.out.trans (kyW.mono K_w8.out.size))
  have r_w9 := hideP (r_w8.out.keep kyW r_w8.out.box.lt r_w8.out.hs)
  have xW_w9 := hideP (xW_w8.out.keep kyW xW_w8.out.hs)
  have g_w9 := hideP (g_w8.out.keep kyW g_w8.out.box.lt g_w8.out.hs)
  clear K_w8 r_w8 xW_w8 g_w8
  have yW_w9 := hideP QyW
  clear kyW QyW cyW lyW zyW
  have EQX := hideP (eqW_n (c := n) (d := n) n z LxW.out ZxW.out CxW.out CyW.out xW_w9.out yW_w9.out hnz)
  go_wp2_with fail
  refine Calls.mono (EQX.out) ?_
  rintro e w10 ⟨rfl, kq⟩
  have lo_w10 : w9.heap.size ≤ w10.heap.size := kq.size
  have K_w10 := hideP (K_w9.out.trans (kq.mono K_w9.out.size))
  have r_w10 := hideP (r_w9.out.keep kq r_w9.out.box.lt r_w9.out.hs)
  have xW_w10 := hideP (xW_w9.out.keep kq xW_w9.out.hs)
  have g_w10 := hideP (g_w9.out.keep kq g_w9.out.box.lt g_w9.out.hs)
  clear K_w9 r_w9 xW_w9 g_w9
  clear kq
  clear EQX
  have MX := markWS_any _ _ sxW n MxW w10 xW_w10.out (by have := LxW.out; have := ZxW.out; omega)
  rw [LxW.out, ZxW.out] at MX
  have MX' := hideP MX
  clear MX
  go_wp2_with fail
  refine Calls.mono MX'.out ?_
  rintro e w11 ⟨rfl, ff, _⟩
  clear MX'
  have lo_w11 : w10.heap.size ≤ w11.heap.size := ff.size
  have K_w11 := hideP (K_w10.out.trans (ff.below (by omega) (by have := K_w10.out.size; omega)))
  have r_w11 := hideP (r_w10.out.far ff (by omega) (by omega))
  have g_w11 := hideP (g_w10.out.far ff (by omega) (by omega))
  clear K_w10 r_w10 g_w10
  clear ff
  obtain ⟨r0, r1, r2, r3, r4⟩ := r_w11.out.box
  obtain ⟨g0, g1, g2, g3, g4⟩ := g_w11.out.box
  go_wp2_with fail
  clear r0 r1 r2 r3 r4 g0 g1 g2 g3 g4
  refine Calls.mono (eqIS_same _ _ _ _ ZZ sg sr cg cr P w11 g_w11.out.row.row r_w11.out.row.row g_w11.out.hs r_w11.out.hs hpl) ?_
  rintro e w12 ⟨rfl, kq⟩
  have lo_w12 : w11.heap.size ≤ w12.heap.size := kq.size
  have K_w12 := hideP (K_w11.out.trans (kq.mono K_w11.out.size))
  have r_w12 := hideP (r_w11.out.keep kq r_w11.out.box.lt r_w11.out.hs)
  have g_w12 := hideP (g_w11.out.keep kq g_w11.out.box.lt g_w11.out.hs)
  clear K_w11 r_w11 g_w11
  clear kq
  obtain ⟨g0, g1, g2, g3, g4⟩ := g_w12.out.box
  go_wp2_with fail
  clear g0 g1 g2 g3 g4
  refine Calls.mono (markIS_any _ _ ZZ sg cg 1 P w12 g_w12.out.row g_w12.out.hs hpl (by omega) (by omega)) ?_
  rintro e w13 ⟨rfl, ff, Qm⟩
  have lo_w13 : w12.heap.size ≤ w13.heap.size := ff.size
  have b_w12 := hideP g_w12.out.box
  have hm1 := g_w12.out.hs
  have K_w13 := hideP (K_w12.out.trans (ff.below (by omega) (by have := K_w12.out.size; omega)))
  have r_w13 := hideP (r_w12.out.far ff (by omega) (by omega))
  have b_w13 := hideP (b_w12.out.far ff (by omega))
  clear K_w12 r_w12 b_w12
  have m_w13 := hideP Qm
  clear ff Qm
  have hp0 : ¬ (1 + (P.length : Int) < 0) := by omega
  have hpe : (1 + (P.length : Int) != 1 + (P.length : Int)) = false := by simp
  obtain ⟨b0, b1, b2, b3, b4⟩ := b_w13.out
  go_wp2_with fail
  clear b0 b1 b2 b3 b4
  refine Calls.mono (heldIS_any _ _ ZZ sg cg P.length 1 w13 m_w13.out.row (by omega) hpl (by omega) (by omega)) ?_
  rintro e w14 ⟨rfl, kq⟩
  have lo_w14 : w13.heap.size ≤ w14.heap.size := kq.size
  have K_w14 := hideP (K_w13.out.trans (kq.mono K_w13.out.size))
  have r_w14 := hideP (r_w13.out.keep kq r_w13.out.box.lt r_w13.out.hs)
  have b_w14 := hideP (b_w13.out.keep kq b_w13.out.lt)
  have m_w14 := hideP (m_w13.out.keep kq (by omega))
  clear K_w13 r_w13 b_w13 m_w13
  clear kq
  go_wp2_with fail
  refine Calls.mono (TO.out w14 K_w14.out) ?_
  rintro e w15 ⟨svW, MvW, rfl, lvW, zvW, cvW, QvW, kvW⟩
  have CvW := hideP cvW
  have LvW := hideP lvW
  have ZvW := hideP zvW
  have lo_w15 : w14.heap.size ≤ w15.heap.size := kvW.size
  have K_w15 := hideP (K_w14.out.trans (kvW.mono K_w14.out.size))
  have r_w15 := hideP (r_w14.out.keep kvW r_w14.out.box.lt r_w14.out.hs)
  have b_w15 := hideP (b_w14.out.keep kvW b_w14.out.lt)
  have m_w15 := hideP (m_w14.out.keep kvW (by omega))
  clear K_w14 r_w14 b_w14 m_w14
  have vW_w15 := hideP QvW
  clear kvW QvW cvW lvW zvW
  go_wp2_with fail
  refine Calls.mono (IP'.out MvW LvW.out ZvW.out CvW.out svW w15 (vW_w15.out.ws.wide (Nat.zero_le _) (by have := vW_w15.out.hs; omega))) ?_
  rintro e w16 ⟨sh, ch, rfl, Oh, kh⟩
  have ka := kal5 w16 (.cells #[.int .i64 ZZ, .slice sh P.length ch] 41)
  have kk := kh.trans (ka.mono kh.size)
  have lo_w16 : w15.heap.size ≤ w16.heap.size := kh.size
  have hi_w17 : (w16.alloc (.cells #[.int .i64 ZZ, .slice sh P.length ch] 41)).heap.size = w16.heap.size + 1 := by simp
  have K_w17 := hideP (K_w15.out.trans (kk.mono K_w15.out.size))
  have r_w17 := hideP (r_w15.out.keep kk r_w15.out.box.lt r_w15.out.hs)
  have b_w17 := hideP (b_w15.out.keep kk b_w15.out.lt)
  have m_w17 := hideP (m_w15.out.keep kk (by omega))
  have vW_w17 := hideP (vW_w15.out.keep kk vW_w15.out.hs)
  clear K_w15 r_w15 b_w15 m_w15 vW_w15
  have h_w17 : Hid (PI (w16.alloc (.cells #[.int .i64 ZZ, .slice sh P.length ch] 41)) w16.heap.size w15.heap.size w16.heap.size ZZ sh ch P) := hideP (PI.new Oh kh.size)
  clear ka kk kh Oh
  obtain ⟨r0, r1, r2, r3, r4⟩ := r_w17.out.box
  obtain ⟨h0, h1, h2, h3, h4⟩ := h_w17.out.box
  go_wp2_with fail
  clear r0 r1 r2 r3 r4 h0 h1 h2 h3 h4
  generalize w16.alloc (.cells #[.int .i64 ZZ, .slice sh P.length ch] 41) = w17 at *
  refine Calls.mono (eqIS_same _ _ _ _ ZZ sh sr ch cr P w17 h_w17.out.row.row r_w17.out.row.row h_w17.out.hs r_w17.out.hs hpl) ?_
  rintro e w18 ⟨rfl, kq⟩
  have lo_w18 : w17.heap.size ≤ w18.heap.size := kq.size
  have K_w18 := hideP (K_w17.out.trans (kq.mono K_w17.out.size))
  have b_w18 := hideP (b_w17.out.keep kq b_w17.out.lt)
  have m_w18 := hideP (m_w17.out.keep kq (by omega))
  clear K_w17 b_w17 m_w17
  clear kq
  obtain ⟨b0, b1, b2, b3, b4⟩ := b_w18.out
  go_wp2_with fail
  clear b0 b1 b2 b3 b4
  refine Calls.mono (heldIS_any _ _ ZZ sg cg P.length 1 w18 m_w18.out.row (by omega) hpl (by omega) (by omega)) ?_
  rintro e w19 ⟨rfl, kq⟩
  have lo_w19 : w18.heap.size ≤ w19.heap.size := kq.size
  have K_w19 := hideP (K_w18.out.trans (kq.mono K_w18.out.size))
  have b_w19 := hideP (b_w18.out.keep kq b_w18.out.lt)
  have m_w19 := hideP (m_w18.out.keep kq (by omega))
  clear K_w18 b_w18 m_w18
  clear kq
  go_wp2
  go_returns
  exact ⟨rfl, K_w19.out⟩

set_option maxHeartbeats 400000 in
theorem big_OwnersOf (so : Option Addr) (sc : Nat) (L : List Wn) (w : World) (hL : Ws w 0 w.heap.size so L) (hn : L.length ≤ maxLen) (hm : ∀ r ∈ L, r.b.L.length ≤ maxLen) (h : 1048576 < L.length + wzs L) :
    Calls Try.prog 8 #[.slice so L.length sc] w fun e w' => e = .returned (.bool true) ∧ Below w.heap.size w w' := by
  have SZ := fun w1 (kk : Below w.heap.size w w1) => szWS_any 0 w.heap.size so sc L 1048576 w1 (hL.keep kk (Nat.le_refl _)) kk.size hn hm (by omega) (by omega)
  rw [szV_no (by omega)] at SZ
  have SZ' := hideP SZ
  clear SZ hL hm hn h
  go_enter Try.func8, Try.ntmps8
  go_wp2_with fail
  refine Calls.mono (SZ'.out _ (by go_grown)) ?_
  rintro e w1 ⟨rfl, k1⟩
  have K1 : Hid (Below w.heap.size w w1) := hideP (Below.trans (by go_grown) (k1.mono (by first | exact Nat.le_refl _ | (simp; done) | (simp; omega))))
  clear k1
  go_wp2
  go_returns
  exact ⟨rfl, K1.out⟩

theorem law_OwnersOf (so : Option Addr) (sc : Nat) (L : List Wn) (w : World) (hn : L.length ≤ maxLen) (hL : Ws w 0 w.heap.size so L) (hm : ∀ r ∈ L, r.b.L.length ≤ maxLen) :
    Calls Try.prog 8 #[.slice so L.length sc] w fun e w' => e = .returned (.bool true) ∧ Below w.heap.size w w' := by
  by_cases h : L.length + wzs L ≤ 1048576
  · exact small_OwnersOf so sc L w hL h
  · exact big_OwnersOf so sc L w hL hn hm (by omega)
end Go.Proofs.Ytbagloapclgpnaa
