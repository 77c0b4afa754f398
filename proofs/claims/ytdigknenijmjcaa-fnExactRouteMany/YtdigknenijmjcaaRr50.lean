/- RouteMany: the law's walk. -/
import Derived.Test.YtdigknenijmjcaaRr47
import Derived.Test.YtdigknenijmjcaaRr49
import Derived.Test.YtdigknenijmjcaaRr20
import Derived.Test.YtdigknenijmjcaaRr46
import Derived.Test.YtdigknenijmjcaaRr19
namespace Go.Proofs.Ytdigknenijmjcaa
open Go.RowKit Go.Maps
set_option linter.unusedVariables false

set_option maxRecDepth 100000 in
set_option maxHeartbeats 16000000 in
theorem small_RouteMany (t : Bool) (f : Int) (so : Option Addr) (sc : Nat) (L : List Wn) (lo : Option Addr) (lc : Nat) (LL : List Hd) (w : World) (hL : Ws w 0 w.heap.size so L) (hLL : Hds w 0 w.heap.size lo LL) (h : L.length + wzs L + LL.length ≤ 1048576) :
    Calls Try.prog 3 #[.agg #[.bool t, .int .i64 f], .slice so L.length sc, .slice lo LL.length lc] w fun e w' => e = .returned (.bool true) ∧ Below w.heap.size w w' := by
  have SZ := fun w1 (kk : Below w.heap.size w w1) => szW_n (sc := sc) (hL.keep kk (Nat.le_refl _)) kk.size (by omega : L.length + wzs L ≤ 1048576)
  have TO := copyW 0 w.heap.size so sc L w hL (Nat.le_refl _) (by omega)
  have HSm := h
  have HLL := hideP hLL
  have hll : LL.length ≤ 1048576 := by omega
  have hll' : (LL.length : Int) ≤ 1048576 := by omega
  clear hLL
  obtain ⟨n, hnL⟩ : ∃ n, L.length = n := ⟨_, rfl⟩
  obtain ⟨z, hzL⟩ : ∃ z, wzs L = z := ⟨_, rfl⟩
  obtain ⟨C, hC⟩ : ∃ C, L.map Wn.ct = C := ⟨_, rfl⟩
  obtain ⟨ZZ, hZ⟩ : ∃ ZZ : Int, (manyR C t f LL).1 = ZZ := ⟨_, rfl⟩
  obtain ⟨P, hP⟩ : ∃ P, (manyR C t f LL).2 = P := ⟨_, rfl⟩
  have hpl : P.length ≤ 1048576 := by rw [← hP]; have := manyR_len C t f LL; omega
  have SP' : Hid (∀ (M : List Wn), M.length = n → wzs M = z → M.map Wn.ct = C → ∀ s W, Ws W 0 W.heap.size s M → ∀ gl, Hds W 0 W.heap.size (some ⟨gl, 0, none⟩) LL → Calls Try.prog 6 #[.agg #[.bool t, .int .i64 f], .slice s n n, .slice (some ⟨gl, 0, none⟩) LL.length LL.length] W (IsA W ZZ P)) := hideP (fun M hl hz hc s W a1 gl a2 => by
    have hh := sMany_any t f s M.length M _ LL.length LL W a1 (by omega) a2
    rw [hc, hl, hZ, hP] at hh
    exact hh)
  have IP' : Hid (∀ (M : List Wn), M.length = n → wzs M = z → M.map Wn.ct = C → ∀ s W, Ws W 0 W.heap.size s M → ∀ gl, Hds W 0 W.heap.size (some ⟨gl, 0, none⟩) LL → Calls Try.prog 10 #[.agg #[.bool t, .int .i64 f], .slice s n n, .slice (some ⟨gl, 0, none⟩) LL.length LL.length] W (IsA W ZZ P)) := hideP (fun M hl hz hc s W a1 gl a2 => by
    have hh := iMany_any t f s M.length M _ LL.length LL W a1 (by omega) a2
    rw [hc, hl, hZ, hP] at hh
    exact hh)
  rw [hnL, hzL, hC] at TO
  rw [hnL, hzL] at SZ h
  have hnz : n + z ≤ 1048576 := by omega
  have hz0 : ¬ (1048576 : Int) - ((n + z : Nat) : Int) < 0 := by omega
  have hk0 : ¬ (1 + 6 * (n : Int) + (z : Int) + 3 * (LL.length : Nat) < 0) := by omega
  rw [hnL]
  obtain ⟨q, hq⟩ : ∃ q, (1048576 : Int) - ((n + z : Nat) : Int) = q := ⟨_, rfl⟩
  have hq0 : 0 ≤ q ∧ q ≤ 1048576 ∧ (LL.length : Int) ≤ q := by omega
  rw [hq] at SZ hz0
  have SZ' := hideP SZ
  have TO' := hideP TO
  clear hZ hP hC hzL hq SZ TO h HSm hL
  have TO := TO'
  clear TO'
  go_enter Try.func3, Try.ntmps3
  go_wp2_with fail
  refine Calls.mono (SZ'.out _ (by go_grown)) ?_
  rintro e w1 ⟨rfl, k1⟩
  have K_1 : Hid (Below w.heap.size w w1) := hideP (Below.trans (by go_grown) (k1.mono (by first | exact Nat.le_refl _ | (simp; done) | (simp; omega))))
  have I_1 := hideP ((i2_new w t f 23).keep k1 (by simp))
  have sz1 := k1.size
  simp only [World.size_alloc] at sz1
  clear k1 SZ'
  go_wp2_with fail
  refine Calls.mono (szHds_any lo LL.length lc q w1 (by unfold maxLen; omega) ⟨hq0.1, hq0.2.1⟩) ?_
  rintro e w2 ⟨rfl, hw⟩
  subst hw
  rw [if_pos hq0.2.2]
  have hq2 : ¬ q - (LL.length : Int) < 0 := by omega
  have K_2 := hideP K_1.out
  clear K_1
  have I_2 := hideP I_1.out
  clear I_1
  obtain ⟨i0, i1, i2⟩ := I_2.out
  go_wp2_with fail
  clear i0 i1 i2
  refine Calls.mono (toInput_any t f _) ?_
  rintro e w3 ⟨rfl, kq⟩
  have lo_w3 : w2.heap.size ≤ w3.heap.size := kq.size
  have K_w3 := hideP (K_2.out.trans (kq.mono K_2.out.size))
  have I_w3 := hideP (I_2.out.keep kq I_2.out.lt)
  clear K_2 I_2
  clear kq
  go_wp2_with fail
  refine Calls.mono (TO.out w3 K_w3.out) ?_
  rintro e w4 ⟨saW, MaW, rfl, laW, zaW, caW, QaW, kaW⟩
  have CaW := hideP caW
  have LaW := hideP laW
  have ZaW := hideP zaW
  have lo_w4 : w3.heap.size ≤ w4.heap.size := kaW.size
  have K_w4 := hideP (K_w3.out.trans (kaW.mono K_w3.out.size))
  have I_w4 := hideP (I_w3.out.keep kaW I_w3.out.lt)
  clear K_w3 I_w3
  have aW_w4 := hideP QaW
  clear kaW QaW caW laW zaW
  go_wp2_with fail
  refine Calls.mono (toHds_any 0 w.heap.size lo lc LL w4 (HLL.out.keep K_w4.out (Nat.le_refl _)) K_w4.out.size hll) ?_
  rintro e w5 ⟨gaL, rfl, hgaL, FaL⟩
  have kaL := FaL.below
  have QaL := HQ.of FaL
  have lo_w5 : w4.heap.size ≤ w5.heap.size := kaL.size
  have K_w5 := hideP (K_w4.out.trans (kaL.mono K_w4.out.size))
  have I_w5 := hideP (I_w4.out.keep kaL I_w4.out.lt)
  have aW_w5 := hideP (aW_w4.out.keep kaL aW_w4.out.hs)
  clear K_w4 I_w4 aW_w4
  have aL_w5 := hideP QaL
  have b_aL_w5 : w4.heap.size ≤ gaL ∧ gaL < w5.heap.size := ⟨QaL.le, QaL.lt⟩
  clear kaL QaL FaL hgaL
  go_wp2_with fail
  refine Calls.mono (SP'.out MaW LaW.out ZaW.out CaW.out saW w5 (aW_w5.out.ws.wide (Nat.zero_le _) (by have := aW_w5.out.hs; omega)) gaL (aL_w5.out.hds.wide (Nat.zero_le _) (by have := aL_w5.out.hs; omega))) ?_
  rintro e w6 ⟨sr, cr, rfl, Or, kr⟩
  have ka := kal5 w6 (.cells #[.int .i64 ZZ, .slice sr P.length cr] 30)
  have kk := kr.trans (ka.mono kr.size)
  have lo_w6 : w5.heap.size ≤ w6.heap.size := kr.size
  have hi_w7 : (w6.alloc (.cells #[.int .i64 ZZ, .slice sr P.length cr] 30)).heap.size = w6.heap.size + 1 := by simp
  have K_w7 := hideP (K_w5.out.trans (kk.mono K_w5.out.size))
  have I_w7 := hideP (I_w5.out.keep kk I_w5.out.lt)
  have aW_w7 := hideP (aW_w5.out.keep kk aW_w5.out.hs)
  have aL_w7 := hideP (aL_w5.out.keep kk aL_w5.out.hs)
  clear K_w5 I_w5 aW_w5 aL_w5
  have r_w7 : Hid (PI (w6.alloc (.cells #[.int .i64 ZZ, .slice sr P.length cr] 30)) w6.heap.size w5.heap.size w6.heap.size ZZ sr cr P) := hideP (PI.new Or kr.size)
  clear ka kk kr Or
  go_wp2_with fail
  generalize w6.alloc (.cells #[.int .i64 ZZ, .slice sr P.length cr] 30) = w7 at *
  refine Calls.mono (TO.out w7 K_w7.out) ?_
  rintro e w8 ⟨sxW, MxW, rfl, lxW, zxW, cxW, QxW, kxW⟩
  have CxW := hideP cxW
  have LxW := hideP lxW
  have ZxW := hideP zxW
  have lo_w8 : w7.heap.size ≤ w8.heap.size := kxW.size
  have K_w8 := hideP (K_w7.out.trans (kxW.mono K_w7.out.size))
  have I_w8 := hideP (I_w7.out.keep kxW I_w7.out.lt)
  have r_w8 := hideP (r_w7.out.keep kxW r_w7.out.box.lt r_w7.out.hs)
  clear K_w7 I_w7 r_w7
  have xW_w8 := hideP QxW
  clear kxW QxW cxW lxW zxW
  go_wp2_with fail
  refine Calls.mono (toHds_any 0 w.heap.size lo lc LL w8 (HLL.out.keep K_w8.out (Nat.le_refl _)) K_w8.out.size hll) ?_
  rintro e w9 ⟨gxL, rfl, hgxL, FxL⟩
  have kxL := FxL.below
  have QxL := HQ.of FxL
  have lo_w9 : w8.heap.size ≤ w9.heap.size := kxL.size
  have K_w9 := hideP (K_w8.out.trans (kxL.mono K_w8.out.size))
  have I_w9 := hideP (I_w8.out.keep kxL I_w8.out.lt)
  have r_w9 := hideP (r_w8.out.keep kxL r_w8.out.box.lt r_w8.out.hs)
  have xW_w9 := hideP (xW_w8.out.keep kxL xW_w8.out.hs)
  clear K_w8 I_w8 r_w8 xW_w8
  have xL_w9 := hideP QxL
  have b_xL_w9 : w8.heap.size ≤ gxL ∧ gxL < w9.heap.size := ⟨QxL.le, QxL.lt⟩
  clear kxL QxL FxL hgxL
  obtain ⟨i0, i1, i2⟩ := I_w9.out
  go_wp2_with fail
  clear i0 i1 i2
  refine Calls.mono (toInput_any t f _) ?_
  rintro e w10 ⟨rfl, kq⟩
  have lo_w10 : w9.heap.size ≤ w10.heap.size := kq.size
  have K_w10 := hideP (K_w9.out.trans (kq.mono K_w9.out.size))
  have I_w10 := hideP (I_w9.out.keep kq I_w9.out.lt)
  have r_w10 := hideP (r_w9.out.keep kq r_w9.out.box.lt r_w9.out.hs)
  have xW_w10 := hideP (xW_w9.out.keep kq xW_w9.out.hs)
  have xL_w10 := hideP (xL_w9.out.keep kq xL_w9.out.hs)
  clear K_w9 I_w9 r_w9 xW_w9 xL_w9
  clear kq
  go_wp2_with fail
  refine Calls.mono (IP'.out MxW LxW.out ZxW.out CxW.out sxW w10 (xW_w10.out.ws.wide (Nat.zero_le _) (by have := xW_w10.out.hs; omega)) gxL (xL_w10.out.hds.wide (Nat.zero_le _) (by have := xL_w10.out.hs; omega))) ?_
  rintro e w11 ⟨sg, cg, rfl, Og, kg⟩
  have ka := kal5 w11 (.cells #[.int .i64 ZZ, .slice sg P.length cg] 30)
  have kk := kg.trans (ka.mono kg.size)
  have lo_w11 : w10.heap.size ≤ w11.heap.size := kg.size
  have hi_w12 : (w11.alloc (.cells #[.int .i64 ZZ, .slice sg P.length cg] 30)).heap.size = w11.heap.size + 1 := by simp
  have K_w12 := hideP (K_w10.out.trans (kk.mono K_w10.out.size))
  have I_w12 := hideP (I_w10.out.keep kk I_w10.out.lt)
  have r_w12 := hideP (r_w10.out.keep kk r_w10.out.box.lt r_w10.out.hs)
  have xW_w12 := hideP (xW_w10.out.keep kk xW_w10.out.hs)
  have xL_w12 := hideP (xL_w10.out.keep kk xL_w10.out.hs)
  clear K_w10 I_w10 r_w10 xW_w10 xL_w10
  have g_w12 : Hid (PI (w11.alloc (.cells #[.int .i64 ZZ, .slice sg P.length cg] 30)) w11.heap.size w10.heap.size w11.heap.size ZZ sg cg P) := hideP (PI.new Og kg.size)
  clear ka kk kg Og
  obtain ⟨r0, r1, r2, r3, r4⟩ := r_w12.out.box
  obtain ⟨g0, g1, g2, g3, g4⟩ := g_w12.out.box
  go_wp2_with fail
  clear r0 r1 r2 r3 r4 g0 g1 g2 g3 g4
  generalize w11.alloc (.cells #[.int .i64 ZZ, .slice sg P.length cg] 30) = w12 at *
  refine Calls.mono (eqIS_same _ _ _ _ ZZ sg sr cg cr P w12 g_w12.out.row.row r_w12.out.row.row g_w12.out.hs r_w12.out.hs hpl) ?_
  rintro e w13 ⟨rfl, kq⟩
  have lo_w13 : w12.heap.size ≤ w13.heap.size := kq.size
  have K_w13 := hideP (K_w12.out.trans (kq.mono K_w12.out.size))
  have I_w13 := hideP (I_w12.out.keep kq I_w12.out.lt)
  have r_w13 := hideP (r_w12.out.keep kq r_w12.out.box.lt r_w12.out.hs)
  have xW_w13 := hideP (xW_w12.out.keep kq xW_w12.out.hs)
  have xL_w13 := hideP (xL_w12.out.keep kq xL_w12.out.hs)
  have g_w13 := hideP (g_w12.out.keep kq g_w12.out.box.lt g_w12.out.hs)
  clear K_w12 I_w12 r_w12 xW_w12 xL_w12 g_w12
  clear kq
  go_wp2_with fail
  refine Calls.mono (TO.out w13 K_w13.out) ?_
  rintro e w14 ⟨syW, MyW, rfl, lyW, zyW, cyW, QyW, kyW⟩
  have CyW := hideP cyW
  have LyW := hideP lyW
  have ZyW := hideP zyW
  have lo_w14 : w13.heap.size ≤ w14.heap.size := kyW.size
  have K_w14 := hideP (K_w13.out.trans (kyW.mono K_w13.out.size))
  have I_w14 := hideP (I_w13.out.keep kyW I_w13.out.lt)
  have r_w14 := hideP (r_w13.out.keep kyW r_w13.out.box.lt r_w13.out.hs)
  have xW_w14 := hideP (xW_w13.out.keep kyW xW_w13.out.hs)
  have xL_w14 := hideP (xL_w13.out.keep kyW xL_w13.out.hs)
  have g_w14 := hideP (g_w13.out.keep kyW g_w13.out.box.lt g_w13.out.hs)
  clear K_w13 I_w13 r_w13 xW_w13 xL_w13 g_w13
  have yW_w14 := hideP QyW
  clear kyW QyW cyW lyW zyW
  have EQX := hideP (eqW_n (c := n) (d := n) n z LxW.out ZxW.out CxW.out CyW.out xW_w14.out yW_w14.out hnz)
  go_wp2_with fail
  refine Calls.mono (EQX.out) ?_
  rintro e w15 ⟨rfl, kq⟩
  have lo_w15 : w14.heap.size ≤ w15.heap.size := kq.size
  have K_w15 := hideP (K_w14.out.trans (kq.mono K_w14.out.size))
  have I_w15 := hideP (I_w14.out.keep kq I_w14.out.lt)
  have r_w15 := hideP (r_w14.out.keep kq r_w14.out.box.lt r_w14.out.hs)
  have xW_w15 := hideP (xW_w14.out.keep kq xW_w14.out.hs)
  have xL_w15 := hideP (xL_w14.out.keep kq xL_w14.out.hs)
  have g_w15 := hideP (g_w14.out.keep kq g_w14.out.box.lt g_w14.out.hs)
  clear K_w14 I_w14 r_w14 xW_w14 xL_w14 g_w14
  clear kq
  clear EQX
  go_wp2_with fail
  refine Calls.mono (toHds_any 0 w.heap.size lo lc LL w15 (HLL.out.keep K_w15.out (Nat.le_refl _)) K_w15.out.size hll) ?_
  rintro e w16 ⟨gyL, rfl, hgyL, FyL⟩
  have kyL := FyL.below
  have QyL := HQ.of FyL
  have lo_w16 : w15.heap.size ≤ w16.heap.size := kyL.size
  have K_w16 := hideP (K_w15.out.trans (kyL.mono K_w15.out.size))
  have I_w16 := hideP (I_w15.out.keep kyL I_w15.out.lt)
  have r_w16 := hideP (r_w15.out.keep kyL r_w15.out.box.lt r_w15.out.hs)
  have xW_w16 := hideP (xW_w15.out.keep kyL xW_w15.out.hs)
  have xL_w16 := hideP (xL_w15.out.keep kyL xL_w15.out.hs)
  have g_w16 := hideP (g_w15.out.keep kyL g_w15.out.box.lt g_w15.out.hs)
  clear K_w15 I_w15 r_w15 xW_w15 xL_w15 g_w15
  have yL_w16 := hideP QyL
  have b_yL_w16 : w15.heap.size ≤ gyL ∧ gyL < w16.heap.size := ⟨QyL.le, QyL.lt⟩
  clear kyL QyL FyL hgyL
  go_wp2_with fail
  refine Calls.mono (eqHds_same _ _ _ _ _ _ LL.length LL.length LL w16 xL_w16.out.hds yL_w16.out.hds xL_w16.out.hs yL_w16.out.hs hll) ?_
  rintro e w17 ⟨rfl, kq⟩
  have lo_w17 : w16.heap.size ≤ w17.heap.size := kq.size
  have K_w17 := hideP (K_w16.out.trans (kq.mono K_w16.out.size))
  have I_w17 := hideP (I_w16.out.keep kq I_w16.out.lt)
  have r_w17 := hideP (r_w16.out.keep kq r_w16.out.box.lt r_w16.out.hs)
  have xW_w17 := hideP (xW_w16.out.keep kq xW_w16.out.hs)
  have xL_w17 := hideP (xL_w16.out.keep kq xL_w16.out.hs)
  have g_w17 := hideP (g_w16.out.keep kq g_w16.out.box.lt g_w16.out.hs)
  clear K_w16 I_w16 r_w16 xW_w16 xL_w16 g_w16
  clear kq
  have MX := markWS_any _ _ sxW n MxW w17 xW_w17.out (by have := LxW.out; have := ZxW.out; omega)
  rw [LxW.out, ZxW.out] at MX
  have MX' := hideP MX
  clear MX
  go_wp2_with fail
  refine Calls.mono MX'.out ?_
  rintro e w18 ⟨rfl, ff, _⟩
  clear MX'
  have lo_w18 : w17.heap.size ≤ w18.heap.size := ff.size
  have K_w18 := hideP (K_w17.out.trans (ff.below (by omega) (by have := K_w17.out.size; omega)))
  have I_w18 := hideP (I_w17.out.far ff (by omega))
  have r_w18 := hideP (r_w17.out.far ff (by omega) (by omega))
  have xL_w18 := hideP (xL_w17.out.far ff (by omega))
  have g_w18 := hideP (g_w17.out.far ff (by omega) (by omega))
  clear K_w17 I_w17 r_w17 xL_w17 g_w17
  clear ff
  go_wp2_with fail
  refine Calls.mono (markHds_any gxL LL.length LL.length (1 + 6 * (n : Int) + (z : Int)) w18 xL_w18.out.mkh hll (by omega) (by omega)) ?_
  rintro e w19 ⟨rfl, ff⟩
  have lo_w19 : w18.heap.size ≤ w19.heap.size := ff.size
  have K_w19 := hideP (K_w18.out.trans (ff.below (by omega) (by have := K_w18.out.size; omega)))
  have I_w19 := hideP (I_w18.out.far ff (by omega))
  have r_w19 := hideP (r_w18.out.far ff (by omega) (by omega))
  have g_w19 := hideP (g_w18.out.far ff (by omega) (by omega))
  clear K_w18 I_w18 r_w18 g_w18
  clear ff
  obtain ⟨r0, r1, r2, r3, r4⟩ := r_w19.out.box
  obtain ⟨g0, g1, g2, g3, g4⟩ := g_w19.out.box
  go_wp2_with fail
  clear r0 r1 r2 r3 r4 g0 g1 g2 g3 g4
  refine Calls.mono (eqIS_same _ _ _ _ ZZ sg sr cg cr P w19 g_w19.out.row.row r_w19.out.row.row g_w19.out.hs r_w19.out.hs hpl) ?_
  rintro e w20 ⟨rfl, kq⟩
  have lo_w20 : w19.heap.size ≤ w20.heap.size := kq.size
  have K_w20 := hideP (K_w19.out.trans (kq.mono K_w19.out.size))
  have I_w20 := hideP (I_w19.out.keep kq I_w19.out.lt)
  have r_w20 := hideP (r_w19.out.keep kq r_w19.out.box.lt r_w19.out.hs)
  have g_w20 := hideP (g_w19.out.keep kq g_w19.out.box.lt g_w19.out.hs)
  clear K_w19 I_w19 r_w19 g_w19
  clear kq
  obtain ⟨g0, g1, g2, g3, g4⟩ := g_w20.out.box
  go_wp2_with fail
  clear g0 g1 g2 g3 g4
  refine Calls.mono (markIS_any _ _ ZZ sg cg 1 P w20 g_w20.out.row g_w20.out.hs hpl (by omega) (by omega)) ?_
  rintro e w21 ⟨rfl, ff, Qm⟩
  have lo_w21 : w20.heap.size ≤ w21.heap.size := ff.size
  have b_w20 := hideP g_w20.out.box
  have hm1 := g_w20.out.hs
  have K_w21 := hideP (K_w20.out.trans (ff.below (by omega) (by have := K_w20.out.size; omega)))
  have I_w21 := hideP (I_w20.out.far ff (by omega))
  have r_w21 := hideP (r_w20.out.far ff (by omega) (by omega))
  have b_w21 := hideP (b_w20.out.far ff (by omega))
  clear K_w20 I_w20 r_w20 b_w20
  have m_w21 := hideP Qm
  clear ff Qm
  have hp0 : ¬ (1 + (P.length : Int) < 0) := by omega
  have hpe : (1 + (P.length : Int) != 1 + (P.length : Int)) = false := by simp
  obtain ⟨b0, b1, b2, b3, b4⟩ := b_w21.out
  go_wp2_with fail
  clear b0 b1 b2 b3 b4
  refine Calls.mono (heldIS_any _ _ ZZ sg cg P.length 1 w21 m_w21.out.row (by omega) hpl (by omega) (by omega)) ?_
  rintro e w22 ⟨rfl, kq⟩
  have lo_w22 : w21.heap.size ≤ w22.heap.size := kq.size
  have K_w22 := hideP (K_w21.out.trans (kq.mono K_w21.out.size))
  have I_w22 := hideP (I_w21.out.keep kq I_w21.out.lt)
  have r_w22 := hideP (r_w21.out.keep kq r_w21.out.box.lt r_w21.out.hs)
  have b_w22 := hideP (b_w21.out.keep kq b_w21.out.lt)
  have m_w22 := hideP (m_w21.out.keep kq (by omega))
  clear K_w21 I_w21 r_w21 b_w21 m_w21
  clear kq
  obtain ⟨i0, i1, i2⟩ := I_w22.out
  go_wp2_with fail
  clear i0 i1 i2
  refine Calls.mono (toInput_any t f _) ?_
  rintro e w23 ⟨rfl, kq⟩
  have lo_w23 : w22.heap.size ≤ w23.heap.size := kq.size
  have K_w23 := hideP (K_w22.out.trans (kq.mono K_w22.out.size))
  have I_w23 := hideP (I_w22.out.keep kq I_w22.out.lt)
  have r_w23 := hideP (r_w22.out.keep kq r_w22.out.box.lt r_w22.out.hs)
  have b_w23 := hideP (b_w22.out.keep kq b_w22.out.lt)
  have m_w23 := hideP (m_w22.out.keep kq (by omega))
  clear K_w22 I_w22 r_w22 b_w22 m_w22
  clear kq
  go_wp2_with fail
  refine Calls.mono (TO.out w23 K_w23.out) ?_
  rintro e w24 ⟨svW, MvW, rfl, lvW, zvW, cvW, QvW, kvW⟩
  have CvW := hideP cvW
  have LvW := hideP lvW
  have ZvW := hideP zvW
  have lo_w24 : w23.heap.size ≤ w24.heap.size := kvW.size
  have K_w24 := hideP (K_w23.out.trans (kvW.mono K_w23.out.size))
  have I_w24 := hideP (I_w23.out.keep kvW I_w23.out.lt)
  have r_w24 := hideP (r_w23.out.keep kvW r_w23.out.box.lt r_w23.out.hs)
  have b_w24 := hideP (b_w23.out.keep kvW b_w23.out.lt)
  have m_w24 := hideP (m_w23.out.keep kvW (by omega))
  clear K_w23 I_w23 r_w23 b_w23 m_w23
  have vW_w24 := hideP QvW
  clear kvW QvW cvW lvW zvW
  go_wp2_with fail
  refine Calls.mono (toHds_any 0 w.heap.size lo lc LL w24 (HLL.out.keep K_w24.out (Nat.le_refl _)) K_w24.out.size hll) ?_
  rintro e w25 ⟨gvL, rfl, hgvL, FvL⟩
  have kvL := FvL.below
  have QvL := HQ.of FvL
  have lo_w25 : w24.heap.size ≤ w25.heap.size := kvL.size
  have K_w25 := hideP (K_w24.out.trans (kvL.mono K_w24.out.size))
  have I_w25 := hideP (I_w24.out.keep kvL I_w24.out.lt)
  have r_w25 := hideP (r_w24.out.keep kvL r_w24.out.box.lt r_w24.out.hs)
  have b_w25 := hideP (b_w24.out.keep kvL b_w24.out.lt)
  have m_w25 := hideP (m_w24.out.keep kvL (by omega))
  have vW_w25 := hideP (vW_w24.out.keep kvL vW_w24.out.hs)
  clear K_w24 I_w24 r_w24 b_w24 m_w24 vW_w24
  have vL_w25 := hideP QvL
  have b_vL_w25 : w24.heap.size ≤ gvL ∧ gvL < w25.heap.size := ⟨QvL.le, QvL.lt⟩
  clear kvL QvL FvL hgvL
  go_wp2_with fail
  refine Calls.mono (IP'.out MvW LvW.out ZvW.out CvW.out svW w25 (vW_w25.out.ws.wide (Nat.zero_le _) (by have := vW_w25.out.hs; omega)) gvL (vL_w25.out.hds.wide (Nat.zero_le _) (by have := vL_w25.out.hs; omega))) ?_
  rintro e w26 ⟨sh, ch, rfl, Oh, kh⟩
  have ka := kal5 w26 (.cells #[.int .i64 ZZ, .slice sh P.length ch] 30)
  have kk := kh.trans (ka.mono kh.size)
  have lo_w26 : w25.heap.size ≤ w26.heap.size := kh.size
  have hi_w27 : (w26.alloc (.cells #[.int .i64 ZZ, .slice sh P.length ch] 30)).heap.size = w26.heap.size + 1 := by simp
  have K_w27 := hideP (K_w25.out.trans (kk.mono K_w25.out.size))
  have I_w27 := hideP (I_w25.out.keep kk I_w25.out.lt)
  have r_w27 := hideP (r_w25.out.keep kk r_w25.out.box.lt r_w25.out.hs)
  have b_w27 := hideP (b_w25.out.keep kk b_w25.out.lt)
  have m_w27 := hideP (m_w25.out.keep kk (by omega))
  have vW_w27 := hideP (vW_w25.out.keep kk vW_w25.out.hs)
  have vL_w27 := hideP (vL_w25.out.keep kk vL_w25.out.hs)
  clear K_w25 I_w25 r_w25 b_w25 m_w25 vW_w25 vL_w25
  have h_w27 : Hid (PI (w26.alloc (.cells #[.int .i64 ZZ, .slice sh P.length ch] 30)) w26.heap.size w25.heap.size w26.heap.size ZZ sh ch P) := hideP (PI.new Oh kh.size)
  clear ka kk kh Oh
  obtain ⟨r0, r1, r2, r3, r4⟩ := r_w27.out.box
  obtain ⟨h0, h1, h2, h3, h4⟩ := h_w27.out.box
  go_wp2_with fail
  clear r0 r1 r2 r3 r4 h0 h1 h2 h3 h4
  generalize w26.alloc (.cells #[.int .i64 ZZ, .slice sh P.length ch] 30) = w27 at *
  refine Calls.mono (eqIS_same _ _ _ _ ZZ sh sr ch cr P w27 h_w27.out.row.row r_w27.out.row.row h_w27.out.hs r_w27.out.hs hpl) ?_
  rintro e w28 ⟨rfl, kq⟩
  have lo_w28 : w27.heap.size ≤ w28.heap.size := kq.size
  have K_w28 := hideP (K_w27.out.trans (kq.mono K_w27.out.size))
  have I_w28 := hideP (I_w27.out.keep kq I_w27.out.lt)
  have b_w28 := hideP (b_w27.out.keep kq b_w27.out.lt)
  have m_w28 := hideP (m_w27.out.keep kq (by omega))
  clear K_w27 I_w27 b_w27 m_w27
  clear kq
  obtain ⟨b0, b1, b2, b3, b4⟩ := b_w28.out
  go_wp2_with fail
  clear b0 b1 b2 b3 b4
  refine Calls.mono (heldIS_any _ _ ZZ sg cg P.length 1 w28 m_w28.out.row (by omega) hpl (by omega) (by omega)) ?_
  rintro e w29 ⟨rfl, kq⟩
  have lo_w29 : w28.heap.size ≤ w29.heap.size := kq.size
  have K_w29 := hideP (K_w28.out.trans (kq.mono K_w28.out.size))
  have I_w29 := hideP (I_w28.out.keep kq I_w28.out.lt)
  have b_w29 := hideP (b_w28.out.keep kq b_w28.out.lt)
  have m_w29 := hideP (m_w28.out.keep kq (by omega))
  clear K_w28 I_w28 b_w28 m_w28
  clear kq
  go_wp2
  go_returns
  exact ⟨rfl, K_w29.out⟩

set_option maxHeartbeats 400000 in
theorem big_RouteMany (t : Bool) (f : Int) (so : Option Addr) (sc : Nat) (L : List Wn) (lo : Option Addr) (lc ln : Nat) (w : World) (hL : Ws w 0 w.heap.size so L) (hn : L.length ≤ maxLen) (hm : ∀ r ∈ L, r.b.L.length ≤ maxLen) (h : 1048576 < L.length + wzs L) :
    Calls Try.prog 3 #[.agg #[.bool t, .int .i64 f], .slice so L.length sc, .slice lo ln lc] w fun e w' => e = .returned (.bool true) ∧ Below w.heap.size w w' := by
  have SZ := fun w1 (kk : Below w.heap.size w w1) => szWS_any 0 w.heap.size so sc L 1048576 w1 (hL.keep kk (Nat.le_refl _)) kk.size hn hm (by omega) (by omega)
  rw [szV_no (by omega)] at SZ
  have SZ' := hideP SZ
  clear SZ hL hm hn h
  go_enter Try.func3, Try.ntmps3
  go_wp2_with fail
  refine Calls.mono (SZ'.out _ (by go_grown)) ?_
  rintro e w1 ⟨rfl, k1⟩
  have K1 : Hid (Below w.heap.size w w1) := hideP (Below.trans (by go_grown) (k1.mono (by first | exact Nat.le_refl _ | (simp; done) | (simp; omega))))
  clear k1
  go_wp2
  go_returns
  exact ⟨rfl, K1.out⟩

set_option maxHeartbeats 400000 in
theorem many_RouteMany (t : Bool) (f : Int) (so : Option Addr) (sc : Nat) (L : List Wn) (lo : Option Addr) (lc ln : Nat) (w : World) (hL : Ws w 0 w.heap.size so L) (h : L.length + wzs L ≤ 1048576) (h2 : 1048576 < L.length + wzs L + ln) (hln : ln ≤ maxLen) :
    Calls Try.prog 3 #[.agg #[.bool t, .int .i64 f], .slice so L.length sc, .slice lo ln lc] w fun e w' => e = .returned (.bool true) ∧ Below w.heap.size w w' := by
  have SZ := hideP (fun w1 (kk : Below w.heap.size w w1) => szW_n (sc := sc) (hL.keep kk (Nat.le_refl _)) kk.size h)
  obtain ⟨q, hq⟩ : ∃ q, (1048576 : Int) - ((L.length + wzs L : Nat) : Int) = q := ⟨_, rfl⟩
  rw [hq] at SZ
  have hq0 : 0 ≤ q ∧ q ≤ 1048576 ∧ ¬ (ln : Int) ≤ q := by omega
  have hz0 : ¬ q < 0 := by omega
  have HL := hideP hq0
  clear hL h h2 hq hq0
  go_enter Try.func3, Try.ntmps3
  go_wp2_with fail
  refine Calls.mono (SZ.out _ (by go_grown)) ?_
  rintro e w1 ⟨rfl, k1⟩
  have K1 : Hid (Below w.heap.size w w1) := hideP (Below.trans (by go_grown) (k1.mono (by first | exact Nat.le_refl _ | (simp; done) | (simp; omega))))
  clear k1
  go_wp2_with fail
  refine Calls.mono (szHds_any lo ln lc q w1 hln ⟨HL.out.1, HL.out.2.1⟩) ?_
  rintro e w2 ⟨rfl, hw⟩
  subst hw
  rw [if_neg (show ¬ (ln : Int) ≤ q by have := HL.out.2.2; omega)]
  go_wp2
  go_returns
  exact ⟨rfl, K1.out⟩

theorem law_RouteMany (t : Bool) (f : Int) (so : Option Addr) (sc : Nat) (L : List Wn) (lo : Option Addr) (lc : Nat) (LL : List Hd) (w : World) (hn : L.length ≤ maxLen) (hL : Ws w 0 w.heap.size so L) (hm : ∀ r ∈ L, r.b.L.length ≤ maxLen) (hln : LL.length ≤ maxLen) (hLL : Hds w 0 w.heap.size lo LL) :
    Calls Try.prog 3 #[.agg #[.bool t, .int .i64 f], .slice so L.length sc, .slice lo LL.length lc] w fun e w' => e = .returned (.bool true) ∧ Below w.heap.size w w' := by
  by_cases h1 : L.length + wzs L ≤ 1048576
  · by_cases h2 : L.length + wzs L + LL.length ≤ 1048576
    · exact small_RouteMany t f so sc L lo lc LL w hL hLL h2
    · exact many_RouteMany t f so sc L lo lc LL.length w hL h1 (by omega) hln
  · exact big_RouteMany t f so sc L lo lc LL.length w hL hn hm (by omega)
end Go.Proofs.Ytdigknenijmjcaa
