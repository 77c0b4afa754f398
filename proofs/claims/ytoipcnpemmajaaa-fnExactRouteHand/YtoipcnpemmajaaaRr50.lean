/- RouteHand: the law's walk. -/
import Derived.Test.YtoipcnpemmajaaaRr49
import Derived.Test.YtoipcnpemmajaaaRr24
namespace Go.Proofs.Ytoipcnpemmajaaa
open Go.RowKit Go.Maps
set_option linter.unusedVariables false
attribute [local go_sem] growUpon growAt

set_option maxHeartbeats 400000 in
theorem big_RouteHand (t : Bool) (f : Int) (so : Option Addr) (sc : Nat) (L : List Wn) (k a b : Int) (w : World) (hL : Ws w 0 w.heap.size so L) (hn : L.length ≤ maxLen) (hm : ∀ r ∈ L, r.b.L.length ≤ maxLen) (h : 1048576 < L.length + wzs L) :
    Calls Try.prog 6 #[.agg #[.bool t, .int .i64 f], .slice so L.length sc, .agg #[.int .i64 k, .int .i64 a, .int .i64 b]] w fun e w' => e = .returned (.bool true) ∧ Below w.heap.size w w' := by
  have SZ := fun w1 (kk : Below w.heap.size w w1) => szWS_any 0 w.heap.size so sc L 1048576 w1 (hL.keep kk (Nat.le_refl _)) kk.size hn hm (by omega) (by omega)
  rw [szV_no (by omega)] at SZ
  have SZ' := hideP SZ
  clear SZ hL hm hn h
  go_enter Try.func6, Try.ntmps6
  go_wp2_with fail
  refine Calls.mono (SZ'.out _ (by go_grown)) ?_
  rintro e w1 ⟨rfl, k1⟩
  have K1 : Hid (Below w.heap.size w w1) := hideP (Below.trans (by go_grown) (k1.mono (by simp; omega)))
  clear k1
  go_wp2
  go_returns
  exact ⟨rfl, K1.out⟩

set_option maxRecDepth 100000 in
set_option maxHeartbeats 16000000 in
theorem small_RouteHand (t : Bool) (f : Int) (so : Option Addr) (sc : Nat) (L : List Wn) (k a b : Int) (w : World) (hL : Ws w 0 w.heap.size so L) (h : L.length + wzs L ≤ 1048576) :
    Calls Try.prog 6 #[.agg #[.bool t, .int .i64 f], .slice so L.length sc, .agg #[.int .i64 k, .int .i64 a, .int .i64 b]] w fun e w' => e = .returned (.bool true) ∧ Below w.heap.size w w' := by
  have SZ := fun w1 (kk : Below w.heap.size w w1) => szW_n (sc := sc) (hL.keep kk (Nat.le_refl _)) kk.size h
  have TO := copyW 0 w.heap.size so sc L w hL (Nat.le_refl _) h
  have hlR := rtR_len (L.map Wn.ct) t f k a b
  have HSm := h
  obtain ⟨n, hnL⟩ : ∃ n, L.length = n := ⟨_, rfl⟩
  obtain ⟨z, hzL⟩ : ∃ z, wzs L = z := ⟨_, rfl⟩
  obtain ⟨C, hC⟩ : ∃ C, L.map Wn.ct = C := ⟨_, rfl⟩
  rw [hC] at hlR
  obtain ⟨R, hR⟩ : ∃ R, rtR C t f k a b = R := ⟨_, rfl⟩
  rw [hR] at hlR
  have hpl : R.D.length ≤ 1048576 := by omega
  have SP' : Hid (∀ (M : List Wn), M.length = n → wzs M = z → M.map Wn.ct = C → ∀ s W, Ws W 0 W.heap.size s M → Calls Try.prog 18 #[.agg #[.bool t, .int .i64 f], .slice s n n, .agg #[.int .i64 k, .int .i64 a, .int .i64 b]] W (RtA R W)) := hideP (fun M hl hz hc s W a1 => by
    have hh := sRoute_any t f k a b s M.length M W a1 (by omega)
    rw [hc, hl, hR] at hh
    exact hh)
  have IP' : Hid (∀ (M : List Wn), M.length = n → wzs M = z → M.map Wn.ct = C → ∀ s W, Ws W 0 W.heap.size s M → Calls Try.prog 11 #[.agg #[.bool t, .int .i64 f], .slice s n n, .agg #[.int .i64 k, .int .i64 a, .int .i64 b]] W (RtA R W)) := hideP (fun M hl hz hc s W a1 => by
    have hh := iRoute_any t f k a b s M.length M W a1 (by omega)
    rw [hc, hl, hR] at hh
    exact hh)
  rw [hnL, hzL, hC] at TO
  rw [hnL, hzL] at SZ h
  have hnz : n + z ≤ 1048576 := h
  have hz0 : ¬ (1048576 : Int) - ((n + z : Nat) : Int) < 0 := by omega
  have hk0 : ¬ (1 + 6 * (n : Int) + (z : Int) < 0) := by omega
  rw [hnL]
  obtain ⟨q, hq⟩ : ∃ q, (1048576 : Int) - ((n + z : Nat) : Int) = q := ⟨_, rfl⟩
  rw [hq] at SZ hz0
  have SZ' := hideP SZ
  have TO' := hideP TO
  clear hR hC hzL hq SZ TO h HSm hL hnL
  have TO := TO'
  clear TO'
  go_enter Try.func6, Try.ntmps6
  go_wp2_with fail
  refine Calls.mono (SZ'.out _ (by go_grown)) ?_
  rintro e w1 ⟨rfl, k1⟩
  have K_1 : Hid (Below w.heap.size w w1) := hideP (Below.trans (by go_grown) (k1.mono (by simp; omega)))
  have I_1 := hideP (((i2_new w t f 55).keep (kalH _ (.cells #[.int .i64 k, .int .i64 a, .int .i64 b] 52)) (by simp)).keep k1 (by simp; omega))
  have H_1 := hideP ((h3_new (w.alloc (.cells #[.bool t, .int .i64 f] 55)) k a b 52).keep k1)
  have sz1 := k1.size
  simp only [World.size_alloc] at H_1 sz1
  clear k1 SZ'
  obtain ⟨i0, i1, i2⟩ := I_1.out
  obtain ⟨h0, h1, h2⟩ := H_1.out
  have hlt := H_1.out.lt
  go_wp2_with fail
  refine wp_region_boxed 8 [0, 2, 4] [1, 3, 5, 6] 7 (.cells #[.int .i64 0, .int .i64 0, .int .i64 0, .slice none 0 0, .bool false, .int .i64 0] 34) rfl (by kernel_rfl) (by kernel_rfl) ?_
  simp only [sel, List.filterMap_cons, List.filterMap_nil, List.getElem?_cons_succ, List.getElem?_cons_zero]
  repeat (refine grow_step (by rfl) ?_; apply Exists.intro; refine ⟨fun w1 k1 => ?_, fun K hK => ?_⟩; (focus (have hc := Kept.cell k1; go_simp; first | done | rfl)); (go_simp; refine hK _ ?_; clear hK K))
  refine grow_nil ?_
  refine ⟨by rfl, fun w1 => (by go_simp), ?_⟩
  clear i0 i1 i2 h0 h1 h2 hlt
  refine boxed_step (by rfl) fun vA_1 j1 => ?_
  have cu1 : Below w1.heap.size w1 vA_1 := Kept.below j1
  refine made_calls (by go_simp; first | done | rfl) ((toInput_any t f vA_1).mono ?_)
  rintro e aA_1 ⟨rfl, kq1⟩
  have cv1 := cu1.trans (kq1.mono cu1.size)
  refine ⟨_, rfl, kq1, fun K hK => ?_⟩
  go_simp
  refine hK _ ?_
  clear hK K
  refine boxed_step (by rfl) fun vA_2 j2 => ?_
  have cu2 := cv1.trans ((Kept.below j2).mono cv1.size)
  refine made_calls (by go_simp; first | done | rfl) ((TO.out vA_2 (K_1.out.trans (cu2.mono K_1.out.size))).mono ?_)
  rintro e aA_2 ⟨su, Mu, rfl, lu, zu, cu, Qu, ku⟩
  have cv2 := cu2.trans (ku.mono cu2.size)
  refine ⟨_, rfl, ku, fun K hK => ?_⟩
  go_simp
  refine hK _ ?_
  clear hK K
  have qu := hideP Qu
  have Cu := hideP cu
  clear Qu cu
  refine boxed_step (by rfl) fun vA_3 j3 => ?_
  have cu3 := cv2.trans ((Kept.below j3).mono cv2.size)
  refine made_calls (by go_simp; first | done | rfl) ((toHand_any k a b vA_3).mono ?_)
  rintro e aA_3 ⟨rfl, kq3⟩
  have cv3 := cu3.trans (kq3.mono cu3.size)
  refine ⟨_, rfl, kq3, fun K hK => ?_⟩
  go_simp
  refine hK _ ?_
  clear hK K
  refine boxed_step (by rfl) fun vA_4 j4 => ?_
  have cu4 := cv3.trans ((Kept.below j4).mono cv3.size)
  have jx : Below aA_2.heap.size aA_2 vA_4 := (Kept.below j3).trans ((kq3.trans ((Kept.below j4).mono kq3.size)).mono (Kept.below j3).size)
  have qy := qu.out.keep jx (Nat.le_refl _)
  refine made_calls (by go_simp; first | done | rfl) ((SP'.out Mu lu zu Cu.out su vA_4 (qy.ws.wide (Nat.zero_le _) (by have := qy.hs; omega))).mono ?_)
  rintro e aA_4 ⟨sr, cr, rfl, Or, kr⟩
  have cv4 := cu4.trans (kr.mono cu4.size)
  refine ⟨_, rfl, kr, fun K hK => ?_⟩
  go_simp
  refine hK _ ?_
  clear hK K
  refine boxed_nil fun BA vA_e je hB0 hB1 hBb hBI => ?_
  have hB2 : BA < vA_4.heap.size ∨ aA_4.heap.size ≤ BA := hBI (vA_4.heap.size, aA_4.heap.size) (by simp)
  have jj := Kept.below je
  have e4 := kr.size
  have e5 := jj.size
  have e6 := cv4.size
  have e7 := cu4.size
  have BX := r6_at hBb
  have PX : R6 ((((((vA_e.setCell ⟨BA, 0, none⟩ (.int .i64 R.z)).setCell ⟨BA, 1, none⟩ (.int .i64 R.tg)).setCell ⟨BA, 2, none⟩ (.int .i64 R.kd)).setCell ⟨BA, 3, none⟩ (.slice sr R.D.length cr)).setCell ⟨BA, 4, none⟩ (.bool R.tr)).setCell ⟨BA, 5, none⟩ (.int .i64 R.fo)) BA (.int .i64 R.z) (.int .i64 R.tg) (.int .i64 R.kd) (.slice sr R.D.length cr) (.bool R.tr) (.int .i64 R.fo) := BX.put (.int .i64 R.z) (.int .i64 R.tg) (.int .i64 R.kd) (.slice sr R.D.length cr) (.bool R.tr) (.int .i64 R.fo)
  have FX : Far BA (BA + 1) vA_e ((((((vA_e.setCell ⟨BA, 0, none⟩ (.int .i64 R.z)).setCell ⟨BA, 1, none⟩ (.int .i64 R.tg)).setCell ⟨BA, 2, none⟩ (.int .i64 R.kd)).setCell ⟨BA, 3, none⟩ (.slice sr R.D.length cr)).setCell ⟨BA, 4, none⟩ (.bool R.tr)).setCell ⟨BA, 5, none⟩ (.int .i64 R.fo)) := far_sixR (w := vA_e) (b := BA) (.int .i64 R.z) (.int .i64 R.tg) (.int .i64 R.kd) (.slice sr R.D.length cr) (.bool R.tr) (.int .i64 R.fo)
  have kW : Below w1.heap.size w1 vA_e := cv4.trans (jj.mono cv4.size)
  have kk := kW.trans (FX.below (B := w1.heap.size) hB0 kW.size)
  have hir : (((((((vA_e.setCell ⟨BA, 0, none⟩ (.int .i64 R.z)).setCell ⟨BA, 1, none⟩ (.int .i64 R.tg)).setCell ⟨BA, 2, none⟩ (.int .i64 R.kd)).setCell ⟨BA, 3, none⟩ (.slice sr R.D.length cr)).setCell ⟨BA, 4, none⟩ (.bool R.tr)).setCell ⟨BA, 5, none⟩ (.int .i64 R.fo))).heap.size = vA_e.heap.size := by simp
  have lor : vA_4.heap.size ≤ aA_4.heap.size := e4
  have loBA : w1.heap.size ≤ BA ∧ BA < vA_e.heap.size ∧ aA_4.heap.size ≤ vA_e.heap.size ∧ w1.heap.size ≤ vA_e.heap.size ∧ w1.heap.size ≤ vA_4.heap.size := ⟨hB0, hB1, e5, kW.size, e7⟩
  have K_WA := hideP (K_1.out.trans (kk.mono K_1.out.size))
  have I_WA := hideP (I_1.out.keep kk I_1.out.lt)
  have H_WA := hideP (H_1.out.keep kk)
  clear K_1 I_1 H_1
  have r_WA : Hid (PR (((((((vA_e.setCell ⟨BA, 0, none⟩ (.int .i64 R.z)).setCell ⟨BA, 1, none⟩ (.int .i64 R.tg)).setCell ⟨BA, 2, none⟩ (.int .i64 R.kd)).setCell ⟨BA, 3, none⟩ (.slice sr R.D.length cr)).setCell ⟨BA, 4, none⟩ (.bool R.tr)).setCell ⟨BA, 5, none⟩ (.int .i64 R.fo))) BA vA_4.heap.size aA_4.heap.size R sr cr) := hideP ⟨PX, (Or.wrt.keep jj (Nat.le_refl _)).far FX (by omega) e5, e4, by rw [hir]; exact e5⟩
  obtain ⟨bx0, bx1, bx2, bx3, bx4, bx5, bxf, bxl⟩ := BX
  clear j1 j2 j3 j4 cu1 cu2 cu3 cu4 cv1 cv2 cv3 cv4 kq1 kq3 ku lu zu qu Cu jx qy kr Or je jj e4 e5 e6 e7 hB0 hB1 hBb hBI PX FX kW kk
  go_wp2_with fail
  clear bx0 bx1 bx2 bx3 bx4 bx5 bxf bxl
  generalize ((((((vA_e.setCell ⟨BA, 0, none⟩ (.int .i64 R.z)).setCell ⟨BA, 1, none⟩ (.int .i64 R.tg)).setCell ⟨BA, 2, none⟩ (.int .i64 R.kd)).setCell ⟨BA, 3, none⟩ (.slice sr R.D.length cr)).setCell ⟨BA, 4, none⟩ (.bool R.tr)).setCell ⟨BA, 5, none⟩ (.int .i64 R.fo)) = WA at *
  refine Calls.mono (TO.out WA K_WA.out) ?_
  rintro e w2 ⟨sx, Mx, rfl, lx, zx, cx, Qx, kx⟩
  have Cx := hideP cx
  have Lx := hideP lx
  have Zx := hideP zx
  have lo_w2 : WA.heap.size ≤ w2.heap.size := kx.size
  have K_w2 := hideP (K_WA.out.trans (kx.mono K_WA.out.size))
  have I_w2 := hideP (I_WA.out.keep kx I_WA.out.lt)
  have H_w2 := hideP (H_WA.out.keep kx)
  have r_w2 := hideP (r_WA.out.keep kx r_WA.out.box.lt r_WA.out.hs)
  clear K_WA I_WA H_WA r_WA
  have x_w2 := hideP Qx
  clear kx Qx cx lx zx
  obtain ⟨i0, i1, i2⟩ := I_w2.out
  obtain ⟨h0, h1, h2⟩ := H_w2.out
  have hlt := H_w2.out.lt
  go_wp2_with fail
  refine wp_region_boxed 7 [0, 2, 3] [1, 4, 5] 6 (.cells #[.int .i64 0, .int .i64 0, .int .i64 0, .slice none 0 0, .bool false, .int .i64 0] 34) rfl (by kernel_rfl) (by kernel_rfl) ?_
  simp only [sel, List.filterMap_cons, List.filterMap_nil, List.getElem?_cons_succ, List.getElem?_cons_zero]
  repeat (refine grow_step (by rfl) ?_; apply Exists.intro; refine ⟨fun w1 k1 => ?_, fun K hK => ?_⟩; (focus (have hc := Kept.cell k1; go_simp; first | done | rfl)); (go_simp; refine hK _ ?_; clear hK K))
  refine grow_nil ?_
  refine ⟨by rfl, fun w1 => (by go_simp), ?_⟩
  clear i0 i1 i2 h0 h1 h2 hlt
  refine boxed_step (by rfl) fun vB_1 j1 => ?_
  have cu1 : Below w2.heap.size w2 vB_1 := Kept.below j1
  refine made_calls (by go_simp; first | done | rfl) ((toInput_any t f vB_1).mono ?_)
  rintro e aB_1 ⟨rfl, kq1⟩
  have cv1 := cu1.trans (kq1.mono cu1.size)
  refine ⟨_, rfl, kq1, fun K hK => ?_⟩
  go_simp
  refine hK _ ?_
  clear hK K
  refine boxed_step (by rfl) fun vB_2 j2 => ?_
  have cu2 := cv1.trans ((Kept.below j2).mono cv1.size)
  refine made_calls (by go_simp; first | done | rfl) ((toHand_any k a b vB_2).mono ?_)
  rintro e aB_2 ⟨rfl, kq2⟩
  have cv2 := cu2.trans (kq2.mono cu2.size)
  refine ⟨_, rfl, kq2, fun K hK => ?_⟩
  go_simp
  refine hK _ ?_
  clear hK K
  refine boxed_step (by rfl) fun vB_3 j3 => ?_
  have cu3 := cv2.trans ((Kept.below j3).mono cv2.size)
  have qy := x_w2.out.keep cu3 x_w2.out.hs
  refine made_calls (by go_simp; first | done | rfl) ((IP'.out Mx Lx.out Zx.out Cx.out sx vB_3 (qy.ws.wide (Nat.zero_le _) (by have := qy.hs; omega))).mono ?_)
  rintro e aB_3 ⟨sg, cg, rfl, Og, kg⟩
  have cv3 := cu3.trans (kg.mono cu3.size)
  refine ⟨_, rfl, kg, fun K hK => ?_⟩
  go_simp
  refine hK _ ?_
  clear hK K
  refine boxed_nil fun BB vB_e je hB0 hB1 hBb hBI => ?_
  have hB2 : BB < vB_3.heap.size ∨ aB_3.heap.size ≤ BB := hBI (vB_3.heap.size, aB_3.heap.size) (by simp)
  have jj := Kept.below je
  have e4 := kg.size
  have e5 := jj.size
  have e6 := cv3.size
  have e7 := cu3.size
  have BX := r6_at hBb
  have PX : R6 ((((((vB_e.setCell ⟨BB, 0, none⟩ (.int .i64 R.z)).setCell ⟨BB, 1, none⟩ (.int .i64 R.tg)).setCell ⟨BB, 2, none⟩ (.int .i64 R.kd)).setCell ⟨BB, 3, none⟩ (.slice sg R.D.length cg)).setCell ⟨BB, 4, none⟩ (.bool R.tr)).setCell ⟨BB, 5, none⟩ (.int .i64 R.fo)) BB (.int .i64 R.z) (.int .i64 R.tg) (.int .i64 R.kd) (.slice sg R.D.length cg) (.bool R.tr) (.int .i64 R.fo) := BX.put (.int .i64 R.z) (.int .i64 R.tg) (.int .i64 R.kd) (.slice sg R.D.length cg) (.bool R.tr) (.int .i64 R.fo)
  have FX : Far BB (BB + 1) vB_e ((((((vB_e.setCell ⟨BB, 0, none⟩ (.int .i64 R.z)).setCell ⟨BB, 1, none⟩ (.int .i64 R.tg)).setCell ⟨BB, 2, none⟩ (.int .i64 R.kd)).setCell ⟨BB, 3, none⟩ (.slice sg R.D.length cg)).setCell ⟨BB, 4, none⟩ (.bool R.tr)).setCell ⟨BB, 5, none⟩ (.int .i64 R.fo)) := far_sixR (w := vB_e) (b := BB) (.int .i64 R.z) (.int .i64 R.tg) (.int .i64 R.kd) (.slice sg R.D.length cg) (.bool R.tr) (.int .i64 R.fo)
  have kW : Below w2.heap.size w2 vB_e := cv3.trans (jj.mono cv3.size)
  have kk := kW.trans (FX.below (B := w2.heap.size) hB0 kW.size)
  have hig : (((((((vB_e.setCell ⟨BB, 0, none⟩ (.int .i64 R.z)).setCell ⟨BB, 1, none⟩ (.int .i64 R.tg)).setCell ⟨BB, 2, none⟩ (.int .i64 R.kd)).setCell ⟨BB, 3, none⟩ (.slice sg R.D.length cg)).setCell ⟨BB, 4, none⟩ (.bool R.tr)).setCell ⟨BB, 5, none⟩ (.int .i64 R.fo))).heap.size = vB_e.heap.size := by simp
  have log : vB_3.heap.size ≤ aB_3.heap.size := e4
  have loBB : w2.heap.size ≤ BB ∧ BB < vB_e.heap.size ∧ aB_3.heap.size ≤ vB_e.heap.size ∧ w2.heap.size ≤ vB_e.heap.size ∧ w2.heap.size ≤ vB_3.heap.size := ⟨hB0, hB1, e5, kW.size, e7⟩
  have K_WB := hideP (K_w2.out.trans (kk.mono K_w2.out.size))
  have I_WB := hideP (I_w2.out.keep kk I_w2.out.lt)
  have H_WB := hideP (H_w2.out.keep kk)
  have r_WB := hideP (r_w2.out.keep kk r_w2.out.box.lt r_w2.out.hs)
  have x_WB := hideP (x_w2.out.keep kk x_w2.out.hs)
  clear K_w2 I_w2 H_w2 r_w2 x_w2
  have g_WB : Hid (PR (((((((vB_e.setCell ⟨BB, 0, none⟩ (.int .i64 R.z)).setCell ⟨BB, 1, none⟩ (.int .i64 R.tg)).setCell ⟨BB, 2, none⟩ (.int .i64 R.kd)).setCell ⟨BB, 3, none⟩ (.slice sg R.D.length cg)).setCell ⟨BB, 4, none⟩ (.bool R.tr)).setCell ⟨BB, 5, none⟩ (.int .i64 R.fo))) BB vB_3.heap.size aB_3.heap.size R sg cg) := hideP ⟨PX, (Og.wrt.keep jj (Nat.le_refl _)).far FX (by omega) e5, e4, by rw [hig]; exact e5⟩
  obtain ⟨bx0, bx1, bx2, bx3, bx4, bx5, bxf, bxl⟩ := BX
  clear j1 j2 j3 cu1 cu2 cu3 cv1 cv2 cv3 kq1 kq2 qy kg Og je jj e4 e5 e6 e7 hB0 hB1 hBb hBI PX FX kW kk
  obtain ⟨g0, g1, g2, g3, g4, g5, gf, gl⟩ := g_WB.out.box
  obtain ⟨r0, r1, r2, r3, r4, r5, rf, rl⟩ := r_WB.out.box
  go_wp2_with fail
  clear g0 g1 g2 g3 g4 g5 gf gl r0 r1 r2 r3 r4 r5 rf rl
  clear bx0 bx1 bx2 bx3 bx4 bx5 bxf bxl
  generalize ((((((vB_e.setCell ⟨BB, 0, none⟩ (.int .i64 R.z)).setCell ⟨BB, 1, none⟩ (.int .i64 R.tg)).setCell ⟨BB, 2, none⟩ (.int .i64 R.kd)).setCell ⟨BB, 3, none⟩ (.slice sg R.D.length cg)).setCell ⟨BB, 4, none⟩ (.bool R.tr)).setCell ⟨BB, 5, none⟩ (.int .i64 R.fo)) = WB at *
  refine Calls.mono (eqRR_same _ _ _ _ R sg sr cg cr WB g_WB.out.row.row r_WB.out.row.row g_WB.out.hs r_WB.out.hs hpl) ?_
  rintro e w3 ⟨rfl, kq⟩
  have lo_w3 : WB.heap.size ≤ w3.heap.size := kq.size
  have K_w3 := hideP (K_WB.out.trans (kq.mono K_WB.out.size))
  have I_w3 := hideP (I_WB.out.keep kq I_WB.out.lt)
  have H_w3 := hideP (H_WB.out.keep kq)
  have r_w3 := hideP (r_WB.out.keep kq r_WB.out.box.lt r_WB.out.hs)
  have x_w3 := hideP (x_WB.out.keep kq x_WB.out.hs)
  have g_w3 := hideP (g_WB.out.keep kq g_WB.out.box.lt g_WB.out.hs)
  clear K_WB I_WB H_WB r_WB x_WB g_WB
  clear kq
  go_wp2_with fail
  refine Calls.mono (TO.out w3 K_w3.out) ?_
  rintro e w4 ⟨sy, My, rfl, ly, zy, cy, Qy, ky⟩
  have Cy := hideP cy
  have Ly := hideP ly
  have Zy := hideP zy
  have lo_w4 : w3.heap.size ≤ w4.heap.size := ky.size
  have K_w4 := hideP (K_w3.out.trans (ky.mono K_w3.out.size))
  have I_w4 := hideP (I_w3.out.keep ky I_w3.out.lt)
  have H_w4 := hideP (H_w3.out.keep ky)
  have r_w4 := hideP (r_w3.out.keep ky r_w3.out.box.lt r_w3.out.hs)
  have x_w4 := hideP (x_w3.out.keep ky x_w3.out.hs)
  have g_w4 := hideP (g_w3.out.keep ky g_w3.out.box.lt g_w3.out.hs)
  clear K_w3 I_w3 H_w3 r_w3 x_w3 g_w3
  have y_w4 := hideP Qy
  clear ky Qy cy ly zy
  have EQX := hideP (eqW_n (c := n) (d := n) n z Lx.out Zx.out Cx.out Cy.out x_w4.out y_w4.out hnz)
  go_wp2_with fail
  refine Calls.mono (EQX.out) ?_
  rintro e w5 ⟨rfl, kq⟩
  have lo_w5 : w4.heap.size ≤ w5.heap.size := kq.size
  have K_w5 := hideP (K_w4.out.trans (kq.mono K_w4.out.size))
  have I_w5 := hideP (I_w4.out.keep kq I_w4.out.lt)
  have H_w5 := hideP (H_w4.out.keep kq)
  have r_w5 := hideP (r_w4.out.keep kq r_w4.out.box.lt r_w4.out.hs)
  have x_w5 := hideP (x_w4.out.keep kq x_w4.out.hs)
  have g_w5 := hideP (g_w4.out.keep kq g_w4.out.box.lt g_w4.out.hs)
  clear K_w4 I_w4 H_w4 r_w4 x_w4 g_w4
  clear kq
  clear EQX
  have MX := markWS_any _ _ sx n Mx w5 x_w5.out (by have := Lx.out; have := Zx.out; omega)
  rw [Lx.out, Zx.out] at MX
  have MX' := hideP MX
  clear MX
  go_wp2_with fail
  refine Calls.mono MX'.out ?_
  rintro e w6 ⟨rfl, ff, _⟩
  clear MX'
  have lo_w6 : w5.heap.size ≤ w6.heap.size := ff.size
  have K_w6 := hideP (K_w5.out.trans (ff.below (by omega) (by have := K_w5.out.size; omega)))
  have I_w6 := hideP (I_w5.out.far ff (by omega))
  have H_w6 := hideP (H_w5.out.far ff (by omega))
  have r_w6 := hideP (r_w5.out.far ff (by omega) (by omega))
  have g_w6 := hideP (g_w5.out.far ff (by omega) (by omega))
  clear K_w5 I_w5 H_w5 r_w5 g_w5
  clear ff
  obtain ⟨g0, g1, g2, g3, g4, g5, gf, gl⟩ := g_w6.out.box
  obtain ⟨r0, r1, r2, r3, r4, r5, rf, rl⟩ := r_w6.out.box
  go_wp2_with fail
  clear g0 g1 g2 g3 g4 g5 gf gl r0 r1 r2 r3 r4 r5 rf rl
  refine Calls.mono (eqRR_same _ _ _ _ R sg sr cg cr w6 g_w6.out.row.row r_w6.out.row.row g_w6.out.hs r_w6.out.hs hpl) ?_
  rintro e w7 ⟨rfl, kq⟩
  have lo_w7 : w6.heap.size ≤ w7.heap.size := kq.size
  have K_w7 := hideP (K_w6.out.trans (kq.mono K_w6.out.size))
  have I_w7 := hideP (I_w6.out.keep kq I_w6.out.lt)
  have H_w7 := hideP (H_w6.out.keep kq)
  have r_w7 := hideP (r_w6.out.keep kq r_w6.out.box.lt r_w6.out.hs)
  have g_w7 := hideP (g_w6.out.keep kq g_w6.out.box.lt g_w6.out.hs)
  clear K_w6 I_w6 H_w6 r_w6 g_w6
  clear kq
  obtain ⟨g0, g1, g2, g3, g4, g5, gf, gl⟩ := g_w7.out.box
  go_wp2_with fail
  clear g0 g1 g2 g3 g4 g5 gf gl
  refine Calls.mono (markRR_any _ _ R sg cg 1 w7 g_w7.out.row g_w7.out.hs hpl (by omega) (by omega)) ?_
  rintro e w8 ⟨rfl, ff, Qm⟩
  have lo_w8 : w7.heap.size ≤ w8.heap.size := ff.size
  have bb_w7 := hideP g_w7.out.box
  have hm1 := g_w7.out.hs
  have K_w8 := hideP (K_w7.out.trans (ff.below (by omega) (by have := K_w7.out.size; omega)))
  have I_w8 := hideP (I_w7.out.far ff (by omega))
  have H_w8 := hideP (H_w7.out.far ff (by omega))
  have r_w8 := hideP (r_w7.out.far ff (by omega) (by omega))
  have bb_w8 := hideP (bb_w7.out.far ff (by omega))
  clear K_w7 I_w7 H_w7 r_w7 bb_w7
  have m_w8 := hideP Qm
  clear ff Qm
  have hp0 : ¬ (1 + (R.D.length : Int) < 0) := by omega
  have hpe : (1 + (R.D.length : Int) != 1 + (R.D.length : Int)) = false := by simp
  obtain ⟨bb0, bb1, bb2, bb3, bb4, bb5, bbf, bbl⟩ := bb_w8.out
  go_wp2_with fail
  clear bb0 bb1 bb2 bb3 bb4 bb5 bbf bbl
  refine Calls.mono (heldRR_any _ _ R sg cg R.D.length 1 w8 m_w8.out.row (by omega) hpl (by omega) (by omega)) ?_
  rintro e w9 ⟨rfl, kq⟩
  have lo_w9 : w8.heap.size ≤ w9.heap.size := kq.size
  have K_w9 := hideP (K_w8.out.trans (kq.mono K_w8.out.size))
  have I_w9 := hideP (I_w8.out.keep kq I_w8.out.lt)
  have H_w9 := hideP (H_w8.out.keep kq)
  have r_w9 := hideP (r_w8.out.keep kq r_w8.out.box.lt r_w8.out.hs)
  have bb_w9 := hideP (bb_w8.out.keep kq bb_w8.out.lt)
  have m_w9 := hideP (m_w8.out.keep kq (by omega))
  clear K_w8 I_w8 H_w8 r_w8 bb_w8 m_w8
  clear kq
  obtain ⟨i0, i1, i2⟩ := I_w9.out
  obtain ⟨h0, h1, h2⟩ := H_w9.out
  have hlt := H_w9.out.lt
  go_wp2_with fail
  refine wp_region_boxed 8 [0, 2, 4] [1, 3, 5, 6] 7 (.cells #[.int .i64 0, .int .i64 0, .int .i64 0, .slice none 0 0, .bool false, .int .i64 0] 34) rfl (by kernel_rfl) (by kernel_rfl) ?_
  simp only [sel, List.filterMap_cons, List.filterMap_nil, List.getElem?_cons_succ, List.getElem?_cons_zero]
  repeat (refine grow_step (by rfl) ?_; apply Exists.intro; refine ⟨fun w1 k1 => ?_, fun K hK => ?_⟩; (focus (have hc := Kept.cell k1; go_simp; first | done | rfl)); (go_simp; refine hK _ ?_; clear hK K))
  refine grow_nil ?_
  refine ⟨by rfl, fun w1 => (by go_simp), ?_⟩
  clear i0 i1 i2 h0 h1 h2 hlt
  refine boxed_step (by rfl) fun vC_1 j1 => ?_
  have cu1 : Below w9.heap.size w9 vC_1 := Kept.below j1
  refine made_calls (by go_simp; first | done | rfl) ((toInput_any t f vC_1).mono ?_)
  rintro e aC_1 ⟨rfl, kq1⟩
  have cv1 := cu1.trans (kq1.mono cu1.size)
  refine ⟨_, rfl, kq1, fun K hK => ?_⟩
  go_simp
  refine hK _ ?_
  clear hK K
  refine boxed_step (by rfl) fun vC_2 j2 => ?_
  have cu2 := cv1.trans ((Kept.below j2).mono cv1.size)
  refine made_calls (by go_simp; first | done | rfl) ((TO.out vC_2 (K_w9.out.trans (cu2.mono K_w9.out.size))).mono ?_)
  rintro e aC_2 ⟨sv, Mv, rfl, lv, zv, cv, Qv, kv⟩
  have cv2 := cu2.trans (kv.mono cu2.size)
  refine ⟨_, rfl, kv, fun K hK => ?_⟩
  go_simp
  refine hK _ ?_
  clear hK K
  have qv := hideP Qv
  have Cv := hideP cv
  clear Qv cv
  refine boxed_step (by rfl) fun vC_3 j3 => ?_
  have cu3 := cv2.trans ((Kept.below j3).mono cv2.size)
  refine made_calls (by go_simp; first | done | rfl) ((toHand_any k a b vC_3).mono ?_)
  rintro e aC_3 ⟨rfl, kq3⟩
  have cv3 := cu3.trans (kq3.mono cu3.size)
  refine ⟨_, rfl, kq3, fun K hK => ?_⟩
  go_simp
  refine hK _ ?_
  clear hK K
  refine boxed_step (by rfl) fun vC_4 j4 => ?_
  have cu4 := cv3.trans ((Kept.below j4).mono cv3.size)
  have jx : Below aC_2.heap.size aC_2 vC_4 := (Kept.below j3).trans ((kq3.trans ((Kept.below j4).mono kq3.size)).mono (Kept.below j3).size)
  have qy := qv.out.keep jx (Nat.le_refl _)
  refine made_calls (by go_simp; first | done | rfl) ((IP'.out Mv lv zv Cv.out sv vC_4 (qy.ws.wide (Nat.zero_le _) (by have := qy.hs; omega))).mono ?_)
  rintro e aC_4 ⟨sh, ch, rfl, Oh, kh⟩
  have cv4 := cu4.trans (kh.mono cu4.size)
  refine ⟨_, rfl, kh, fun K hK => ?_⟩
  go_simp
  refine hK _ ?_
  clear hK K
  refine boxed_nil fun BC vC_e je hB0 hB1 hBb hBI => ?_
  have hB2 : BC < vC_4.heap.size ∨ aC_4.heap.size ≤ BC := hBI (vC_4.heap.size, aC_4.heap.size) (by simp)
  have jj := Kept.below je
  have e4 := kh.size
  have e5 := jj.size
  have e6 := cv4.size
  have e7 := cu4.size
  have BX := r6_at hBb
  have PX : R6 ((((((vC_e.setCell ⟨BC, 0, none⟩ (.int .i64 R.z)).setCell ⟨BC, 1, none⟩ (.int .i64 R.tg)).setCell ⟨BC, 2, none⟩ (.int .i64 R.kd)).setCell ⟨BC, 3, none⟩ (.slice sh R.D.length ch)).setCell ⟨BC, 4, none⟩ (.bool R.tr)).setCell ⟨BC, 5, none⟩ (.int .i64 R.fo)) BC (.int .i64 R.z) (.int .i64 R.tg) (.int .i64 R.kd) (.slice sh R.D.length ch) (.bool R.tr) (.int .i64 R.fo) := BX.put (.int .i64 R.z) (.int .i64 R.tg) (.int .i64 R.kd) (.slice sh R.D.length ch) (.bool R.tr) (.int .i64 R.fo)
  have FX : Far BC (BC + 1) vC_e ((((((vC_e.setCell ⟨BC, 0, none⟩ (.int .i64 R.z)).setCell ⟨BC, 1, none⟩ (.int .i64 R.tg)).setCell ⟨BC, 2, none⟩ (.int .i64 R.kd)).setCell ⟨BC, 3, none⟩ (.slice sh R.D.length ch)).setCell ⟨BC, 4, none⟩ (.bool R.tr)).setCell ⟨BC, 5, none⟩ (.int .i64 R.fo)) := far_sixR (w := vC_e) (b := BC) (.int .i64 R.z) (.int .i64 R.tg) (.int .i64 R.kd) (.slice sh R.D.length ch) (.bool R.tr) (.int .i64 R.fo)
  have kW : Below w9.heap.size w9 vC_e := cv4.trans (jj.mono cv4.size)
  have kk := kW.trans (FX.below (B := w9.heap.size) hB0 kW.size)
  have hih : (((((((vC_e.setCell ⟨BC, 0, none⟩ (.int .i64 R.z)).setCell ⟨BC, 1, none⟩ (.int .i64 R.tg)).setCell ⟨BC, 2, none⟩ (.int .i64 R.kd)).setCell ⟨BC, 3, none⟩ (.slice sh R.D.length ch)).setCell ⟨BC, 4, none⟩ (.bool R.tr)).setCell ⟨BC, 5, none⟩ (.int .i64 R.fo))).heap.size = vC_e.heap.size := by simp
  have loh : vC_4.heap.size ≤ aC_4.heap.size := e4
  have loBC : w9.heap.size ≤ BC ∧ BC < vC_e.heap.size ∧ aC_4.heap.size ≤ vC_e.heap.size ∧ w9.heap.size ≤ vC_e.heap.size ∧ w9.heap.size ≤ vC_4.heap.size := ⟨hB0, hB1, e5, kW.size, e7⟩
  have K_WC := hideP (K_w9.out.trans (kk.mono K_w9.out.size))
  have I_WC := hideP (I_w9.out.keep kk I_w9.out.lt)
  have H_WC := hideP (H_w9.out.keep kk)
  have r_WC := hideP (r_w9.out.keep kk r_w9.out.box.lt r_w9.out.hs)
  have bb_WC := hideP (bb_w9.out.keep kk bb_w9.out.lt)
  have m_WC := hideP (m_w9.out.keep kk (by omega))
  clear K_w9 I_w9 H_w9 r_w9 bb_w9 m_w9
  have h_WC : Hid (PR (((((((vC_e.setCell ⟨BC, 0, none⟩ (.int .i64 R.z)).setCell ⟨BC, 1, none⟩ (.int .i64 R.tg)).setCell ⟨BC, 2, none⟩ (.int .i64 R.kd)).setCell ⟨BC, 3, none⟩ (.slice sh R.D.length ch)).setCell ⟨BC, 4, none⟩ (.bool R.tr)).setCell ⟨BC, 5, none⟩ (.int .i64 R.fo))) BC vC_4.heap.size aC_4.heap.size R sh ch) := hideP ⟨PX, (Oh.wrt.keep jj (Nat.le_refl _)).far FX (by omega) e5, e4, by rw [hih]; exact e5⟩
  obtain ⟨bx0, bx1, bx2, bx3, bx4, bx5, bxf, bxl⟩ := BX
  clear j1 j2 j3 j4 cu1 cu2 cu3 cu4 cv1 cv2 cv3 cv4 kq1 kq3 kv lv zv qv Cv jx qy kh Oh je jj e4 e5 e6 e7 hB0 hB1 hBb hBI PX FX kW kk
  obtain ⟨h0, h1, h2, h3, h4, h5, hf, hl⟩ := h_WC.out.box
  obtain ⟨r0, r1, r2, r3, r4, r5, rf, rl⟩ := r_WC.out.box
  go_wp2_with fail
  clear h0 h1 h2 h3 h4 h5 hf hl r0 r1 r2 r3 r4 r5 rf rl
  clear bx0 bx1 bx2 bx3 bx4 bx5 bxf bxl
  generalize ((((((vC_e.setCell ⟨BC, 0, none⟩ (.int .i64 R.z)).setCell ⟨BC, 1, none⟩ (.int .i64 R.tg)).setCell ⟨BC, 2, none⟩ (.int .i64 R.kd)).setCell ⟨BC, 3, none⟩ (.slice sh R.D.length ch)).setCell ⟨BC, 4, none⟩ (.bool R.tr)).setCell ⟨BC, 5, none⟩ (.int .i64 R.fo)) = WC at *
  refine Calls.mono (eqRR_same _ _ _ _ R sh sr ch cr WC h_WC.out.row.row r_WC.out.row.row h_WC.out.hs r_WC.out.hs hpl) ?_
  rintro e w10 ⟨rfl, kq⟩
  have lo_w10 : WC.heap.size ≤ w10.heap.size := kq.size
  have K_w10 := hideP (K_WC.out.trans (kq.mono K_WC.out.size))
  have I_w10 := hideP (I_WC.out.keep kq I_WC.out.lt)
  have H_w10 := hideP (H_WC.out.keep kq)
  have bb_w10 := hideP (bb_WC.out.keep kq bb_WC.out.lt)
  have m_w10 := hideP (m_WC.out.keep kq (by omega))
  clear K_WC I_WC H_WC bb_WC m_WC
  clear kq
  obtain ⟨bb0, bb1, bb2, bb3, bb4, bb5, bbf, bbl⟩ := bb_w10.out
  go_wp2_with fail
  clear bb0 bb1 bb2 bb3 bb4 bb5 bbf bbl
  refine Calls.mono (heldRR_any _ _ R sg cg R.D.length 1 w10 m_w10.out.row (by omega) hpl (by omega) (by omega)) ?_
  rintro e w11 ⟨rfl, kq⟩
  have lo_w11 : w10.heap.size ≤ w11.heap.size := kq.size
  have K_w11 := hideP (K_w10.out.trans (kq.mono K_w10.out.size))
  have I_w11 := hideP (I_w10.out.keep kq I_w10.out.lt)
  have H_w11 := hideP (H_w10.out.keep kq)
  have bb_w11 := hideP (bb_w10.out.keep kq bb_w10.out.lt)
  have m_w11 := hideP (m_w10.out.keep kq (by omega))
  clear K_w10 I_w10 H_w10 bb_w10 m_w10
  clear kq
  go_wp2
  go_returns
  exact ⟨rfl, K_w11.out⟩

theorem law_RouteHand (t : Bool) (f : Int) (so : Option Addr) (sc : Nat) (L : List Wn) (k a b : Int) (w : World) (hn : L.length ≤ maxLen) (hL : Ws w 0 w.heap.size so L) (hm : ∀ r ∈ L, r.b.L.length ≤ maxLen) :
    Calls Try.prog 6 #[.agg #[.bool t, .int .i64 f], .slice so L.length sc, .agg #[.int .i64 k, .int .i64 a, .int .i64 b]] w fun e w' => e = .returned (.bool true) ∧ Below w.heap.size w w' := by
  by_cases h : L.length + wzs L ≤ 1048576
  · exact small_RouteHand t f so sc L k a b w hL h
  · exact big_RouteHand t f so sc L k a b w hL hn hm (by omega)
end Go.Proofs.Ytoipcnpemmajaaa
