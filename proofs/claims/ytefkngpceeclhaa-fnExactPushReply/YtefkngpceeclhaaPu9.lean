/- PushReply: the law's walk. -/
import Derived.Test.YtefkngpceeclhaaPu7
namespace Go.Proofs.Ytefkngpceeclhaa
open Go.RowKit
set_option linter.unusedVariables false
attribute [local go_sem] growUpon growAt

set_option maxHeartbeats 1000000 in
theorem big_PushReply (lo hi : Nat) (so : Option Addr) (sc : Nat) (L : List Mg) (v : Bool) (k : Int) (ao : Option Addr) (ca dn : Nat) (w : World) (hL : Ms w lo hi so L) (hs : hi ≤ w.heap.size) (hn : L.length ≤ maxLen) (hm : ∀ r ∈ L, r.b.L.length ≤ maxLen) (hd : dn ≤ maxLen) (h : 1048576 < L.length + mzs L + dn) :
    Calls Try.prog 7 #[.agg #[.slice so L.length sc, .bool v], .agg #[.int .i64 k, .slice ao dn ca]] w fun e w' => e = .returned (.bool true) ∧ Below w.heap.size w w' := by
  have SZ := fun w1 (kk : Below w.heap.size w w1) => szQ_any lo hi so sc L v 1048576 w1 (hL.keep kk hs) (by have := kk.size; omega) hn hm (by omega) (by omega)
  by_cases h1 : 1048576 < L.length + mzs L
  · rw [szV_no (by omega)] at SZ
    have SZ' := hideP SZ
    clear SZ hL hm h hn hd
    go_enter Try.func7, Try.ntmps7
    go_wp2_with fail
    refine Calls.mono (SZ'.out _ (by go_grown)) ?_
    rintro e w1 ⟨rfl, k1⟩
    have K1 : Hid (Below w.heap.size w w1) := hideP (Below.trans (by go_grown) (k1.mono (by simp; omega)))
    clear k1
    go_wp2
    go_returns
    exact ⟨rfl, K1.out⟩
  · rw [szV_yes (by omega)] at SZ
    have SM := fun w1 => szM_any k ao dn ca ((1048576 : Int) - ((L.length + mzs L : Nat) : Int)) w1 hd (by omega) (by omega)
    rw [szV_no (by omega)] at SM
    obtain ⟨z, hz⟩ : ∃ z : Int, (1048576 : Int) - ((L.length + mzs L : Nat) : Int) = z := ⟨_, rfl⟩
    have hz0 : ¬ z < 0 := by omega
    rw [hz] at SZ SM
    have SZ' := hideP SZ
    have SM' := hideP SM
    clear SZ SM hL hm h h1 hn hd hz
    go_enter Try.func7, Try.ntmps7
    go_wp2_with fail
    refine Calls.mono (SZ'.out _ (by go_grown)) ?_
    rintro e w1 ⟨rfl, k1⟩
    have K1 : Hid (Below w.heap.size w w1) := hideP (Below.trans (by go_grown) (k1.mono (by simp; omega)))
    have X1 : Hid (Rb w1 (w.heap.size + 1) (.int .i64 k) (.slice ao dn ca)) := hideP (Rb.keep ⟨by simp, by simp, by simp, by simp, by simp⟩ k1 (by simp))
    clear k1
    obtain ⟨p0, p1, p2, p3, p4⟩ := X1.out
    go_wp2_with fail
    clear p0 p1 p2 p3 p4
    refine Calls.mono (SM'.out w1) ?_
    rintro e w2 ⟨rfl, k2⟩
    have K2 : Hid (Below w.heap.size w w2) := hideP (K1.out.trans (k2.mono (by have := X1.out.lt; omega)))
    clear k2
    go_wp2
    go_returns
    exact ⟨rfl, K2.out⟩

set_option maxRecDepth 100000 in
set_option maxHeartbeats 8000000 in
theorem small_PushReply (so : Option Addr) (sc : Nat) (L : List Mg) (v : Bool) (k : Int) (ao : Option Addr) (ca : Nat) (D : List Int) (w : World) (hL : Ms w 0 w.heap.size so L) (hn : L.length ≤ maxLen) (hm : ∀ r ∈ L, r.b.L.length ≤ maxLen) (hD : Row .u8 w 0 w.heap.size ao D) (h : L.length + mzs L + D.length ≤ 1048576) :
    Calls Try.prog 7 #[.agg #[.slice so L.length sc, .bool v], .agg #[.int .i64 k, .slice ao D.length ca]] w fun e w' => e = .returned (.bool true) ∧ Below w.heap.size w w' := by
  have hn1 : L.length + mzs L ≤ 1048576 := by omega
  have hd1 : D.length ≤ 1048576 := by omega
  have SZ := fun w1 (kk : Below w.heap.size w w1) => szQ_any 0 w.heap.size so sc L v 1048576 w1 (hL.keep kk (Nat.le_refl _)) (by have := kk.size; omega) hn hm (by omega) (by omega)
  rw [szV_yes (by omega)] at SZ
  have SM := fun w1 => szM_any k ao D.length ca ((1048576 : Int) - ((L.length + mzs L : Nat) : Int)) w1 (by unfold maxLen; omega) (by omega) (by omega)
  rw [szV_yes (by omega)] at SM
  obtain ⟨z, hz⟩ : ∃ z : Int, (1048576 : Int) - ((L.length + mzs L : Nat) : Int) = z := ⟨_, rfl⟩
  have hz0 : ¬ z < 0 := by omega
  have hz1 : ¬ z - (D.length : Int) < 0 := by omega
  rw [hz] at SZ SM
  have SZ' := hideP SZ
  have SM' := hideP SM
  have TO := hideP (fun w1 (kk : Below w.heap.size w w1) => toQ_copy 0 w.heap.size so sc L v w1 (hL.keep kk (Nat.le_refl _)) kk.size hn1)
  have TM := hideP (fun w1 (kk : Below w.heap.size w w1) => toM_any 0 w.heap.size k ao ca D w1 (hD.keep kk (Nat.le_refl _)) kk.size hd1)
  have hsm : ∀ N : List Mg, N.map Mg.ct = puL (L.map Mg.ct) (k, D) true → N.length + mzs N ≤ 10000 := fun N e => by have := pu_small e; omega
  have SP := fun (M : List Mg) (hl : M.length = L.length) (hc : M.map Mg.ct = L.map Mg.ct) (hz : mzs M = mzs L) s (bo : Option Addr) (cb : Nat) W (a1 : Ms W 0 W.heap.size s M) (a2 : Row .u8 W 0 W.heap.size bo D) => (sPushReply_any 0 W.heap.size s M.length M v k bo cb D W a1 (Nat.le_refl _) (by omega) a2 hd1).mono fun e w' hh => qans_put hh
  have IP := fun (M : List Mg) (hl : M.length = L.length) (hc : M.map Mg.ct = L.map Mg.ct) (hz : mzs M = mzs L) s (bo : Option Addr) (cb : Nat) W (a1 : Ms W 0 W.heap.size s M) (a2 : Row .u8 W 0 W.heap.size bo D) => (iPushReply_any 0 W.heap.size s M.length M v k bo cb D W a1 (Nat.le_refl _) (by omega) a2 hd1).mono fun e w' hh => qans_put hh
  obtain ⟨C, hC⟩ : ∃ C, L.map Mg.ct = C := ⟨_, rfl⟩
  obtain ⟨n, hnL⟩ : ∃ n, L.length = n := ⟨_, rfl⟩
  obtain ⟨zl, hzl⟩ : ∃ zl, mzs L = zl := ⟨_, rfl⟩
  unfold CopyQ at TO
  rw [hnL, hC, hzl] at TO
  rw [hC] at hsm
  obtain ⟨CC, hCC⟩ : ∃ CC, puC C (k, D) true = CC := ⟨_, rfl⟩
  obtain ⟨P, hP⟩ : ∃ P, puL C (k, D) true = P := ⟨_, rfl⟩
  obtain ⟨V, hV⟩ : ∃ V, puV C (k, D) true v = V := ⟨_, rfl⟩
  obtain ⟨pn, hpn⟩ : ∃ pn, P.length = pn := ⟨_, rfl⟩
  rw [hP] at hsm
  have SP' : Hid (∀ (M : List Mg), M.length = n → M.map Mg.ct = C → mzs M = zl → ∀ s (bo : Option Addr) (cb : Nat) W, Ms W 0 W.heap.size s M → Row .u8 W 0 W.heap.size bo D → Calls Try.prog 17 #[.agg #[.slice s n n, .bool v], .agg #[.int .i64 k, .slice bo D.length cb]] W (QAns CC [] P 0 pn V W)) := hideP (fun M hl hc hz s bo cb W a1 a2 => by
    have hh := SP M (hl.trans hnL.symm) (hc.trans hC.symm) (hz.trans hzl.symm) s bo cb W a1 a2
    rw [hc, hl, hCC, hP, hV, hpn] at hh
    exact hh)
  have IP' : Hid (∀ (M : List Mg), M.length = n → M.map Mg.ct = C → mzs M = zl → ∀ s (bo : Option Addr) (cb : Nat) W, Ms W 0 W.heap.size s M → Row .u8 W 0 W.heap.size bo D → Calls Try.prog 12 #[.agg #[.slice s n n, .bool v], .agg #[.int .i64 k, .slice bo D.length cb]] W (QAns CC [] P 0 pn V W)) := hideP (fun M hl hc hz s bo cb W a1 a2 => by
    have hh := IP M (hl.trans hnL.symm) (hc.trans hC.symm) (hz.trans hzl.symm) s bo cb W a1 a2
    rw [hc, hl, hCC, hP, hV, hpn] at hh
    exact hh)
  have HSM := hideP hsm
  have EM := hideP (fun (a b : Option Addr) (c d : Nat) W (h1 : Row .u8 W 0 W.heap.size a D) (h2 : Row .u8 W 0 W.heap.size b D) => eqM_same 0 W.heap.size 0 W.heap.size k a b c d D W h1 h2 (Nat.le_refl _) (Nat.le_refl _) hd1)
  rw [hnL, hzl] at hn1 h
  rw [hnL] at SZ' ⊢
  clear SZ SM hL hm hz hn hC hsm SP IP hCC hP hV hpn hzl hD hnL
  generalize hdn : D.length = dn at *
  have HDn := hideP hdn
  clear hdn
  go_enter Try.func7, Try.ntmps7
  go_wp2_with fail
  refine Calls.mono (SZ'.out _ (by go_grown)) ?_
  rintro e w1 ⟨rfl, k1⟩
  have I1 : Hid (In2 w w1 (.slice so n sc) (.bool v) (.int .i64 k) (.slice ao dn ca)) := hideP ⟨Below.trans (by go_grown) (k1.mono (by simp; omega)), Rb.keep ⟨by simp, by simp, by simp, by simp, by simp; omega⟩ k1 (by simp; omega), Rb.keep ⟨by simp, by simp, by simp, by simp, by simp⟩ k1 (by simp)⟩
  have n1 : w.heap.size + 2 ≤ w1.heap.size := I1.out.D.lt
  clear k1 SZ'
  obtain ⟨d0, d1, d2, d3, d4⟩ := I1.out.D
  go_wp2_with fail
  clear d0 d1 d2 d3 d4
  refine Calls.mono (SM'.out w1) ?_
  rintro e w2 ⟨rfl, k2⟩
  have I2 := hideP (I1.out.keep k2 n1)
  have n2 := Nat.le_trans n1 k2.size
  clear k2 I1 n1 SM'
  obtain ⟨a0, a1, a2, a3, a4⟩ := I2.out.A
  obtain ⟨d0, d1, d2, d3, d4⟩ := I2.out.D
  go_wp2_with fail
  refine wp_region_boxed 6 [0, 2] [1, 3, 4] 5 (.cells #[.int .i64 0, .slice none 0 0, .slice none 0 0, .bool false] 32) rfl (by kernel_rfl) (by kernel_rfl) ?_
  simp only [sel, List.filterMap_cons, List.filterMap_nil, List.getElem?_cons_succ, List.getElem?_cons_zero]
  repeat (refine grow_step (by rfl) ?_; apply Exists.intro; refine ⟨fun w1 k1 => ?_, fun K hK => ?_⟩; (focus (have hc := Kept.cell k1; go_simp; first | done | rfl)); (go_simp; refine hK _ ?_; clear hK K))
  refine grow_nil ?_
  clear a0 a1 a2 a3 a4 d0 d1 d2 d3 d4
  refine ⟨by rfl, fun w1 => (by go_simp), ?_⟩
  refine boxed_step (by rfl) fun v1 j1 => ?_
  have jj1 := Kept.below j1
  refine made_calls (by go_simp; first | done | rfl) ((TO.out v1 (I2.out.keep jj1 n2).K).mono ?_)
  rintro e v2 ⟨_, rfl, ⟨sA, MA, rfl, lA, zA, cA, QA⟩, j2⟩
  refine ⟨_, rfl, j2, fun K hK => ?_⟩
  go_simp
  refine hK _ ?_
  clear hK K
  refine boxed_step (by rfl) fun v3 j3 => ?_
  have jj3 := Kept.below j3
  have j13 : Below w2.heap.size w2 v3 := jj1.trans ((j2.trans (jj3.mono j2.size)).mono jj1.size)
  refine made_calls (by go_simp; first | done | rfl) ((TM.out v3 (I2.out.keep j13 n2).K).mono ?_)
  rintro e v4 ⟨mA, rfl, NA, j4⟩
  refine ⟨_, rfl, j4, fun K hK => ?_⟩
  go_simp
  refine hK _ ?_
  clear hK K
  refine boxed_step (by rfl) fun v5 j5 => ?_
  have jj5 := Kept.below j5
  have j45 : Below v3.heap.size v3 v5 := j4.trans (jj5.mono j4.size)
  have e1 := jj1.size
  have e2 := j2.size
  have e3 := jj3.size
  have e4 := j4.size
  have e5 := jj5.size
  refine made_calls (by go_simp; first | done | rfl) ((SP'.out MA lA cA zA sA mA.b.ao mA.b.cap v5 (((QA.ms2.keep jj3 (Nat.le_refl _)).keep j45 (by omega)).wide (Nat.zero_le _) (by omega)) ((NA.row.keep jj5 (Nat.le_refl _)).wide (Nat.zero_le _) (by omega))).mono ?_)
  rintro e v6 ⟨s3, t3, c3, d3, O3, N3, rfl, o3, hN3, lo3, l3, Q3, j6⟩
  refine ⟨_, rfl, j6, fun K hK => ?_⟩
  go_simp
  refine hK _ ?_
  clear hK K
  refine boxed_nil fun B v7 j7 hB0 hB1 hBb hBI => ?_
  have jj7 := Kept.below j7
  have e6 := j6.size
  have e7 := jj7.size
  have hB2 : B < v5.heap.size ∨ v6.heap.size ≤ B := hBI (v5.heap.size, v6.heap.size) (by simp)
  have BX := r4_at hBb
  have PX := BX.put (.int .i64 CC) (.slice s3 0 c3) (.slice t3 pn d3) (.bool V)
  have FX := far_put4 (w := v7) (b := B) (.int .i64 CC) (.slice s3 0 c3) (.slice t3 pn d3) (.bool V)
  have k7 : Below w2.heap.size w2 v7 := j13.trans ((j45.trans ((j6.trans (jj7.mono j6.size)).mono (by omega))).mono (by omega))
  have kX := k7.trans (FX.below (B := w2.heap.size) hB0 (by omega))
  have QX := (Q3.keep jj7 (Nat.le_refl _)).far FX (by omega)
  have k3 := hideP kX
  have QR3 : Hid (QW _ B v5.heap.size v6.heap.size CC s3 c3 O3 t3 d3 N3 0 pn V) := hideP ⟨PX, QX, lo3, l3⟩
  have HO3 := hideP o3
  have HN3 := hideP hN3
  have hsz : ((((v7.setCell ⟨B, 0, none⟩ (.int .i64 CC)).setCell ⟨B, 1, none⟩ (.slice s3 0 c3)).setCell ⟨B, 2, none⟩ (.slice t3 pn d3)).setCell ⟨B, 3, none⟩ (.bool V)).heap.size = v7.heap.size := by simp
  clear j1 jj1 j2 QA cA j3 jj3 j13 NA j4 j5 jj5 j45 Q3 j6 hBb hBI j7 jj7 PX FX k7 kX QX o3 hN3
  have hWz := hsz
  have I3 := hideP (I2.out.keep k3.out n2)
  have n3 : w.heap.size + 2 ≤ v7.heap.size := by omega
  have bl3 : B < v7.heap.size := by omega
  have hl3 : v6.heap.size ≤ v7.heap.size := by omega
  rw [← hsz] at n3 bl3 hl3
  obtain ⟨x0, x1, x2, x3, x4, x5, x6, x7, x8⟩ := BX
  obtain ⟨a0, a1, a2, a3, a4⟩ := I3.out.A
  go_wp2_with fail
  clear a0 a1 a2 a3 a4 I2 n2
  clear x0 x1 x2 x3 x4 x5 x6 x7 x8
  generalize (((v7.setCell ⟨B, 0, none⟩ (.int .i64 CC)).setCell ⟨B, 1, none⟩ (.slice s3 0 c3)).setCell ⟨B, 2, none⟩ (.slice t3 pn d3)).setCell ⟨B, 3, none⟩ (.bool V) = W3 at *
  refine Calls.mono (TO.out W3 I3.out.K) ?_
  rintro e w4 ⟨_, rfl, ⟨s4, M4, rfl, l4, z4, c4, Q4⟩, k4⟩
  have ka := kalM w4 (.cells #[.slice s4 n n, .bool v] 26)
  have k5 := k4.trans (ka.mono k4.size)
  have I5 := hideP (I3.out.keep k5 n3)
  have R5 := hideP (QR3.out.keep k5 bl3 hl3)
  have X5 : Hid (XQ (w4.alloc (.cells #[.slice s4 n n, .bool v] 26)) w4.heap.size W3.heap.size w4.heap.size s4 M4 n v) := hideP ⟨⟨by simp, by simp, by simp, by simp, by simp⟩, Q4.keep ka (Nat.le_refl _)⟩
  have n4 := k4.size
  have n5 : w4.heap.size < (w4.alloc (.cells #[.slice s4 n n, .bool v] 26)).heap.size := by simp
  have C4 := hideP c4
  clear ka k4 k5 Q4 I3 QR3 c4
  obtain ⟨d0, d1, d2, d3, d4⟩ := I5.out.D
  go_wp2_with fail
  clear d0 d1 d2 d3 d4
  generalize w4.alloc (.cells #[.slice s4 n n, .bool v] 26) = w5 at *
  refine Calls.mono (TM.out w5 I5.out.K) ?_
  rintro e w6 ⟨m6, rfl, N6, k6⟩
  have ka := kalM w6 (.cells #[.int .i64 k, .slice m6.b.ao dn m6.b.cap] 28)
  have k7 := k6.trans (ka.mono k6.size)
  have I7 := hideP (I5.out.keep k7 (by omega))
  have R7 := hideP (R5.out.keep k7 (by omega) (by omega))
  have X7 := hideP (X5.out.keep k7 (by omega) (by omega))
  have Y7 : Hid (XM (w6.alloc (.cells #[.int .i64 k, .slice m6.b.ao dn m6.b.cap] 28)) w6.heap.size w5.heap.size w6.heap.size k m6 D dn) := hideP ⟨⟨by simp, by simp, by simp, by simp, by simp⟩, N6.bods.keep ka (Nat.le_refl _), ka.size, N6.le⟩
  have n6 := k6.size
  have n7 : w6.heap.size < (w6.alloc (.cells #[.int .i64 k, .slice m6.b.ao dn m6.b.cap] 28)).heap.size := by simp
  clear ka k6 k7 N6 I5 R5 X5
  obtain ⟨p0, p1, p2, p3, p4⟩ := X7.out.box
  obtain ⟨q0, q1, q2, q3, q4⟩ := Y7.out.box
  go_wp2_with fail
  clear p0 p1 p2 p3 p4 q0 q1 q2 q3 q4
  generalize w6.alloc (.cells #[.int .i64 k, .slice m6.b.ao dn m6.b.cap] 28) = w7 at *
  refine Calls.mono (IP'.out M4 l4 C4.out z4 s4 m6.b.ao m6.b.cap w7 (X7.out.qm.ms2.wide (Nat.zero_le _) (by omega)) (Y7.out.row.wide (Nat.zero_le _) (by omega))) ?_
  rintro e w8 ⟨s8, t8, c8, d8, O8, N8, rfl, o8, hN8, lo8, l8, Q8, k8⟩
  have ka := kalM w8 (.cells #[.int .i64 CC, .slice s8 0 c8, .slice t8 pn d8, .bool V] 32)
  have k9 := k8.trans (ka.mono k8.size)
  have I9 := hideP (I7.out.keep k9 (by omega))
  have R9 := hideP (R7.out.keep k9 (by omega) (by omega))
  have X9 := hideP (X7.out.keep k9 (by omega) (by omega))
  have Y9 := hideP (Y7.out.keep k9 (by omega) (by omega))
  have G9 : Hid (QW (w8.alloc (.cells #[.int .i64 CC, .slice s8 0 c8, .slice t8 pn d8, .bool V] 32)) w8.heap.size w7.heap.size w8.heap.size CC s8 c8 O8 t8 d8 N8 0 pn V) := hideP ⟨r4_new _ _ _ _ _ _, Q8.keep ka (Nat.le_refl _), lo8, l8⟩
  have n8 := k8.size
  have n9 : w8.heap.size < (w8.alloc (.cells #[.int .i64 CC, .slice s8 0 c8, .slice t8 pn d8, .bool V] 32)).heap.size := by simp
  have HO8 := hideP o8
  have HN8 := hideP hN8
  have hO8 : O8 = [] := List.length_eq_zero_iff.1 lo8
  have hz8 : pn + mzs N8 ≤ 10000 := by have := HSM.out N8 hN8; omega
  clear ka k8 k9 Q8 I7 R7 X7 Y7 o8 hN8
  obtain ⟨r0, r1, r2, r3, r4, r5, r6, r7, r8⟩ := R9.out.box
  obtain ⟨g0, g1, g2, g3, g4, g5, g6, g7, g8⟩ := G9.out.box
  go_wp2_with fail
  clear r0 r1 r2 r3 r4 r5 r6 r7 r8 g0 g1 g2 g3 g4 g5 g6 g7 g8
  generalize w8.alloc (.cells #[.int .i64 CC, .slice s8 0 c8, .slice t8 pn d8, .bool V] 32) = w9 at *
  refine Calls.mono (eqQR_w G9.out R9.out (HO3.out.trans HO8.out.symm) (HN3.out.trans HN8.out.symm) (by rw [hO8, mzs_nil]; omega) hz8) ?_
  rintro e w10 ⟨rfl, k10⟩
  have I10 := hideP (I9.out.keep k10 (by omega))
  have R10 := hideP (R9.out.keep k10 (by omega) (by omega))
  have X10 := hideP (X9.out.keep k10 (by omega) (by omega))
  have Y10 := hideP (Y9.out.keep k10 (by omega) (by omega))
  have G10 := hideP (G9.out.keep k10 (by omega) (by omega))
  have n10 := k10.size
  clear k10 I9 R9 X9 Y9 G9
  obtain ⟨a0, a1, a2, a3, a4⟩ := I10.out.A
  obtain ⟨p0, p1, p2, p3, p4⟩ := X10.out.box
  go_wp2_with fail
  refine wp_region_mades 2 2 (by kernel_rfl) (by kernel_rfl) ?_
  simp only [List.take_succ_cons, List.take_zero, List.drop_succ_cons, List.drop_zero]
  repeat (refine grow_step (by rfl) ?_; apply Exists.intro; refine ⟨fun w1 k1 => ?_, fun K hK => ?_⟩; (focus (have hc := Kept.cell k1; go_simp; first | done | rfl)); (go_simp; refine hK _ ?_; clear hK K))
  refine grow_nil ?_
  clear a0 a1 a2 a3 a4 p0 p1 p2 p3 p4
  refine mades_step (by rfl) fun w11 k11 => ?_
  have kk11 := Kept.below k11
  refine made_calls (by go_simp; first | done | rfl) ((TO.out w11 (I10.out.keep kk11 (by omega)).K).mono ?_)
  rintro e w12 ⟨_, rfl, ⟨s12, M12, rfl, l12, z12, c12, Q12⟩, k12⟩
  refine ⟨_, rfl, k12, fun K hK => ?_⟩
  go_simp
  refine hK _ ?_
  clear hK K
  refine mades_step (by rfl) fun w13 k13 => ?_
  have kk13 := Kept.below k13
  have n11 := kk11.size
  have n12 := k12.size
  have n13 := kk13.size
  have kB : Below w10.heap.size w10 w13 := kk11.trans ((k12.trans (kk13.mono (by omega))).mono (by omega))
  refine made_calls (by go_simp; first | done | rfl) ((eqQ_n n _ _ _ _ s4 s12 n n M4 M12 v w13 l4 l12 (c12.trans C4.out.symm) (X10.out.qm.ms2.keep kB (by omega)) (Q12.ms2.keep kk13 (Nat.le_refl _)) (by omega) (by omega) (by omega)).mono ?_)
  rintro e w14 ⟨rfl, k14⟩
  refine ⟨_, rfl, k14, fun K hK => ?_⟩
  go_simp
  refine hK _ ?_
  clear hK K
  refine mades_nil fun w15 k15 => ?_
  have k15' : Below w10.heap.size w10 w15 := kB.trans ((k14.trans ((Kept.below k15).mono k14.size)).mono (by omega))
  have I15 := hideP (I10.out.keep k15' (by omega))
  have R15 := hideP (R10.out.keep k15' (by omega) (by omega))
  have X15 := hideP (X10.out.keep k15' (by omega) (by omega))
  have Y15 := hideP (Y10.out.keep k15' (by omega) (by omega))
  have G15 := hideP (G10.out.keep k15' (by omega) (by omega))
  have n15 := k15'.size
  clear k11 kk11 k12 Q12 c12 k13 kk13 n11 n12 n13 kB k14 k15 k15' I10 R10 X10 Y10 G10 z12 l12
  obtain ⟨d0, d1, d2, d3, d4⟩ := I15.out.D
  obtain ⟨p0, p1, p2, p3, p4⟩ := Y15.out.box
  go_wp2_with fail
  refine wp_region_mades 2 2 (by kernel_rfl) (by kernel_rfl) ?_
  simp only [List.take_succ_cons, List.take_zero, List.drop_succ_cons, List.drop_zero]
  repeat (refine grow_step (by rfl) ?_; apply Exists.intro; refine ⟨fun w1 k1 => ?_, fun K hK => ?_⟩; (focus (have hc := Kept.cell k1; go_simp; first | done | rfl)); (go_simp; refine hK _ ?_; clear hK K))
  refine grow_nil ?_
  clear d0 d1 d2 d3 d4 p0 p1 p2 p3 p4
  refine mades_step (by rfl) fun w16 k16 => ?_
  have kk16 := Kept.below k16
  refine made_calls (by go_simp; first | done | rfl) ((TM.out w16 (I15.out.keep kk16 (by omega)).K).mono ?_)
  rintro e w17 ⟨m17, rfl, N17, k17⟩
  refine ⟨_, rfl, k17, fun K hK => ?_⟩
  go_simp
  refine hK _ ?_
  clear hK K
  refine mades_step (by rfl) fun w18 k18 => ?_
  have kk18 := Kept.below k18
  have n16 := kk16.size
  have n17 := k17.size
  have n18 := kk18.size
  have kB : Below w15.heap.size w15 w18 := kk16.trans ((k17.trans (kk18.mono (by omega))).mono (by omega))
  refine made_calls (by go_simp; first | done | rfl) ((EM.out m6.b.ao m17.b.ao m6.b.cap m17.b.cap w18 ((Y15.out.row.keep kB (by omega)).wide (Nat.zero_le _) (by omega)) ((N17.row.keep kk18 (Nat.le_refl _)).wide (Nat.zero_le _) (by omega))).mono ?_)
  rintro e w19 ⟨rfl, k19⟩
  refine ⟨_, rfl, k19, fun K hK => ?_⟩
  go_simp
  refine hK _ ?_
  clear hK K
  refine mades_nil fun w20 k20 => ?_
  have k20' : Below w15.heap.size w15 w20 := kB.trans ((k19.trans ((Kept.below k20).mono k19.size)).mono (by omega))
  have I20 := hideP (I15.out.keep k20' (by omega))
  have R20 := hideP (R15.out.keep k20' (by omega) (by omega))
  have X20 := hideP (X15.out.keep k20' (by omega) (by omega))
  have Y20 := hideP (Y15.out.keep k20' (by omega) (by omega))
  have G20 := hideP (G15.out.keep k20' (by omega) (by omega))
  have n20 := k20'.size
  clear k16 kk16 k17 N17 k18 kk18 n16 n17 n18 kB k19 k20 k20' I15 R15 X15 Y15 G15
  have MQ := markQ_any W3.heap.size w4.heap.size s4 n [] M4 v 1 w20 (by simpa using X20.out.qm.bods) X20.out.qm.sp2 (by omega) (by omega) (by omega) (by omega)
  rw [l4, z4] at MQ
  have MQ' := hideP MQ
  have hk1 : 0 ≤ 1 + (n : Int) + (zl : Int) ∧ 1 + (n : Int) + (zl : Int) ≤ 1048577 := by omega
  generalize 1 + (n : Int) + (zl : Int) = k1 at *
  clear MQ
  obtain ⟨p0, p1, p2, p3, p4⟩ := X20.out.box
  go_wp2_with fail
  clear p0 p1 p2 p3 p4
  refine Calls.mono MQ'.out ?_
  rintro e w21 ⟨rfl, f21, _⟩
  have I21 := hideP (I20.out.far f21 (by omega))
  have R21 := hideP (R20.out.far f21 (by omega) (by omega))
  have Y21 := hideP (Y20.out.far f21 (by omega) (by omega))
  have G21 := hideP (G20.out.far f21 (by omega) (by omega))
  have n21 := f21.size
  clear f21 I20 R20 X20 Y20 G20 MQ'
  have MM := markM_one w5.heap.size w6.heap.size k m6 D dn k1 w6.heap.size w21 Y21.out HDn.out hd1 hk1.1 hk1.2
  have MM' := hideP MM
  have hk2 : ¬ k1 + (dn : Int) < 0 := by omega
  clear MM
  obtain ⟨p0, p1, p2, p3, p4⟩ := Y21.out.box
  go_wp2_with fail
  clear p0 p1 p2 p3 p4
  refine Calls.mono MM'.out ?_
  rintro e w22 ⟨rfl, f22⟩
  have I22 := hideP (I21.out.far f22 (by omega))
  have R22 := hideP (R21.out.far f22 (by omega) (by omega))
  have G22 := hideP (G21.out.far f22 (by omega) (by omega))
  have n22 := f22.size
  clear f22 I21 R21 Y21 G21 MM'
  obtain ⟨r0, r1, r2, r3, r4, r5, r6, r7, r8⟩ := R22.out.box
  obtain ⟨g0, g1, g2, g3, g4, g5, g6, g7, g8⟩ := G22.out.box
  go_wp2_with fail
  clear r0 r1 r2 r3 r4 r5 r6 r7 r8 g0 g1 g2 g3 g4 g5 g6 g7 g8
  refine Calls.mono (eqQR_w G22.out R22.out (HO3.out.trans HO8.out.symm) (HN3.out.trans HN8.out.symm) (by rw [hO8, mzs_nil]; omega) hz8) ?_
  rintro e w23 ⟨rfl, k23⟩
  have I23 := hideP (I22.out.keep k23 (by omega))
  have R23 := hideP (R22.out.keep k23 (by omega) (by omega))
  have G23 := hideP (G22.out.keep k23 (by omega) (by omega))
  have n23 := k23.size
  clear k23 I22 R22 G22
  obtain ⟨Tm, hT0, MK, HK⟩ := markQR_w G23.out (by rw [hO8, mzs_nil]; omega) hz8
  have MK' := hideP MK
  have HK' := hideP HK
  have hT1 : ¬ Tm < 0 := by omega
  clear MK HK
  obtain ⟨g0, g1, g2, g3, g4, g5, g6, g7, g8⟩ := G23.out.box
  go_wp2_with fail
  clear g0 g1 g2 g3 g4 g5 g6 g7 g8
  refine Calls.mono MK'.out ?_
  rintro e w24 ⟨rfl, f24, Q24⟩
  have I24 := hideP (I23.out.far f24 (by omega))
  have R24 := hideP (R23.out.far f24 (by omega) (by omega))
  have B24 := hideP (G23.out.box.far f24 (by omega))
  have Q24' := hideP Q24
  have n24 := f24.size
  clear f24 Q24 I23 R23 G23 MK'
  obtain ⟨g0, g1, g2, g3, g4, g5, g6, g7, g8⟩ := B24.out
  go_wp2_with fail
  clear g0 g1 g2 g3 g4 g5 g6 g7 g8
  refine Calls.mono (HK'.out w24 Q24'.out) ?_
  rintro e w25 ⟨rfl, k25⟩
  have I25 := hideP (I24.out.keep k25 (by omega))
  have R25 := hideP (R24.out.keep k25 (by omega) (by omega))
  have B25 := hideP (B24.out.keep k25 (by omega))
  have Q25 := hideP (Q24'.out.keep k25 (by omega))
  have n25 := k25.size
  have n25' : w.heap.size + 2 ≤ w25.heap.size := by omega
  have hTT : (Tm != Tm) = false := by simp
  clear k25 I24 R24 B24 Q24'
  obtain ⟨a0, a1, a2, a3, a4⟩ := I25.out.A
  obtain ⟨d0, d1, d2, d3, d4⟩ := I25.out.D
  go_wp2_with fail
  refine wp_region_boxed 6 [0, 2] [1, 3, 4] 5 (.cells #[.int .i64 0, .slice none 0 0, .slice none 0 0, .bool false] 32) rfl (by kernel_rfl) (by kernel_rfl) ?_
  simp only [sel, List.filterMap_cons, List.filterMap_nil, List.getElem?_cons_succ, List.getElem?_cons_zero]
  repeat (refine grow_step (by rfl) ?_; apply Exists.intro; refine ⟨fun w1 k1 => ?_, fun K hK => ?_⟩; (focus (have hc := Kept.cell k1; go_simp; first | done | rfl)); (go_simp; refine hK _ ?_; clear hK K))
  refine grow_nil ?_
  clear a0 a1 a2 a3 a4 d0 d1 d2 d3 d4
  refine ⟨by rfl, fun w1 => (by go_simp), ?_⟩
  refine boxed_step (by rfl) fun v1 j1 => ?_
  have jj1 := Kept.below j1
  refine made_calls (by go_simp; first | done | rfl) ((TO.out v1 (I25.out.keep jj1 n25').K).mono ?_)
  rintro e v2 ⟨_, rfl, ⟨sA, MA, rfl, lA, zA, cA, QA⟩, j2⟩
  refine ⟨_, rfl, j2, fun K hK => ?_⟩
  go_simp
  refine hK _ ?_
  clear hK K
  refine boxed_step (by rfl) fun v3 j3 => ?_
  have jj3 := Kept.below j3
  have j13 : Below w25.heap.size w25 v3 := jj1.trans ((j2.trans (jj3.mono j2.size)).mono jj1.size)
  refine made_calls (by go_simp; first | done | rfl) ((TM.out v3 (I25.out.keep j13 n25').K).mono ?_)
  rintro e v4 ⟨mA, rfl, NA, j4⟩
  refine ⟨_, rfl, j4, fun K hK => ?_⟩
  go_simp
  refine hK _ ?_
  clear hK K
  refine boxed_step (by rfl) fun v5 j5 => ?_
  have jj5 := Kept.below j5
  have j45 : Below v3.heap.size v3 v5 := j4.trans (jj5.mono j4.size)
  have e1 := jj1.size
  have e2 := j2.size
  have e3 := jj3.size
  have e4 := j4.size
  have e5 := jj5.size
  refine made_calls (by go_simp; first | done | rfl) ((IP'.out MA lA cA zA sA mA.b.ao mA.b.cap v5 (((QA.ms2.keep jj3 (Nat.le_refl _)).keep j45 (by omega)).wide (Nat.zero_le _) (by omega)) ((NA.row.keep jj5 (Nat.le_refl _)).wide (Nat.zero_le _) (by omega))).mono ?_)
  rintro e v6 ⟨s26, t26, c26, d26, O26, N26, rfl, o26, hN26, lo26, l26, Q26, j6⟩
  refine ⟨_, rfl, j6, fun K hK => ?_⟩
  go_simp
  refine hK _ ?_
  clear hK K
  refine boxed_nil fun B v7 j7 hB0 hB1 hBb hBI => ?_
  have jj7 := Kept.below j7
  have e6 := j6.size
  have e7 := jj7.size
  have hB2 : B < v5.heap.size ∨ v6.heap.size ≤ B := hBI (v5.heap.size, v6.heap.size) (by simp)
  have BX := r4_at hBb
  have PX := BX.put (.int .i64 CC) (.slice s26 0 c26) (.slice t26 pn d26) (.bool V)
  have FX := far_put4 (w := v7) (b := B) (.int .i64 CC) (.slice s26 0 c26) (.slice t26 pn d26) (.bool V)
  have k7 : Below w25.heap.size w25 v7 := j13.trans ((j45.trans ((j6.trans (jj7.mono j6.size)).mono (by omega))).mono (by omega))
  have kX := k7.trans (FX.below (B := w25.heap.size) hB0 (by omega))
  have QX := (Q26.keep jj7 (Nat.le_refl _)).far FX (by omega)
  have k26 := hideP kX
  have QR26 : Hid (QW _ B v5.heap.size v6.heap.size CC s26 c26 O26 t26 d26 N26 0 pn V) := hideP ⟨PX, QX, lo26, l26⟩
  have HO26 := hideP o26
  have HN26 := hideP hN26
  have hsz : ((((v7.setCell ⟨B, 0, none⟩ (.int .i64 CC)).setCell ⟨B, 1, none⟩ (.slice s26 0 c26)).setCell ⟨B, 2, none⟩ (.slice t26 pn d26)).setCell ⟨B, 3, none⟩ (.bool V)).heap.size = v7.heap.size := by simp
  clear j1 jj1 j2 QA cA j3 jj3 j13 NA j4 j5 jj5 j45 Q26 j6 hBb hBI j7 jj7 PX FX k7 kX QX o26 hN26
  have hWz := hsz
  have I26 := hideP (I25.out.keep k26.out n25')
  have n26 : w.heap.size + 2 ≤ v7.heap.size := by omega
  have bl26 : B < v7.heap.size := by omega
  have hl26 : v6.heap.size ≤ v7.heap.size := by omega
  rw [← hsz] at n26 bl26 hl26
  obtain ⟨x0, x1, x2, x3, x4, x5, x6, x7, x8⟩ := BX
  have R26 := hideP (R25.out.keep k26.out (by omega) (by omega))
  have B26 := hideP (B25.out.keep k26.out (by omega))
  have Q26 := hideP (Q25.out.keep k26.out (by omega))
  have n26 := k26.out.size
  clear R25 B25 Q25 I25
  obtain ⟨r0, r1, r2, r3, r4, r5, r6, r7, r8⟩ := R26.out.box
  obtain ⟨g0, g1, g2, g3, g4, g5, g6, g7, g8⟩ := QR26.out.box
  go_wp2_with fail
  clear r0 r1 r2 r3 r4 r5 r6 r7 r8 g0 g1 g2 g3 g4 g5 g6 g7 g8
  clear x0 x1 x2 x3 x4 x5 x6 x7 x8
  generalize (((v7.setCell ⟨B, 0, none⟩ (.int .i64 CC)).setCell ⟨B, 1, none⟩ (.slice s26 0 c26)).setCell ⟨B, 2, none⟩ (.slice t26 pn d26)).setCell ⟨B, 3, none⟩ (.bool V) = W26 at *
  refine Calls.mono (eqQR_w QR26.out R26.out (HO3.out.trans HO26.out.symm) (HN3.out.trans HN26.out.symm) (by rw [List.length_eq_zero_iff.1 QR26.out.l1, mzs_nil]; omega) (by have := HSM.out N26 HN26.out; have := QR26.out.l2; omega)) ?_
  rintro e w27 ⟨rfl, k27⟩
  have I27 := hideP (I26.out.keep k27 (by omega))
  have B27 := hideP (B26.out.keep k27 (by omega))
  have Q27 := hideP (Q26.out.keep k27 (by omega))
  have n27 := k27.size
  clear k27 I26 R26 B26 Q26 QR26
  obtain ⟨g0, g1, g2, g3, g4, g5, g6, g7, g8⟩ := B27.out
  go_wp2_with fail
  clear g0 g1 g2 g3 g4 g5 g6 g7 g8
  refine Calls.mono (HK'.out w27 Q27.out) ?_
  rintro e w28 ⟨rfl, k28⟩
  have K28 := hideP (I27.out.keep k28 (by omega)).K
  clear k28 I27 B27 Q27
  go_wp2
  go_returns
  exact ⟨rfl, K28⟩

theorem law_PushReply (so : Option Addr) (sc : Nat) (L : List Mg) (v : Bool) (k : Int) (ao : Option Addr) (ca : Nat) (D : List Int) (w : World) (hn : L.length ≤ maxLen) (hL : Ms w 0 w.heap.size so L) (hm : ∀ r ∈ L, r.b.L.length ≤ maxLen) (hd : D.length ≤ maxLen) (hD : Row .u8 w 0 w.heap.size ao D) (_ : ∀ n ∈ D, (Lit.int .u8 n).wf = true) :
    Calls Try.prog 7 #[.agg #[.slice so L.length sc, .bool v], .agg #[.int .i64 k, .slice ao D.length ca]] w fun e w' => e = .returned (.bool true) ∧ Below w.heap.size w w' := by
  by_cases h : L.length + mzs L + D.length ≤ 1048576
  · exact small_PushReply so sc L v k ao ca D w hL hn hm hD h
  · exact big_PushReply 0 w.heap.size so sc L v k ao ca D.length w hL (Nat.le_refl _) hn hm hd (by omega)
end Go.Proofs.Ytefkngpceeclhaa
