/- DrainQueue: the law's walk. -/
import Derived.Test.YtngmiimendlleaaV47
namespace Go.Proofs.Ytngmiimendlleaa
open Go.RowKit
set_option linter.unusedVariables false
attribute [local go_sem] growUpon growAt

/-- The law's own box. -/
structure In1 (w W : World) (u0 u1 : Value) : Prop where
  K : Below w.heap.size w W
  A : Rb W w.heap.size u0 u1
theorem In1.keep {w W W' : World} {u0 u1 : Value} {B : Nat} (h : In1 w W u0 u1) (k : Below B W W') (hb : w.heap.size + 1 ≤ B) : In1 w W' u0 u1 := ⟨h.K.trans (k.mono (by omega)), h.A.keep k (by omega)⟩
theorem In1.far {w W W' : World} {u0 u1 : Value} {lo hi : Nat} (h : In1 w W u0 u1) (f : Far lo hi W W') (hb : w.heap.size + 1 ≤ lo) : In1 w W' u0 u1 :=
  ⟨h.K.trans (f.below (by omega) (by have := h.A.lt; omega)), h.A.far f (by omega)⟩

set_option maxHeartbeats 1000000 in
theorem dr_big (lo hi : Nat) (so : Option Addr) (sc : Nat) (L : List Mg) (v : Bool) (n : Int) (w : World) (hL : Ms w lo hi so L) (hs : hi ≤ w.heap.size) (hn : L.length ≤ maxLen) (hm : ∀ r ∈ L, r.b.L.length ≤ maxLen) (h : 1048576 < L.length + mzs L) :
    Calls Try.prog 3 #[.agg #[.slice so L.length sc, .bool v], .int .i64 n] w fun e w' => e = .returned (.bool true) ∧ Below w.heap.size w w' := by
  have SZ := fun w1 (kk : Below w.heap.size w w1) => szQ_any lo hi so sc L v 1048576 w1 (hL.keep kk hs) (by have := kk.size; omega) hn hm (by omega) (by omega)
  rw [szV_no (by omega)] at SZ
  have SZ' := hideP SZ
  clear SZ hL hm
  go_enter Try.func3, Try.ntmps3
  go_wp2_with fail
  refine Calls.mono (SZ'.out _ (by go_grown)) ?_
  rintro e w1 ⟨rfl, k1⟩
  have K1 : Hid (Below w.heap.size w w1) := hideP (Below.trans (by go_grown) (k1.mono (by simp)))
  clear k1
  go_wp2
  go_returns
  exact ⟨rfl, K1.out⟩

set_option maxRecDepth 100000 in
set_option maxHeartbeats 8000000 in
theorem dr_small_law (so : Option Addr) (sc : Nat) (L : List Mg) (v : Bool) (x : Int) (w : World) (hL : Ms w 0 w.heap.size so L) (hn : L.length ≤ maxLen) (hm : ∀ r ∈ L, r.b.L.length ≤ maxLen) (h : L.length + mzs L ≤ 1048576) :
    Calls Try.prog 3 #[.agg #[.slice so L.length sc, .bool v], .int .i64 x] w fun e w' => e = .returned (.bool true) ∧ Below w.heap.size w w' := by
  have SZ := fun w1 (kk : Below w.heap.size w w1) => szQ_any 0 w.heap.size so sc L v 1048576 w1 (hL.keep kk (Nat.le_refl _)) (by have := kk.size; omega) hn hm (by omega) (by omega)
  rw [szV_yes (by omega)] at SZ
  obtain ⟨z, hz⟩ : ∃ z : Int, (1048576 : Int) - ((L.length + mzs L : Nat) : Int) = z := ⟨_, rfl⟩
  have hz0 : ¬ z < 0 := by omega
  rw [hz] at SZ
  have SZ' := hideP SZ
  have TO := hideP (fun w1 (kk : Below w.heap.size w w1) => toQ_copy 0 w.heap.size so sc L v w1 (hL.keep kk (Nat.le_refl _)) kk.size h)
  have SP := fun (M : List Mg) (hl : M.length = L.length) (hz : mzs M = mzs L) s W (a1 : Ms W 0 W.heap.size s M) => sDrain_any 0 W.heap.size s M.length M v x W a1 (Nat.le_refl _) (by omega)
  have IP := fun (M : List Mg) (hl : M.length = L.length) (hz : mzs M = mzs L) s W (a1 : Ms W 0 W.heap.size s M) => iDrain_any 0 W.heap.size s M.length M v x W a1 (Nat.le_refl _) (by omega)
  unfold DrA at SP IP
  obtain ⟨hs1, hs2⟩ := dr_small (C := L.map Mg.ct) (n := x)
  obtain ⟨C, hC⟩ : ∃ C, L.map Mg.ct = C := ⟨_, rfl⟩
  obtain ⟨n, hnL⟩ : ∃ n, L.length = n := ⟨_, rfl⟩
  obtain ⟨zl, hzl⟩ : ∃ zl, mzs L = zl := ⟨_, rfl⟩
  unfold CopyQ at TO
  rw [hnL, hC, hzl] at TO
  rw [hC] at hs1 hs2
  obtain ⟨CC, hCC⟩ : ∃ CC, drC C x = CC := ⟨_, rfl⟩
  obtain ⟨P, hP⟩ : ∃ P, dr1 C x = P := ⟨_, rfl⟩
  obtain ⟨R, hR⟩ : ∃ R, dr2 C x = R := ⟨_, rfl⟩
  obtain ⟨V, hV⟩ : ∃ V, drV C x v = V := ⟨_, rfl⟩
  obtain ⟨pn, hpn⟩ : ∃ pn, P.length = pn := ⟨_, rfl⟩
  obtain ⟨rn, hrn⟩ : ∃ rn, R.length = rn := ⟨_, rfl⟩
  rw [hP] at hs1
  rw [hR] at hs2
  have SP' : Hid (∀ (M : List Mg), M.length = n → M.map Mg.ct = C → mzs M = zl → ∀ s W, Ms W 0 W.heap.size s M → Calls Try.prog 5 #[.agg #[.slice s n n, .bool v], .int .i64 x] W (QAns CC P R pn rn V W)) := hideP (fun M hl hc hz s W a1 => by
    have hh := SP M (hl.trans hnL.symm) (hz.trans hzl.symm) s W a1
    rw [hc, hl, hCC, hP, hR, hV, hpn, hrn] at hh
    exact hh)
  have IP' : Hid (∀ (M : List Mg), M.length = n → M.map Mg.ct = C → mzs M = zl → ∀ s W, Ms W 0 W.heap.size s M → Calls Try.prog 7 #[.agg #[.slice s n n, .bool v], .int .i64 x] W (QAns CC P R pn rn V W)) := hideP (fun M hl hc hz s W a1 => by
    have hh := IP M (hl.trans hnL.symm) (hz.trans hzl.symm) s W a1
    rw [hc, hl, hCC, hP, hR, hV, hpn, hrn] at hh
    exact hh)
  have HS1 := hideP hs1
  have HS2 := hideP hs2
  rw [hnL, hzl] at h
  rw [hnL] at SZ' ⊢
  clear SZ hL hm hz hn hC hs1 hs2 SP IP hCC hP hR hV hpn hrn hzl hnL
  go_enter Try.func3, Try.ntmps3
  go_wp2_with fail
  refine Calls.mono (SZ'.out _ (by go_grown)) ?_
  rintro e w1 ⟨rfl, k1⟩
  have I1 : Hid (In1 w w1 (.slice so n sc) (.bool v)) := hideP ⟨Below.trans (by go_grown) (k1.mono (by simp)), Rb.keep ⟨by simp, by simp, by simp, by simp, by simp⟩ k1 (by simp)⟩
  have n1 : w.heap.size + 1 ≤ w1.heap.size := I1.out.A.lt
  clear k1 SZ'
  obtain ⟨a0, a1, a2, a3, a4⟩ := I1.out.A
  go_wp2_with fail
  clear a0 a1 a2 a3 a4
  refine Calls.mono (TO.out w1 I1.out.K) ?_
  rintro e w2 ⟨_, rfl, ⟨s2, M2, rfl, l2, z2, c2, Q2⟩, k2⟩
  have I2 := hideP (I1.out.keep k2 n1)
  have HQ2 := hideP Q2
  have HC2 := hideP c2
  have n2 := k2.size
  clear k2 Q2 c2 I1
  go_wp2_with fail
  refine Calls.mono (SP'.out M2 l2 HC2.out z2 s2 w2 (HQ2.out.ms2.wide (Nat.zero_le _) (Nat.le_refl _))) ?_
  rintro e w3 ⟨s3, t3, c3, d3, O3, N3, rfl, o3, hN3, lo3, l3, Q3, k3⟩
  have ka := kalM w3 (.cells #[.int .i64 CC, .slice s3 pn c3, .slice t3 rn d3, .bool V] 30)
  have k4 := k3.trans (ka.mono k3.size)
  have I4 := hideP (I2.out.keep k4 (by omega))
  have R4' : Hid (QW (w3.alloc (.cells #[.int .i64 CC, .slice s3 pn c3, .slice t3 rn d3, .bool V] 30)) w3.heap.size w2.heap.size w3.heap.size CC s3 c3 O3 t3 d3 N3 pn rn V) := hideP ⟨r4_new _ _ _ _ _ _, Q3.keep ka (Nat.le_refl _), lo3, l3⟩
  have n3 := k3.size
  have n4 : w3.heap.size < (w3.alloc (.cells #[.int .i64 CC, .slice s3 pn c3, .slice t3 rn d3, .bool V] 30)).heap.size := by simp
  have HO3 := hideP o3
  have HN3 := hideP hN3
  clear ka k3 k4 Q3 o3 hN3 I2 HQ2 HC2
  obtain ⟨a0, a1, a2, a3, a4⟩ := I4.out.A
  go_wp2_with fail
  clear a0 a1 a2 a3 a4
  generalize w3.alloc (.cells #[.int .i64 CC, .slice s3 pn c3, .slice t3 rn d3, .bool V] 30) = w4 at *
  refine Calls.mono (TO.out w4 I4.out.K) ?_
  rintro e w5 ⟨_, rfl, ⟨s5, M5, rfl, l5, z5, c5, Q5⟩, k5⟩
  have ka := kalM w5 (.cells #[.slice s5 n n, .bool v] 28)
  have k6 := k5.trans (ka.mono k5.size)
  have I6 := hideP (I4.out.keep k6 (by omega))
  have R6 := hideP (R4'.out.keep k6 n4 (by omega))
  have X6 : Hid (XQ (w5.alloc (.cells #[.slice s5 n n, .bool v] 28)) w5.heap.size w4.heap.size w5.heap.size s5 M5 n v) := hideP ⟨⟨by simp, by simp, by simp, by simp, by simp⟩, Q5.keep ka (Nat.le_refl _)⟩
  have n5 := k5.size
  have n6 : w5.heap.size < (w5.alloc (.cells #[.slice s5 n n, .bool v] 28)).heap.size := by simp
  have C5 := hideP c5
  clear ka k5 k6 Q5 I4 R4' c5
  obtain ⟨p0, p1, p2, p3, p4⟩ := X6.out.box
  go_wp2_with fail
  clear p0 p1 p2 p3 p4
  generalize w5.alloc (.cells #[.slice s5 n n, .bool v] 28) = w6 at *
  refine Calls.mono (IP'.out M5 l5 C5.out z5 s5 w6 (X6.out.qm.ms2.wide (Nat.zero_le _) (by omega))) ?_
  rintro e w8 ⟨s8, t8, c8, d8, O8, N8, rfl, o8, hN8, lo8, l8, Q8, k8⟩
  have ka := kalM w8 (.cells #[.int .i64 CC, .slice s8 pn c8, .slice t8 rn d8, .bool V] 30)
  have k9 := k8.trans (ka.mono k8.size)
  have I9 := hideP (I6.out.keep k9 (by omega))
  have R9 := hideP (R6.out.keep k9 (by omega) (by omega))
  have X9 := hideP (X6.out.keep k9 (by omega) (by omega))
  have G9 : Hid (QW (w8.alloc (.cells #[.int .i64 CC, .slice s8 pn c8, .slice t8 rn d8, .bool V] 30)) w8.heap.size w6.heap.size w8.heap.size CC s8 c8 O8 t8 d8 N8 pn rn V) := hideP ⟨r4_new _ _ _ _ _ _, Q8.keep ka (Nat.le_refl _), lo8, l8⟩
  have n8 := k8.size
  have n9 : w8.heap.size < (w8.alloc (.cells #[.int .i64 CC, .slice s8 pn c8, .slice t8 rn d8, .bool V] 30)).heap.size := by simp
  have HO8 := hideP o8
  have HN8 := hideP hN8
  have hzo : pn + mzs O8 ≤ 10000 := by have := HS1.out O8 o8; omega
  have hz8 : rn + mzs N8 ≤ 10000 := by have := HS2.out N8 hN8; omega
  clear ka k8 k9 Q8 I6 R6 X6 o8 hN8
  obtain ⟨r0, r1, r2, r3, r4, r5, r6, r7, r8⟩ := R9.out.box
  obtain ⟨g0, g1, g2, g3, g4, g5, g6, g7, g8⟩ := G9.out.box
  go_wp2_with fail
  clear r0 r1 r2 r3 r4 r5 r6 r7 r8 g0 g1 g2 g3 g4 g5 g6 g7 g8
  generalize w8.alloc (.cells #[.int .i64 CC, .slice s8 pn c8, .slice t8 rn d8, .bool V] 30) = w9 at *
  refine Calls.mono (eqQR_w G9.out R9.out (HO3.out.trans HO8.out.symm) (HN3.out.trans HN8.out.symm) hzo hz8) ?_
  rintro e w10 ⟨rfl, k10⟩
  have I10 := hideP (I9.out.keep k10 (by omega))
  have R10 := hideP (R9.out.keep k10 (by omega) (by omega))
  have X10 := hideP (X9.out.keep k10 (by omega) (by omega))
  have G10 := hideP (G9.out.keep k10 (by omega) (by omega))
  have n10 := k10.size
  clear k10 I9 R9 X9 G9
  obtain ⟨a0, a1, a2, a3, a4⟩ := I10.out.A
  obtain ⟨p0, p1, p2, p3, p4⟩ := X10.out.box
  go_wp2_with fail
  refine wp_region_mades 2 2 (by kernel_rfl) (by kernel_rfl) ?_
  simp only [List.take_succ_cons, List.take_zero, List.drop_succ_cons, List.drop_zero]
  repeat (refine grow_step (by rfl) ?_; apply Exists.intro; refine ⟨fun w1 k1 => ?_, fun K hK => ?_⟩; (focus (have hc := Kept.cell k1; go_simp; first | done | rfl)); (go_simp; refine hK _ ?_; clear hK K))
  refine grow_nil ?_
  clear a0 a1 a2 a3 a4 p0 p1 p2 p3 p4
  refine mades_step (by rfl) fun w11 k11 => ?_
  have kk11 := Kept.below k11
  refine made_calls (by go_simp; first | done | rfl) ((TO.out w11 (I10.out.keep kk11 (by omega)).K).mono ?_)
  rintro e w12 ⟨_, rfl, ⟨s12, M12, rfl, l12, z12, c12, Q12⟩, k12⟩
  refine ⟨_, rfl, k12, fun K hK => ?_⟩
  go_simp
  refine hK _ ?_
  clear hK K
  refine mades_step (by rfl) fun w13 k13 => ?_
  have kk13 := Kept.below k13
  have n11 := kk11.size
  have n12 := k12.size
  have n13 := kk13.size
  have kB : Below w10.heap.size w10 w13 := kk11.trans ((k12.trans (kk13.mono (by omega))).mono (by omega))
  refine made_calls (by go_simp; first | done | rfl) ((eqQ_n n _ _ _ _ s5 s12 n n M5 M12 v w13 l5 l12 (c12.trans C5.out.symm) (X10.out.qm.ms2.keep kB (by omega)) (Q12.ms2.keep kk13 (Nat.le_refl _)) (by omega) (by omega) (by omega)).mono ?_)
  rintro e w14 ⟨rfl, k14⟩
  refine ⟨_, rfl, k14, fun K hK => ?_⟩
  go_simp
  refine hK _ ?_
  clear hK K
  refine mades_nil fun w15 k15 => ?_
  have k15' : Below w10.heap.size w10 w15 := kB.trans ((k14.trans ((Kept.below k15).mono k14.size)).mono (by omega))
  have I20 := hideP (I10.out.keep k15' (by omega))
  have R20 := hideP (R10.out.keep k15' (by omega) (by omega))
  have X20 := hideP (X10.out.keep k15' (by omega) (by omega))
  have G20 := hideP (G10.out.keep k15' (by omega) (by omega))
  have n20 := k15'.size
  clear k11 kk11 k12 Q12 c12 k13 kk13 n11 n12 n13 kB k14 k15 k15' I10 R10 X10 G10 z12 l12
  have MQ := markQ_any w4.heap.size w5.heap.size s5 n [] M5 v 1 w15 (by simpa using X20.out.qm.bods) X20.out.qm.sp2 (by omega) (by omega) (by omega) (by omega)
  rw [l5, z5] at MQ
  have MQ' := hideP MQ
  have hk1 : 0 ≤ 1 + (n : Int) + (zl : Int) ∧ 1 + (n : Int) + (zl : Int) ≤ 1048577 := by omega
  generalize 1 + (n : Int) + (zl : Int) = k1 at *
  have hk2 : ¬ k1 < 0 := by omega
  clear MQ
  obtain ⟨p0, p1, p2, p3, p4⟩ := X20.out.box
  go_wp2_with fail
  clear p0 p1 p2 p3 p4
  refine Calls.mono MQ'.out ?_
  rintro e w22 ⟨rfl, f21, _⟩
  have I22 := hideP (I20.out.far f21 (by omega))
  have R22 := hideP (R20.out.far f21 (by omega) (by omega))
  have G22 := hideP (G20.out.far f21 (by omega) (by omega))
  have n22 := f21.size
  clear f21 I20 R20 X20 G20 MQ'
  obtain ⟨r0, r1, r2, r3, r4, r5, r6, r7, r8⟩ := R22.out.box
  obtain ⟨g0, g1, g2, g3, g4, g5, g6, g7, g8⟩ := G22.out.box
  go_wp2_with fail
  clear r0 r1 r2 r3 r4 r5 r6 r7 r8 g0 g1 g2 g3 g4 g5 g6 g7 g8
  refine Calls.mono (eqQR_w G22.out R22.out (HO3.out.trans HO8.out.symm) (HN3.out.trans HN8.out.symm) hzo hz8) ?_
  rintro e w23 ⟨rfl, k23⟩
  have I23 := hideP (I22.out.keep k23 (by omega))
  have R23 := hideP (R22.out.keep k23 (by omega) (by omega))
  have G23 := hideP (G22.out.keep k23 (by omega) (by omega))
  have n23 := k23.size
  clear k23 I22 R22 G22
  obtain ⟨Tm, hT0, MK, HK⟩ := markQR_w G23.out hzo hz8
  have MK' := hideP MK
  have HK' := hideP HK
  have hT1 : ¬ Tm < 0 := by omega
  clear MK HK
  obtain ⟨g0, g1, g2, g3, g4, g5, g6, g7, g8⟩ := G23.out.box
  go_wp2_with fail
  clear g0 g1 g2 g3 g4 g5 g6 g7 g8
  refine Calls.mono MK'.out ?_
  rintro e w24 ⟨rfl, f24, Q24⟩
  have I24 := hideP (I23.out.far f24 (by omega))
  have R24 := hideP (R23.out.far f24 (by omega) (by omega))
  have B24 := hideP (G23.out.box.far f24 (by omega))
  have Q24' := hideP Q24
  have n24 := f24.size
  clear f24 Q24 I23 R23 G23 MK'
  obtain ⟨g0, g1, g2, g3, g4, g5, g6, g7, g8⟩ := B24.out
  go_wp2_with fail
  clear g0 g1 g2 g3 g4 g5 g6 g7 g8
  refine Calls.mono (HK'.out w24 Q24'.out) ?_
  rintro e w25 ⟨rfl, k25⟩
  have I25 := hideP (I24.out.keep k25 (by omega))
  have R25 := hideP (R24.out.keep k25 (by omega) (by omega))
  have B25 := hideP (B24.out.keep k25 (by omega))
  have Q25 := hideP (Q24'.out.keep k25 (by omega))
  have n25 := k25.size
  have hTT : (Tm != Tm) = false := by simp
  clear k25 I24 R24 B24 Q24'
  obtain ⟨a0, a1, a2, a3, a4⟩ := I25.out.A
  go_wp2_with fail
  clear a0 a1 a2 a3 a4
  refine Calls.mono (TO.out w25 I25.out.K) ?_
  rintro e w26 ⟨_, rfl, ⟨s26, M26, rfl, l26, z26, c26, Q26⟩, k26⟩
  have I26 := hideP (I25.out.keep k26 (by omega))
  have R26 := hideP (R25.out.keep k26 (by omega) (by omega))
  have B26 := hideP (B25.out.keep k26 (by omega))
  have QQ26 := hideP (Q25.out.keep k26 (by omega))
  have HQ26 := hideP Q26
  have HC26 := hideP c26
  have n26 := k26.size
  clear k26 Q26 c26 I25 R25 B25 Q25
  go_wp2_with fail
  refine Calls.mono (IP'.out M26 l26 HC26.out z26 s26 w26 (HQ26.out.ms2.wide (Nat.zero_le _) (Nat.le_refl _))) ?_
  rintro e w27 ⟨s27, t27, c27, d27, O27, N27, rfl, o27, hN27, lo27, l27, Q27, k27⟩
  have ka := kalM w27 (.cells #[.int .i64 CC, .slice s27 pn c27, .slice t27 rn d27, .bool V] 30)
  have k28 := k27.trans (ka.mono k27.size)
  have I28 := hideP (I26.out.keep k28 (by omega))
  have R28 := hideP (R26.out.keep k28 (by omega) (by omega))
  have B28 := hideP (B26.out.keep k28 (by omega))
  have QQ28 := hideP (QQ26.out.keep k28 (by omega))
  have H28 : Hid (QW (w27.alloc (.cells #[.int .i64 CC, .slice s27 pn c27, .slice t27 rn d27, .bool V] 30)) w27.heap.size w26.heap.size w27.heap.size CC s27 c27 O27 t27 d27 N27 pn rn V) := hideP ⟨r4_new _ _ _ _ _ _, Q27.keep ka (Nat.le_refl _), lo27, l27⟩
  have n27 := k27.size
  have n28 : w27.heap.size < (w27.alloc (.cells #[.int .i64 CC, .slice s27 pn c27, .slice t27 rn d27, .bool V] 30)).heap.size := by simp
  have HO27 := hideP o27
  have HN27 := hideP hN27
  have hzp : pn + mzs O27 ≤ 10000 := by have := HS1.out O27 o27; omega
  have hzq : rn + mzs N27 ≤ 10000 := by have := HS2.out N27 hN27; omega
  clear ka k27 k28 Q27 o27 hN27 I26 R26 B26 QQ26 HQ26 HC26
  obtain ⟨r0, r1, r2, r3, r4, r5, r6, r7, r8⟩ := R28.out.box
  obtain ⟨g0, g1, g2, g3, g4, g5, g6, g7, g8⟩ := H28.out.box
  go_wp2_with fail
  clear r0 r1 r2 r3 r4 r5 r6 r7 r8 g0 g1 g2 g3 g4 g5 g6 g7 g8
  generalize w27.alloc (.cells #[.int .i64 CC, .slice s27 pn c27, .slice t27 rn d27, .bool V] 30) = w28 at *
  refine Calls.mono (eqQR_w H28.out R28.out (HO3.out.trans HO27.out.symm) (HN3.out.trans HN27.out.symm) hzp hzq) ?_
  rintro e w29 ⟨rfl, k29⟩
  have I29 := hideP (I28.out.keep k29 (by omega))
  have B29 := hideP (B28.out.keep k29 (by omega))
  have QQ29 := hideP (QQ28.out.keep k29 (by omega))
  have n29 := k29.size
  clear k29 I28 R28 B28 QQ28 H28
  obtain ⟨g0, g1, g2, g3, g4, g5, g6, g7, g8⟩ := B29.out
  go_wp2_with fail
  clear g0 g1 g2 g3 g4 g5 g6 g7 g8
  refine Calls.mono (HK'.out w29 QQ29.out) ?_
  rintro e w30 ⟨rfl, k30⟩
  have K30 := hideP (I29.out.keep k30 (by omega)).K
  clear k30 I29 B29 QQ29
  go_wp2
  go_returns
  exact ⟨rfl, K30⟩

theorem drain_law (so : Option Addr) (sc : Nat) (L : List Mg) (v : Bool) (x : Int) (w : World) (hn : L.length ≤ maxLen) (hL : Ms w 0 w.heap.size so L) (hm : ∀ r ∈ L, r.b.L.length ≤ maxLen) :
    Calls Try.prog 3 #[.agg #[.slice so L.length sc, .bool v], .int .i64 x] w fun e w' => e = .returned (.bool true) ∧ Below w.heap.size w w' := by
  by_cases h : L.length + mzs L ≤ 1048576
  · exact dr_small_law so sc L v x w hL hn hm h
  · exact dr_big 0 w.heap.size so sc L v x w hL (Nat.le_refl _) hn hm (by omega)
end Go.Proofs.Ytngmiimendlleaa
