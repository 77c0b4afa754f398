/- FnTops: the law's walk. -/
import Derived.Test.YtflodklggkkmiaaTq49
import Derived.Test.YtflodklggkkmiaaTq45
import Derived.Test.YtflodklggkkmiaaTq0
import Derived.Test.YtflodklggkkmiaaTq1
namespace Go.Proofs.Ytflodklggkkmiaa
open Go.RowKit Go.Maps
set_option linter.unusedVariables false
attribute [local go_sem] growUpon growAt growUponR growAtR
attribute [local go_sem high] fV0 fV1 fV2 fV3

set_option maxRecDepth 100000 in
set_option maxHeartbeats 2000000 in
theorem tops_big (w : World) (a : Option Addr) (len cap : Nat) (hl : len ≤ maxLen) (h : 1048576 < len) :
    Calls Try.prog 4 #[.slice a len cap] w fun e w' => e = .returned (.bool true) ∧ Below w.heap.size w w' := by
  have hb := bigT w a len cap hl
  rw [decide_eq_true (by omega : (1048576 : Int) < (len : Int))] at hb
  go_enter Try.func4, Try.ntmps4
  go_wp2_with fail
  refine Calls.mono hb ?_
  rintro e w1 ⟨rfl, rfl⟩
  go_wp2
  go_returns
  exact ⟨rfl, Below.refl _ _⟩

set_option maxRecDepth 100000 in
set_option maxHeartbeats 20000000 in
theorem tops_small (w : World) (a : Option Addr) (len cap : Nat) (f : Nat → Int) (hB : Bytes w w.heap.size a len f) (hlm : len ≤ maxLen) (hl : len ≤ 1048576) :
    Calls Try.prog 4 #[.slice a len cap] w fun e w' => e = .returned (.bool true) ∧ Below w.heap.size w w' := by
  have hb := bigT w a len cap hlm
  rw [decide_eq_false (by omega : ¬ (1048576 : Int) < (len : Int))] at hb
  have HB := hideP hB
  clear hB
  go_enter Try.func4, Try.ntmps4
  go_wp2_with fail
  refine Calls.mono hb ?_
  rintro e w0 ⟨rfl, hw0⟩
  subst w0
  clear hb
  go_wp2_with fail
  refine Calls.mono (drawTop_any w a len cap f HB.out hl) ?_
  rintro e w1 ⟨s1, c1, L1, vs, rfl, ⟨x1, y1, rfl⟩, hL1, hz1, k, WL⟩
  simp only [List.append_toArray, List.singleton_append]
  have K_0 := hideP k
  have A1_0 := hideP (WL.wide (lo' := 0) (Nat.zero_le _) (Nat.le_refl _))
  have LS1 : Hid (L1.length + wzs L1 ≤ 1048576) := hideP (by omega)
  clear k WL
  have TI := hideP (iTop_any s1 c1 L1 x1 y1 w1 A1_0.out LS1.out)
  have TS := hideP (fun W (l : Ws W 0 W.heap.size s1 L1) => sTop_any s1 c1 L1 x1 y1 W l LS1.out)
  obtain ⟨z1, hz⟩ : ∃ z, topZ (L1.map Wn.ct) x1 y1 = z := ⟨_, rfl⟩
  obtain ⟨v1, hv⟩ : ∃ z, topV (L1.map Wn.ct) x1 y1 = z := ⟨_, rfl⟩
  rw [hz, hv] at TI TS
  clear hz hv
  go_wp2_with fail
  refine Calls.mono TI.out ?_
  rintro e w2 ⟨rfl, k⟩
  clear TI
  have kb := kalC w2 (.cells #[.int .i64 z1, .int .i64 v1] 41)
  have kk := k.trans (kb.mono k.size)
  have K_1 := hideP (K_0.out.trans (kk.mono K_0.out.size))
  have A1_1 := hideP (A1_0.out.up kk)
  clear K_0 A1_0
  have B1_1 := hideP (rbT_new w2 (.int .i64 z1) (.int .i64 v1) 41)
  clear kb kk k
  go_wp2_with fail
  generalize w2.alloc (.cells #[.int .i64 z1, .int .i64 v1] 41) = w3 at *
  generalize w2.heap.size = b1 at *
  refine Calls.mono (drawRaise_any w3 a len cap f (HB.out.upT K_1.out) hl) ?_
  rintro e w4 ⟨s2, c2, L2, vs, rfl, ⟨id2, rfl⟩, hL2, hz2, k, WL⟩
  simp only [List.append_toArray, List.singleton_append]
  have K_2 := hideP (K_1.out.trans (k.mono K_1.out.size))
  have A1_2 := hideP (A1_1.out.up k)
  have B1_2 := hideP (B1_1.out.keep k B1_1.out.lt)
  clear K_1 A1_1 B1_1
  have A2_2 := hideP (WL.wide (lo' := 0) (Nat.zero_le _) (Nat.le_refl _))
  have LS2 : Hid (L2.length + wzs L2 ≤ 1048576) := hideP (by omega)
  clear k WL
  have IF := hideP (iRaise_any s2 c2 L2 id2 w4 A2_2.out LS2.out)
  have PS2 := hideP (fun W (l : Ws W 0 W.heap.size s2 L2) => sRaise_any s2 c2 L2 id2 W l LS2.out)
  obtain ⟨z2, hz⟩ : ∃ z, askW (L2.map Wn.ct) id2 = z := ⟨_, rfl⟩
  rw [hz] at IF PS2
  have HZ2 := hideP hz
  clear hz
  go_wp2_with fail
  refine Calls.mono IF.out ?_
  intro e w5 h
  obtain ⟨q2, d2, M2, rfl, hM, WM, k⟩ := ansT h
  have HM2 := hideP hM
  clear h hM IF
  have kb := kalC w5 (.cells #[.int .i64 z2, .int .i64 0, .slice q2 M2.length d2] 30)
  have kk := k.trans (kb.mono k.size)
  have K_3 := hideP (K_2.out.trans (kk.mono K_2.out.size))
  have A1_3 := hideP (A1_2.out.up kk)
  have B1_3 := hideP (B1_2.out.keep kk B1_2.out.lt)
  have A2_3 := hideP (A2_2.out.up kk)
  clear K_2 A1_2 B1_2 A2_2
  have Mx2_3 := hideP (WM.up kb)
  have R2_3 := hideP (r3_new w5 (.int .i64 z2) (.int .i64 0) (.slice q2 M2.length d2) 30)
  clear kb kk k WM
  go_wp2_with fail
  generalize w5.alloc (.cells #[.int .i64 z2, .int .i64 0, .slice q2 M2.length d2] 30) = w6 at *
  generalize w5.heap.size = b2 at *
  refine Calls.mono (drawMap_any w6 a len cap f (HB.out.upT K_3.out) hl) ?_
  rintro e w7 ⟨s3, c3, L3, vs, rfl, ⟨id3, on3, rfl⟩, hL3, hz3, k, WL⟩
  simp only [List.append_toArray, List.singleton_append]
  have K_4 := hideP (K_3.out.trans (k.mono K_3.out.size))
  have A1_4 := hideP (A1_3.out.up k)
  have B1_4 := hideP (B1_3.out.keep k B1_3.out.lt)
  have A2_4 := hideP (A2_3.out.up k)
  have Mx2_4 := hideP (Mx2_3.out.up k)
  have R2_4 := hideP (R2_3.out.keep k R2_3.out.lt)
  clear K_3 A1_3 B1_3 A2_3 Mx2_3 R2_3
  have A3_4 := hideP (WL.wide (lo' := 0) (Nat.zero_le _) (Nat.le_refl _))
  have LS3 : Hid (L3.length + wzs L3 ≤ 1048576) := hideP (by omega)
  clear k WL
  have IF := hideP (iMap_any s3 c3 L3 id3 on3 w7 A3_4.out LS3.out)
  have PS3 := hideP (fun W (l : Ws W 0 W.heap.size s3 L3) => sMap_any s3 c3 L3 id3 on3 W l LS3.out)
  obtain ⟨z3, hz⟩ : ∃ z, askW (L3.map Wn.ct) id3 = z := ⟨_, rfl⟩
  rw [hz] at IF PS3
  have HZ3 := hideP hz
  clear hz
  go_wp2_with fail
  refine Calls.mono IF.out ?_
  intro e w8 h
  obtain ⟨q3, d3, M3, rfl, hM, WM, k⟩ := ansT h
  have HM3 := hideP hM
  clear h hM IF
  have kb := kalC w8 (.cells #[.int .i64 z3, .int .i64 0, .slice q3 M3.length d3] 30)
  have kk := k.trans (kb.mono k.size)
  have K_5 := hideP (K_4.out.trans (kk.mono K_4.out.size))
  have A1_5 := hideP (A1_4.out.up kk)
  have B1_5 := hideP (B1_4.out.keep kk B1_4.out.lt)
  have A2_5 := hideP (A2_4.out.up kk)
  have Mx2_5 := hideP (Mx2_4.out.up kk)
  have R2_5 := hideP (R2_4.out.keep kk R2_4.out.lt)
  have A3_5 := hideP (A3_4.out.up kk)
  clear K_4 A1_4 B1_4 A2_4 Mx2_4 R2_4 A3_4
  have Mx3_5 := hideP (WM.up kb)
  have R3_5 := hideP (r3_new w8 (.int .i64 z3) (.int .i64 0) (.slice q3 M3.length d3) 30)
  clear kb kk k WM
  go_wp2_with fail
  generalize w8.alloc (.cells #[.int .i64 z3, .int .i64 0, .slice q3 M3.length d3] 30) = w9 at *
  generalize w8.heap.size = b3 at *
  refine Calls.mono (drawMove_any w9 a len cap f (HB.out.upT K_5.out) hl) ?_
  rintro e w10 ⟨s4, c4, L4, vs, rfl, ⟨id4, x4, y4, rfl⟩, hL4, hz4, k, WL⟩
  simp only [List.append_toArray, List.singleton_append]
  have K_6 := hideP (K_5.out.trans (k.mono K_5.out.size))
  have A1_6 := hideP (A1_5.out.up k)
  have B1_6 := hideP (B1_5.out.keep k B1_5.out.lt)
  have A2_6 := hideP (A2_5.out.up k)
  have Mx2_6 := hideP (Mx2_5.out.up k)
  have R2_6 := hideP (R2_5.out.keep k R2_5.out.lt)
  have A3_6 := hideP (A3_5.out.up k)
  have Mx3_6 := hideP (Mx3_5.out.up k)
  have R3_6 := hideP (R3_5.out.keep k R3_5.out.lt)
  clear K_5 A1_5 B1_5 A2_5 Mx2_5 R2_5 A3_5 Mx3_5 R3_5
  have A4_6 := hideP (WL.wide (lo' := 0) (Nat.zero_le _) (Nat.le_refl _))
  have LS4 : Hid (L4.length + wzs L4 ≤ 1048576) := hideP (by omega)
  clear k WL
  have IF := hideP (iMove_any s4 c4 L4 id4 x4 y4 w10 A4_6.out LS4.out)
  have PS4 := hideP (fun W (l : Ws W 0 W.heap.size s4 L4) => sMove_any s4 c4 L4 id4 x4 y4 W l LS4.out)
  obtain ⟨z4, hz⟩ : ∃ z, moveZ (L4.map Wn.ct) id4 x4 y4 = z := ⟨_, rfl⟩
  rw [hz] at IF PS4
  have HZ4 := hideP hz
  clear hz
  go_wp2_with fail
  refine Calls.mono IF.out ?_
  intro e w11 h
  obtain ⟨q4, d4, M4, rfl, hM, WM, k⟩ := ansT h
  have HM4 := hideP hM
  clear h hM IF
  have kb := kalC w11 (.cells #[.int .i64 z4, .int .i64 0, .slice q4 M4.length d4] 30)
  have kk := k.trans (kb.mono k.size)
  have K_7 := hideP (K_6.out.trans (kk.mono K_6.out.size))
  have A1_7 := hideP (A1_6.out.up kk)
  have B1_7 := hideP (B1_6.out.keep kk B1_6.out.lt)
  have A2_7 := hideP (A2_6.out.up kk)
  have Mx2_7 := hideP (Mx2_6.out.up kk)
  have R2_7 := hideP (R2_6.out.keep kk R2_6.out.lt)
  have A3_7 := hideP (A3_6.out.up kk)
  have Mx3_7 := hideP (Mx3_6.out.up kk)
  have R3_7 := hideP (R3_6.out.keep kk R3_6.out.lt)
  have A4_7 := hideP (A4_6.out.up kk)
  clear K_6 A1_6 B1_6 A2_6 Mx2_6 R2_6 A3_6 Mx3_6 R3_6 A4_6
  have Mx4_7 := hideP (WM.up kb)
  have R4_7 := hideP (r3_new w11 (.int .i64 z4) (.int .i64 0) (.slice q4 M4.length d4) 30)
  clear kb kk k WM
  have U0 := hideP (US.mk K_7.out A1_7.out A2_7.out A3_7.out A4_7.out Mx2_7.out Mx3_7.out Mx4_7.out B1_7.out R2_7.out R3_7.out R4_7.out)
  clear K_7 A1_7 B1_7 A2_7 Mx2_7 R2_7 A3_7 Mx3_7 R3_7 A4_7 Mx4_7 R4_7
  have SZ3 : Hid (M3.length + wzs M3 ≤ 1048576) := hideP (small_map id3 on3 LS3.out M3 HM3.out)
  have SZ4 : Hid (M4.length + wzs M4 ≤ 1048576) := hideP (small_move id4 x4 y4 LS4.out M4 HM4.out)
  obtain ⟨e0, e1, e2, ef, el⟩ := (U0.out).r3
  obtain ⟨g0, g1, g2, gf, gl⟩ := (U0.out).r4
  obtain ⟨t0, t1, tf0, tf1, tl⟩ := (U0.out).r1
  go_wp2
  generalize w11.alloc (.cells #[.int .i64 z4, .int .i64 0, .slice q4 M4.length d4] 30) = w12 at *
  generalize w11.heap.size = b4 at *
  refine wp_region_plan (R := Kept) (G := Kept) rel_keptA rel_keptA (fun h => h) 61 [(true, 0), (true, 1), (true, 2), (true, 3), (true, 4), (false, 5), (true, 6), (true, 7), (true, 8), (true, 9), (true, 10), (true, 11), (true, 12), (true, 13), (false, 14), (true, 15), (true, 16), (true, 17), (true, 18), (true, 19), (true, 20), (true, 21), (true, 22), (true, 23), (true, 24), (true, 25), (false, 26), (true, 27), (true, 28), (true, 29), (true, 30), (true, 31), (true, 32), (true, 33), (true, 34), (true, 35), (true, 36), (false, 37), (true, 38), (true, 39), (true, 40), (true, 41), (true, 42), (true, 43), (true, 44), (true, 45), (true, 46), (true, 47), (true, 48), (true, 49), (true, 50), (true, 51), (true, 52), (true, 53), (true, 54), (true, 55), (true, 56), (true, 57), (true, 58), (true, 59), (true, 60)] (by kernel_rfl) (by kernel_rfl) ?_
  simp only [selP, List.filterMap_cons, List.filterMap_nil, List.getElem?_cons_succ, List.getElem?_cons_zero, Option.map_some]
  repeat (refine plan_take _ (by first | exact wanted_free rfl | exact wanted_yes rfl rfl | exact wanted_no rfl rfl) (by first | with_reducible rfl | simp | decide) ?_; apply Exists.intro; refine ⟨fun w' k1 => ?_, fun K hK => ?_⟩; (focus (have hc := Kept.cell k1; go_simp; first | done | rfl)); (go_simp; refine hK _ ?_; clear hK K))
  refine plan_made _ (by first | exact wanted_free rfl | exact wanted_yes rfl rfl | exact wanted_no rfl rfl) (by first | with_reducible rfl | simp | decide) fun u1 i1 => ?_
  have ii1 := Kept.below i1
  have bb1 := ii1
  refine made_callsR (by go_simp; first | done | rfl) ((PS3.out u1 (U0.out.l3.up bb1)).mono ?_)
  intro e v1 h1
  obtain ⟨o1, p1, N1, rfl, hN1, WN1, j1⟩ := ansT h1
  clear h1
  refine ⟨_, rfl, j1, fun K hK => ?_⟩
  go_simp
  refine hK _ ?_
  clear hK K
  have jj1 := bb1.trans (j1.mono bb1.size)
  clear bb1 i1 ii1 j1
  clear WN1 hN1
  clear e0 e1 e2 ef el g0 g1 g2 gf gl t0 t1 tf0 tf1 tl
  obtain ⟨e0, e1, e2, ef, el⟩ := (U0.out.keep jj1).r3
  obtain ⟨g0, g1, g2, gf, gl⟩ := (U0.out.keep jj1).r4
  obtain ⟨t0, t1, tf0, tf1, tl⟩ := (U0.out.keep jj1).r1
  repeat (refine plan_take _ (by first | exact wanted_free rfl | exact wanted_yes rfl rfl | exact wanted_no rfl rfl) (by first | with_reducible rfl | simp | decide) ?_; apply Exists.intro; refine ⟨fun w' k1 => ?_, fun K hK => ?_⟩; (focus (have hc := Kept.cell k1; go_simp; first | done | rfl)); (go_simp; refine hK _ ?_; clear hK K))
  refine plan_made _ (by first | exact wanted_free rfl | exact wanted_yes rfl rfl | exact wanted_no rfl rfl) (by first | with_reducible rfl | simp | decide) fun u2 i2 => ?_
  have ii2 := Kept.below i2
  have bb2 := jj1.trans (ii2.mono jj1.size)
  refine made_callsR (by go_simp; first | done | rfl) ((PS3.out u2 (U0.out.l3.up bb2)).mono ?_)
  intro e v2 h2
  obtain ⟨o2, p2, N2, rfl, hN2, WN2, j2⟩ := ansT h2
  clear h2
  refine ⟨_, rfl, j2, fun K hK => ?_⟩
  go_simp
  refine hK _ ?_
  clear hK K
  have jj2 := bb2.trans (j2.mono bb2.size)
  clear bb2 i2 ii2 j2
  have SM := hideP (fun w1 (kk : Kept v2 w1) => iSameS_any 0 w12.heap.size 0 v2.heap.size q3 o2 d3 p2 M3 N2 w1 (U0.out.m3.keep (jj2.trans (Below.mono (Kept.below kk) jj2.size)) (Nat.le_refl _)) (WN2.keep (Kept.below kk) (Nat.le_refl _)) (jj2.trans (Below.mono (Kept.below kk) jj2.size)).size (Below.size (Kept.below kk)) SZ3.out (by rw [← wzs_ct (HM3.out.trans hN2.symm), ← lenW (HM3.out.trans hN2.symm)]; exact SZ3.out))
  rw [decide_eq_true (HM3.out.trans hN2.symm)] at SM
  clear WN2 hN2
  clear e0 e1 e2 ef el g0 g1 g2 gf gl t0 t1 tf0 tf1 tl
  obtain ⟨e0, e1, e2, ef, el⟩ := (U0.out.keep jj2).r3
  obtain ⟨g0, g1, g2, gf, gl⟩ := (U0.out.keep jj2).r4
  obtain ⟨t0, t1, tf0, tf1, tl⟩ := (U0.out.keep jj2).r1
  repeat (refine plan_take _ (by first | exact wanted_free rfl | exact wanted_yes rfl rfl | exact wanted_no rfl rfl) (by first | with_reducible rfl | simp | decide) ?_; apply Exists.intro; refine ⟨fun w' k1 => ?_, fun K hK => ?_⟩; (focus (have hc := Kept.cell k1; go_simp; first | done | (go_at_call 17; exact kept_call (Below.refl _ _) (SM.out _ k1)) | rfl)); (go_simp; refine hK _ ?_; clear hK K))
  clear SM
  refine plan_made _ (by first | exact wanted_free rfl | exact wanted_yes rfl rfl | exact wanted_no rfl rfl) (by first | with_reducible rfl | simp | decide) fun u3 i3 => ?_
  have ii3 := Kept.below i3
  have bb3 := jj2.trans (ii3.mono jj2.size)
  refine made_callsR (by go_simp; first | done | rfl) ((PS4.out u3 (U0.out.l4.up bb3)).mono ?_)
  intro e v3 h3
  obtain ⟨o3, p3, N3, rfl, hN3, WN3, j3⟩ := ansT h3
  clear h3
  refine ⟨_, rfl, j3, fun K hK => ?_⟩
  go_simp
  refine hK _ ?_
  clear hK K
  have jj3 := bb3.trans (j3.mono bb3.size)
  clear bb3 i3 ii3 j3
  clear WN3 hN3
  clear e0 e1 e2 ef el g0 g1 g2 gf gl t0 t1 tf0 tf1 tl
  obtain ⟨e0, e1, e2, ef, el⟩ := (U0.out.keep jj3).r3
  obtain ⟨g0, g1, g2, gf, gl⟩ := (U0.out.keep jj3).r4
  obtain ⟨t0, t1, tf0, tf1, tl⟩ := (U0.out.keep jj3).r1
  repeat (refine plan_take _ (by first | exact wanted_free rfl | exact wanted_yes rfl rfl | exact wanted_no rfl rfl) (by first | with_reducible rfl | simp | decide) ?_; apply Exists.intro; refine ⟨fun w' k1 => ?_, fun K hK => ?_⟩; (focus (have hc := Kept.cell k1; go_simp; first | done | rfl)); (go_simp; refine hK _ ?_; clear hK K))
  refine plan_made _ (by first | exact wanted_free rfl | exact wanted_yes rfl rfl | exact wanted_no rfl rfl) (by first | with_reducible rfl | simp | decide) fun u4 i4 => ?_
  have ii4 := Kept.below i4
  have bb4 := jj3.trans (ii4.mono jj3.size)
  refine made_callsR (by go_simp; first | done | rfl) ((PS4.out u4 (U0.out.l4.up bb4)).mono ?_)
  intro e v4 h4
  obtain ⟨o4, p4, N4, rfl, hN4, WN4, j4⟩ := ansT h4
  clear h4
  refine ⟨_, rfl, j4, fun K hK => ?_⟩
  go_simp
  refine hK _ ?_
  clear hK K
  have jj4 := bb4.trans (j4.mono bb4.size)
  clear bb4 i4 ii4 j4
  have SM := hideP (fun w1 (kk : Kept v4 w1) => iSameS_any 0 w12.heap.size 0 v4.heap.size q4 o4 d4 p4 M4 N4 w1 (U0.out.m4.keep (jj4.trans (Below.mono (Kept.below kk) jj4.size)) (Nat.le_refl _)) (WN4.keep (Kept.below kk) (Nat.le_refl _)) (jj4.trans (Below.mono (Kept.below kk) jj4.size)).size (Below.size (Kept.below kk)) SZ4.out (by rw [← wzs_ct (HM4.out.trans hN4.symm), ← lenW (HM4.out.trans hN4.symm)]; exact SZ4.out))
  rw [decide_eq_true (HM4.out.trans hN4.symm)] at SM
  have SQ := hideP (fun w1 (kk : Kept v4 w1) => TS.out w1 (U0.out.l1.up (jj4.trans (Below.mono (Kept.below kk) jj4.size))))
  clear WN4 hN4
  clear e0 e1 e2 ef el g0 g1 g2 gf gl t0 t1 tf0 tf1 tl
  obtain ⟨e0, e1, e2, ef, el⟩ := (U0.out.keep jj4).r3
  obtain ⟨g0, g1, g2, gf, gl⟩ := (U0.out.keep jj4).r4
  obtain ⟨t0, t1, tf0, tf1, tl⟩ := (U0.out.keep jj4).r1
  repeat (refine plan_take _ (by first | exact wanted_free rfl | exact wanted_yes rfl rfl | exact wanted_no rfl rfl) (by first | with_reducible rfl | simp | decide) ?_; apply Exists.intro; refine ⟨fun w' k1 => ?_, fun K hK => ?_⟩; (focus (have hc := Kept.cell k1; go_simp; first | done | (go_at_call 17; exact kept_call (Below.refl _ _) (SM.out _ k1)) | (go_at_call 29; exact kept_call (Below.refl _ _) (SQ.out _ k1)) | rfl)); (go_simp; refine hK _ ?_; clear hK K))
  clear SM SQ
  refine plan_nil fun w13 k13 => ?_
  try simp only [List.drop_succ_cons, List.drop_zero]
  have U1 := hideP ((U0.out.keep jj4).keep (Kept.below k13))
  clear k13 jj1 jj2 jj3 jj4 U0 TS PS3 PS4
  clear e0 e1 e2 ef el g0 g1 g2 gf gl t0 t1 tf0 tf1 tl
  obtain ⟨e0, e1, e2, ef, el⟩ := U1.out.r2

  by_cases hz0 : z2 = 0
  · subst hz0
    obtain ⟨A, t, hMt, hti, hml, hst, htop⟩ := raise_top HZ2.out HM2.out
    have hsm : M2.length + wzs M2 ≤ 1048576 := small_raise id2 LS2.out M2 HM2.out
    have ST := hideP (iStack_any 0 w13.heap.size q2 d2 M2 w13 U1.out.m2 (Nat.le_refl _) hsm)
    rw [hst] at ST
    have TT := hideP (fun W (l : Ws W 0 W.heap.size q2 M2) => iTop_any q2 d2 M2 t.x t.y W l hsm)
    have hlt : A.length < M2.length := by rw [hMt]; simp
    have hM1 : M2.length = A.length + 1 := by rw [hMt]; simp
    have ht : M2[A.length] = t := by simp [hMt]
    have CE : Hid (∃ g o, q2 = some ⟨g, o, none⟩ ∧ ∀ W, Below w13.heap.size w13 W → Cl Wn.vals W g (o + A.length * 7) t) := hideP (by
      rcases U1.out.m2 with e | ⟨g, o, e, -, hg, hc⟩
      · rw [e] at hlt; simp at hlt
      · exact ⟨g, o, e, fun W k => by have := (hc A.length hlt).1; rw [ht] at this; exact this.keep k hg⟩)
    obtain ⟨g, o, hq, hcl⟩ := CE.out
    subst hq
    have HC := hideP hcl
    have SML := hideP hsm
    have hml2 : L2.length = M2.length := hml.symm
    have hl13 : L2.length ≤ 13 := hL2
    rw [hml2] at hl13
    have hmi : (M2.length : Int) - 1 = (A.length : Int) := by omega
    have hm13 : (M2.length : Int) ≤ 13 := by omega
    have hm1 : (1 : Int) ≤ (M2.length : Int) := by omega
    have hAi : (A.length : Int) < (M2.length : Int) := by omega
    have HMl2 := hideP hml2
    have hne : ((M2.length : Int) != (L2.length : Int)) = false := by rw [hml2]; simp
    have hn0 : ((M2.length : Int) == 0) = false := beq_eq_false_iff_ne.2 (by omega)
    clear hst hMt ht hcl CE hsm hml hml2 hlt hM1 hl13
    obtain ⟨ti, tx, ty, tw, th, tm, ⟨bo, cb, gb, D⟩⟩ := t
    simp only at hti htop
    subst hti
    obtain ⟨a0, a1, a2, a3, a4, a5, a6⟩ := (HC.out w13 (Below.refl _ _)).seven
    have HTOP := hideP htop
    clear htop
    go_wp2_with fail
    refine Calls.mono ST.out ?_
    rintro e w14 ⟨rfl, k14⟩
    have U2 := hideP (U1.out.keep k14)
    have HC2 := hideP (HC.out w14 k14)
    clear U1 k14 ST HC a0 a1 a2 a3 a4 a5 a6 e0 e1 e2 ef el
    obtain ⟨a0, a1, a2, a3, a4, a5, a6⟩ := HC2.out.seven
    obtain ⟨e0, e1, e2, ef, el⟩ := U2.out.r2
    cases tm
    · go_wp2
      go_returns
      exact ⟨rfl, U2.out.k.trans ((kalC _ _).mono U2.out.k.size)⟩
    · have TV := HTOP.out rfl
      rw [TV] at TT
      go_wp2_with fail
      refine Calls.mono (TT.out _ (U2.out.m2.up (kalC _ _))) ?_
      rintro e w15 ⟨rfl, k15⟩
      have U3 := hideP (U2.out.keep ((kalC w14 _).trans (k15.mono (kalC w14 _).size)))
      clear k15 U2 TT
      go_wp2
      go_returns
      exact ⟨rfl, U3.out.k⟩

  · have hz1 : (z2 != 0) = true := by simpa using hz0
    go_wp2
    refine wp_region_plan (R := Kept) (G := Kept) rel_keptA rel_keptA (fun h => h) 6 [(true, 0), (true, 1), (true, 4), (true, 5), (false, 2), (true, 3)] (by kernel_rfl) (by kernel_rfl) ?_
    simp only [selP, List.filterMap_cons, List.filterMap_nil, List.getElem?_cons_succ, List.getElem?_cons_zero, Option.map_some]
    repeat (refine plan_take _ (by first | exact wanted_free rfl | exact wanted_yes rfl rfl | exact wanted_no rfl rfl) (by first | with_reducible rfl | simp | decide) ?_; apply Exists.intro; refine ⟨fun w' k1 => ?_, fun K hK => ?_⟩; (focus (have hc := Kept.cell k1; go_simp; first | done | rfl)); (go_simp; refine hK _ ?_; clear hK K))
    refine plan_made _ (by first | exact wanted_free rfl | exact wanted_yes rfl rfl | exact wanted_no rfl rfl) (by first | with_reducible rfl | simp | decide) fun u5 i5 => ?_
    have ii5 := Kept.below i5
    have bb5 := ii5
    refine made_callsR (by go_simp; first | done | rfl) ((PS2.out u5 (U1.out.l2.up bb5)).mono ?_)
    intro e v5 h5
    obtain ⟨o5, p5, N5, rfl, hN5, WN5, j5⟩ := ansT h5
    clear h5
    refine ⟨_, rfl, j5, fun K hK => ?_⟩
    go_simp
    refine hK _ ?_
    clear hK K
    have jj5 := bb5.trans (j5.mono bb5.size)
    clear bb5 i5 ii5 j5
    clear WN5 hN5
    repeat (refine plan_take _ (by first | exact wanted_free rfl | exact wanted_yes rfl rfl | exact wanted_no rfl rfl) (by first | with_reducible rfl | simp | decide) ?_; apply Exists.intro; refine ⟨fun w' k1 => ?_, fun K hK => ?_⟩; (focus (have hc := Kept.cell k1; go_simp; first | done | rfl)); (go_simp; refine hK _ ?_; clear hK K))
    refine plan_nil fun w15 k15 => ?_
    try simp only [List.drop_succ_cons, List.drop_zero]
    have U2 := hideP ((U1.out.keep jj5).keep (Kept.below k15))
    clear U1 k15 jj5
    go_wp2
    go_returns
    exact ⟨rfl, U2.out.k⟩

theorem tops_law (a : Option Addr) (len cap : Nat) (zs : List Int) (w : World) (h : IsRow .u8 w a len cap zs) :
    Calls Try.prog 4 #[.slice a len cap] w fun e w' => e = .returned (.bool true) ∧ Below w.heap.size w w' := by
  have hm : len ≤ maxLen := by
    rcases h with ⟨_, h, _⟩ | ⟨x, _, h1, h2, _⟩
    · rw [h]; exact Nat.zero_le _
    · omega
  by_cases hl : len ≤ 1048576
  · exact tops_small w a len cap _ h.bytes hm hl
  · exact tops_big w a len cap hm (by omega)
end Go.Proofs.Ytflodklggkkmiaa
