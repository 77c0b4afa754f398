/- FnStacks: the law's walk. -/
import Derived.Test.YtejgcheddloffaaTr47
import Derived.Test.YtejgcheddloffaaTr48
import Derived.Test.YtejgcheddloffaaTr12
import Derived.Test.YtejgcheddloffaaTr49
import Derived.Test.YtejgcheddloffaaTr42
import Derived.Test.YtejgcheddloffaaTr0
import Derived.Test.YtejgcheddloffaaTr2
namespace Go.Proofs.Ytejgcheddloffaa
open Go.RowKit Go.Maps
set_option linter.unusedVariables false
set_option linter.unusedSimpArgs false
attribute [local go_sem] growUpon growAt growUponR growAtR
attribute [local go_sem high] fV0 fV1 fV2 fV3

theorem fV4 (c v : Int) (s : Value) (w : World) : Sem.run Try.prog (Instr.field 30 (.agg #[.int .i64 c, .int .i64 v, s]) 1) w = .ok (.int .i64 v) w := by kernel_rfl
attribute [local go_sem high] fV4

/-- What the walk carries along. -/
structure VS (w W : World) (s1 : Option Addr) (L1 : List Wn) (s2 : Option Addr) (L2 : List Wn) (s3 : Option Addr) (L3 : List Wn) (b5 : Nat) (rx ry rp rh : Int) (b1 : Nat) (z1 v1 : Int) (q1 : Option Addr) (d1 : Nat) (M1 : List Wn) (b2 : Nat) (z2 : Int) (q2 : Option Addr) (d2 : Nat) (M2 : List Wn) (b3 : Nat) (z3 v3 : Int) (q3 : Option Addr) (d3 : Nat) (M3 : List Wn) : Prop where
  k : Below w.heap.size w W
  l1 : Ws W 0 W.heap.size s1 L1
  l2 : Ws W 0 W.heap.size s2 L2
  l3 : Ws W 0 W.heap.size s3 L3
  m1 : Ws W 0 W.heap.size q1 M1
  m2 : Ws W 0 W.heap.size q2 M2
  m3 : Ws W 0 W.heap.size q3 M3
  q : Qr W b5 rx ry rp rh
  r1 : R3 W b1 (.int .i64 z1) (.int .i64 v1) (.slice q1 M1.length d1)
  r2 : R3 W b2 (.int .i64 z2) (.int .i64 0) (.slice q2 M2.length d2)
  r3 : R3 W b3 (.int .i64 z3) (.int .i64 v3) (.slice q3 M3.length d3)
theorem VS.keep {w W W' : World} {s1 s2 s3 q1 q2 q3 : Option Addr} {L1 L2 L3 M1 M2 M3 : List Wn} {b5 b1 b2 b3 d1 d2 d3 : Nat} {rx ry rp rh z1 v1 z2 z3 v3 : Int} (h : VS w W s1 L1 s2 L2 s3 L3 b5 rx ry rp rh b1 z1 v1 q1 d1 M1 b2 z2 q2 d2 M2 b3 z3 v3 q3 d3 M3) (k : Below W.heap.size W W') : VS w W' s1 L1 s2 L2 s3 L3 b5 rx ry rp rh b1 z1 v1 q1 d1 M1 b2 z2 q2 d2 M2 b3 z3 v3 q3 d3 M3 :=
  ⟨h.k.trans (k.mono h.k.size), h.l1.up k, h.l2.up k, h.l3.up k, h.m1.up k, h.m2.up k, h.m3.up k, h.q.keep k h.q.lt, h.r1.keep k h.r1.lt, h.r2.keep k h.r2.lt, h.r3.keep k h.r3.lt⟩

set_option maxRecDepth 100000 in
set_option maxHeartbeats 2000000 in
theorem stacks_big (w : World) (a : Option Addr) (len cap : Nat) (hl : len ≤ maxLen) (h : 1048576 < len) :
    Calls Try.prog 3 #[.slice a len cap] w fun e w' => e = .returned (.bool true) ∧ Below w.heap.size w w' := by
  have hb := bigT w a len cap hl
  rw [decide_eq_true (by omega : (1048576 : Int) < (len : Int))] at hb
  go_enter Try.func3, Try.ntmps3
  go_wp2_with fail
  refine Calls.mono hb ?_
  rintro e w1 ⟨rfl, rfl⟩
  go_wp2
  go_returns
  exact ⟨rfl, Below.refl _ _⟩

set_option maxRecDepth 100000 in
set_option maxHeartbeats 40000000 in
theorem stacks_small (w : World) (a : Option Addr) (len cap : Nat) (f : Nat → Int) (hB : Bytes w w.heap.size a len f) (hlm : len ≤ maxLen) (hl : len ≤ 1048576) :
    Calls Try.prog 3 #[.slice a len cap] w fun e w' => e = .returned (.bool true) ∧ Below w.heap.size w w' := by
  have hb := bigT w a len cap hlm
  rw [decide_eq_false (by omega : ¬ (1048576 : Int) < (len : Int))] at hb
  have HB := hideP hB
  clear hB
  go_enter Try.func3, Try.ntmps3
  go_wp2_with fail
  refine Calls.mono hb ?_
  rintro e w0 ⟨rfl, hw0⟩
  subst w0
  clear hb
  go_wp2_with fail
  refine Calls.mono (drawMakeW_any w a len cap f HB.out hl) ?_
  rintro e w1 ⟨s1, c1, L1, vs, rfl, ⟨sl, rx, ry, rp, rh, rfl⟩, hL1, hz1, k, WL⟩
  simp only [List.append_toArray, List.singleton_append]
  have K_0 := hideP k
  have A1_0 := hideP (WL.wide (lo' := 0) (Nat.zero_le _) (Nat.le_refl _))
  have LS1 : Hid (L1.length + wzs L1 ≤ 1048576) := hideP (by omega)
  clear k WL
  have kb := kalC w1 (.cells #[.int .i64 rx, .int .i64 ry, .int .i64 rp, .int .i64 rh] 26)
  have K_1 := hideP (K_0.out.trans (kb.mono K_0.out.size))
  have A1_1 := hideP (A1_0.out.up kb)
  clear K_0 A1_0
  have Q_1 := hideP (qr_new w1 rx ry rp rh 26)
  clear kb
  have IF := hideP (iMake_any s1 c1 L1 sl rx ry rp rh _ A1_1.out LS1.out)
  have PS1 := hideP (fun W (l : Ws W 0 W.heap.size s1 L1) => sMake_any s1 c1 L1 sl rx ry rp rh W l LS1.out)
  obtain ⟨z1, hz⟩ : ∃ z, mkZ (L1.map Wn.ct) sl rx ry rp rh = z := ⟨_, rfl⟩
  rw [hz] at IF PS1
  have HZ1 := hideP hz
  clear hz
  obtain ⟨v1, hv⟩ : ∃ z, mkV (L1.map Wn.ct) sl rx ry rp rh = z := ⟨_, rfl⟩
  rw [hv] at IF PS1
  have HV1 := hideP hv
  clear hv
  go_wp2_with fail
  generalize w1.alloc (.cells #[.int .i64 rx, .int .i64 ry, .int .i64 rp, .int .i64 rh] 26) = w2 at *
  generalize w1.heap.size = b5 at *
  refine Calls.mono IF.out ?_
  intro e w3 h
  obtain ⟨q1, d1, M1, rfl, hM, WM, k⟩ := ansT h
  have HM1 := hideP hM
  clear h hM IF
  have kb := kalC w3 (.cells #[.int .i64 z1, .int .i64 v1, .slice q1 M1.length d1] 30)
  have kk := k.trans (kb.mono k.size)
  have K_2 := hideP (K_1.out.trans (kk.mono K_1.out.size))
  have A1_2 := hideP (A1_1.out.up kk)
  have Q_2 := hideP (Q_1.out.keep kk Q_1.out.lt)
  clear K_1 A1_1 Q_1
  have M1x_2 := hideP (WM.up kb)
  have R1_2 := hideP (r3_new w3 (.int .i64 z1) (.int .i64 v1) (.slice q1 M1.length d1) 30)
  clear kb kk k WM
  go_wp2_with fail
  generalize w3.alloc (.cells #[.int .i64 z1, .int .i64 v1, .slice q1 M1.length d1] 30) = w4 at *
  generalize w3.heap.size = b1 at *
  refine Calls.mono (drawDrop_any w4 a len cap f (HB.out.upT K_2.out) hl) ?_
  rintro e w5 ⟨s2, c2, L2, vs, rfl, ⟨id2, rfl⟩, hL2, hz2, k, WL⟩
  simp only [List.append_toArray, List.singleton_append]
  have K_3 := hideP (K_2.out.trans (k.mono K_2.out.size))
  have A1_3 := hideP (A1_2.out.up k)
  have Q_3 := hideP (Q_2.out.keep k Q_2.out.lt)
  have M1x_3 := hideP (M1x_2.out.up k)
  have R1_3 := hideP (R1_2.out.keep k R1_2.out.lt)
  clear K_2 A1_2 Q_2 M1x_2 R1_2
  have A2_3 := hideP (WL.wide (lo' := 0) (Nat.zero_le _) (Nat.le_refl _))
  have LS2 : Hid (L2.length + wzs L2 ≤ 1048576) := hideP (by omega)
  clear k WL
  have IF := hideP (iDrop_any s2 c2 L2 id2 _ A2_3.out LS2.out)
  have PS2 := hideP (fun W (l : Ws W 0 W.heap.size s2 L2) => sDrop_any s2 c2 L2 id2 W l LS2.out)
  obtain ⟨z2, hz⟩ : ∃ z, askW (L2.map Wn.ct) id2 = z := ⟨_, rfl⟩
  rw [hz] at IF PS2
  have HZ2 := hideP hz
  clear hz
  go_wp2_with fail
  refine Calls.mono IF.out ?_
  intro e w6 h
  obtain ⟨q2, d2, M2, rfl, hM, WM, k⟩ := ansT h
  have HM2 := hideP hM
  clear h hM IF
  have kb := kalC w6 (.cells #[.int .i64 z2, .int .i64 0, .slice q2 M2.length d2] 30)
  have kk := k.trans (kb.mono k.size)
  have K_4 := hideP (K_3.out.trans (kk.mono K_3.out.size))
  have A1_4 := hideP (A1_3.out.up kk)
  have Q_4 := hideP (Q_3.out.keep kk Q_3.out.lt)
  have M1x_4 := hideP (M1x_3.out.up kk)
  have R1_4 := hideP (R1_3.out.keep kk R1_3.out.lt)
  have A2_4 := hideP (A2_3.out.up kk)
  clear K_3 A1_3 Q_3 M1x_3 R1_3 A2_3
  have M2x_4 := hideP (WM.up kb)
  have R2_4 := hideP (r3_new w6 (.int .i64 z2) (.int .i64 0) (.slice q2 M2.length d2) 30)
  clear kb kk k WM
  go_wp2_with fail
  generalize w6.alloc (.cells #[.int .i64 z2, .int .i64 0, .slice q2 M2.length d2] 30) = w7 at *
  generalize w6.heap.size = b2 at *
  refine Calls.mono (drawOff_any w7 a len cap f (HB.out.upT K_4.out) hl) ?_
  rintro e w8 ⟨s3, c3, L3, vs, rfl, ⟨sl3, rfl⟩, hL3, hz3, k, WL⟩
  simp only [List.append_toArray, List.singleton_append]
  have K_5 := hideP (K_4.out.trans (k.mono K_4.out.size))
  have A1_5 := hideP (A1_4.out.up k)
  have Q_5 := hideP (Q_4.out.keep k Q_4.out.lt)
  have M1x_5 := hideP (M1x_4.out.up k)
  have R1_5 := hideP (R1_4.out.keep k R1_4.out.lt)
  have A2_5 := hideP (A2_4.out.up k)
  have M2x_5 := hideP (M2x_4.out.up k)
  have R2_5 := hideP (R2_4.out.keep k R2_4.out.lt)
  clear K_4 A1_4 Q_4 M1x_4 R1_4 A2_4 M2x_4 R2_4
  have A3_5 := hideP (WL.wide (lo' := 0) (Nat.zero_le _) (Nat.le_refl _))
  have LS3 : Hid (L3.length + wzs L3 ≤ 1048576) := hideP (by omega)
  clear k WL
  have IF := hideP (iDropSlot_any s3 c3 L3 sl3 _ A3_5.out LS3.out)
  have PS3 := hideP (fun W (l : Ws W 0 W.heap.size s3 L3) => sDropSlot_any s3 c3 L3 sl3 W l LS3.out)
  obtain ⟨z3, hz⟩ : ∃ z, askS (L3.map Wn.ct) sl3 = z := ⟨_, rfl⟩
  rw [hz] at IF PS3
  have HZ3 := hideP hz
  clear hz
  obtain ⟨v3, hv⟩ : ∃ z, slotV (L3.map Wn.ct) sl3 = z := ⟨_, rfl⟩
  rw [hv] at IF PS3
  have HV3 := hideP hv
  clear hv
  go_wp2_with fail
  refine Calls.mono IF.out ?_
  intro e w9 h
  obtain ⟨q3, d3, M3, rfl, hM, WM, k⟩ := ansT h
  have HM3 := hideP hM
  clear h hM IF
  have kb := kalC w9 (.cells #[.int .i64 z3, .int .i64 v3, .slice q3 M3.length d3] 30)
  have kk := k.trans (kb.mono k.size)
  have K_6 := hideP (K_5.out.trans (kk.mono K_5.out.size))
  have A1_6 := hideP (A1_5.out.up kk)
  have Q_6 := hideP (Q_5.out.keep kk Q_5.out.lt)
  have M1x_6 := hideP (M1x_5.out.up kk)
  have R1_6 := hideP (R1_5.out.keep kk R1_5.out.lt)
  have A2_6 := hideP (A2_5.out.up kk)
  have M2x_6 := hideP (M2x_5.out.up kk)
  have R2_6 := hideP (R2_5.out.keep kk R2_5.out.lt)
  have A3_6 := hideP (A3_5.out.up kk)
  clear K_5 A1_5 Q_5 M1x_5 R1_5 A2_5 M2x_5 R2_5 A3_5
  have M3x_6 := hideP (WM.up kb)
  have R3_6 := hideP (r3_new w9 (.int .i64 z3) (.int .i64 v3) (.slice q3 M3.length d3) 30)
  clear kb kk k WM
  have U0 := hideP (VS.mk K_6.out A1_6.out A2_6.out A3_6.out M1x_6.out M2x_6.out M3x_6.out Q_6.out R1_6.out R2_6.out R3_6.out)
  clear K_6 A1_6 Q_6 M1x_6 R1_6 A2_6 M2x_6 R2_6 A3_6 M3x_6 R3_6
  obtain ⟨e0, e1, e2, ef, el⟩ := (U0.out).r2
  obtain ⟨g0, g1, g2, gf, gl⟩ := (U0.out).r3
  obtain ⟨t0, t1, t2, tf, tl⟩ := (U0.out).r1
  go_wp2
  generalize w9.alloc (.cells #[.int .i64 z3, .int .i64 v3, .slice q3 M3.length d3] 30) = w10 at *
  generalize w9.heap.size = b3 at *
  by_cases hc2 : z2 = 0
  · by_cases hc3 : z3 = 0
    · as_aux_lemma =>
        obtain ⟨y1, y2, y3⟩ := drop_facts (HZ2.out.trans hc2) HM2.out
        have hsm2 : M2.length + wzs M2 ≤ 1048576 := small_drop id2 LS2.out M2 HM2.out
        have SF := hideP (fun w1 (kk : Below w10.heap.size w10 w1) => iStack_any 0 w10.heap.size q2 d2 M2 w1 (U0.out.m2.keep kk (Nat.le_refl _)) kk.size hsm2)
        rw [y1] at SF
        have PI2 := hideP (fun W (l : Ws W 0 W.heap.size q2 M2) => iDrop_any q2 d2 M2 id2 W l hsm2)
        rw [y3] at PI2
        have hw2 : IntKind.i64.wrap ((L2.length : Int) - 1) = (M2.length : Int) := by rw [y2]; exact (IntWalk.i64_in _ (by omega)).trans (by omega)
        have HY2 := hideP hsm2
        clear y1 y2 y3 hsm2
        subst hc2
        have y4 := slot_val (HZ3.out.trans hc3) HM3.out
        have hsm3 : M3.length + wzs M3 ≤ 1048576 := small_slot sl3 LS3.out M3 HM3.out
        have PI3 := hideP (fun W (l : Ws W 0 W.heap.size q3 M3) => iDropSlot_any q3 d3 M3 sl3 W l hsm3)
        rw [show slotV (M3.map Wn.ct) sl3 = 0 by rw [HM3.out]; exact slot_zero _ _] at PI3
        obtain ⟨z5, hz5⟩ : ∃ z, askS (M3.map Wn.ct) sl3 = z := ⟨_, rfl⟩
        rw [hz5] at PI3
        rw [HV3.out] at y4
        have hw3 : IntKind.i64.wrap ((L3.length : Int) - (M3.length : Int)) = v3 := by rw [y4.symm]; exact IntWalk.i64_in _ (by omega)
        have HY3 := hideP hsm3
        clear y4 hsm3 hz5
        subst hc3
        simp only [List.append_eq, List.cons_append, List.nil_append]
        refine wp_region_plan (R := Kept) (G := Kept) rel_keptA rel_keptA (fun h => h) 67 [(true, 0), (true, 1), (true, 2), (true, 3), (false, 4), (true, 5), (true, 6), (true, 7), (true, 8), (true, 9), (true, 10), (true, 11), (true, 12), (true, 13), (true, 14), (true, 15), (true, 16), (true, 17), (true, 18), (true, 19), (true, 20), (true, 21), (true, 22), (true, 23), (true, 24), (true, 25), (true, 26), (true, 27), (true, 28), (false, 29), (true, 30), (true, 31), (true, 32), (true, 33), (true, 34), (true, 35), (true, 36), (true, 37), (true, 38), (true, 39), (false, 40), (true, 41), (true, 42), (true, 43), (true, 44), (true, 45), (true, 46), (true, 47), (true, 48), (true, 49), (true, 50), (true, 51), (true, 52), (true, 53), (true, 54), (true, 55), (true, 56), (true, 57), (true, 58), (true, 59), (true, 60), (true, 61), (false, 62), (true, 63), (true, 64), (true, 65), (true, 66)] (by kernel_rfl) (by kernel_rfl) ?_
        simp only [selP, List.filterMap_cons, List.filterMap_nil, List.getElem?_cons_succ, List.getElem?_cons_zero, Option.map_some]
        repeat (first | (refine plan_take _ (by first | exact wanted_free rfl | exact wanted_yes rfl rfl | exact wanted_no rfl rfl) (by first | with_reducible rfl | (simp [hw2, hw3]; done) | decide) ?_; apply Exists.intro; refine ⟨fun w' k1 => ?_, fun K hK => ?_⟩; (focus (have hc := Kept.cell k1; go_simp; first | done | (go_at_call 12; exact kept_call (Below.refl _ _) (SF.out _ (Kept.below k1))) | rfl)); (go_simp; refine hK _ ?_; clear hK K)) | (refine plan_off _ (by first | exact wanted_yes rfl rfl | exact wanted_no rfl rfl | rfl) (by first | with_reducible rfl | (simp [hw2, hw3]; done) | rfl | decide) ?_; intro K hK; (try go_simp); refine hK _ ?_; clear hK K))
        refine plan_made _ (by first | exact wanted_free rfl | exact wanted_yes rfl rfl | exact wanted_no rfl rfl) (by first | with_reducible rfl | (simp [hw2, hw3]; done) | decide) fun u1 i1 => ?_
        have ii1 := Kept.below i1
        have bb1 := ii1
        refine made_callsR (by go_simp; first | done | rfl) ((PS2.out u1 (U0.out.l2.up bb1)).mono ?_)
        intro e vw1 h1
        obtain ⟨o1, p1, N1, rfl, hN1, WN1, j1⟩ := ansT h1
        clear h1 hN1 WN1
        refine ⟨_, rfl, j1, fun K hK => ?_⟩
        go_simp
        refine hK _ ?_
        clear hK K
        have jj1 := bb1.trans (j1.mono bb1.size)
        clear bb1 i1 ii1 j1
        clear e0 e1 e2 ef el g0 g1 g2 gf gl t0 t1 t2 tf tl
        obtain ⟨e0, e1, e2, ef, el⟩ := (U0.out.keep jj1).r2
        obtain ⟨g0, g1, g2, gf, gl⟩ := (U0.out.keep jj1).r3
        obtain ⟨t0, t1, t2, tf, tl⟩ := (U0.out.keep jj1).r1
        repeat (first | (refine plan_take _ (by first | exact wanted_free rfl | exact wanted_yes rfl rfl | exact wanted_no rfl rfl) (by first | with_reducible rfl | (simp [hw2, hw3]; done) | decide) ?_; apply Exists.intro; refine ⟨fun w' k1 => ?_, fun K hK => ?_⟩; (focus (have hc := Kept.cell k1; go_simp; first | done | (go_at_call 12; exact kept_call (Below.refl _ _) (SF.out _ (jj1.trans ((Kept.below k1).mono jj1.size)))) | rfl)); (go_simp; refine hK _ ?_; clear hK K)) | (refine plan_off _ (by first | exact wanted_yes rfl rfl | exact wanted_no rfl rfl | rfl) (by first | with_reducible rfl | (simp [hw2, hw3]; done) | rfl | decide) ?_; intro K hK; (try go_simp); refine hK _ ?_; clear hK K))
        refine plan_made _ (by first | exact wanted_free rfl | exact wanted_yes rfl rfl | exact wanted_no rfl rfl) (by first | with_reducible rfl | (simp [hw2, hw3]; done) | decide) fun u2 i2 => ?_
        have ii2 := Kept.below i2
        have bb2 := jj1.trans (ii2.mono jj1.size)
        refine made_callsR (by go_simp; first | done | rfl) ((PI2.out u2 (U0.out.m2.up bb2)).mono ?_)
        intro e vw2 h2
        obtain ⟨o2, p2, N2, rfl, hN2, WN2, j2⟩ := ansT h2
        clear h2 hN2 WN2
        refine ⟨_, rfl, j2, fun K hK => ?_⟩
        go_simp
        refine hK _ ?_
        clear hK K
        have jj2 := bb2.trans (j2.mono bb2.size)
        clear bb2 i2 ii2 j2
        clear e0 e1 e2 ef el g0 g1 g2 gf gl t0 t1 t2 tf tl
        obtain ⟨e0, e1, e2, ef, el⟩ := (U0.out.keep jj2).r2
        obtain ⟨g0, g1, g2, gf, gl⟩ := (U0.out.keep jj2).r3
        obtain ⟨t0, t1, t2, tf, tl⟩ := (U0.out.keep jj2).r1
        repeat (first | (refine plan_take _ (by first | exact wanted_free rfl | exact wanted_yes rfl rfl | exact wanted_no rfl rfl) (by first | with_reducible rfl | (simp [hw2, hw3]; done) | decide) ?_; apply Exists.intro; refine ⟨fun w' k1 => ?_, fun K hK => ?_⟩; (focus (have hc := Kept.cell k1; go_simp; first | done | (go_at_call 12; exact kept_call (Below.refl _ _) (SF.out _ (jj2.trans ((Kept.below k1).mono jj2.size)))) | rfl)); (go_simp; refine hK _ ?_; clear hK K)) | (refine plan_off _ (by first | exact wanted_yes rfl rfl | exact wanted_no rfl rfl | rfl) (by first | with_reducible rfl | (simp [hw2, hw3]; done) | rfl | decide) ?_; intro K hK; (try go_simp); refine hK _ ?_; clear hK K))
        refine plan_made _ (by first | exact wanted_free rfl | exact wanted_yes rfl rfl | exact wanted_no rfl rfl) (by first | with_reducible rfl | (simp [hw2, hw3]; done) | decide) fun u3 i3 => ?_
        have ii3 := Kept.below i3
        have bb3 := jj2.trans (ii3.mono jj2.size)
        refine made_callsR (by go_simp; first | done | rfl) ((PS3.out u3 (U0.out.l3.up bb3)).mono ?_)
        intro e vw3 h3
        obtain ⟨o3, p3, N3, rfl, hN3, WN3, j3⟩ := ansT h3
        clear h3 hN3 WN3
        refine ⟨_, rfl, j3, fun K hK => ?_⟩
        go_simp
        refine hK _ ?_
        clear hK K
        have jj3 := bb3.trans (j3.mono bb3.size)
        clear bb3 i3 ii3 j3
        clear e0 e1 e2 ef el g0 g1 g2 gf gl t0 t1 t2 tf tl
        obtain ⟨e0, e1, e2, ef, el⟩ := (U0.out.keep jj3).r2
        obtain ⟨g0, g1, g2, gf, gl⟩ := (U0.out.keep jj3).r3
        obtain ⟨t0, t1, t2, tf, tl⟩ := (U0.out.keep jj3).r1
        repeat (first | (refine plan_take _ (by first | exact wanted_free rfl | exact wanted_yes rfl rfl | exact wanted_no rfl rfl) (by first | with_reducible rfl | (simp [hw2, hw3]; done) | decide) ?_; apply Exists.intro; refine ⟨fun w' k1 => ?_, fun K hK => ?_⟩; (focus (have hc := Kept.cell k1; go_simp; first | done | (go_at_call 12; exact kept_call (Below.refl _ _) (SF.out _ (jj3.trans ((Kept.below k1).mono jj3.size)))) | rfl)); (go_simp; refine hK _ ?_; clear hK K)) | (refine plan_off _ (by first | exact wanted_yes rfl rfl | exact wanted_no rfl rfl | rfl) (by first | with_reducible rfl | (simp [hw2, hw3]; done) | rfl | decide) ?_; intro K hK; (try go_simp); refine hK _ ?_; clear hK K))
        refine plan_made _ (by first | exact wanted_free rfl | exact wanted_yes rfl rfl | exact wanted_no rfl rfl) (by first | with_reducible rfl | (simp [hw2, hw3]; done) | decide) fun u4 i4 => ?_
        have ii4 := Kept.below i4
        have bb4 := jj3.trans (ii4.mono jj3.size)
        refine made_callsR (by go_simp; first | done | rfl) ((PI3.out u4 (U0.out.m3.up bb4)).mono ?_)
        intro e vw4 h4
        obtain ⟨o4, p4, N4, rfl, hN4, WN4, j4⟩ := ansT h4
        clear h4 hN4 WN4
        refine ⟨_, rfl, j4, fun K hK => ?_⟩
        go_simp
        refine hK _ ?_
        clear hK K
        have jj4 := bb4.trans (j4.mono bb4.size)
        clear bb4 i4 ii4 j4
        clear e0 e1 e2 ef el g0 g1 g2 gf gl t0 t1 t2 tf tl
        obtain ⟨e0, e1, e2, ef, el⟩ := (U0.out.keep jj4).r2
        obtain ⟨g0, g1, g2, gf, gl⟩ := (U0.out.keep jj4).r3
        obtain ⟨t0, t1, t2, tf, tl⟩ := (U0.out.keep jj4).r1
        repeat (first | (refine plan_take _ (by first | exact wanted_free rfl | exact wanted_yes rfl rfl | exact wanted_no rfl rfl) (by first | with_reducible rfl | (simp [hw2, hw3]; done) | decide) ?_; apply Exists.intro; refine ⟨fun w' k1 => ?_, fun K hK => ?_⟩; (focus (have hc := Kept.cell k1; go_simp; first | done | (go_at_call 12; exact kept_call (Below.refl _ _) (SF.out _ (jj4.trans ((Kept.below k1).mono jj4.size)))) | rfl)); (go_simp; refine hK _ ?_; clear hK K)) | (refine plan_off _ (by first | exact wanted_yes rfl rfl | exact wanted_no rfl rfl | rfl) (by first | with_reducible rfl | (simp [hw2, hw3]; done) | rfl | decide) ?_; intro K hK; (try go_simp); refine hK _ ?_; clear hK K))
        refine plan_nil fun w13 k13 => ?_
        try simp only [List.drop_succ_cons, List.drop_zero]
        have U1 := hideP ((U0.out.keep jj4).keep (Kept.below k13))
        clear k13 jj1 jj2 jj3 jj4 U0 PS2 PS3 SF PI2 PI3
        clear e0 e1 e2 ef el g0 g1 g2 gf gl t0 t1 t2 tf tl
        obtain ⟨e0, e1, e2, ef, el⟩ := U1.out.r1
        obtain ⟨y0, y1, y2, y3, yl⟩ := U1.out.q
        by_cases hz0 : z1 = 0
        · as_aux_lemma =>
            subst hz0
            obtain ⟨A, t, hMt, hAl, ti, tx, ty, tw, th, tm, hst, hask, hdrop, hok, hsl⟩ := make_facts HZ1.out HM1.out
            rw [HV1.out] at ti hask hdrop hok hsl
            have hsm : M1.length + wzs M1 ≤ 1048576 := small_make sl rx ry rp rh LS1.out M1 HM1.out
            have PD := hideP (iDrop_any q1 d1 M1 v1 w13 U1.out.m1 hsm)
            rw [hask, hdrop] at PD
            have PF := hideP (fun W (l : Ws W 0 W.heap.size q1 M1) => iStack_any 0 W.heap.size q1 d1 M1 W l (Nat.le_refl _) hsm)
            rw [hst] at PF
            have hlt : A.length < M1.length := by rw [hMt]; simp
            have hM1 : M1.length = A.length + 1 := by rw [hMt]; simp
            have ht : M1[A.length] = t := by simp [hMt]
            have CE : Hid (∃ g o, q1 = some ⟨g, o, none⟩ ∧ ∀ W, Below w13.heap.size w13 W → Cl Wn.vals W g (o + A.length * 7) t) := hideP (by
              rcases U1.out.m1 with e | ⟨g, o, e, -, hg, hc⟩
              · rw [e] at hlt; simp at hlt
              · exact ⟨g, o, e, fun W k => by have := (hc A.length hlt).1; rw [ht] at this; exact this.keep k hg⟩)
            obtain ⟨g, o, hq, hcl⟩ := CE.out
            subst hq
            have HC := hideP hcl
            have hAL : (M1.length : Int) - 1 = (A.length : Int) := by omega
            have hL13 : (L1.length : Int) ≤ 13 := by omega
            have hml : (M1.length : Int) = (L1.length : Int) + 1 := by omega
            have hAi : (A.length : Int) < (M1.length : Int) := by omega
            have hAA : (A.length : Int) = (L1.length : Int) := by omega
            have HOK := hideP hok
            have HSL := hideP hsl
            clear hst hask hdrop hMt hAl hsm hlt hM1 ht CE hcl hok hsl
            obtain ⟨ti', tx', ty', tw', th', tm', ⟨bo, cb, gb, D⟩⟩ := t
            simp only at ti tx ty tw th tm
            subst ti tx ty tw th tm
            go_wp2_with fail
            refine Calls.mono PD.out ?_
            intro e w14 h
            obtain ⟨q9, d9, M9, rfl, hM9, WM9, k⟩ := ansT h
            have kb := kalC w14 (.cells #[.int .i64 0, .int .i64 0, .slice q9 M9.length d9] 30)
            have kk := k.trans (kb.mono k.size)
            have U2 := hideP (U1.out.keep kk)
            have HC2 := hideP (fun W (k2 : Below (w14.alloc (.cells #[.int .i64 0, .int .i64 0, .slice q9 M9.length d9] 30)).heap.size (w14.alloc (.cells #[.int .i64 0, .int .i64 0, .slice q9 M9.length d9] 30)) W) => HC.out W (kk.trans (k2.mono kk.size)))
            have W9 := hideP (WM9.up kb)
            have B9 := hideP (r3_new w14 (.int .i64 0) (.int .i64 0) (.slice q9 M9.length d9) 30)
            have HM9 := hideP hM9
            clear h kb kk k WM9 hM9 U1 HC PD e0 e1 e2 ef el y0 y1 y2 y3 yl
            obtain ⟨e0, e1, e2, ef, el⟩ := U2.out.r1
            obtain ⟨y0, y1, y2, y3, yl⟩ := U2.out.q
            go_wp2_with fail
            generalize w14.alloc (.cells #[.int .i64 0, .int .i64 0, .slice q9 M9.length d9] 30) = w15 at *
            generalize w14.heap.size = b9 at *
            obtain ⟨a0, a1, a2, a3, a4, a5, a6⟩ := (HC2.out w15 (Below.refl _ _)).seven
            obtain ⟨i0, i1, i2, i_f, il⟩ := B9.out
            have hgl : g < w15.heap.size := World.block_lt_of_cell? w15 _ a0
            have hwn : IntKind.i64.wrap ((M1.length : Int) - 1) = (A.length : Int) := (IntWalk.i64_in _ (by omega)).trans hAL
            have hwl : IntKind.i64.wrap ((L1.length : Int) + 1) = (M1.length : Int) := (IntWalk.i64_in _ (by omega)).trans hml.symm
            have SM := hideP (fun w1 (kk : Below w15.heap.size w15 w1) => iSameS_any 0 w15.heap.size 0 w15.heap.size q9 s1 d9 c1 M9 L1 w1 (W9.out.keep kk (Nat.le_refl _)) (U2.out.l1.keep kk (Nat.le_refl _)) kk.size kk.size (by rw [wzs_ct HM9.out, lenW HM9.out]; exact LS1.out) LS1.out)
            rw [decide_eq_true HM9.out] at SM
            have SO := hideP (fun w1 => iSlot_yes ti' w1 HOK.out)
            rw [HSL.out] at SO
            have hmL : (L1.length : Int) + 1 = (M1.length : Int) := hml.symm
            have hwM : IntKind.i64.wrap (M1.length : Int) = (M1.length : Int) := IntWalk.i64_in _ (by omega)
            clear hAL hml hAA
            have HGW := hideP hL13
            simp only [List.append_eq, List.cons_append, List.nil_append]
            refine wp_region_plan (R := Kept) (G := Kept) rel_keptA rel_keptA (fun h => h) 63 [(true, 0), (true, 1), (true, 2), (true, 3), (true, 4), (true, 5), (true, 6), (true, 7), (true, 8), (true, 9), (true, 10), (true, 11), (true, 12), (true, 13), (true, 14), (true, 15), (true, 16), (true, 17), (true, 18), (true, 19), (true, 20), (true, 21), (true, 22), (true, 23), (true, 24), (true, 25), (true, 26), (true, 27), (true, 28), (true, 29), (true, 30), (true, 31), (true, 32), (true, 33), (true, 34), (true, 35), (true, 36), (true, 37), (true, 38), (true, 39), (true, 40), (true, 41), (true, 42), (true, 43), (true, 44), (true, 45), (true, 46), (true, 47), (true, 48), (true, 49), (true, 50), (true, 51), (true, 52), (true, 53), (true, 54), (true, 55), (true, 56), (true, 57), (true, 58), (true, 59), (true, 60), (true, 61), (true, 62)] (by kernel_rfl) (by kernel_rfl) ?_
            simp only [selP, List.filterMap_cons, List.filterMap_nil, List.getElem?_cons_succ, List.getElem?_cons_zero, Option.map_some]
            repeat (refine plan_take _ (by first | exact wanted_free rfl | exact wanted_yes rfl rfl | exact wanted_no rfl rfl) (by first | with_reducible rfl | (simp [hwn, hwl, hmL, hwM]; done) | decide) ?_; apply Exists.intro; refine ⟨fun w' k1 => ?_, fun K hK => ?_⟩; (focus (have hc := Kept.cell k1; go_simp; first | done | (go_at_call 12; exact kept_call (Below.refl _ _) (PF.out _ (U2.out.m1.up (Kept.below k1)))) | (go_at_call 16; exact kept_call (Below.refl _ _) (SM.out _ (Kept.below k1))) | (go_at_call 17; exact kept_call (Below.refl _ _) (SO.out _)) | (simp only [hwn]; go_simp; first | done | rfl) | rfl)); (go_simp; refine hK _ ?_; clear hK K))

            refine plan_nil fun w17 k17 => ?_
            try simp only [List.drop_succ_cons, List.drop_zero]
            have U3 := hideP (U2.out.keep (Kept.below k17))
            clear k17 U2 PF SM SO
            go_wp2
            go_returns
            exact ⟨rfl, U3.out.k⟩
        · as_aux_lemma =>
            have hz1 : (z1 != 0) = true := by simpa using hz0
            have PF0 := hideP (fun W (l : Ws W 0 W.heap.size s1 L1) => iStack_any 0 W.heap.size s1 c1 L1 W l (Nat.le_refl _) LS1.out)
            have PG0 := hideP (fun W (l : Ws W 0 W.heap.size s1 L1) => sStack_any 0 W.heap.size s1 c1 L1 W l (Nat.le_refl _) LS1.out)
            obtain ⟨zf, hzf⟩ : ∃ z, stF (L1.map Wn.ct) = z := ⟨_, rfl⟩
            rw [hzf] at PF0 PG0
            clear hzf
            go_wp2
            refine wp_region_plan (R := Kept) (G := Kept) rel_keptA rel_keptA (fun h => h) 14 [(true, 0), (true, 1), (true, 2), (true, 5), (true, 6), (false, 3), (true, 4), (true, 7), (true, 8), (true, 9), (true, 10), (true, 11), (true, 12), (true, 13)] (by kernel_rfl) (by kernel_rfl) ?_
            simp only [selP, List.filterMap_cons, List.filterMap_nil, List.getElem?_cons_succ, List.getElem?_cons_zero, Option.map_some]
            repeat (refine plan_take _ (by first | exact wanted_free rfl | exact wanted_yes rfl rfl | exact wanted_no rfl rfl) (by first | with_reducible rfl | (simp; done) | decide) ?_; apply Exists.intro; refine ⟨fun w' k1 => ?_, fun K hK => ?_⟩; (focus (have hc := Kept.cell k1; go_simp; first | done | rfl)); (go_simp; refine hK _ ?_; clear hK K))

            refine plan_made _ (by first | exact wanted_free rfl | exact wanted_yes rfl rfl | exact wanted_no rfl rfl) (by first | with_reducible rfl | (simp; done) | decide) fun u6 i6 => ?_
            have ii6 := Kept.below i6
            have bb6 := ii6
            refine made_callsR (by go_simp; first | done | rfl) ((PS1.out u6 (U1.out.l1.up bb6)).mono ?_)
            intro e vw6 h6
            obtain ⟨o6, p6, N6, rfl, hN6, WN6, j6⟩ := ansT h6
            clear h6 hN6 WN6
            refine ⟨_, rfl, j6, fun K hK => ?_⟩
            go_simp
            refine hK _ ?_
            clear hK K
            have jj6 := bb6.trans (j6.mono bb6.size)
            clear bb6 i6 ii6 j6
            clear e0 e1 e2 ef el y0 y1 y2 y3 yl
            obtain ⟨e0, e1, e2, ef, el⟩ := (U1.out.keep jj6).r1
            repeat (refine plan_take _ (by first | exact wanted_free rfl | exact wanted_yes rfl rfl | exact wanted_no rfl rfl) (by first | with_reducible rfl | (simp; done) | decide) ?_; apply Exists.intro; refine ⟨fun w' k1 => ?_, fun K hK => ?_⟩; (focus (have hc := Kept.cell k1; go_simp; first | done | (go_at_call 12; exact kept_call (Below.refl _ _) (PF0.out _ (U1.out.l1.up (jj6.trans ((Kept.below k1).mono jj6.size))))) | (go_at_call 15; exact kept_call (Below.refl _ _) (PG0.out _ (U1.out.l1.up (jj6.trans ((Kept.below k1).mono jj6.size))))) | rfl)); (go_simp; refine hK _ ?_; clear hK K))

            refine plan_nil fun w18 k18 => ?_
            try simp only [List.drop_succ_cons, List.drop_zero]
            have U4 := hideP ((U1.out.keep jj6).keep (Kept.below k18))
            clear U1 k18 jj6
            go_wp2
            go_returns
            exact ⟨rfl, U4.out.k⟩

    · as_aux_lemma =>
        obtain ⟨y1, y2, y3⟩ := drop_facts (HZ2.out.trans hc2) HM2.out
        have hsm2 : M2.length + wzs M2 ≤ 1048576 := small_drop id2 LS2.out M2 HM2.out
        have SF := hideP (fun w1 (kk : Below w10.heap.size w10 w1) => iStack_any 0 w10.heap.size q2 d2 M2 w1 (U0.out.m2.keep kk (Nat.le_refl _)) kk.size hsm2)
        rw [y1] at SF
        have PI2 := hideP (fun W (l : Ws W 0 W.heap.size q2 M2) => iDrop_any q2 d2 M2 id2 W l hsm2)
        rw [y3] at PI2
        have hw2 : IntKind.i64.wrap ((L2.length : Int) - 1) = (M2.length : Int) := by rw [y2]; exact (IntWalk.i64_in _ (by omega)).trans (by omega)
        have HY2 := hideP hsm2
        clear y1 y2 y3 hsm2
        subst hc2
        have hq3 : (z3 == 0) = false := beq_eq_false_iff_ne.2 hc3
        simp only [List.append_eq, List.cons_append, List.nil_append]
        refine wp_region_plan (R := Kept) (G := Kept) rel_keptA rel_keptA (fun h => h) 67 [(true, 0), (true, 1), (true, 2), (true, 3), (false, 4), (true, 5), (true, 6), (true, 7), (true, 8), (true, 9), (true, 10), (true, 11), (true, 12), (true, 13), (true, 14), (true, 15), (true, 16), (true, 17), (true, 18), (true, 19), (true, 20), (true, 21), (true, 22), (true, 23), (true, 24), (true, 25), (true, 26), (true, 27), (true, 28), (false, 29), (true, 30), (true, 31), (true, 32), (true, 33), (true, 34), (true, 35), (true, 36), (true, 37), (true, 38), (true, 39), (false, 40), (true, 41), (true, 42), (true, 43), (true, 44), (true, 45), (true, 46), (true, 47), (true, 48), (true, 49), (true, 50), (true, 51), (true, 52), (true, 53), (true, 54), (true, 55), (true, 56), (true, 57), (true, 58), (true, 59), (true, 60), (true, 61), (true, 62), (true, 63), (true, 64), (true, 65), (true, 66)] (by kernel_rfl) (by kernel_rfl) ?_
        simp only [selP, List.filterMap_cons, List.filterMap_nil, List.getElem?_cons_succ, List.getElem?_cons_zero, Option.map_some]
        repeat (first | (refine plan_take _ (by first | exact wanted_free rfl | exact wanted_yes rfl rfl | exact wanted_no rfl rfl) (by first | with_reducible rfl | (simp [hw2, hq3]; done) | decide) ?_; apply Exists.intro; refine ⟨fun w' k1 => ?_, fun K hK => ?_⟩; (focus (have hc := Kept.cell k1; go_simp; first | done | (go_at_call 12; exact kept_call (Below.refl _ _) (SF.out _ (Kept.below k1))) | rfl)); (go_simp; refine hK _ ?_; clear hK K)) | (refine plan_off _ (by first | exact wanted_yes rfl rfl | exact wanted_no rfl rfl | rfl) (by first | with_reducible rfl | (simp [hw2, hq3]; done) | rfl | decide) ?_; intro K hK; (try go_simp); refine hK _ ?_; clear hK K))
        refine plan_made _ (by first | exact wanted_free rfl | exact wanted_yes rfl rfl | exact wanted_no rfl rfl) (by first | with_reducible rfl | (simp [hw2, hq3]; done) | decide) fun u1 i1 => ?_
        have ii1 := Kept.below i1
        have bb1 := ii1
        refine made_callsR (by go_simp; first | done | rfl) ((PS2.out u1 (U0.out.l2.up bb1)).mono ?_)
        intro e vw1 h1
        obtain ⟨o1, p1, N1, rfl, hN1, WN1, j1⟩ := ansT h1
        clear h1 hN1 WN1
        refine ⟨_, rfl, j1, fun K hK => ?_⟩
        go_simp
        refine hK _ ?_
        clear hK K
        have jj1 := bb1.trans (j1.mono bb1.size)
        clear bb1 i1 ii1 j1
        clear e0 e1 e2 ef el g0 g1 g2 gf gl t0 t1 t2 tf tl
        obtain ⟨e0, e1, e2, ef, el⟩ := (U0.out.keep jj1).r2
        obtain ⟨g0, g1, g2, gf, gl⟩ := (U0.out.keep jj1).r3
        obtain ⟨t0, t1, t2, tf, tl⟩ := (U0.out.keep jj1).r1
        repeat (first | (refine plan_take _ (by first | exact wanted_free rfl | exact wanted_yes rfl rfl | exact wanted_no rfl rfl) (by first | with_reducible rfl | (simp [hw2, hq3]; done) | decide) ?_; apply Exists.intro; refine ⟨fun w' k1 => ?_, fun K hK => ?_⟩; (focus (have hc := Kept.cell k1; go_simp; first | done | (go_at_call 12; exact kept_call (Below.refl _ _) (SF.out _ (jj1.trans ((Kept.below k1).mono jj1.size)))) | rfl)); (go_simp; refine hK _ ?_; clear hK K)) | (refine plan_off _ (by first | exact wanted_yes rfl rfl | exact wanted_no rfl rfl | rfl) (by first | with_reducible rfl | (simp [hw2, hq3]; done) | rfl | decide) ?_; intro K hK; (try go_simp); refine hK _ ?_; clear hK K))
        refine plan_made _ (by first | exact wanted_free rfl | exact wanted_yes rfl rfl | exact wanted_no rfl rfl) (by first | with_reducible rfl | (simp [hw2, hq3]; done) | decide) fun u2 i2 => ?_
        have ii2 := Kept.below i2
        have bb2 := jj1.trans (ii2.mono jj1.size)
        refine made_callsR (by go_simp; first | done | rfl) ((PI2.out u2 (U0.out.m2.up bb2)).mono ?_)
        intro e vw2 h2
        obtain ⟨o2, p2, N2, rfl, hN2, WN2, j2⟩ := ansT h2
        clear h2 hN2 WN2
        refine ⟨_, rfl, j2, fun K hK => ?_⟩
        go_simp
        refine hK _ ?_
        clear hK K
        have jj2 := bb2.trans (j2.mono bb2.size)
        clear bb2 i2 ii2 j2
        clear e0 e1 e2 ef el g0 g1 g2 gf gl t0 t1 t2 tf tl
        obtain ⟨e0, e1, e2, ef, el⟩ := (U0.out.keep jj2).r2
        obtain ⟨g0, g1, g2, gf, gl⟩ := (U0.out.keep jj2).r3
        obtain ⟨t0, t1, t2, tf, tl⟩ := (U0.out.keep jj2).r1
        repeat (first | (refine plan_take _ (by first | exact wanted_free rfl | exact wanted_yes rfl rfl | exact wanted_no rfl rfl) (by first | with_reducible rfl | (simp [hw2, hq3]; done) | decide) ?_; apply Exists.intro; refine ⟨fun w' k1 => ?_, fun K hK => ?_⟩; (focus (have hc := Kept.cell k1; go_simp; first | done | (go_at_call 12; exact kept_call (Below.refl _ _) (SF.out _ (jj2.trans ((Kept.below k1).mono jj2.size)))) | rfl)); (go_simp; refine hK _ ?_; clear hK K)) | (refine plan_off _ (by first | exact wanted_yes rfl rfl | exact wanted_no rfl rfl | rfl) (by first | with_reducible rfl | (simp [hw2, hq3]; done) | rfl | decide) ?_; intro K hK; (try go_simp); refine hK _ ?_; clear hK K))
        refine plan_made _ (by first | exact wanted_free rfl | exact wanted_yes rfl rfl | exact wanted_no rfl rfl) (by first | with_reducible rfl | (simp [hw2, hq3]; done) | decide) fun u3 i3 => ?_
        have ii3 := Kept.below i3
        have bb3 := jj2.trans (ii3.mono jj2.size)
        refine made_callsR (by go_simp; first | done | rfl) ((PS3.out u3 (U0.out.l3.up bb3)).mono ?_)
        intro e vw3 h3
        obtain ⟨o3, p3, N3, rfl, hN3, WN3, j3⟩ := ansT h3
        clear h3 hN3 WN3
        refine ⟨_, rfl, j3, fun K hK => ?_⟩
        go_simp
        refine hK _ ?_
        clear hK K
        have jj3 := bb3.trans (j3.mono bb3.size)
        clear bb3 i3 ii3 j3
        clear e0 e1 e2 ef el g0 g1 g2 gf gl t0 t1 t2 tf tl
        obtain ⟨e0, e1, e2, ef, el⟩ := (U0.out.keep jj3).r2
        obtain ⟨g0, g1, g2, gf, gl⟩ := (U0.out.keep jj3).r3
        obtain ⟨t0, t1, t2, tf, tl⟩ := (U0.out.keep jj3).r1
        repeat (first | (refine plan_take _ (by first | exact wanted_free rfl | exact wanted_yes rfl rfl | exact wanted_no rfl rfl) (by first | with_reducible rfl | (simp [hw2, hq3]; done) | decide) ?_; apply Exists.intro; refine ⟨fun w' k1 => ?_, fun K hK => ?_⟩; (focus (have hc := Kept.cell k1; go_simp; first | done | (go_at_call 12; exact kept_call (Below.refl _ _) (SF.out _ (jj3.trans ((Kept.below k1).mono jj3.size)))) | rfl)); (go_simp; refine hK _ ?_; clear hK K)) | (refine plan_off _ (by first | exact wanted_yes rfl rfl | exact wanted_no rfl rfl | rfl) (by first | with_reducible rfl | (simp [hw2, hq3]; done) | rfl | decide) ?_; intro K hK; (try go_simp); refine hK _ ?_; clear hK K))
        refine plan_nil fun w13 k13 => ?_
        try simp only [List.drop_succ_cons, List.drop_zero]
        have U1 := hideP ((U0.out.keep jj3).keep (Kept.below k13))
        clear k13 jj1 jj2 jj3 U0 PS2 PS3 SF PI2
        clear e0 e1 e2 ef el g0 g1 g2 gf gl t0 t1 t2 tf tl
        obtain ⟨e0, e1, e2, ef, el⟩ := U1.out.r1
        obtain ⟨y0, y1, y2, y3, yl⟩ := U1.out.q
        by_cases hz0 : z1 = 0
        · as_aux_lemma =>
            subst hz0
            obtain ⟨A, t, hMt, hAl, ti, tx, ty, tw, th, tm, hst, hask, hdrop, hok, hsl⟩ := make_facts HZ1.out HM1.out
            rw [HV1.out] at ti hask hdrop hok hsl
            have hsm : M1.length + wzs M1 ≤ 1048576 := small_make sl rx ry rp rh LS1.out M1 HM1.out
            have PD := hideP (iDrop_any q1 d1 M1 v1 w13 U1.out.m1 hsm)
            rw [hask, hdrop] at PD
            have PF := hideP (fun W (l : Ws W 0 W.heap.size q1 M1) => iStack_any 0 W.heap.size q1 d1 M1 W l (Nat.le_refl _) hsm)
            rw [hst] at PF
            have hlt : A.length < M1.length := by rw [hMt]; simp
            have hM1 : M1.length = A.length + 1 := by rw [hMt]; simp
            have ht : M1[A.length] = t := by simp [hMt]
            have CE : Hid (∃ g o, q1 = some ⟨g, o, none⟩ ∧ ∀ W, Below w13.heap.size w13 W → Cl Wn.vals W g (o + A.length * 7) t) := hideP (by
              rcases U1.out.m1 with e | ⟨g, o, e, -, hg, hc⟩
              · rw [e] at hlt; simp at hlt
              · exact ⟨g, o, e, fun W k => by have := (hc A.length hlt).1; rw [ht] at this; exact this.keep k hg⟩)
            obtain ⟨g, o, hq, hcl⟩ := CE.out
            subst hq
            have HC := hideP hcl
            have hAL : (M1.length : Int) - 1 = (A.length : Int) := by omega
            have hL13 : (L1.length : Int) ≤ 13 := by omega
            have hml : (M1.length : Int) = (L1.length : Int) + 1 := by omega
            have hAi : (A.length : Int) < (M1.length : Int) := by omega
            have hAA : (A.length : Int) = (L1.length : Int) := by omega
            have HOK := hideP hok
            have HSL := hideP hsl
            clear hst hask hdrop hMt hAl hsm hlt hM1 ht CE hcl hok hsl
            obtain ⟨ti', tx', ty', tw', th', tm', ⟨bo, cb, gb, D⟩⟩ := t
            simp only at ti tx ty tw th tm
            subst ti tx ty tw th tm
            go_wp2_with fail
            refine Calls.mono PD.out ?_
            intro e w14 h
            obtain ⟨q9, d9, M9, rfl, hM9, WM9, k⟩ := ansT h
            have kb := kalC w14 (.cells #[.int .i64 0, .int .i64 0, .slice q9 M9.length d9] 30)
            have kk := k.trans (kb.mono k.size)
            have U2 := hideP (U1.out.keep kk)
            have HC2 := hideP (fun W (k2 : Below (w14.alloc (.cells #[.int .i64 0, .int .i64 0, .slice q9 M9.length d9] 30)).heap.size (w14.alloc (.cells #[.int .i64 0, .int .i64 0, .slice q9 M9.length d9] 30)) W) => HC.out W (kk.trans (k2.mono kk.size)))
            have W9 := hideP (WM9.up kb)
            have B9 := hideP (r3_new w14 (.int .i64 0) (.int .i64 0) (.slice q9 M9.length d9) 30)
            have HM9 := hideP hM9
            clear h kb kk k WM9 hM9 U1 HC PD e0 e1 e2 ef el y0 y1 y2 y3 yl
            obtain ⟨e0, e1, e2, ef, el⟩ := U2.out.r1
            obtain ⟨y0, y1, y2, y3, yl⟩ := U2.out.q
            go_wp2_with fail
            generalize w14.alloc (.cells #[.int .i64 0, .int .i64 0, .slice q9 M9.length d9] 30) = w15 at *
            generalize w14.heap.size = b9 at *
            obtain ⟨a0, a1, a2, a3, a4, a5, a6⟩ := (HC2.out w15 (Below.refl _ _)).seven
            obtain ⟨i0, i1, i2, i_f, il⟩ := B9.out
            have hgl : g < w15.heap.size := World.block_lt_of_cell? w15 _ a0
            have hwn : IntKind.i64.wrap ((M1.length : Int) - 1) = (A.length : Int) := (IntWalk.i64_in _ (by omega)).trans hAL
            have hwl : IntKind.i64.wrap ((L1.length : Int) + 1) = (M1.length : Int) := (IntWalk.i64_in _ (by omega)).trans hml.symm
            have SM := hideP (fun w1 (kk : Below w15.heap.size w15 w1) => iSameS_any 0 w15.heap.size 0 w15.heap.size q9 s1 d9 c1 M9 L1 w1 (W9.out.keep kk (Nat.le_refl _)) (U2.out.l1.keep kk (Nat.le_refl _)) kk.size kk.size (by rw [wzs_ct HM9.out, lenW HM9.out]; exact LS1.out) LS1.out)
            rw [decide_eq_true HM9.out] at SM
            have SO := hideP (fun w1 => iSlot_yes ti' w1 HOK.out)
            rw [HSL.out] at SO
            have hmL : (L1.length : Int) + 1 = (M1.length : Int) := hml.symm
            have hwM : IntKind.i64.wrap (M1.length : Int) = (M1.length : Int) := IntWalk.i64_in _ (by omega)
            clear hAL hml hAA
            have HGW := hideP hL13
            simp only [List.append_eq, List.cons_append, List.nil_append]
            refine wp_region_plan (R := Kept) (G := Kept) rel_keptA rel_keptA (fun h => h) 63 [(true, 0), (true, 1), (true, 2), (true, 3), (true, 4), (true, 5), (true, 6), (true, 7), (true, 8), (true, 9), (true, 10), (true, 11), (true, 12), (true, 13), (true, 14), (true, 15), (true, 16), (true, 17), (true, 18), (true, 19), (true, 20), (true, 21), (true, 22), (true, 23), (true, 24), (true, 25), (true, 26), (true, 27), (true, 28), (true, 29), (true, 30), (true, 31), (true, 32), (true, 33), (true, 34), (true, 35), (true, 36), (true, 37), (true, 38), (true, 39), (true, 40), (true, 41), (true, 42), (true, 43), (true, 44), (true, 45), (true, 46), (true, 47), (true, 48), (true, 49), (true, 50), (true, 51), (true, 52), (true, 53), (true, 54), (true, 55), (true, 56), (true, 57), (true, 58), (true, 59), (true, 60), (true, 61), (true, 62)] (by kernel_rfl) (by kernel_rfl) ?_
            simp only [selP, List.filterMap_cons, List.filterMap_nil, List.getElem?_cons_succ, List.getElem?_cons_zero, Option.map_some]
            repeat (refine plan_take _ (by first | exact wanted_free rfl | exact wanted_yes rfl rfl | exact wanted_no rfl rfl) (by first | with_reducible rfl | (simp [hwn, hwl, hmL, hwM]; done) | decide) ?_; apply Exists.intro; refine ⟨fun w' k1 => ?_, fun K hK => ?_⟩; (focus (have hc := Kept.cell k1; go_simp; first | done | (go_at_call 12; exact kept_call (Below.refl _ _) (PF.out _ (U2.out.m1.up (Kept.below k1)))) | (go_at_call 16; exact kept_call (Below.refl _ _) (SM.out _ (Kept.below k1))) | (go_at_call 17; exact kept_call (Below.refl _ _) (SO.out _)) | (simp only [hwn]; go_simp; first | done | rfl) | rfl)); (go_simp; refine hK _ ?_; clear hK K))

            refine plan_nil fun w17 k17 => ?_
            try simp only [List.drop_succ_cons, List.drop_zero]
            have U3 := hideP (U2.out.keep (Kept.below k17))
            clear k17 U2 PF SM SO
            go_wp2
            go_returns
            exact ⟨rfl, U3.out.k⟩
        · as_aux_lemma =>
            have hz1 : (z1 != 0) = true := by simpa using hz0
            have PF0 := hideP (fun W (l : Ws W 0 W.heap.size s1 L1) => iStack_any 0 W.heap.size s1 c1 L1 W l (Nat.le_refl _) LS1.out)
            have PG0 := hideP (fun W (l : Ws W 0 W.heap.size s1 L1) => sStack_any 0 W.heap.size s1 c1 L1 W l (Nat.le_refl _) LS1.out)
            obtain ⟨zf, hzf⟩ : ∃ z, stF (L1.map Wn.ct) = z := ⟨_, rfl⟩
            rw [hzf] at PF0 PG0
            clear hzf
            go_wp2
            refine wp_region_plan (R := Kept) (G := Kept) rel_keptA rel_keptA (fun h => h) 14 [(true, 0), (true, 1), (true, 2), (true, 5), (true, 6), (false, 3), (true, 4), (true, 7), (true, 8), (true, 9), (true, 10), (true, 11), (true, 12), (true, 13)] (by kernel_rfl) (by kernel_rfl) ?_
            simp only [selP, List.filterMap_cons, List.filterMap_nil, List.getElem?_cons_succ, List.getElem?_cons_zero, Option.map_some]
            repeat (refine plan_take _ (by first | exact wanted_free rfl | exact wanted_yes rfl rfl | exact wanted_no rfl rfl) (by first | with_reducible rfl | (simp; done) | decide) ?_; apply Exists.intro; refine ⟨fun w' k1 => ?_, fun K hK => ?_⟩; (focus (have hc := Kept.cell k1; go_simp; first | done | rfl)); (go_simp; refine hK _ ?_; clear hK K))

            refine plan_made _ (by first | exact wanted_free rfl | exact wanted_yes rfl rfl | exact wanted_no rfl rfl) (by first | with_reducible rfl | (simp; done) | decide) fun u6 i6 => ?_
            have ii6 := Kept.below i6
            have bb6 := ii6
            refine made_callsR (by go_simp; first | done | rfl) ((PS1.out u6 (U1.out.l1.up bb6)).mono ?_)
            intro e vw6 h6
            obtain ⟨o6, p6, N6, rfl, hN6, WN6, j6⟩ := ansT h6
            clear h6 hN6 WN6
            refine ⟨_, rfl, j6, fun K hK => ?_⟩
            go_simp
            refine hK _ ?_
            clear hK K
            have jj6 := bb6.trans (j6.mono bb6.size)
            clear bb6 i6 ii6 j6
            clear e0 e1 e2 ef el y0 y1 y2 y3 yl
            obtain ⟨e0, e1, e2, ef, el⟩ := (U1.out.keep jj6).r1
            repeat (refine plan_take _ (by first | exact wanted_free rfl | exact wanted_yes rfl rfl | exact wanted_no rfl rfl) (by first | with_reducible rfl | (simp; done) | decide) ?_; apply Exists.intro; refine ⟨fun w' k1 => ?_, fun K hK => ?_⟩; (focus (have hc := Kept.cell k1; go_simp; first | done | (go_at_call 12; exact kept_call (Below.refl _ _) (PF0.out _ (U1.out.l1.up (jj6.trans ((Kept.below k1).mono jj6.size))))) | (go_at_call 15; exact kept_call (Below.refl _ _) (PG0.out _ (U1.out.l1.up (jj6.trans ((Kept.below k1).mono jj6.size))))) | rfl)); (go_simp; refine hK _ ?_; clear hK K))

            refine plan_nil fun w18 k18 => ?_
            try simp only [List.drop_succ_cons, List.drop_zero]
            have U4 := hideP ((U1.out.keep jj6).keep (Kept.below k18))
            clear U1 k18 jj6
            go_wp2
            go_returns
            exact ⟨rfl, U4.out.k⟩

  · by_cases hc3 : z3 = 0
    · as_aux_lemma =>
        have hq2 : (z2 == 0) = false := beq_eq_false_iff_ne.2 hc2
        have y4 := slot_val (HZ3.out.trans hc3) HM3.out
        have hsm3 : M3.length + wzs M3 ≤ 1048576 := small_slot sl3 LS3.out M3 HM3.out
        have PI3 := hideP (fun W (l : Ws W 0 W.heap.size q3 M3) => iDropSlot_any q3 d3 M3 sl3 W l hsm3)
        rw [show slotV (M3.map Wn.ct) sl3 = 0 by rw [HM3.out]; exact slot_zero _ _] at PI3
        obtain ⟨z5, hz5⟩ : ∃ z, askS (M3.map Wn.ct) sl3 = z := ⟨_, rfl⟩
        rw [hz5] at PI3
        rw [HV3.out] at y4
        have hw3 : IntKind.i64.wrap ((L3.length : Int) - (M3.length : Int)) = v3 := by rw [y4.symm]; exact IntWalk.i64_in _ (by omega)
        have HY3 := hideP hsm3
        clear y4 hsm3 hz5
        subst hc3
        simp only [List.append_eq, List.cons_append, List.nil_append]
        refine wp_region_plan (R := Kept) (G := Kept) rel_keptA rel_keptA (fun h => h) 67 [(true, 0), (true, 1), (true, 2), (true, 3), (false, 4), (true, 5), (true, 6), (true, 7), (true, 8), (true, 9), (true, 10), (true, 11), (true, 12), (true, 13), (true, 14), (true, 15), (true, 16), (true, 17), (true, 18), (true, 19), (true, 20), (true, 21), (true, 22), (true, 23), (true, 24), (true, 25), (true, 26), (true, 27), (true, 28), (true, 29), (true, 30), (true, 31), (true, 32), (true, 33), (true, 34), (true, 35), (true, 36), (true, 37), (true, 38), (true, 39), (false, 40), (true, 41), (true, 42), (true, 43), (true, 44), (true, 45), (true, 46), (true, 47), (true, 48), (true, 49), (true, 50), (true, 51), (true, 52), (true, 53), (true, 54), (true, 55), (true, 56), (true, 57), (true, 58), (true, 59), (true, 60), (true, 61), (false, 62), (true, 63), (true, 64), (true, 65), (true, 66)] (by kernel_rfl) (by kernel_rfl) ?_
        simp only [selP, List.filterMap_cons, List.filterMap_nil, List.getElem?_cons_succ, List.getElem?_cons_zero, Option.map_some]
        repeat (first | (refine plan_take _ (by first | exact wanted_free rfl | exact wanted_yes rfl rfl | exact wanted_no rfl rfl) (by first | with_reducible rfl | (simp [hq2, hw3]; done) | decide) ?_; apply Exists.intro; refine ⟨fun w' k1 => ?_, fun K hK => ?_⟩; (focus (have hc := Kept.cell k1; go_simp; first | done | rfl)); (go_simp; refine hK _ ?_; clear hK K)) | (refine plan_off _ (by first | exact wanted_yes rfl rfl | exact wanted_no rfl rfl | rfl) (by first | with_reducible rfl | (simp [hq2, hw3]; done) | rfl | decide) ?_; intro K hK; (try go_simp); refine hK _ ?_; clear hK K))
        refine plan_made _ (by first | exact wanted_free rfl | exact wanted_yes rfl rfl | exact wanted_no rfl rfl) (by first | with_reducible rfl | (simp [hq2, hw3]; done) | decide) fun u1 i1 => ?_
        have ii1 := Kept.below i1
        have bb1 := ii1
        refine made_callsR (by go_simp; first | done | rfl) ((PS2.out u1 (U0.out.l2.up bb1)).mono ?_)
        intro e vw1 h1
        obtain ⟨o1, p1, N1, rfl, hN1, WN1, j1⟩ := ansT h1
        clear h1 hN1 WN1
        refine ⟨_, rfl, j1, fun K hK => ?_⟩
        go_simp
        refine hK _ ?_
        clear hK K
        have jj1 := bb1.trans (j1.mono bb1.size)
        clear bb1 i1 ii1 j1
        clear e0 e1 e2 ef el g0 g1 g2 gf gl t0 t1 t2 tf tl
        obtain ⟨e0, e1, e2, ef, el⟩ := (U0.out.keep jj1).r2
        obtain ⟨g0, g1, g2, gf, gl⟩ := (U0.out.keep jj1).r3
        obtain ⟨t0, t1, t2, tf, tl⟩ := (U0.out.keep jj1).r1
        repeat (first | (refine plan_take _ (by first | exact wanted_free rfl | exact wanted_yes rfl rfl | exact wanted_no rfl rfl) (by first | with_reducible rfl | (simp [hq2, hw3]; done) | decide) ?_; apply Exists.intro; refine ⟨fun w' k1 => ?_, fun K hK => ?_⟩; (focus (have hc := Kept.cell k1; go_simp; first | done | rfl)); (go_simp; refine hK _ ?_; clear hK K)) | (refine plan_off _ (by first | exact wanted_yes rfl rfl | exact wanted_no rfl rfl | rfl) (by first | with_reducible rfl | (simp [hq2, hw3]; done) | rfl | decide) ?_; intro K hK; (try go_simp); refine hK _ ?_; clear hK K))
        refine plan_made _ (by first | exact wanted_free rfl | exact wanted_yes rfl rfl | exact wanted_no rfl rfl) (by first | with_reducible rfl | (simp [hq2, hw3]; done) | decide) fun u3 i3 => ?_
        have ii3 := Kept.below i3
        have bb3 := jj1.trans (ii3.mono jj1.size)
        refine made_callsR (by go_simp; first | done | rfl) ((PS3.out u3 (U0.out.l3.up bb3)).mono ?_)
        intro e vw3 h3
        obtain ⟨o3, p3, N3, rfl, hN3, WN3, j3⟩ := ansT h3
        clear h3 hN3 WN3
        refine ⟨_, rfl, j3, fun K hK => ?_⟩
        go_simp
        refine hK _ ?_
        clear hK K
        have jj3 := bb3.trans (j3.mono bb3.size)
        clear bb3 i3 ii3 j3
        clear e0 e1 e2 ef el g0 g1 g2 gf gl t0 t1 t2 tf tl
        obtain ⟨e0, e1, e2, ef, el⟩ := (U0.out.keep jj3).r2
        obtain ⟨g0, g1, g2, gf, gl⟩ := (U0.out.keep jj3).r3
        obtain ⟨t0, t1, t2, tf, tl⟩ := (U0.out.keep jj3).r1
        repeat (first | (refine plan_take _ (by first | exact wanted_free rfl | exact wanted_yes rfl rfl | exact wanted_no rfl rfl) (by first | with_reducible rfl | (simp [hq2, hw3]; done) | decide) ?_; apply Exists.intro; refine ⟨fun w' k1 => ?_, fun K hK => ?_⟩; (focus (have hc := Kept.cell k1; go_simp; first | done | rfl)); (go_simp; refine hK _ ?_; clear hK K)) | (refine plan_off _ (by first | exact wanted_yes rfl rfl | exact wanted_no rfl rfl | rfl) (by first | with_reducible rfl | (simp [hq2, hw3]; done) | rfl | decide) ?_; intro K hK; (try go_simp); refine hK _ ?_; clear hK K))
        refine plan_made _ (by first | exact wanted_free rfl | exact wanted_yes rfl rfl | exact wanted_no rfl rfl) (by first | with_reducible rfl | (simp [hq2, hw3]; done) | decide) fun u4 i4 => ?_
        have ii4 := Kept.below i4
        have bb4 := jj3.trans (ii4.mono jj3.size)
        refine made_callsR (by go_simp; first | done | rfl) ((PI3.out u4 (U0.out.m3.up bb4)).mono ?_)
        intro e vw4 h4
        obtain ⟨o4, p4, N4, rfl, hN4, WN4, j4⟩ := ansT h4
        clear h4 hN4 WN4
        refine ⟨_, rfl, j4, fun K hK => ?_⟩
        go_simp
        refine hK _ ?_
        clear hK K
        have jj4 := bb4.trans (j4.mono bb4.size)
        clear bb4 i4 ii4 j4
        clear e0 e1 e2 ef el g0 g1 g2 gf gl t0 t1 t2 tf tl
        obtain ⟨e0, e1, e2, ef, el⟩ := (U0.out.keep jj4).r2
        obtain ⟨g0, g1, g2, gf, gl⟩ := (U0.out.keep jj4).r3
        obtain ⟨t0, t1, t2, tf, tl⟩ := (U0.out.keep jj4).r1
        repeat (first | (refine plan_take _ (by first | exact wanted_free rfl | exact wanted_yes rfl rfl | exact wanted_no rfl rfl) (by first | with_reducible rfl | (simp [hq2, hw3]; done) | decide) ?_; apply Exists.intro; refine ⟨fun w' k1 => ?_, fun K hK => ?_⟩; (focus (have hc := Kept.cell k1; go_simp; first | done | rfl)); (go_simp; refine hK _ ?_; clear hK K)) | (refine plan_off _ (by first | exact wanted_yes rfl rfl | exact wanted_no rfl rfl | rfl) (by first | with_reducible rfl | (simp [hq2, hw3]; done) | rfl | decide) ?_; intro K hK; (try go_simp); refine hK _ ?_; clear hK K))
        refine plan_nil fun w13 k13 => ?_
        try simp only [List.drop_succ_cons, List.drop_zero]
        have U1 := hideP ((U0.out.keep jj4).keep (Kept.below k13))
        clear k13 jj1 jj3 jj4 U0 PS2 PS3 PI3
        clear e0 e1 e2 ef el g0 g1 g2 gf gl t0 t1 t2 tf tl
        obtain ⟨e0, e1, e2, ef, el⟩ := U1.out.r1
        obtain ⟨y0, y1, y2, y3, yl⟩ := U1.out.q
        by_cases hz0 : z1 = 0
        · as_aux_lemma =>
            subst hz0
            obtain ⟨A, t, hMt, hAl, ti, tx, ty, tw, th, tm, hst, hask, hdrop, hok, hsl⟩ := make_facts HZ1.out HM1.out
            rw [HV1.out] at ti hask hdrop hok hsl
            have hsm : M1.length + wzs M1 ≤ 1048576 := small_make sl rx ry rp rh LS1.out M1 HM1.out
            have PD := hideP (iDrop_any q1 d1 M1 v1 w13 U1.out.m1 hsm)
            rw [hask, hdrop] at PD
            have PF := hideP (fun W (l : Ws W 0 W.heap.size q1 M1) => iStack_any 0 W.heap.size q1 d1 M1 W l (Nat.le_refl _) hsm)
            rw [hst] at PF
            have hlt : A.length < M1.length := by rw [hMt]; simp
            have hM1 : M1.length = A.length + 1 := by rw [hMt]; simp
            have ht : M1[A.length] = t := by simp [hMt]
            have CE : Hid (∃ g o, q1 = some ⟨g, o, none⟩ ∧ ∀ W, Below w13.heap.size w13 W → Cl Wn.vals W g (o + A.length * 7) t) := hideP (by
              rcases U1.out.m1 with e | ⟨g, o, e, -, hg, hc⟩
              · rw [e] at hlt; simp at hlt
              · exact ⟨g, o, e, fun W k => by have := (hc A.length hlt).1; rw [ht] at this; exact this.keep k hg⟩)
            obtain ⟨g, o, hq, hcl⟩ := CE.out
            subst hq
            have HC := hideP hcl
            have hAL : (M1.length : Int) - 1 = (A.length : Int) := by omega
            have hL13 : (L1.length : Int) ≤ 13 := by omega
            have hml : (M1.length : Int) = (L1.length : Int) + 1 := by omega
            have hAi : (A.length : Int) < (M1.length : Int) := by omega
            have hAA : (A.length : Int) = (L1.length : Int) := by omega
            have HOK := hideP hok
            have HSL := hideP hsl
            clear hst hask hdrop hMt hAl hsm hlt hM1 ht CE hcl hok hsl
            obtain ⟨ti', tx', ty', tw', th', tm', ⟨bo, cb, gb, D⟩⟩ := t
            simp only at ti tx ty tw th tm
            subst ti tx ty tw th tm
            go_wp2_with fail
            refine Calls.mono PD.out ?_
            intro e w14 h
            obtain ⟨q9, d9, M9, rfl, hM9, WM9, k⟩ := ansT h
            have kb := kalC w14 (.cells #[.int .i64 0, .int .i64 0, .slice q9 M9.length d9] 30)
            have kk := k.trans (kb.mono k.size)
            have U2 := hideP (U1.out.keep kk)
            have HC2 := hideP (fun W (k2 : Below (w14.alloc (.cells #[.int .i64 0, .int .i64 0, .slice q9 M9.length d9] 30)).heap.size (w14.alloc (.cells #[.int .i64 0, .int .i64 0, .slice q9 M9.length d9] 30)) W) => HC.out W (kk.trans (k2.mono kk.size)))
            have W9 := hideP (WM9.up kb)
            have B9 := hideP (r3_new w14 (.int .i64 0) (.int .i64 0) (.slice q9 M9.length d9) 30)
            have HM9 := hideP hM9
            clear h kb kk k WM9 hM9 U1 HC PD e0 e1 e2 ef el y0 y1 y2 y3 yl
            obtain ⟨e0, e1, e2, ef, el⟩ := U2.out.r1
            obtain ⟨y0, y1, y2, y3, yl⟩ := U2.out.q
            go_wp2_with fail
            generalize w14.alloc (.cells #[.int .i64 0, .int .i64 0, .slice q9 M9.length d9] 30) = w15 at *
            generalize w14.heap.size = b9 at *
            obtain ⟨a0, a1, a2, a3, a4, a5, a6⟩ := (HC2.out w15 (Below.refl _ _)).seven
            obtain ⟨i0, i1, i2, i_f, il⟩ := B9.out
            have hgl : g < w15.heap.size := World.block_lt_of_cell? w15 _ a0
            have hwn : IntKind.i64.wrap ((M1.length : Int) - 1) = (A.length : Int) := (IntWalk.i64_in _ (by omega)).trans hAL
            have hwl : IntKind.i64.wrap ((L1.length : Int) + 1) = (M1.length : Int) := (IntWalk.i64_in _ (by omega)).trans hml.symm
            have SM := hideP (fun w1 (kk : Below w15.heap.size w15 w1) => iSameS_any 0 w15.heap.size 0 w15.heap.size q9 s1 d9 c1 M9 L1 w1 (W9.out.keep kk (Nat.le_refl _)) (U2.out.l1.keep kk (Nat.le_refl _)) kk.size kk.size (by rw [wzs_ct HM9.out, lenW HM9.out]; exact LS1.out) LS1.out)
            rw [decide_eq_true HM9.out] at SM
            have SO := hideP (fun w1 => iSlot_yes ti' w1 HOK.out)
            rw [HSL.out] at SO
            have hmL : (L1.length : Int) + 1 = (M1.length : Int) := hml.symm
            have hwM : IntKind.i64.wrap (M1.length : Int) = (M1.length : Int) := IntWalk.i64_in _ (by omega)
            clear hAL hml hAA
            have HGW := hideP hL13
            simp only [List.append_eq, List.cons_append, List.nil_append]
            refine wp_region_plan (R := Kept) (G := Kept) rel_keptA rel_keptA (fun h => h) 63 [(true, 0), (true, 1), (true, 2), (true, 3), (true, 4), (true, 5), (true, 6), (true, 7), (true, 8), (true, 9), (true, 10), (true, 11), (true, 12), (true, 13), (true, 14), (true, 15), (true, 16), (true, 17), (true, 18), (true, 19), (true, 20), (true, 21), (true, 22), (true, 23), (true, 24), (true, 25), (true, 26), (true, 27), (true, 28), (true, 29), (true, 30), (true, 31), (true, 32), (true, 33), (true, 34), (true, 35), (true, 36), (true, 37), (true, 38), (true, 39), (true, 40), (true, 41), (true, 42), (true, 43), (true, 44), (true, 45), (true, 46), (true, 47), (true, 48), (true, 49), (true, 50), (true, 51), (true, 52), (true, 53), (true, 54), (true, 55), (true, 56), (true, 57), (true, 58), (true, 59), (true, 60), (true, 61), (true, 62)] (by kernel_rfl) (by kernel_rfl) ?_
            simp only [selP, List.filterMap_cons, List.filterMap_nil, List.getElem?_cons_succ, List.getElem?_cons_zero, Option.map_some]
            repeat (refine plan_take _ (by first | exact wanted_free rfl | exact wanted_yes rfl rfl | exact wanted_no rfl rfl) (by first | with_reducible rfl | (simp [hwn, hwl, hmL, hwM]; done) | decide) ?_; apply Exists.intro; refine ⟨fun w' k1 => ?_, fun K hK => ?_⟩; (focus (have hc := Kept.cell k1; go_simp; first | done | (go_at_call 12; exact kept_call (Below.refl _ _) (PF.out _ (U2.out.m1.up (Kept.below k1)))) | (go_at_call 16; exact kept_call (Below.refl _ _) (SM.out _ (Kept.below k1))) | (go_at_call 17; exact kept_call (Below.refl _ _) (SO.out _)) | (simp only [hwn]; go_simp; first | done | rfl) | rfl)); (go_simp; refine hK _ ?_; clear hK K))

            refine plan_nil fun w17 k17 => ?_
            try simp only [List.drop_succ_cons, List.drop_zero]
            have U3 := hideP (U2.out.keep (Kept.below k17))
            clear k17 U2 PF SM SO
            go_wp2
            go_returns
            exact ⟨rfl, U3.out.k⟩
        · as_aux_lemma =>
            have hz1 : (z1 != 0) = true := by simpa using hz0
            have PF0 := hideP (fun W (l : Ws W 0 W.heap.size s1 L1) => iStack_any 0 W.heap.size s1 c1 L1 W l (Nat.le_refl _) LS1.out)
            have PG0 := hideP (fun W (l : Ws W 0 W.heap.size s1 L1) => sStack_any 0 W.heap.size s1 c1 L1 W l (Nat.le_refl _) LS1.out)
            obtain ⟨zf, hzf⟩ : ∃ z, stF (L1.map Wn.ct) = z := ⟨_, rfl⟩
            rw [hzf] at PF0 PG0
            clear hzf
            go_wp2
            refine wp_region_plan (R := Kept) (G := Kept) rel_keptA rel_keptA (fun h => h) 14 [(true, 0), (true, 1), (true, 2), (true, 5), (true, 6), (false, 3), (true, 4), (true, 7), (true, 8), (true, 9), (true, 10), (true, 11), (true, 12), (true, 13)] (by kernel_rfl) (by kernel_rfl) ?_
            simp only [selP, List.filterMap_cons, List.filterMap_nil, List.getElem?_cons_succ, List.getElem?_cons_zero, Option.map_some]
            repeat (refine plan_take _ (by first | exact wanted_free rfl | exact wanted_yes rfl rfl | exact wanted_no rfl rfl) (by first | with_reducible rfl | (simp; done) | decide) ?_; apply Exists.intro; refine ⟨fun w' k1 => ?_, fun K hK => ?_⟩; (focus (have hc := Kept.cell k1; go_simp; first | done | rfl)); (go_simp; refine hK _ ?_; clear hK K))

            refine plan_made _ (by first | exact wanted_free rfl | exact wanted_yes rfl rfl | exact wanted_no rfl rfl) (by first | with_reducible rfl | (simp; done) | decide) fun u6 i6 => ?_
            have ii6 := Kept.below i6
            have bb6 := ii6
            refine made_callsR (by go_simp; first | done | rfl) ((PS1.out u6 (U1.out.l1.up bb6)).mono ?_)
            intro e vw6 h6
            obtain ⟨o6, p6, N6, rfl, hN6, WN6, j6⟩ := ansT h6
            clear h6 hN6 WN6
            refine ⟨_, rfl, j6, fun K hK => ?_⟩
            go_simp
            refine hK _ ?_
            clear hK K
            have jj6 := bb6.trans (j6.mono bb6.size)
            clear bb6 i6 ii6 j6
            clear e0 e1 e2 ef el y0 y1 y2 y3 yl
            obtain ⟨e0, e1, e2, ef, el⟩ := (U1.out.keep jj6).r1
            repeat (refine plan_take _ (by first | exact wanted_free rfl | exact wanted_yes rfl rfl | exact wanted_no rfl rfl) (by first | with_reducible rfl | (simp; done) | decide) ?_; apply Exists.intro; refine ⟨fun w' k1 => ?_, fun K hK => ?_⟩; (focus (have hc := Kept.cell k1; go_simp; first | done | (go_at_call 12; exact kept_call (Below.refl _ _) (PF0.out _ (U1.out.l1.up (jj6.trans ((Kept.below k1).mono jj6.size))))) | (go_at_call 15; exact kept_call (Below.refl _ _) (PG0.out _ (U1.out.l1.up (jj6.trans ((Kept.below k1).mono jj6.size))))) | rfl)); (go_simp; refine hK _ ?_; clear hK K))

            refine plan_nil fun w18 k18 => ?_
            try simp only [List.drop_succ_cons, List.drop_zero]
            have U4 := hideP ((U1.out.keep jj6).keep (Kept.below k18))
            clear U1 k18 jj6
            go_wp2
            go_returns
            exact ⟨rfl, U4.out.k⟩

    · as_aux_lemma =>
        have hq2 : (z2 == 0) = false := beq_eq_false_iff_ne.2 hc2
        have hq3 : (z3 == 0) = false := beq_eq_false_iff_ne.2 hc3
        simp only [List.append_eq, List.cons_append, List.nil_append]
        refine wp_region_plan (R := Kept) (G := Kept) rel_keptA rel_keptA (fun h => h) 67 [(true, 0), (true, 1), (true, 2), (true, 3), (false, 4), (true, 5), (true, 6), (true, 7), (true, 8), (true, 9), (true, 10), (true, 11), (true, 12), (true, 13), (true, 14), (true, 15), (true, 16), (true, 17), (true, 18), (true, 19), (true, 20), (true, 21), (true, 22), (true, 23), (true, 24), (true, 25), (true, 26), (true, 27), (true, 28), (true, 29), (true, 30), (true, 31), (true, 32), (true, 33), (true, 34), (true, 35), (true, 36), (true, 37), (true, 38), (true, 39), (false, 40), (true, 41), (true, 42), (true, 43), (true, 44), (true, 45), (true, 46), (true, 47), (true, 48), (true, 49), (true, 50), (true, 51), (true, 52), (true, 53), (true, 54), (true, 55), (true, 56), (true, 57), (true, 58), (true, 59), (true, 60), (true, 61), (true, 62), (true, 63), (true, 64), (true, 65), (true, 66)] (by kernel_rfl) (by kernel_rfl) ?_
        simp only [selP, List.filterMap_cons, List.filterMap_nil, List.getElem?_cons_succ, List.getElem?_cons_zero, Option.map_some]
        repeat (first | (refine plan_take _ (by first | exact wanted_free rfl | exact wanted_yes rfl rfl | exact wanted_no rfl rfl) (by first | with_reducible rfl | (simp [hq2, hq3]; done) | decide) ?_; apply Exists.intro; refine ⟨fun w' k1 => ?_, fun K hK => ?_⟩; (focus (have hc := Kept.cell k1; go_simp; first | done | rfl)); (go_simp; refine hK _ ?_; clear hK K)) | (refine plan_off _ (by first | exact wanted_yes rfl rfl | exact wanted_no rfl rfl | rfl) (by first | with_reducible rfl | (simp [hq2, hq3]; done) | rfl | decide) ?_; intro K hK; (try go_simp); refine hK _ ?_; clear hK K))
        refine plan_made _ (by first | exact wanted_free rfl | exact wanted_yes rfl rfl | exact wanted_no rfl rfl) (by first | with_reducible rfl | (simp [hq2, hq3]; done) | decide) fun u1 i1 => ?_
        have ii1 := Kept.below i1
        have bb1 := ii1
        refine made_callsR (by go_simp; first | done | rfl) ((PS2.out u1 (U0.out.l2.up bb1)).mono ?_)
        intro e vw1 h1
        obtain ⟨o1, p1, N1, rfl, hN1, WN1, j1⟩ := ansT h1
        clear h1 hN1 WN1
        refine ⟨_, rfl, j1, fun K hK => ?_⟩
        go_simp
        refine hK _ ?_
        clear hK K
        have jj1 := bb1.trans (j1.mono bb1.size)
        clear bb1 i1 ii1 j1
        clear e0 e1 e2 ef el g0 g1 g2 gf gl t0 t1 t2 tf tl
        obtain ⟨e0, e1, e2, ef, el⟩ := (U0.out.keep jj1).r2
        obtain ⟨g0, g1, g2, gf, gl⟩ := (U0.out.keep jj1).r3
        obtain ⟨t0, t1, t2, tf, tl⟩ := (U0.out.keep jj1).r1
        repeat (first | (refine plan_take _ (by first | exact wanted_free rfl | exact wanted_yes rfl rfl | exact wanted_no rfl rfl) (by first | with_reducible rfl | (simp [hq2, hq3]; done) | decide) ?_; apply Exists.intro; refine ⟨fun w' k1 => ?_, fun K hK => ?_⟩; (focus (have hc := Kept.cell k1; go_simp; first | done | rfl)); (go_simp; refine hK _ ?_; clear hK K)) | (refine plan_off _ (by first | exact wanted_yes rfl rfl | exact wanted_no rfl rfl | rfl) (by first | with_reducible rfl | (simp [hq2, hq3]; done) | rfl | decide) ?_; intro K hK; (try go_simp); refine hK _ ?_; clear hK K))
        refine plan_made _ (by first | exact wanted_free rfl | exact wanted_yes rfl rfl | exact wanted_no rfl rfl) (by first | with_reducible rfl | (simp [hq2, hq3]; done) | decide) fun u3 i3 => ?_
        have ii3 := Kept.below i3
        have bb3 := jj1.trans (ii3.mono jj1.size)
        refine made_callsR (by go_simp; first | done | rfl) ((PS3.out u3 (U0.out.l3.up bb3)).mono ?_)
        intro e vw3 h3
        obtain ⟨o3, p3, N3, rfl, hN3, WN3, j3⟩ := ansT h3
        clear h3 hN3 WN3
        refine ⟨_, rfl, j3, fun K hK => ?_⟩
        go_simp
        refine hK _ ?_
        clear hK K
        have jj3 := bb3.trans (j3.mono bb3.size)
        clear bb3 i3 ii3 j3
        clear e0 e1 e2 ef el g0 g1 g2 gf gl t0 t1 t2 tf tl
        obtain ⟨e0, e1, e2, ef, el⟩ := (U0.out.keep jj3).r2
        obtain ⟨g0, g1, g2, gf, gl⟩ := (U0.out.keep jj3).r3
        obtain ⟨t0, t1, t2, tf, tl⟩ := (U0.out.keep jj3).r1
        repeat (first | (refine plan_take _ (by first | exact wanted_free rfl | exact wanted_yes rfl rfl | exact wanted_no rfl rfl) (by first | with_reducible rfl | (simp [hq2, hq3]; done) | decide) ?_; apply Exists.intro; refine ⟨fun w' k1 => ?_, fun K hK => ?_⟩; (focus (have hc := Kept.cell k1; go_simp; first | done | rfl)); (go_simp; refine hK _ ?_; clear hK K)) | (refine plan_off _ (by first | exact wanted_yes rfl rfl | exact wanted_no rfl rfl | rfl) (by first | with_reducible rfl | (simp [hq2, hq3]; done) | rfl | decide) ?_; intro K hK; (try go_simp); refine hK _ ?_; clear hK K))
        refine plan_nil fun w13 k13 => ?_
        try simp only [List.drop_succ_cons, List.drop_zero]
        have U1 := hideP ((U0.out.keep jj3).keep (Kept.below k13))
        clear k13 jj1 jj3 U0 PS2 PS3
        clear e0 e1 e2 ef el g0 g1 g2 gf gl t0 t1 t2 tf tl
        obtain ⟨e0, e1, e2, ef, el⟩ := U1.out.r1
        obtain ⟨y0, y1, y2, y3, yl⟩ := U1.out.q
        by_cases hz0 : z1 = 0
        · as_aux_lemma =>
            subst hz0
            obtain ⟨A, t, hMt, hAl, ti, tx, ty, tw, th, tm, hst, hask, hdrop, hok, hsl⟩ := make_facts HZ1.out HM1.out
            rw [HV1.out] at ti hask hdrop hok hsl
            have hsm : M1.length + wzs M1 ≤ 1048576 := small_make sl rx ry rp rh LS1.out M1 HM1.out
            have PD := hideP (iDrop_any q1 d1 M1 v1 w13 U1.out.m1 hsm)
            rw [hask, hdrop] at PD
            have PF := hideP (fun W (l : Ws W 0 W.heap.size q1 M1) => iStack_any 0 W.heap.size q1 d1 M1 W l (Nat.le_refl _) hsm)
            rw [hst] at PF
            have hlt : A.length < M1.length := by rw [hMt]; simp
            have hM1 : M1.length = A.length + 1 := by rw [hMt]; simp
            have ht : M1[A.length] = t := by simp [hMt]
            have CE : Hid (∃ g o, q1 = some ⟨g, o, none⟩ ∧ ∀ W, Below w13.heap.size w13 W → Cl Wn.vals W g (o + A.length * 7) t) := hideP (by
              rcases U1.out.m1 with e | ⟨g, o, e, -, hg, hc⟩
              · rw [e] at hlt; simp at hlt
              · exact ⟨g, o, e, fun W k => by have := (hc A.length hlt).1; rw [ht] at this; exact this.keep k hg⟩)
            obtain ⟨g, o, hq, hcl⟩ := CE.out
            subst hq
            have HC := hideP hcl
            have hAL : (M1.length : Int) - 1 = (A.length : Int) := by omega
            have hL13 : (L1.length : Int) ≤ 13 := by omega
            have hml : (M1.length : Int) = (L1.length : Int) + 1 := by omega
            have hAi : (A.length : Int) < (M1.length : Int) := by omega
            have hAA : (A.length : Int) = (L1.length : Int) := by omega
            have HOK := hideP hok
            have HSL := hideP hsl
            clear hst hask hdrop hMt hAl hsm hlt hM1 ht CE hcl hok hsl
            obtain ⟨ti', tx', ty', tw', th', tm', ⟨bo, cb, gb, D⟩⟩ := t
            simp only at ti tx ty tw th tm
            subst ti tx ty tw th tm
            go_wp2_with fail
            refine Calls.mono PD.out ?_
            intro e w14 h
            obtain ⟨q9, d9, M9, rfl, hM9, WM9, k⟩ := ansT h
            have kb := kalC w14 (.cells #[.int .i64 0, .int .i64 0, .slice q9 M9.length d9] 30)
            have kk := k.trans (kb.mono k.size)
            have U2 := hideP (U1.out.keep kk)
            have HC2 := hideP (fun W (k2 : Below (w14.alloc (.cells #[.int .i64 0, .int .i64 0, .slice q9 M9.length d9] 30)).heap.size (w14.alloc (.cells #[.int .i64 0, .int .i64 0, .slice q9 M9.length d9] 30)) W) => HC.out W (kk.trans (k2.mono kk.size)))
            have W9 := hideP (WM9.up kb)
            have B9 := hideP (r3_new w14 (.int .i64 0) (.int .i64 0) (.slice q9 M9.length d9) 30)
            have HM9 := hideP hM9
            clear h kb kk k WM9 hM9 U1 HC PD e0 e1 e2 ef el y0 y1 y2 y3 yl
            obtain ⟨e0, e1, e2, ef, el⟩ := U2.out.r1
            obtain ⟨y0, y1, y2, y3, yl⟩ := U2.out.q
            go_wp2_with fail
            generalize w14.alloc (.cells #[.int .i64 0, .int .i64 0, .slice q9 M9.length d9] 30) = w15 at *
            generalize w14.heap.size = b9 at *
            obtain ⟨a0, a1, a2, a3, a4, a5, a6⟩ := (HC2.out w15 (Below.refl _ _)).seven
            obtain ⟨i0, i1, i2, i_f, il⟩ := B9.out
            have hgl : g < w15.heap.size := World.block_lt_of_cell? w15 _ a0
            have hwn : IntKind.i64.wrap ((M1.length : Int) - 1) = (A.length : Int) := (IntWalk.i64_in _ (by omega)).trans hAL
            have hwl : IntKind.i64.wrap ((L1.length : Int) + 1) = (M1.length : Int) := (IntWalk.i64_in _ (by omega)).trans hml.symm
            have SM := hideP (fun w1 (kk : Below w15.heap.size w15 w1) => iSameS_any 0 w15.heap.size 0 w15.heap.size q9 s1 d9 c1 M9 L1 w1 (W9.out.keep kk (Nat.le_refl _)) (U2.out.l1.keep kk (Nat.le_refl _)) kk.size kk.size (by rw [wzs_ct HM9.out, lenW HM9.out]; exact LS1.out) LS1.out)
            rw [decide_eq_true HM9.out] at SM
            have SO := hideP (fun w1 => iSlot_yes ti' w1 HOK.out)
            rw [HSL.out] at SO
            have hmL : (L1.length : Int) + 1 = (M1.length : Int) := hml.symm
            have hwM : IntKind.i64.wrap (M1.length : Int) = (M1.length : Int) := IntWalk.i64_in _ (by omega)
            clear hAL hml hAA
            have HGW := hideP hL13
            simp only [List.append_eq, List.cons_append, List.nil_append]
            refine wp_region_plan (R := Kept) (G := Kept) rel_keptA rel_keptA (fun h => h) 63 [(true, 0), (true, 1), (true, 2), (true, 3), (true, 4), (true, 5), (true, 6), (true, 7), (true, 8), (true, 9), (true, 10), (true, 11), (true, 12), (true, 13), (true, 14), (true, 15), (true, 16), (true, 17), (true, 18), (true, 19), (true, 20), (true, 21), (true, 22), (true, 23), (true, 24), (true, 25), (true, 26), (true, 27), (true, 28), (true, 29), (true, 30), (true, 31), (true, 32), (true, 33), (true, 34), (true, 35), (true, 36), (true, 37), (true, 38), (true, 39), (true, 40), (true, 41), (true, 42), (true, 43), (true, 44), (true, 45), (true, 46), (true, 47), (true, 48), (true, 49), (true, 50), (true, 51), (true, 52), (true, 53), (true, 54), (true, 55), (true, 56), (true, 57), (true, 58), (true, 59), (true, 60), (true, 61), (true, 62)] (by kernel_rfl) (by kernel_rfl) ?_
            simp only [selP, List.filterMap_cons, List.filterMap_nil, List.getElem?_cons_succ, List.getElem?_cons_zero, Option.map_some]
            repeat (refine plan_take _ (by first | exact wanted_free rfl | exact wanted_yes rfl rfl | exact wanted_no rfl rfl) (by first | with_reducible rfl | (simp [hwn, hwl, hmL, hwM]; done) | decide) ?_; apply Exists.intro; refine ⟨fun w' k1 => ?_, fun K hK => ?_⟩; (focus (have hc := Kept.cell k1; go_simp; first | done | (go_at_call 12; exact kept_call (Below.refl _ _) (PF.out _ (U2.out.m1.up (Kept.below k1)))) | (go_at_call 16; exact kept_call (Below.refl _ _) (SM.out _ (Kept.below k1))) | (go_at_call 17; exact kept_call (Below.refl _ _) (SO.out _)) | (simp only [hwn]; go_simp; first | done | rfl) | rfl)); (go_simp; refine hK _ ?_; clear hK K))

            refine plan_nil fun w17 k17 => ?_
            try simp only [List.drop_succ_cons, List.drop_zero]
            have U3 := hideP (U2.out.keep (Kept.below k17))
            clear k17 U2 PF SM SO
            go_wp2
            go_returns
            exact ⟨rfl, U3.out.k⟩
        · as_aux_lemma =>
            have hz1 : (z1 != 0) = true := by simpa using hz0
            have PF0 := hideP (fun W (l : Ws W 0 W.heap.size s1 L1) => iStack_any 0 W.heap.size s1 c1 L1 W l (Nat.le_refl _) LS1.out)
            have PG0 := hideP (fun W (l : Ws W 0 W.heap.size s1 L1) => sStack_any 0 W.heap.size s1 c1 L1 W l (Nat.le_refl _) LS1.out)
            obtain ⟨zf, hzf⟩ : ∃ z, stF (L1.map Wn.ct) = z := ⟨_, rfl⟩
            rw [hzf] at PF0 PG0
            clear hzf
            go_wp2
            refine wp_region_plan (R := Kept) (G := Kept) rel_keptA rel_keptA (fun h => h) 14 [(true, 0), (true, 1), (true, 2), (true, 5), (true, 6), (false, 3), (true, 4), (true, 7), (true, 8), (true, 9), (true, 10), (true, 11), (true, 12), (true, 13)] (by kernel_rfl) (by kernel_rfl) ?_
            simp only [selP, List.filterMap_cons, List.filterMap_nil, List.getElem?_cons_succ, List.getElem?_cons_zero, Option.map_some]
            repeat (refine plan_take _ (by first | exact wanted_free rfl | exact wanted_yes rfl rfl | exact wanted_no rfl rfl) (by first | with_reducible rfl | (simp; done) | decide) ?_; apply Exists.intro; refine ⟨fun w' k1 => ?_, fun K hK => ?_⟩; (focus (have hc := Kept.cell k1; go_simp; first | done | rfl)); (go_simp; refine hK _ ?_; clear hK K))

            refine plan_made _ (by first | exact wanted_free rfl | exact wanted_yes rfl rfl | exact wanted_no rfl rfl) (by first | with_reducible rfl | (simp; done) | decide) fun u6 i6 => ?_
            have ii6 := Kept.below i6
            have bb6 := ii6
            refine made_callsR (by go_simp; first | done | rfl) ((PS1.out u6 (U1.out.l1.up bb6)).mono ?_)
            intro e vw6 h6
            obtain ⟨o6, p6, N6, rfl, hN6, WN6, j6⟩ := ansT h6
            clear h6 hN6 WN6
            refine ⟨_, rfl, j6, fun K hK => ?_⟩
            go_simp
            refine hK _ ?_
            clear hK K
            have jj6 := bb6.trans (j6.mono bb6.size)
            clear bb6 i6 ii6 j6
            clear e0 e1 e2 ef el y0 y1 y2 y3 yl
            obtain ⟨e0, e1, e2, ef, el⟩ := (U1.out.keep jj6).r1
            repeat (refine plan_take _ (by first | exact wanted_free rfl | exact wanted_yes rfl rfl | exact wanted_no rfl rfl) (by first | with_reducible rfl | (simp; done) | decide) ?_; apply Exists.intro; refine ⟨fun w' k1 => ?_, fun K hK => ?_⟩; (focus (have hc := Kept.cell k1; go_simp; first | done | (go_at_call 12; exact kept_call (Below.refl _ _) (PF0.out _ (U1.out.l1.up (jj6.trans ((Kept.below k1).mono jj6.size))))) | (go_at_call 15; exact kept_call (Below.refl _ _) (PG0.out _ (U1.out.l1.up (jj6.trans ((Kept.below k1).mono jj6.size))))) | rfl)); (go_simp; refine hK _ ?_; clear hK K))

            refine plan_nil fun w18 k18 => ?_
            try simp only [List.drop_succ_cons, List.drop_zero]
            have U4 := hideP ((U1.out.keep jj6).keep (Kept.below k18))
            clear U1 k18 jj6
            go_wp2
            go_returns
            exact ⟨rfl, U4.out.k⟩


theorem stacks_law (a : Option Addr) (len cap : Nat) (zs : List Int) (w : World) (h : IsRow .u8 w a len cap zs) :
    Calls Try.prog 3 #[.slice a len cap] w fun e w' => e = .returned (.bool true) ∧ Below w.heap.size w w' := by
  have hm : len ≤ maxLen := by
    rcases h with ⟨_, h, _⟩ | ⟨x, _, h1, h2, _⟩
    · rw [h]; exact Nat.zero_le _
    · omega
  by_cases hl : len ≤ 1048576
  · exact stacks_small w a len cap _ h.bytes hm hl
  · exact stacks_big w a len cap hm (by omega)
end Go.Proofs.Ytejgcheddloffaa
