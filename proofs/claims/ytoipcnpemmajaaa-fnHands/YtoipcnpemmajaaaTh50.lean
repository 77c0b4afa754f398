/- FnHands: the law's walk. (Written by mkhh1.py.) -/
import Derived.Test.YtoipcnpemmajaaaTh28
import Derived.Test.YtoipcnpemmajaaaTh49
import Derived.Test.YtoipcnpemmajaaaTh39
import Derived.Test.YtoipcnpemmajaaaTh41
import Derived.Test.YtoipcnpemmajaaaTh24
import Derived.Test.YtoipcnpemmajaaaTh27
import Derived.Test.YtoipcnpemmajaaaTh0
import Derived.Test.YtoipcnpemmajaaaTh1
namespace Go.Proofs.Ytoipcnpemmajaaa
open Go.RowKit Go.Maps
set_option linter.unusedVariables false
attribute [local go_sem] growUpon growAt growUponR growAtR
attribute [local go_sem high] fH0 fH1 fH2 eqInp

set_option maxRecDepth 100000 in
set_option maxHeartbeats 2000000 in
theorem hands_big (w : World) (a : Option Addr) (len cap : Nat) (hl : len ≤ maxLen) (h : 1048576 < len) :
    Calls Try.prog 3 #[.slice a len cap] w fun e w' => e = .returned (.bool true) ∧ Below w.heap.size w w' := by
  have hb := bigH w a len cap hl
  rw [decide_eq_true (by omega : (1048576 : Int) < (len : Int))] at hb
  go_enter Try.func3, Try.ntmps3
  go_wp2_with fail
  refine Calls.mono hb ?_
  rintro e w1 ⟨rfl, rfl⟩
  go_wp2
  go_returns
  exact ⟨rfl, Below.refl _ _⟩

/-- An answer's numbers. -/
theorem rt_outR {r : Rt} {W w' : World} {e : Ending} (h : RtA r W e w') : ∃ (s : Option Addr) (n c : Nat), e = .returned (.agg #[.int .i64 r.z, .int .i64 r.tg, .int .i64 r.kd, .slice s n c, .bool r.tr, .int .i64 r.fo]) ∧ Below W.heap.size W w' := rt_out h
theorem rt_outA {f : Int} {W w' : World} {e : Ending} (h : RtA ⟨0, 0, 0, [], true, f⟩ W e w') : ∃ (s : Option Addr) (n c : Nat), e = .returned (.agg #[.int .i64 0, .int .i64 0, .int .i64 0, .slice s n c, .bool true, .int .i64 f]) ∧ Below W.heap.size W w' := rt_out h
theorem rt_outB {r : Rt} {f : Int} {W w' : World} {e : Ending} (h : RtA r W e w') (ht : r.tg = 0) (hf : r.fo = f) : ∃ (z kd : Int) (s : Option Addr) (n c : Nat) (tr : Bool), e = .returned (.agg #[.int .i64 z, .int .i64 0, .int .i64 kd, .slice s n c, .bool tr, .int .i64 f]) ∧ Below W.heap.size W w' := by
  obtain ⟨s, n, c, he, k⟩ := rt_out h
  rw [ht, hf] at he
  exact ⟨_, _, s, n, c, _, he, k⟩
/-- What stands in memory. -/
structure HA (w W : World) (s1 s2 : Option Addr) (L1 L2 : List Wn) (b1 h1 r1 b7 b9 : Nat) (tr1 : Bool) (fo1 k x y : Int) (z tg kd : Int) (sv : Value) (rtr : Bool) (rfo : Int) (tr2 : Bool) (fo2 lf : Int) : Prop where
  kw : Below w.heap.size w W
  l1 : Ws W 0 W.heap.size s1 L1
  l2 : Ws W 0 W.heap.size s2 L2
  i : Rb W b1 (.bool tr1) (.int .i64 fo1)
  h : R3 W h1 (.int .i64 k) (.int .i64 x) (.int .i64 y)
  r : R6 W r1 (.int .i64 z) (.int .i64 tg) (.int .i64 kd) sv (.bool rtr) (.int .i64 rfo)
  j : Rb W b7 (.bool tr2) (.int .i64 fo2)
  o : Rb W b9 (.bool tr2) (.int .i64 lf)
theorem HA.keep {w W W' : World} {s1 s2 : Option Addr} {L1 L2 : List Wn} {b1 h1 r1 b7 b9 : Nat} {tr1 : Bool} {fo1 k x y : Int} {z tg kd : Int} {sv : Value} {rtr : Bool} {rfo : Int} {tr2 : Bool} {fo2 lf : Int} (h : HA w W s1 s2 L1 L2 b1 h1 r1 b7 b9 tr1 fo1 k x y z tg kd sv rtr rfo tr2 fo2 lf) (kk : Below W.heap.size W W') : HA w W' s1 s2 L1 L2 b1 h1 r1 b7 b9 tr1 fo1 k x y z tg kd sv rtr rfo tr2 fo2 lf :=
  ⟨h.kw.trans (kk.mono h.kw.size), h.l1.upH kk, h.l2.upH kk, h.i.keep kk h.i.lt, h.h.keep kk h.h.lt, h.r.keep kk h.r.lt, h.j.keep kk h.j.lt, h.o.keep kk h.o.lt⟩

set_option maxRecDepth 100000 in
set_option maxHeartbeats 4000000 in
theorem hands_small (w : World) (a : Option Addr) (len cap : Nat) (f : Nat → Int) (hB : Bytes w w.heap.size a len f) (hlm : len ≤ maxLen) (hl : len ≤ 1048576) :
    Calls Try.prog 3 #[.slice a len cap] w fun e w' => e = .returned (.bool true) ∧ Below w.heap.size w w' := by
  have hb := bigH w a len cap hlm
  rw [decide_eq_false (by omega : ¬ (1048576 : Int) < (len : Int))] at hb
  have HB := hideP hB
  clear hB
  go_enter Try.func3, Try.ntmps3
  go_wp2_with fail
  refine Calls.mono hb ?_
  rintro e w0 ⟨rfl, hw0⟩
  subst w0
  clear hb
  go_wp2_with fail
  refine Calls.mono (drawRoute_any w a len cap f HB.out hl) ?_
  rintro e w1 ⟨tr1, fo1, s1, c1, L1, vs, rfl, ⟨k, x, y, rfl⟩, hL1, hz1, kk, WL⟩
  simp only [List.append_toArray, List.cons_append, List.nil_append]
  have K_0 := hideP kk
  have A1_0 := hideP (WL.wide (lo' := 0) (Nat.zero_le _) (Nat.le_refl _))
  have LS1 : Hid (L1.length + wzs L1 ≤ 1048576) := hideP (by omega)
  clear kk WL hL1 hz1
  have kb := kalC w1 (.cells #[.bool tr1, .int .i64 fo1] 25)
  have K_1 := hideP (K_0.out.trans (kb.mono K_0.out.size))
  have A1_1 := hideP (A1_0.out.upH kb)
  clear K_0 A1_0
  have I_1 := hideP (rb_newH w1 (.bool tr1) (.int .i64 fo1) 25)
  clear kb
  have kb := kalC (w1.alloc (.cells #[.bool tr1, .int .i64 fo1] 25)) (.cells #[.int .i64 k, .int .i64 x, .int .i64 y] 28)
  have K_2 := hideP (K_1.out.trans (kb.mono K_1.out.size))
  have A1_2 := hideP (A1_1.out.upH kb)
  have I_2 := hideP (I_1.out.keep kb I_1.out.lt)
  clear K_1 A1_1 I_1
  have H_2 := hideP (r3_new (w1.alloc (.cells #[.bool tr1, .int .i64 fo1] 25)) (.int .i64 k) (.int .i64 x) (.int .i64 y) 28)
  clear kb
  have H_2 : Hid (R3 ((w1.alloc (.cells #[.bool tr1, .int .i64 fo1] 25)).alloc (.cells #[.int .i64 k, .int .i64 x, .int .i64 y] 28)) (w1.heap.size + 1) (.int .i64 k) (.int .i64 x) (.int .i64 y)) := hideP (by have := H_2.out; simpa only [World.size_alloc] using this)
  go_wp2_with fail
  generalize w1.alloc (.cells #[.bool tr1, .int .i64 fo1] 25) = w2 at *
  generalize w1.heap.size = b1 at *
  generalize w2.alloc (.cells #[.int .i64 k, .int .i64 x, .int .i64 y] 28) = w3 at *
  have PR := hideP (iRoute_any tr1 fo1 k x y s1 c1 L1 w3 A1_2.out LS1.out)
  obtain ⟨R, hR⟩ : ∃ R, rtR (L1.map Wn.ct) tr1 fo1 k x y = R := ⟨_, rfl⟩
  rw [hR] at PR
  have HR := hideP hR
  clear hR
  refine Calls.mono PR.out ?_
  intro e w4 h
  obtain ⟨sr, nr, cr, rfl, kk⟩ := rt_outR h
  clear h PR
  obtain ⟨z, tg, kd, D, rtr, rfo⟩ := R
  have K_3 := hideP (K_2.out.trans (kk.mono K_2.out.size))
  have A1_3 := hideP (A1_2.out.upH kk)
  have I_3 := hideP (I_2.out.keep kk I_2.out.lt)
  have H_3 := hideP (H_2.out.keep kk H_2.out.lt)
  clear K_2 A1_2 I_2 H_2
  clear kk
  have kb := kalC w4 (.cells #[.int .i64 z, .int .i64 tg, .int .i64 kd, .slice sr nr cr, .bool rtr, .int .i64 rfo] 34)
  have K_4 := hideP (K_3.out.trans (kb.mono K_3.out.size))
  have A1_4 := hideP (A1_3.out.upH kb)
  have I_4 := hideP (I_3.out.keep kb I_3.out.lt)
  have H_4 := hideP (H_3.out.keep kb H_3.out.lt)
  clear K_3 A1_3 I_3 H_3
  have R_4 := hideP (r6_new w4 (.int .i64 z) (.int .i64 tg) (.int .i64 kd) (.slice sr nr cr) (.bool rtr) (.int .i64 rfo) 34)
  clear kb
  go_wp2_with fail
  generalize w4.alloc (.cells #[.int .i64 z, .int .i64 tg, .int .i64 kd, .slice sr nr cr, .bool rtr, .int .i64 rfo] 34) = w5 at *
  generalize w4.heap.size = r1 at *
  refine Calls.mono (drawLose_any w5 a len cap f (HB.out.upH K_4.out) hl) ?_
  rintro e w6 ⟨tr2, fo2, s2, c2, L2, vs, rfl, rfl, hL2, hz2, kk, WL⟩
  simp only [Array.append_empty]
  have K_5 := hideP (K_4.out.trans (kk.mono K_4.out.size))
  have A1_5 := hideP (A1_4.out.upH kk)
  have I_5 := hideP (I_4.out.keep kk I_4.out.lt)
  have H_5 := hideP (H_4.out.keep kk H_4.out.lt)
  have R_5 := hideP (R_4.out.keep kk R_4.out.lt)
  clear K_4 A1_4 I_4 H_4 R_4
  have A2_5 := hideP (WL.wide (lo' := 0) (Nat.zero_le _) (Nat.le_refl _))
  have LS2 : Hid (L2.length + wzs L2 ≤ 1048576) := hideP (by omega)
  clear kk WL hL2 hz2
  have kb := kalC w6 (.cells #[.bool tr2, .int .i64 fo2] 25)
  have K_6 := hideP (K_5.out.trans (kb.mono K_5.out.size))
  have A1_6 := hideP (A1_5.out.upH kb)
  have I_6 := hideP (I_5.out.keep kb I_5.out.lt)
  have H_6 := hideP (H_5.out.keep kb H_5.out.lt)
  have R_6 := hideP (R_5.out.keep kb R_5.out.lt)
  have A2_6 := hideP (A2_5.out.upH kb)
  clear K_5 A1_5 I_5 H_5 R_5 A2_5
  have J_6 := hideP (rb_newH w6 (.bool tr2) (.int .i64 fo2) 25)
  clear kb
  go_wp2_with fail
  generalize w6.alloc (.cells #[.bool tr2, .int .i64 fo2] 25) = w7 at *
  generalize w6.heap.size = b7 at *
  refine Calls.mono (iLose_any 0 w7.heap.size tr2 fo2 s2 c2 L2 w7 A2_6.out (Nat.le_refl _) LS2.out) ?_
  rintro e w8 ⟨rfl, kk⟩
  obtain ⟨lf, hlf⟩ : ∃ v, loseF (L2.map Wn.ct) fo2 = v := ⟨_, rfl⟩
  rw [hlf]
  have K_7 := hideP (K_6.out.trans (kk.mono K_6.out.size))
  have A1_7 := hideP (A1_6.out.upH kk)
  have I_7 := hideP (I_6.out.keep kk I_6.out.lt)
  have H_7 := hideP (H_6.out.keep kk H_6.out.lt)
  have R_7 := hideP (R_6.out.keep kk R_6.out.lt)
  have A2_7 := hideP (A2_6.out.upH kk)
  have J_7 := hideP (J_6.out.keep kk J_6.out.lt)
  clear K_6 A1_6 I_6 H_6 R_6 A2_6 J_6
  clear kk
  have kb := kalC w8 (.cells #[.bool tr2, .int .i64 lf] 25)
  have K_8 := hideP (K_7.out.trans (kb.mono K_7.out.size))
  have A1_8 := hideP (A1_7.out.upH kb)
  have I_8 := hideP (I_7.out.keep kb I_7.out.lt)
  have H_8 := hideP (H_7.out.keep kb H_7.out.lt)
  have R_8 := hideP (R_7.out.keep kb R_7.out.lt)
  have A2_8 := hideP (A2_7.out.upH kb)
  have J_8 := hideP (J_7.out.keep kb J_7.out.lt)
  clear K_7 A1_7 I_7 H_7 R_7 A2_7 J_7
  have O_8 := hideP (rb_newH w8 (.bool tr2) (.int .i64 lf) 25)
  clear kb
  have PL := hideP (fun W (h : Ws W 0 W.heap.size s2 L2) => sLose_any 0 W.heap.size tr2 fo2 s2 c2 L2 W h (Nat.le_refl _) LS2.out)
  have PI := hideP (fun W (h : Ws W 0 W.heap.size s1 L1) => iInput_any 0 W.heap.size tr1 fo1 s1 c1 L1 W h (Nat.le_refl _) LS1.out)
  have PS := hideP (fun W (h : Ws W 0 W.heap.size s1 L1) => sInput_any 0 W.heap.size tr1 fo1 s1 c1 L1 W h (Nat.le_refl _) LS1.out)
  have PT := hideP (fun W (h : Ws W 0 W.heap.size s2 L2) => iStack_any 0 W.heap.size s2 c2 L2 W h (Nat.le_refl _) LS2.out)
  have PJ := hideP (fun W (h : Ws W 0 W.heap.size s2 L2) => iInput_any 0 W.heap.size tr2 lf s2 c2 L2 W h (Nat.le_refl _) LS2.out)
  have HLF : Hid (stF (L2.map Wn.ct) = 0 → inpF (L2.map Wn.ct) lf = 0) := hideP (fun h => by rw [← hlf]; exact lose_inp h)
  rw [hlf] at PL
  clear hlf
  obtain ⟨F1, hF1⟩ : ∃ v, inpF (L1.map Wn.ct) fo1 = v := ⟨_, rfl⟩
  obtain ⟨F2, hF2⟩ : ∃ v, stF (L2.map Wn.ct) = v := ⟨_, rfl⟩
  obtain ⟨F3, hF3⟩ : ∃ v, inpF (L2.map Wn.ct) lf = v := ⟨_, rfl⟩
  rw [hF1] at PI PS
  rw [hF2] at PT HLF
  rw [hF3] at PJ HLF
  have HF1 := hideP hF1
  clear hF1 hF2 hF3
  go_wp2_with fail
  generalize w8.alloc (.cells #[.bool tr2, .int .i64 lf] 25) = w9 at *
  generalize w8.heap.size = b9 at *
  have U0 := hideP (HA.mk K_8.out A1_8.out A2_8.out I_8.out H_8.out R_8.out J_8.out O_8.out)
  clear K_8 A1_8 I_8 H_8 R_8 A2_8 J_8 O_8
  obtain ⟨i0, i1, if0, if1, il⟩ := U0.out.i
  obtain ⟨h0, h1', h2, hf, hl'⟩ := U0.out.h
  obtain ⟨r0, r1', r2, r3, r4, r5, rf, rl⟩ := U0.out.r
  obtain ⟨j0, j1, jf0, jf1, jl⟩ := U0.out.j
  obtain ⟨o0, o1, of0, of1, ol⟩ := U0.out.o
  refine wp_region_plan (R := Kept) (G := Kept) rel_keptA rel_keptA (fun h => h) 25 [(true, 0), (true, 1), (true, 2), (true, 3), (true, 4), (true, 5), (true, 6), (true, 7), (true, 8), (true, 9), (true, 10), (true, 11), (true, 12), (true, 13), (true, 14), (true, 15), (true, 16), (true, 17), (true, 18), (true, 19), (true, 20), (true, 21), (true, 22), (true, 23), (true, 24)] (by kernel_rfl) (by kernel_rfl) ?_
  simp only [selP, List.filterMap_cons, List.filterMap_nil, List.getElem?_cons_succ, List.getElem?_cons_zero, Option.map_some]
  by_cases hF2 : F2 = 0
  · subst hF2
    have hF3 := HLF.out rfl
    subst hF3
    iterate 15 (first | (refine plan_take _ (by first | exact wanted_free rfl | exact wanted_yes rfl rfl | exact wanted_no rfl rfl) (by first | with_reducible rfl | (simp; done) | decide) ?_; apply Exists.intro; refine ⟨fun w' k1 => ?_, fun K hK => ?_⟩; (focus (have hc := Kept.cell k1; go_simp; first | done | (go_at_call 14; exact kept_call (Below.refl _ _) (PL.out _ (U0.out.l2.upH (Kept.below k1)))) | (go_at_call 15; exact kept_call (Below.refl _ _) (PI.out _ (U0.out.l1.upH (Kept.below k1)))) | (go_at_call 16; exact kept_call (Below.refl _ _) (PS.out _ (U0.out.l1.upH (Kept.below k1)))) | rfl)); (go_simp; refine hK _ ?_; clear hK K)) | (refine plan_off _ (by first | exact wanted_yes rfl rfl | exact wanted_no rfl rfl | rfl) (by first | with_reducible rfl | (simp; done) | rfl | decide) ?_; intro K hK; (try go_simp); refine hK _ ?_; clear hK K))
    repeat (first | (refine plan_take _ (by first | exact wanted_free rfl | exact wanted_yes rfl rfl | exact wanted_no rfl rfl) (by first | with_reducible rfl | (simp; done) | decide) ?_; apply Exists.intro; refine ⟨fun w' k1 => ?_, fun K hK => ?_⟩; (focus (have hc := Kept.cell k1; go_simp; first | done | (go_at_call 17; exact kept_call (Below.refl _ _) (PT.out _ (U0.out.l2.upH (Kept.below k1)))) | (go_at_call 15; exact kept_call (Below.refl _ _) (PJ.out _ (U0.out.l2.upH (Kept.below k1)))) | rfl)); (go_simp; refine hK _ ?_; clear hK K)) | (refine plan_off _ (by first | exact wanted_yes rfl rfl | exact wanted_no rfl rfl | rfl) (by first | with_reducible rfl | (simp; done) | rfl | decide) ?_; intro K hK; (try go_simp); refine hK _ ?_; clear hK K))
    refine plan_nil fun w10 k10 => ?_
    try simp only [List.drop_succ_cons, List.drop_zero]
    have U1 := hideP (U0.out.keep (Kept.below k10))
    clear k10 U0 PL PS PT PJ HLF
    clear i0 i1 if0 if1 il h0 h1' h2 hf hl' r0 r1' r2 r3 r4 r5 rf rl j0 j1 jf0 jf1 jl o0 o1 of0 of1 ol
    by_cases hz0 : z = 0
    · subst hz0
      have hz : (rtR (L1.map Wn.ct) tr1 fo1 k x y).z = 0 := by rw [HR.out]
      have hin := (rt_ok hz).1
      have hha := (rt_ok hz).2.1
      have hrf : Hid (inpF (L1.map Wn.ct) rfo = 0) := hideP (by have := rt_inp hz; rw [HR.out] at this; exact this)
      have HZ := hideP hz
      clear hz
      obtain ⟨i0, i1, if0, if1, il⟩ := U1.out.i
      obtain ⟨h0, h1', h2, hf, hl'⟩ := U1.out.h
      obtain ⟨r0, r1', r2, r3, r4, r5, rf, rl⟩ := U1.out.r
      have PA := hideP (iRoute_any tr1 fo1 3 0 0 s1 c1 L1 w10 U1.out.l1 LS1.out)
      rw [rt_att hin] at PA
      obtain ⟨ht0, ht1, -⟩ := rt_tru hin hha
      have HT0 := hideP ht0
      have HT1 := hideP ht1
      clear hin hha ht0 ht1
      go_wp2_with fail
      refine Calls.mono PA.out ?_
      intro e w11 h
      obtain ⟨sa, na, ca, rfl, kk⟩ := rt_outA h
      clear h PA
      have kb := kk.trans ((kalC w11 (.cells #[.int .i64 0, .int .i64 0, .int .i64 0, .slice sa na ca, .bool true, .int .i64 fo1] 34)).mono kk.size)
      have U2 := hideP (U1.out.keep kb)
      have RA := hideP (r6_new w11 (.int .i64 0) (.int .i64 0) (.int .i64 0) (.slice sa na ca) (.bool true) (.int .i64 fo1) 34)
      clear kk kb U1
      clear i0 i1 if0 if1 il h0 h1' h2 hf hl' r0 r1' r2 r3 r4 r5 rf rl
      obtain ⟨a0, a1, a2, a3, a4, a5, af, al⟩ := RA.out
      obtain ⟨i0, i1, if0, if1, il⟩ := U2.out.i
      obtain ⟨h0, h1', h2, hf, hl'⟩ := U2.out.h
      obtain ⟨r0, r1', r2, r3, r4, r5, rf, rl⟩ := U2.out.r
      go_wp2_with fail
      generalize w11.alloc (.cells #[.int .i64 0, .int .i64 0, .int .i64 0, .slice sa na ca, .bool true, .int .i64 fo1] 34) = w12 at *
      generalize w11.heap.size = ra at *
      have PB := hideP (iRoute_any true fo1 k x y s1 c1 L1 w12 U2.out.l1 LS1.out)
      refine Calls.mono PB.out ?_
      intro e w13 h
      obtain ⟨zb, kb', sb, nb, cb, trb, rfl, kk⟩ := rt_outB h HT0.out HT1.out
      clear h PB HT0 HT1 a0 a1 a2 a3 a4 a5 af al
      clear i0 i1 if0 if1 il h0 h1' h2 hf hl' r0 r1' r2 r3 r4 r5 rf rl
      have U3 := hideP (U2.out.keep kk)
      have U4 := hideP (U3.out.keep (kalC w13 (.cells #[.int .i64 zb, .int .i64 0, .int .i64 kb', .slice sb nb cb, .bool trb, .int .i64 fo1] 34)))
      have RA3 := hideP (RA.out.keep kk RA.out.lt)
      clear kk U2 RA
      have SR := hideP (fun W (h : Ws W 0 W.heap.size s1 L1) => sRoute_any tr1 fo1 k x y s1 c1 L1 W h LS1.out)
      rw [HR.out] at SR
      have PF := hideP (fun W (h : Ws W 0 W.heap.size s1 L1) => iInput_any 0 W.heap.size rtr rfo s1 c1 L1 W h (Nat.le_refl _) LS1.out)
      rw [hrf.out] at PF
      obtain ⟨i0, i1, if0, if1, il⟩ := U3.out.i
      obtain ⟨h0, h1', h2, hf, hl'⟩ := U3.out.h
      obtain ⟨r0, r1', r2, r3, r4, r5, rf, rl⟩ := U3.out.r
      obtain ⟨a0, a1, a2, a3, a4, a5, af, al⟩ := RA3.out
      have n1 : ¬ b1 = w13.heap.size := Nat.ne_of_lt il
      have n2 : ¬ b1 + 1 = w13.heap.size := Nat.ne_of_lt hl'
      have n3 : ¬ r1 = w13.heap.size := Nat.ne_of_lt rl
      have n4 : ¬ ra = w13.heap.size := Nat.ne_of_lt al
      clear U3 RA3
      cases tr1
      · by_cases hk1 : k = 1
        · subst hk1
          have htg : fo1 = tg := by have := (rt_key HZ.out (by decide) (by decide) (by decide)).1; rw [HR.out] at this; exact this.symm
          subst htg
          go_wp2
          clear i0 i1 if0 if1 il h0 h1' h2 hf hl' r0 r1' r2 r3 r4 r5 rf rl
          clear a0 a1 a2 a3 a4 a5 af al n1 n2 n3 n4
          generalize w13.alloc (.cells #[.int .i64 zb, .int .i64 0, .int .i64 kb', .slice sb nb cb, .bool trb, .int .i64 fo1] 34) = w14 at *
          generalize w13.heap.size = rb at *
          obtain ⟨i0, i1, if0, if1, il⟩ := U4.out.i
          obtain ⟨h0, h1', h2, hf, hl'⟩ := U4.out.h
          obtain ⟨r0, r1', r2, r3, r4, r5, rf, rl⟩ := U4.out.r
          refine wp_region_plan (R := Kept) (G := Kept) rel_keptA rel_keptA (fun h => h) 30 [(true, 0), (true, 1), (true, 2), (true, 3), (true, 4), (true, 5), (true, 6), (true, 7), (true, 8), (true, 9), (true, 10), (true, 11), (true, 12), (true, 13), (true, 14), (true, 15), (true, 16), (true, 17), (true, 18), (true, 19), (true, 20), (true, 21), (true, 22), (true, 23), (true, 24), (true, 25), (true, 26), (false, 27), (true, 28), (true, 29)] (by kernel_rfl) (by kernel_rfl) ?_
          simp only [selP, List.filterMap_cons, List.filterMap_nil, List.getElem?_cons_succ, List.getElem?_cons_zero, Option.map_some]
          repeat (first | (refine plan_take _ (by first | exact wanted_free rfl | exact wanted_yes rfl rfl | exact wanted_no rfl rfl) (by first | with_reducible rfl | (simp; done) | decide) ?_; apply Exists.intro; refine ⟨fun w' k1 => ?_, fun K hK => ?_⟩; (focus (have hc := Kept.cell k1; go_simp; first | done | (go_at_call 15; exact kept_call (Below.refl _ _) (PF.out _ (U4.out.l1.upH (Kept.below k1)))) | rfl)); (go_simp; refine hK _ ?_; clear hK K)) | (refine plan_off _ (by first | exact wanted_yes rfl rfl | exact wanted_no rfl rfl | rfl) (by first | with_reducible rfl | (simp; done) | rfl | decide) ?_; intro K hK; (try go_simp); refine hK _ ?_; clear hK K))
          refine plan_made _ (by first | exact wanted_free rfl | exact wanted_yes rfl rfl | exact wanted_no rfl rfl) (by first | with_reducible rfl | (simp; done) | decide) fun u1 i1 => ?_
          have ii1 := Kept.below i1
          have bb1 := ii1
          refine made_callsR (by go_simp; first | done | rfl) ((SR.out u1 (U4.out.l1.upH bb1)).mono ?_)
          intro e v1 h1
          obtain ⟨q1, m1, d1, rfl, j1⟩ := rt_outR h1
          clear h1
          refine ⟨_, rfl, j1, fun K hK => ?_⟩
          go_simp
          refine hK _ ?_
          clear hK K
          have jj1 := bb1.trans (j1.mono bb1.size)
          clear bb1 i1 ii1 j1
          clear i0 i1 if0 if1 il h0 h1' h2 hf hl' r0 r1' r2 r3 r4 r5 rf rl
          repeat (first | (refine plan_take _ (by first | exact wanted_free rfl | exact wanted_yes rfl rfl | exact wanted_no rfl rfl) (by first | with_reducible rfl | (simp; done) | decide) ?_; apply Exists.intro; refine ⟨fun w' k1 => ?_, fun K hK => ?_⟩; (focus (have hc := Kept.cell k1; go_simp; first | done | rfl)); (go_simp; refine hK _ ?_; clear hK K)) | (refine plan_off _ (by first | exact wanted_yes rfl rfl | exact wanted_no rfl rfl | rfl) (by first | with_reducible rfl | (simp; done) | rfl | decide) ?_; intro K hK; (try go_simp); refine hK _ ?_; clear hK K))
          refine plan_nil fun w20 k20 => ?_
          try simp only [List.drop_succ_cons, List.drop_zero]
          have UE := hideP ((U4.out.keep jj1).keep (Kept.below k20))
          clear k20 jj1
          go_wp2
          go_returns
          exact ⟨rfl, UE.out.kw⟩

        · have hk1n : (k != 1) = true := by simpa using hk1
          by_cases hk2 : k = 2
          · subst hk2
            by_cases hy : 0 < y
            · obtain ⟨g1, -, g2⟩ := rt_click HZ.out rfl hy
              rw [HR.out] at g1 g2
              simp only at g1 g2
              have PT := hideP (fun W (h : Ws W 0 W.heap.size s1 L1) => iTop_any s1 c1 L1 x y W h LS1.out)
              rw [← g1] at PT
              rw [← g1] at g2
              subst g2
              obtain ⟨tz, htz⟩ : ∃ v, topZ (L1.map Wn.ct) x y = v := ⟨_, rfl⟩
              rw [htz] at PT
              clear g1 htz
              go_wp2
              clear i0 i1 if0 if1 il h0 h1' h2 hf hl' r0 r1' r2 r3 r4 r5 rf rl
              clear a0 a1 a2 a3 a4 a5 af al n1 n2 n3 n4
              generalize w13.alloc (.cells #[.int .i64 zb, .int .i64 0, .int .i64 kb', .slice sb nb cb, .bool trb, .int .i64 fo1] 34) = w14 at *
              generalize w13.heap.size = rb at *
              obtain ⟨i0, i1, if0, if1, il⟩ := U4.out.i
              obtain ⟨h0, h1', h2, hf, hl'⟩ := U4.out.h
              obtain ⟨r0, r1', r2, r3, r4, r5, rf, rl⟩ := U4.out.r
              refine wp_region_plan (R := Kept) (G := Kept) rel_keptA rel_keptA (fun h => h) 23 [(true, 0), (true, 1), (true, 2), (true, 3), (true, 4), (true, 5), (true, 6), (true, 7), (true, 8), (true, 9), (true, 10), (true, 11), (true, 12), (true, 13), (true, 14), (true, 15), (true, 16), (true, 17), (true, 18), (true, 19), (true, 20), (true, 21), (true, 22)] (by kernel_rfl) (by kernel_rfl) ?_
              simp only [selP, List.filterMap_cons, List.filterMap_nil, List.getElem?_cons_succ, List.getElem?_cons_zero, Option.map_some]
              repeat (first | (refine plan_take _ (by first | exact wanted_free rfl | exact wanted_yes rfl rfl | exact wanted_no rfl rfl) (by first | with_reducible rfl | (simp; done) | decide) ?_; apply Exists.intro; refine ⟨fun w' k1 => ?_, fun K hK => ?_⟩; (focus (have hc := Kept.cell k1; go_simp; first | done | (go_at_call 21; exact kept_call (Below.refl _ _) (PT.out _ (U4.out.l1.upH (Kept.below k1)))) | rfl)); (go_simp; refine hK _ ?_; clear hK K)) | (refine plan_off _ (by first | exact wanted_yes rfl rfl | exact wanted_no rfl rfl | rfl) (by first | with_reducible rfl | (simp; done) | rfl | decide) ?_; intro K hK; (try go_simp); refine hK _ ?_; clear hK K))
              refine plan_nil fun w20 k20 => ?_
              try simp only [List.drop_succ_cons, List.drop_zero]
              have UE := hideP (U4.out.keep (Kept.below k20))
              clear k20
              go_wp2
              go_returns
              exact ⟨rfl, UE.out.kw⟩

            · go_wp2
              clear i0 i1 if0 if1 il h0 h1' h2 hf hl' r0 r1' r2 r3 r4 r5 rf rl
              clear a0 a1 a2 a3 a4 a5 af al n1 n2 n3 n4
              generalize w13.alloc (.cells #[.int .i64 zb, .int .i64 0, .int .i64 kb', .slice sb nb cb, .bool trb, .int .i64 fo1] 34) = w14 at *
              generalize w13.heap.size = rb at *
              obtain ⟨i0, i1, if0, if1, il⟩ := U4.out.i
              obtain ⟨h0, h1', h2, hf, hl'⟩ := U4.out.h
              obtain ⟨r0, r1', r2, r3, r4, r5, rf, rl⟩ := U4.out.r
              refine wp_region_plan (R := Kept) (G := Kept) rel_keptA rel_keptA (fun h => h) 30 [(true, 0), (true, 1), (true, 2), (true, 3), (true, 4), (true, 5), (true, 6), (true, 7), (true, 8), (true, 9), (true, 10), (true, 11), (true, 12), (true, 13), (true, 14), (true, 15), (true, 16), (true, 17), (true, 18), (true, 19), (true, 20), (true, 21), (true, 22), (true, 23), (true, 24), (true, 25), (true, 26), (false, 27), (true, 28), (true, 29)] (by kernel_rfl) (by kernel_rfl) ?_
              simp only [selP, List.filterMap_cons, List.filterMap_nil, List.getElem?_cons_succ, List.getElem?_cons_zero, Option.map_some]
              repeat (first | (refine plan_take _ (by first | exact wanted_free rfl | exact wanted_yes rfl rfl | exact wanted_no rfl rfl) (by first | with_reducible rfl | (simp; done) | decide) ?_; apply Exists.intro; refine ⟨fun w' k1 => ?_, fun K hK => ?_⟩; (focus (have hc := Kept.cell k1; go_simp; first | done | (go_at_call 15; exact kept_call (Below.refl _ _) (PF.out _ (U4.out.l1.upH (Kept.below k1)))) | rfl)); (go_simp; refine hK _ ?_; clear hK K)) | (refine plan_off _ (by first | exact wanted_yes rfl rfl | exact wanted_no rfl rfl | rfl) (by first | with_reducible rfl | (simp; done) | rfl | decide) ?_; intro K hK; (try go_simp); refine hK _ ?_; clear hK K))
              refine plan_made _ (by first | exact wanted_free rfl | exact wanted_yes rfl rfl | exact wanted_no rfl rfl) (by first | with_reducible rfl | (simp; done) | decide) fun u1 i1 => ?_
              have ii1 := Kept.below i1
              have bb1 := ii1
              refine made_callsR (by go_simp; first | done | rfl) ((SR.out u1 (U4.out.l1.upH bb1)).mono ?_)
              intro e v1 h1
              obtain ⟨q1, m1, d1, rfl, j1⟩ := rt_outR h1
              clear h1
              refine ⟨_, rfl, j1, fun K hK => ?_⟩
              go_simp
              refine hK _ ?_
              clear hK K
              have jj1 := bb1.trans (j1.mono bb1.size)
              clear bb1 i1 ii1 j1
              clear i0 i1 if0 if1 il h0 h1' h2 hf hl' r0 r1' r2 r3 r4 r5 rf rl
              repeat (first | (refine plan_take _ (by first | exact wanted_free rfl | exact wanted_yes rfl rfl | exact wanted_no rfl rfl) (by first | with_reducible rfl | (simp; done) | decide) ?_; apply Exists.intro; refine ⟨fun w' k1 => ?_, fun K hK => ?_⟩; (focus (have hc := Kept.cell k1; go_simp; first | done | rfl)); (go_simp; refine hK _ ?_; clear hK K)) | (refine plan_off _ (by first | exact wanted_yes rfl rfl | exact wanted_no rfl rfl | rfl) (by first | with_reducible rfl | (simp; done) | rfl | decide) ?_; intro K hK; (try go_simp); refine hK _ ?_; clear hK K))
              refine plan_nil fun w20 k20 => ?_
              try simp only [List.drop_succ_cons, List.drop_zero]
              have UE := hideP ((U4.out.keep jj1).keep (Kept.below k20))
              clear k20 jj1
              go_wp2
              go_returns
              exact ⟨rfl, UE.out.kw⟩

          · have hk2n : (k == 2) = false := by simpa using hk2
            go_wp2
            clear i0 i1 if0 if1 il h0 h1' h2 hf hl' r0 r1' r2 r3 r4 r5 rf rl
            clear a0 a1 a2 a3 a4 a5 af al n1 n2 n3 n4
            generalize w13.alloc (.cells #[.int .i64 zb, .int .i64 0, .int .i64 kb', .slice sb nb cb, .bool trb, .int .i64 fo1] 34) = w14 at *
            generalize w13.heap.size = rb at *
            obtain ⟨i0, i1, if0, if1, il⟩ := U4.out.i
            obtain ⟨h0, h1', h2, hf, hl'⟩ := U4.out.h
            obtain ⟨r0, r1', r2, r3, r4, r5, rf, rl⟩ := U4.out.r
            refine wp_region_plan (R := Kept) (G := Kept) rel_keptA rel_keptA (fun h => h) 30 [(true, 0), (true, 1), (true, 2), (true, 3), (true, 4), (true, 5), (true, 6), (true, 7), (true, 8), (true, 9), (true, 10), (true, 11), (true, 12), (true, 13), (true, 14), (true, 15), (true, 16), (true, 17), (true, 18), (true, 19), (true, 20), (true, 21), (true, 22), (true, 23), (true, 24), (true, 25), (true, 26), (false, 27), (true, 28), (true, 29)] (by kernel_rfl) (by kernel_rfl) ?_
            simp only [selP, List.filterMap_cons, List.filterMap_nil, List.getElem?_cons_succ, List.getElem?_cons_zero, Option.map_some]
            repeat (first | (refine plan_take _ (by first | exact wanted_free rfl | exact wanted_yes rfl rfl | exact wanted_no rfl rfl) (by first | with_reducible rfl | (simp; done) | decide) ?_; apply Exists.intro; refine ⟨fun w' k1 => ?_, fun K hK => ?_⟩; (focus (have hc := Kept.cell k1; go_simp; first | done | (go_at_call 15; exact kept_call (Below.refl _ _) (PF.out _ (U4.out.l1.upH (Kept.below k1)))) | rfl)); (go_simp; refine hK _ ?_; clear hK K)) | (refine plan_off _ (by first | exact wanted_yes rfl rfl | exact wanted_no rfl rfl | rfl) (by first | with_reducible rfl | (simp; done) | rfl | decide) ?_; intro K hK; (try go_simp); refine hK _ ?_; clear hK K))
            refine plan_made _ (by first | exact wanted_free rfl | exact wanted_yes rfl rfl | exact wanted_no rfl rfl) (by first | with_reducible rfl | (simp; done) | decide) fun u1 i1 => ?_
            have ii1 := Kept.below i1
            have bb1 := ii1
            refine made_callsR (by go_simp; first | done | rfl) ((SR.out u1 (U4.out.l1.upH bb1)).mono ?_)
            intro e v1 h1
            obtain ⟨q1, m1, d1, rfl, j1⟩ := rt_outR h1
            clear h1
            refine ⟨_, rfl, j1, fun K hK => ?_⟩
            go_simp
            refine hK _ ?_
            clear hK K
            have jj1 := bb1.trans (j1.mono bb1.size)
            clear bb1 i1 ii1 j1
            clear i0 i1 if0 if1 il h0 h1' h2 hf hl' r0 r1' r2 r3 r4 r5 rf rl
            repeat (first | (refine plan_take _ (by first | exact wanted_free rfl | exact wanted_yes rfl rfl | exact wanted_no rfl rfl) (by first | with_reducible rfl | (simp; done) | decide) ?_; apply Exists.intro; refine ⟨fun w' k1 => ?_, fun K hK => ?_⟩; (focus (have hc := Kept.cell k1; go_simp; first | done | rfl)); (go_simp; refine hK _ ?_; clear hK K)) | (refine plan_off _ (by first | exact wanted_yes rfl rfl | exact wanted_no rfl rfl | rfl) (by first | with_reducible rfl | (simp; done) | rfl | decide) ?_; intro K hK; (try go_simp); refine hK _ ?_; clear hK K))
            refine plan_nil fun w20 k20 => ?_
            try simp only [List.drop_succ_cons, List.drop_zero]
            have UE := hideP ((U4.out.keep jj1).keep (Kept.below k20))
            clear k20 jj1
            go_wp2
            go_returns
            exact ⟨rfl, UE.out.kw⟩


      · have htg : tg = 0 := by have := rt_trusted HZ.out; rw [HR.out] at this; exact this
        subst htg
        by_cases hk1 : k = 1
        · subst hk1
          go_wp2
          clear i0 i1 if0 if1 il h0 h1' h2 hf hl' r0 r1' r2 r3 r4 r5 rf rl
          clear a0 a1 a2 a3 a4 a5 af al n1 n2 n3 n4
          generalize w13.alloc (.cells #[.int .i64 zb, .int .i64 0, .int .i64 kb', .slice sb nb cb, .bool trb, .int .i64 fo1] 34) = w14 at *
          generalize w13.heap.size = rb at *
          obtain ⟨i0, i1, if0, if1, il⟩ := U4.out.i
          obtain ⟨h0, h1', h2, hf, hl'⟩ := U4.out.h
          obtain ⟨r0, r1', r2, r3, r4, r5, rf, rl⟩ := U4.out.r
          refine wp_region_plan (R := Kept) (G := Kept) rel_keptA rel_keptA (fun h => h) 30 [(true, 0), (true, 1), (true, 2), (true, 3), (true, 4), (true, 5), (true, 6), (true, 7), (true, 8), (true, 9), (true, 10), (true, 11), (true, 12), (true, 13), (true, 14), (true, 15), (true, 16), (true, 17), (true, 18), (true, 19), (true, 20), (true, 21), (true, 22), (true, 23), (true, 24), (true, 25), (true, 26), (false, 27), (true, 28), (true, 29)] (by kernel_rfl) (by kernel_rfl) ?_
          simp only [selP, List.filterMap_cons, List.filterMap_nil, List.getElem?_cons_succ, List.getElem?_cons_zero, Option.map_some]
          repeat (first | (refine plan_take _ (by first | exact wanted_free rfl | exact wanted_yes rfl rfl | exact wanted_no rfl rfl) (by first | with_reducible rfl | (simp; done) | decide) ?_; apply Exists.intro; refine ⟨fun w' k1 => ?_, fun K hK => ?_⟩; (focus (have hc := Kept.cell k1; go_simp; first | done | (go_at_call 15; exact kept_call (Below.refl _ _) (PF.out _ (U4.out.l1.upH (Kept.below k1)))) | rfl)); (go_simp; refine hK _ ?_; clear hK K)) | (refine plan_off _ (by first | exact wanted_yes rfl rfl | exact wanted_no rfl rfl | rfl) (by first | with_reducible rfl | (simp; done) | rfl | decide) ?_; intro K hK; (try go_simp); refine hK _ ?_; clear hK K))
          refine plan_made _ (by first | exact wanted_free rfl | exact wanted_yes rfl rfl | exact wanted_no rfl rfl) (by first | with_reducible rfl | (simp; done) | decide) fun u1 i1 => ?_
          have ii1 := Kept.below i1
          have bb1 := ii1
          refine made_callsR (by go_simp; first | done | rfl) ((SR.out u1 (U4.out.l1.upH bb1)).mono ?_)
          intro e v1 h1
          obtain ⟨q1, m1, d1, rfl, j1⟩ := rt_outR h1
          clear h1
          refine ⟨_, rfl, j1, fun K hK => ?_⟩
          go_simp
          refine hK _ ?_
          clear hK K
          have jj1 := bb1.trans (j1.mono bb1.size)
          clear bb1 i1 ii1 j1
          clear i0 i1 if0 if1 il h0 h1' h2 hf hl' r0 r1' r2 r3 r4 r5 rf rl
          repeat (first | (refine plan_take _ (by first | exact wanted_free rfl | exact wanted_yes rfl rfl | exact wanted_no rfl rfl) (by first | with_reducible rfl | (simp; done) | decide) ?_; apply Exists.intro; refine ⟨fun w' k1 => ?_, fun K hK => ?_⟩; (focus (have hc := Kept.cell k1; go_simp; first | done | rfl)); (go_simp; refine hK _ ?_; clear hK K)) | (refine plan_off _ (by first | exact wanted_yes rfl rfl | exact wanted_no rfl rfl | rfl) (by first | with_reducible rfl | (simp; done) | rfl | decide) ?_; intro K hK; (try go_simp); refine hK _ ?_; clear hK K))
          refine plan_nil fun w20 k20 => ?_
          try simp only [List.drop_succ_cons, List.drop_zero]
          have UE := hideP ((U4.out.keep jj1).keep (Kept.below k20))
          clear k20 jj1
          go_wp2
          go_returns
          exact ⟨rfl, UE.out.kw⟩

        · have hk1n : (k != 1) = true := by simpa using hk1
          by_cases hk2 : k = 2
          · subst hk2
            go_wp2
            clear i0 i1 if0 if1 il h0 h1' h2 hf hl' r0 r1' r2 r3 r4 r5 rf rl
            clear a0 a1 a2 a3 a4 a5 af al n1 n2 n3 n4
            generalize w13.alloc (.cells #[.int .i64 zb, .int .i64 0, .int .i64 kb', .slice sb nb cb, .bool trb, .int .i64 fo1] 34) = w14 at *
            generalize w13.heap.size = rb at *
            obtain ⟨i0, i1, if0, if1, il⟩ := U4.out.i
            obtain ⟨h0, h1', h2, hf, hl'⟩ := U4.out.h
            obtain ⟨r0, r1', r2, r3, r4, r5, rf, rl⟩ := U4.out.r
            refine wp_region_plan (R := Kept) (G := Kept) rel_keptA rel_keptA (fun h => h) 30 [(true, 0), (true, 1), (true, 2), (true, 3), (true, 4), (true, 5), (true, 6), (true, 7), (true, 8), (true, 9), (true, 10), (true, 11), (true, 12), (true, 13), (true, 14), (true, 15), (true, 16), (true, 17), (true, 18), (true, 19), (true, 20), (true, 21), (true, 22), (true, 23), (true, 24), (true, 25), (true, 26), (false, 27), (true, 28), (true, 29)] (by kernel_rfl) (by kernel_rfl) ?_
            simp only [selP, List.filterMap_cons, List.filterMap_nil, List.getElem?_cons_succ, List.getElem?_cons_zero, Option.map_some]
            repeat (first | (refine plan_take _ (by first | exact wanted_free rfl | exact wanted_yes rfl rfl | exact wanted_no rfl rfl) (by first | with_reducible rfl | (simp; done) | decide) ?_; apply Exists.intro; refine ⟨fun w' k1 => ?_, fun K hK => ?_⟩; (focus (have hc := Kept.cell k1; go_simp; first | done | (go_at_call 15; exact kept_call (Below.refl _ _) (PF.out _ (U4.out.l1.upH (Kept.below k1)))) | rfl)); (go_simp; refine hK _ ?_; clear hK K)) | (refine plan_off _ (by first | exact wanted_yes rfl rfl | exact wanted_no rfl rfl | rfl) (by first | with_reducible rfl | (simp; done) | rfl | decide) ?_; intro K hK; (try go_simp); refine hK _ ?_; clear hK K))
            refine plan_made _ (by first | exact wanted_free rfl | exact wanted_yes rfl rfl | exact wanted_no rfl rfl) (by first | with_reducible rfl | (simp; done) | decide) fun u1 i1 => ?_
            have ii1 := Kept.below i1
            have bb1 := ii1
            refine made_callsR (by go_simp; first | done | rfl) ((SR.out u1 (U4.out.l1.upH bb1)).mono ?_)
            intro e v1 h1
            obtain ⟨q1, m1, d1, rfl, j1⟩ := rt_outR h1
            clear h1
            refine ⟨_, rfl, j1, fun K hK => ?_⟩
            go_simp
            refine hK _ ?_
            clear hK K
            have jj1 := bb1.trans (j1.mono bb1.size)
            clear bb1 i1 ii1 j1
            clear i0 i1 if0 if1 il h0 h1' h2 hf hl' r0 r1' r2 r3 r4 r5 rf rl
            repeat (first | (refine plan_take _ (by first | exact wanted_free rfl | exact wanted_yes rfl rfl | exact wanted_no rfl rfl) (by first | with_reducible rfl | (simp; done) | decide) ?_; apply Exists.intro; refine ⟨fun w' k1 => ?_, fun K hK => ?_⟩; (focus (have hc := Kept.cell k1; go_simp; first | done | rfl)); (go_simp; refine hK _ ?_; clear hK K)) | (refine plan_off _ (by first | exact wanted_yes rfl rfl | exact wanted_no rfl rfl | rfl) (by first | with_reducible rfl | (simp; done) | rfl | decide) ?_; intro K hK; (try go_simp); refine hK _ ?_; clear hK K))
            refine plan_nil fun w20 k20 => ?_
            try simp only [List.drop_succ_cons, List.drop_zero]
            have UE := hideP ((U4.out.keep jj1).keep (Kept.below k20))
            clear k20 jj1
            go_wp2
            go_returns
            exact ⟨rfl, UE.out.kw⟩

          · have hk2n : (k == 2) = false := by simpa using hk2
            go_wp2
            clear i0 i1 if0 if1 il h0 h1' h2 hf hl' r0 r1' r2 r3 r4 r5 rf rl
            clear a0 a1 a2 a3 a4 a5 af al n1 n2 n3 n4
            generalize w13.alloc (.cells #[.int .i64 zb, .int .i64 0, .int .i64 kb', .slice sb nb cb, .bool trb, .int .i64 fo1] 34) = w14 at *
            generalize w13.heap.size = rb at *
            obtain ⟨i0, i1, if0, if1, il⟩ := U4.out.i
            obtain ⟨h0, h1', h2, hf, hl'⟩ := U4.out.h
            obtain ⟨r0, r1', r2, r3, r4, r5, rf, rl⟩ := U4.out.r
            refine wp_region_plan (R := Kept) (G := Kept) rel_keptA rel_keptA (fun h => h) 30 [(true, 0), (true, 1), (true, 2), (true, 3), (true, 4), (true, 5), (true, 6), (true, 7), (true, 8), (true, 9), (true, 10), (true, 11), (true, 12), (true, 13), (true, 14), (true, 15), (true, 16), (true, 17), (true, 18), (true, 19), (true, 20), (true, 21), (true, 22), (true, 23), (true, 24), (true, 25), (true, 26), (false, 27), (true, 28), (true, 29)] (by kernel_rfl) (by kernel_rfl) ?_
            simp only [selP, List.filterMap_cons, List.filterMap_nil, List.getElem?_cons_succ, List.getElem?_cons_zero, Option.map_some]
            repeat (first | (refine plan_take _ (by first | exact wanted_free rfl | exact wanted_yes rfl rfl | exact wanted_no rfl rfl) (by first | with_reducible rfl | (simp; done) | decide) ?_; apply Exists.intro; refine ⟨fun w' k1 => ?_, fun K hK => ?_⟩; (focus (have hc := Kept.cell k1; go_simp; first | done | (go_at_call 15; exact kept_call (Below.refl _ _) (PF.out _ (U4.out.l1.upH (Kept.below k1)))) | rfl)); (go_simp; refine hK _ ?_; clear hK K)) | (refine plan_off _ (by first | exact wanted_yes rfl rfl | exact wanted_no rfl rfl | rfl) (by first | with_reducible rfl | (simp; done) | rfl | decide) ?_; intro K hK; (try go_simp); refine hK _ ?_; clear hK K))
            refine plan_made _ (by first | exact wanted_free rfl | exact wanted_yes rfl rfl | exact wanted_no rfl rfl) (by first | with_reducible rfl | (simp; done) | decide) fun u1 i1 => ?_
            have ii1 := Kept.below i1
            have bb1 := ii1
            refine made_callsR (by go_simp; first | done | rfl) ((SR.out u1 (U4.out.l1.upH bb1)).mono ?_)
            intro e v1 h1
            obtain ⟨q1, m1, d1, rfl, j1⟩ := rt_outR h1
            clear h1
            refine ⟨_, rfl, j1, fun K hK => ?_⟩
            go_simp
            refine hK _ ?_
            clear hK K
            have jj1 := bb1.trans (j1.mono bb1.size)
            clear bb1 i1 ii1 j1
            clear i0 i1 if0 if1 il h0 h1' h2 hf hl' r0 r1' r2 r3 r4 r5 rf rl
            repeat (first | (refine plan_take _ (by first | exact wanted_free rfl | exact wanted_yes rfl rfl | exact wanted_no rfl rfl) (by first | with_reducible rfl | (simp; done) | decide) ?_; apply Exists.intro; refine ⟨fun w' k1 => ?_, fun K hK => ?_⟩; (focus (have hc := Kept.cell k1; go_simp; first | done | rfl)); (go_simp; refine hK _ ?_; clear hK K)) | (refine plan_off _ (by first | exact wanted_yes rfl rfl | exact wanted_no rfl rfl | rfl) (by first | with_reducible rfl | (simp; done) | rfl | decide) ?_; intro K hK; (try go_simp); refine hK _ ?_; clear hK K))
            refine plan_nil fun w20 k20 => ?_
            try simp only [List.drop_succ_cons, List.drop_zero]
            have UE := hideP ((U4.out.keep jj1).keep (Kept.below k20))
            clear k20 jj1
            go_wp2
            go_returns
            exact ⟨rfl, UE.out.kw⟩


    · have hz : (z != 0) = true := by simpa using hz0
      have SR := hideP (fun W (h : Ws W 0 W.heap.size s1 L1) => sRoute_any tr1 fo1 k x y s1 c1 L1 W h LS1.out)
      rw [HR.out] at SR
      obtain ⟨i0, i1, if0, if1, il⟩ := U1.out.i
      obtain ⟨h0, h1', h2, hf, hl'⟩ := U1.out.h
      obtain ⟨r0, r1', r2, r3, r4, r5, rf, rl⟩ := U1.out.r
      go_wp2
      refine wp_region_plan (R := Kept) (G := Kept) rel_keptA rel_keptA (fun h => h) 14 [(true, 0), (true, 1), (true, 2), (true, 5), (true, 6), (false, 3), (true, 4), (true, 7), (true, 8), (true, 9), (true, 10), (true, 11), (true, 12), (true, 13)] (by kernel_rfl) (by kernel_rfl) ?_
      simp only [selP, List.filterMap_cons, List.filterMap_nil, List.getElem?_cons_succ, List.getElem?_cons_zero, Option.map_some]
      repeat (first | (refine plan_take _ (by first | exact wanted_free rfl | exact wanted_yes rfl rfl | exact wanted_no rfl rfl) (by first | with_reducible rfl | (simp; done) | decide) ?_; apply Exists.intro; refine ⟨fun w' k1 => ?_, fun K hK => ?_⟩; (focus (have hc := Kept.cell k1; go_simp; first | done | rfl)); (go_simp; refine hK _ ?_; clear hK K)) | (refine plan_off _ (by first | exact wanted_yes rfl rfl | exact wanted_no rfl rfl | rfl) (by first | with_reducible rfl | (simp; done) | rfl | decide) ?_; intro K hK; (try go_simp); refine hK _ ?_; clear hK K))
      refine plan_made _ (by first | exact wanted_free rfl | exact wanted_yes rfl rfl | exact wanted_no rfl rfl) (by first | with_reducible rfl | (simp; done) | decide) fun u1 i1 => ?_
      have ii1 := Kept.below i1
      have bb1 := ii1
      refine made_callsR (by go_simp; first | done | rfl) ((SR.out u1 (U1.out.l1.upH bb1)).mono ?_)
      intro e v1 h1
      obtain ⟨q1, m1, d1, rfl, j1⟩ := rt_outR h1
      clear h1
      refine ⟨_, rfl, j1, fun K hK => ?_⟩
      go_simp
      refine hK _ ?_
      clear hK K
      have jj1 := bb1.trans (j1.mono bb1.size)
      clear bb1 i1 ii1 j1
      clear i0 i1 if0 if1 il h0 h1' h2 hf hl' r0 r1' r2 r3 r4 r5 rf rl
      obtain ⟨i0, i1, if0, if1, il⟩ := (U1.out.keep jj1).i
      obtain ⟨h0, h1', h2, hf, hl'⟩ := (U1.out.keep jj1).h
      obtain ⟨r0, r1', r2, r3, r4, r5, rf, rl⟩ := (U1.out.keep jj1).r
      repeat (first | (refine plan_take _ (by first | exact wanted_free rfl | exact wanted_yes rfl rfl | exact wanted_no rfl rfl) (by first | with_reducible rfl | (simp; done) | decide) ?_; apply Exists.intro; refine ⟨fun w' k1 => ?_, fun K hK => ?_⟩; (focus (have hc := Kept.cell k1; go_simp; first | done | (go_at_call 19; exact kept_call (Below.refl _ _) (iHand_any k x y _)) | (go_at_call 20; exact kept_call (Below.refl _ _) (sHand_any k x y _)) | rfl)); (go_simp; refine hK _ ?_; clear hK K)) | (refine plan_off _ (by first | exact wanted_yes rfl rfl | exact wanted_no rfl rfl | rfl) (by first | with_reducible rfl | (simp; done) | rfl | decide) ?_; intro K hK; (try go_simp); refine hK _ ?_; clear hK K))
      refine plan_nil fun w20 k20 => ?_
      try simp only [List.drop_succ_cons, List.drop_zero]
      have UE := hideP ((U1.out.keep jj1).keep (Kept.below k20))
      clear k20 jj1
      go_wp2
      go_returns
      exact ⟨rfl, UE.out.kw⟩


  · have hF2n : (F2 == 0) = false := by simpa using hF2
    iterate 15 (first | (refine plan_take _ (by first | exact wanted_free rfl | exact wanted_yes rfl rfl | exact wanted_no rfl rfl) (by first | with_reducible rfl | (simp; done) | decide) ?_; apply Exists.intro; refine ⟨fun w' k1 => ?_, fun K hK => ?_⟩; (focus (have hc := Kept.cell k1; go_simp; first | done | (go_at_call 14; exact kept_call (Below.refl _ _) (PL.out _ (U0.out.l2.upH (Kept.below k1)))) | (go_at_call 15; exact kept_call (Below.refl _ _) (PI.out _ (U0.out.l1.upH (Kept.below k1)))) | (go_at_call 16; exact kept_call (Below.refl _ _) (PS.out _ (U0.out.l1.upH (Kept.below k1)))) | rfl)); (go_simp; refine hK _ ?_; clear hK K)) | (refine plan_off _ (by first | exact wanted_yes rfl rfl | exact wanted_no rfl rfl | rfl) (by first | with_reducible rfl | (simp; done) | rfl | decide) ?_; intro K hK; (try go_simp); refine hK _ ?_; clear hK K))
    repeat (first | (refine plan_take _ (by first | exact wanted_free rfl | exact wanted_yes rfl rfl | exact wanted_no rfl rfl) (by first | with_reducible rfl | (simp; done) | decide) ?_; apply Exists.intro; refine ⟨fun w' k1 => ?_, fun K hK => ?_⟩; (focus (have hc := Kept.cell k1; go_simp; first | done | (go_at_call 17; exact kept_call (Below.refl _ _) (PT.out _ (U0.out.l2.upH (Kept.below k1)))) | (go_at_call 15; exact kept_call (Below.refl _ _) (PJ.out _ (U0.out.l2.upH (Kept.below k1)))) | rfl)); (go_simp; refine hK _ ?_; clear hK K)) | (refine plan_off _ (by first | exact wanted_yes rfl rfl | exact wanted_no rfl rfl | rfl) (by first | with_reducible rfl | (simp; done) | rfl | decide) ?_; intro K hK; (try go_simp); refine hK _ ?_; clear hK K))
    refine plan_nil fun w10 k10 => ?_
    try simp only [List.drop_succ_cons, List.drop_zero]
    have U1 := hideP (U0.out.keep (Kept.below k10))
    clear k10 U0 PL PS PT PJ HLF
    clear i0 i1 if0 if1 il h0 h1' h2 hf hl' r0 r1' r2 r3 r4 r5 rf rl j0 j1 jf0 jf1 jl o0 o1 of0 of1 ol
    by_cases hz0 : z = 0
    · subst hz0
      have hz : (rtR (L1.map Wn.ct) tr1 fo1 k x y).z = 0 := by rw [HR.out]
      have hin := (rt_ok hz).1
      have hha := (rt_ok hz).2.1
      have hrf : Hid (inpF (L1.map Wn.ct) rfo = 0) := hideP (by have := rt_inp hz; rw [HR.out] at this; exact this)
      have HZ := hideP hz
      clear hz
      obtain ⟨i0, i1, if0, if1, il⟩ := U1.out.i
      obtain ⟨h0, h1', h2, hf, hl'⟩ := U1.out.h
      obtain ⟨r0, r1', r2, r3, r4, r5, rf, rl⟩ := U1.out.r
      have PA := hideP (iRoute_any tr1 fo1 3 0 0 s1 c1 L1 w10 U1.out.l1 LS1.out)
      rw [rt_att hin] at PA
      obtain ⟨ht0, ht1, -⟩ := rt_tru hin hha
      have HT0 := hideP ht0
      have HT1 := hideP ht1
      clear hin hha ht0 ht1
      go_wp2_with fail
      refine Calls.mono PA.out ?_
      intro e w11 h
      obtain ⟨sa, na, ca, rfl, kk⟩ := rt_outA h
      clear h PA
      have kb := kk.trans ((kalC w11 (.cells #[.int .i64 0, .int .i64 0, .int .i64 0, .slice sa na ca, .bool true, .int .i64 fo1] 34)).mono kk.size)
      have U2 := hideP (U1.out.keep kb)
      have RA := hideP (r6_new w11 (.int .i64 0) (.int .i64 0) (.int .i64 0) (.slice sa na ca) (.bool true) (.int .i64 fo1) 34)
      clear kk kb U1
      clear i0 i1 if0 if1 il h0 h1' h2 hf hl' r0 r1' r2 r3 r4 r5 rf rl
      obtain ⟨a0, a1, a2, a3, a4, a5, af, al⟩ := RA.out
      obtain ⟨i0, i1, if0, if1, il⟩ := U2.out.i
      obtain ⟨h0, h1', h2, hf, hl'⟩ := U2.out.h
      obtain ⟨r0, r1', r2, r3, r4, r5, rf, rl⟩ := U2.out.r
      go_wp2_with fail
      generalize w11.alloc (.cells #[.int .i64 0, .int .i64 0, .int .i64 0, .slice sa na ca, .bool true, .int .i64 fo1] 34) = w12 at *
      generalize w11.heap.size = ra at *
      have PB := hideP (iRoute_any true fo1 k x y s1 c1 L1 w12 U2.out.l1 LS1.out)
      refine Calls.mono PB.out ?_
      intro e w13 h
      obtain ⟨zb, kb', sb, nb, cb, trb, rfl, kk⟩ := rt_outB h HT0.out HT1.out
      clear h PB HT0 HT1 a0 a1 a2 a3 a4 a5 af al
      clear i0 i1 if0 if1 il h0 h1' h2 hf hl' r0 r1' r2 r3 r4 r5 rf rl
      have U3 := hideP (U2.out.keep kk)
      have U4 := hideP (U3.out.keep (kalC w13 (.cells #[.int .i64 zb, .int .i64 0, .int .i64 kb', .slice sb nb cb, .bool trb, .int .i64 fo1] 34)))
      have RA3 := hideP (RA.out.keep kk RA.out.lt)
      clear kk U2 RA
      have SR := hideP (fun W (h : Ws W 0 W.heap.size s1 L1) => sRoute_any tr1 fo1 k x y s1 c1 L1 W h LS1.out)
      rw [HR.out] at SR
      have PF := hideP (fun W (h : Ws W 0 W.heap.size s1 L1) => iInput_any 0 W.heap.size rtr rfo s1 c1 L1 W h (Nat.le_refl _) LS1.out)
      rw [hrf.out] at PF
      obtain ⟨i0, i1, if0, if1, il⟩ := U3.out.i
      obtain ⟨h0, h1', h2, hf, hl'⟩ := U3.out.h
      obtain ⟨r0, r1', r2, r3, r4, r5, rf, rl⟩ := U3.out.r
      obtain ⟨a0, a1, a2, a3, a4, a5, af, al⟩ := RA3.out
      have n1 : ¬ b1 = w13.heap.size := Nat.ne_of_lt il
      have n2 : ¬ b1 + 1 = w13.heap.size := Nat.ne_of_lt hl'
      have n3 : ¬ r1 = w13.heap.size := Nat.ne_of_lt rl
      have n4 : ¬ ra = w13.heap.size := Nat.ne_of_lt al
      clear U3 RA3
      cases tr1
      · by_cases hk1 : k = 1
        · subst hk1
          have htg : fo1 = tg := by have := (rt_key HZ.out (by decide) (by decide) (by decide)).1; rw [HR.out] at this; exact this.symm
          subst htg
          go_wp2
          clear i0 i1 if0 if1 il h0 h1' h2 hf hl' r0 r1' r2 r3 r4 r5 rf rl
          clear a0 a1 a2 a3 a4 a5 af al n1 n2 n3 n4
          generalize w13.alloc (.cells #[.int .i64 zb, .int .i64 0, .int .i64 kb', .slice sb nb cb, .bool trb, .int .i64 fo1] 34) = w14 at *
          generalize w13.heap.size = rb at *
          obtain ⟨i0, i1, if0, if1, il⟩ := U4.out.i
          obtain ⟨h0, h1', h2, hf, hl'⟩ := U4.out.h
          obtain ⟨r0, r1', r2, r3, r4, r5, rf, rl⟩ := U4.out.r
          refine wp_region_plan (R := Kept) (G := Kept) rel_keptA rel_keptA (fun h => h) 30 [(true, 0), (true, 1), (true, 2), (true, 3), (true, 4), (true, 5), (true, 6), (true, 7), (true, 8), (true, 9), (true, 10), (true, 11), (true, 12), (true, 13), (true, 14), (true, 15), (true, 16), (true, 17), (true, 18), (true, 19), (true, 20), (true, 21), (true, 22), (true, 23), (true, 24), (true, 25), (true, 26), (false, 27), (true, 28), (true, 29)] (by kernel_rfl) (by kernel_rfl) ?_
          simp only [selP, List.filterMap_cons, List.filterMap_nil, List.getElem?_cons_succ, List.getElem?_cons_zero, Option.map_some]
          repeat (first | (refine plan_take _ (by first | exact wanted_free rfl | exact wanted_yes rfl rfl | exact wanted_no rfl rfl) (by first | with_reducible rfl | (simp; done) | decide) ?_; apply Exists.intro; refine ⟨fun w' k1 => ?_, fun K hK => ?_⟩; (focus (have hc := Kept.cell k1; go_simp; first | done | (go_at_call 15; exact kept_call (Below.refl _ _) (PF.out _ (U4.out.l1.upH (Kept.below k1)))) | rfl)); (go_simp; refine hK _ ?_; clear hK K)) | (refine plan_off _ (by first | exact wanted_yes rfl rfl | exact wanted_no rfl rfl | rfl) (by first | with_reducible rfl | (simp; done) | rfl | decide) ?_; intro K hK; (try go_simp); refine hK _ ?_; clear hK K))
          refine plan_made _ (by first | exact wanted_free rfl | exact wanted_yes rfl rfl | exact wanted_no rfl rfl) (by first | with_reducible rfl | (simp; done) | decide) fun u1 i1 => ?_
          have ii1 := Kept.below i1
          have bb1 := ii1
          refine made_callsR (by go_simp; first | done | rfl) ((SR.out u1 (U4.out.l1.upH bb1)).mono ?_)
          intro e v1 h1
          obtain ⟨q1, m1, d1, rfl, j1⟩ := rt_outR h1
          clear h1
          refine ⟨_, rfl, j1, fun K hK => ?_⟩
          go_simp
          refine hK _ ?_
          clear hK K
          have jj1 := bb1.trans (j1.mono bb1.size)
          clear bb1 i1 ii1 j1
          clear i0 i1 if0 if1 il h0 h1' h2 hf hl' r0 r1' r2 r3 r4 r5 rf rl
          repeat (first | (refine plan_take _ (by first | exact wanted_free rfl | exact wanted_yes rfl rfl | exact wanted_no rfl rfl) (by first | with_reducible rfl | (simp; done) | decide) ?_; apply Exists.intro; refine ⟨fun w' k1 => ?_, fun K hK => ?_⟩; (focus (have hc := Kept.cell k1; go_simp; first | done | rfl)); (go_simp; refine hK _ ?_; clear hK K)) | (refine plan_off _ (by first | exact wanted_yes rfl rfl | exact wanted_no rfl rfl | rfl) (by first | with_reducible rfl | (simp; done) | rfl | decide) ?_; intro K hK; (try go_simp); refine hK _ ?_; clear hK K))
          refine plan_nil fun w20 k20 => ?_
          try simp only [List.drop_succ_cons, List.drop_zero]
          have UE := hideP ((U4.out.keep jj1).keep (Kept.below k20))
          clear k20 jj1
          go_wp2
          go_returns
          exact ⟨rfl, UE.out.kw⟩

        · have hk1n : (k != 1) = true := by simpa using hk1
          by_cases hk2 : k = 2
          · subst hk2
            by_cases hy : 0 < y
            · obtain ⟨g1, -, g2⟩ := rt_click HZ.out rfl hy
              rw [HR.out] at g1 g2
              simp only at g1 g2
              have PT := hideP (fun W (h : Ws W 0 W.heap.size s1 L1) => iTop_any s1 c1 L1 x y W h LS1.out)
              rw [← g1] at PT
              rw [← g1] at g2
              subst g2
              obtain ⟨tz, htz⟩ : ∃ v, topZ (L1.map Wn.ct) x y = v := ⟨_, rfl⟩
              rw [htz] at PT
              clear g1 htz
              go_wp2
              clear i0 i1 if0 if1 il h0 h1' h2 hf hl' r0 r1' r2 r3 r4 r5 rf rl
              clear a0 a1 a2 a3 a4 a5 af al n1 n2 n3 n4
              generalize w13.alloc (.cells #[.int .i64 zb, .int .i64 0, .int .i64 kb', .slice sb nb cb, .bool trb, .int .i64 fo1] 34) = w14 at *
              generalize w13.heap.size = rb at *
              obtain ⟨i0, i1, if0, if1, il⟩ := U4.out.i
              obtain ⟨h0, h1', h2, hf, hl'⟩ := U4.out.h
              obtain ⟨r0, r1', r2, r3, r4, r5, rf, rl⟩ := U4.out.r
              refine wp_region_plan (R := Kept) (G := Kept) rel_keptA rel_keptA (fun h => h) 23 [(true, 0), (true, 1), (true, 2), (true, 3), (true, 4), (true, 5), (true, 6), (true, 7), (true, 8), (true, 9), (true, 10), (true, 11), (true, 12), (true, 13), (true, 14), (true, 15), (true, 16), (true, 17), (true, 18), (true, 19), (true, 20), (true, 21), (true, 22)] (by kernel_rfl) (by kernel_rfl) ?_
              simp only [selP, List.filterMap_cons, List.filterMap_nil, List.getElem?_cons_succ, List.getElem?_cons_zero, Option.map_some]
              repeat (first | (refine plan_take _ (by first | exact wanted_free rfl | exact wanted_yes rfl rfl | exact wanted_no rfl rfl) (by first | with_reducible rfl | (simp; done) | decide) ?_; apply Exists.intro; refine ⟨fun w' k1 => ?_, fun K hK => ?_⟩; (focus (have hc := Kept.cell k1; go_simp; first | done | (go_at_call 21; exact kept_call (Below.refl _ _) (PT.out _ (U4.out.l1.upH (Kept.below k1)))) | rfl)); (go_simp; refine hK _ ?_; clear hK K)) | (refine plan_off _ (by first | exact wanted_yes rfl rfl | exact wanted_no rfl rfl | rfl) (by first | with_reducible rfl | (simp; done) | rfl | decide) ?_; intro K hK; (try go_simp); refine hK _ ?_; clear hK K))
              refine plan_nil fun w20 k20 => ?_
              try simp only [List.drop_succ_cons, List.drop_zero]
              have UE := hideP (U4.out.keep (Kept.below k20))
              clear k20
              go_wp2
              go_returns
              exact ⟨rfl, UE.out.kw⟩

            · go_wp2
              clear i0 i1 if0 if1 il h0 h1' h2 hf hl' r0 r1' r2 r3 r4 r5 rf rl
              clear a0 a1 a2 a3 a4 a5 af al n1 n2 n3 n4
              generalize w13.alloc (.cells #[.int .i64 zb, .int .i64 0, .int .i64 kb', .slice sb nb cb, .bool trb, .int .i64 fo1] 34) = w14 at *
              generalize w13.heap.size = rb at *
              obtain ⟨i0, i1, if0, if1, il⟩ := U4.out.i
              obtain ⟨h0, h1', h2, hf, hl'⟩ := U4.out.h
              obtain ⟨r0, r1', r2, r3, r4, r5, rf, rl⟩ := U4.out.r
              refine wp_region_plan (R := Kept) (G := Kept) rel_keptA rel_keptA (fun h => h) 30 [(true, 0), (true, 1), (true, 2), (true, 3), (true, 4), (true, 5), (true, 6), (true, 7), (true, 8), (true, 9), (true, 10), (true, 11), (true, 12), (true, 13), (true, 14), (true, 15), (true, 16), (true, 17), (true, 18), (true, 19), (true, 20), (true, 21), (true, 22), (true, 23), (true, 24), (true, 25), (true, 26), (false, 27), (true, 28), (true, 29)] (by kernel_rfl) (by kernel_rfl) ?_
              simp only [selP, List.filterMap_cons, List.filterMap_nil, List.getElem?_cons_succ, List.getElem?_cons_zero, Option.map_some]
              repeat (first | (refine plan_take _ (by first | exact wanted_free rfl | exact wanted_yes rfl rfl | exact wanted_no rfl rfl) (by first | with_reducible rfl | (simp; done) | decide) ?_; apply Exists.intro; refine ⟨fun w' k1 => ?_, fun K hK => ?_⟩; (focus (have hc := Kept.cell k1; go_simp; first | done | (go_at_call 15; exact kept_call (Below.refl _ _) (PF.out _ (U4.out.l1.upH (Kept.below k1)))) | rfl)); (go_simp; refine hK _ ?_; clear hK K)) | (refine plan_off _ (by first | exact wanted_yes rfl rfl | exact wanted_no rfl rfl | rfl) (by first | with_reducible rfl | (simp; done) | rfl | decide) ?_; intro K hK; (try go_simp); refine hK _ ?_; clear hK K))
              refine plan_made _ (by first | exact wanted_free rfl | exact wanted_yes rfl rfl | exact wanted_no rfl rfl) (by first | with_reducible rfl | (simp; done) | decide) fun u1 i1 => ?_
              have ii1 := Kept.below i1
              have bb1 := ii1
              refine made_callsR (by go_simp; first | done | rfl) ((SR.out u1 (U4.out.l1.upH bb1)).mono ?_)
              intro e v1 h1
              obtain ⟨q1, m1, d1, rfl, j1⟩ := rt_outR h1
              clear h1
              refine ⟨_, rfl, j1, fun K hK => ?_⟩
              go_simp
              refine hK _ ?_
              clear hK K
              have jj1 := bb1.trans (j1.mono bb1.size)
              clear bb1 i1 ii1 j1
              clear i0 i1 if0 if1 il h0 h1' h2 hf hl' r0 r1' r2 r3 r4 r5 rf rl
              repeat (first | (refine plan_take _ (by first | exact wanted_free rfl | exact wanted_yes rfl rfl | exact wanted_no rfl rfl) (by first | with_reducible rfl | (simp; done) | decide) ?_; apply Exists.intro; refine ⟨fun w' k1 => ?_, fun K hK => ?_⟩; (focus (have hc := Kept.cell k1; go_simp; first | done | rfl)); (go_simp; refine hK _ ?_; clear hK K)) | (refine plan_off _ (by first | exact wanted_yes rfl rfl | exact wanted_no rfl rfl | rfl) (by first | with_reducible rfl | (simp; done) | rfl | decide) ?_; intro K hK; (try go_simp); refine hK _ ?_; clear hK K))
              refine plan_nil fun w20 k20 => ?_
              try simp only [List.drop_succ_cons, List.drop_zero]
              have UE := hideP ((U4.out.keep jj1).keep (Kept.below k20))
              clear k20 jj1
              go_wp2
              go_returns
              exact ⟨rfl, UE.out.kw⟩

          · have hk2n : (k == 2) = false := by simpa using hk2
            go_wp2
            clear i0 i1 if0 if1 il h0 h1' h2 hf hl' r0 r1' r2 r3 r4 r5 rf rl
            clear a0 a1 a2 a3 a4 a5 af al n1 n2 n3 n4
            generalize w13.alloc (.cells #[.int .i64 zb, .int .i64 0, .int .i64 kb', .slice sb nb cb, .bool trb, .int .i64 fo1] 34) = w14 at *
            generalize w13.heap.size = rb at *
            obtain ⟨i0, i1, if0, if1, il⟩ := U4.out.i
            obtain ⟨h0, h1', h2, hf, hl'⟩ := U4.out.h
            obtain ⟨r0, r1', r2, r3, r4, r5, rf, rl⟩ := U4.out.r
            refine wp_region_plan (R := Kept) (G := Kept) rel_keptA rel_keptA (fun h => h) 30 [(true, 0), (true, 1), (true, 2), (true, 3), (true, 4), (true, 5), (true, 6), (true, 7), (true, 8), (true, 9), (true, 10), (true, 11), (true, 12), (true, 13), (true, 14), (true, 15), (true, 16), (true, 17), (true, 18), (true, 19), (true, 20), (true, 21), (true, 22), (true, 23), (true, 24), (true, 25), (true, 26), (false, 27), (true, 28), (true, 29)] (by kernel_rfl) (by kernel_rfl) ?_
            simp only [selP, List.filterMap_cons, List.filterMap_nil, List.getElem?_cons_succ, List.getElem?_cons_zero, Option.map_some]
            repeat (first | (refine plan_take _ (by first | exact wanted_free rfl | exact wanted_yes rfl rfl | exact wanted_no rfl rfl) (by first | with_reducible rfl | (simp; done) | decide) ?_; apply Exists.intro; refine ⟨fun w' k1 => ?_, fun K hK => ?_⟩; (focus (have hc := Kept.cell k1; go_simp; first | done | (go_at_call 15; exact kept_call (Below.refl _ _) (PF.out _ (U4.out.l1.upH (Kept.below k1)))) | rfl)); (go_simp; refine hK _ ?_; clear hK K)) | (refine plan_off _ (by first | exact wanted_yes rfl rfl | exact wanted_no rfl rfl | rfl) (by first | with_reducible rfl | (simp; done) | rfl | decide) ?_; intro K hK; (try go_simp); refine hK _ ?_; clear hK K))
            refine plan_made _ (by first | exact wanted_free rfl | exact wanted_yes rfl rfl | exact wanted_no rfl rfl) (by first | with_reducible rfl | (simp; done) | decide) fun u1 i1 => ?_
            have ii1 := Kept.below i1
            have bb1 := ii1
            refine made_callsR (by go_simp; first | done | rfl) ((SR.out u1 (U4.out.l1.upH bb1)).mono ?_)
            intro e v1 h1
            obtain ⟨q1, m1, d1, rfl, j1⟩ := rt_outR h1
            clear h1
            refine ⟨_, rfl, j1, fun K hK => ?_⟩
            go_simp
            refine hK _ ?_
            clear hK K
            have jj1 := bb1.trans (j1.mono bb1.size)
            clear bb1 i1 ii1 j1
            clear i0 i1 if0 if1 il h0 h1' h2 hf hl' r0 r1' r2 r3 r4 r5 rf rl
            repeat (first | (refine plan_take _ (by first | exact wanted_free rfl | exact wanted_yes rfl rfl | exact wanted_no rfl rfl) (by first | with_reducible rfl | (simp; done) | decide) ?_; apply Exists.intro; refine ⟨fun w' k1 => ?_, fun K hK => ?_⟩; (focus (have hc := Kept.cell k1; go_simp; first | done | rfl)); (go_simp; refine hK _ ?_; clear hK K)) | (refine plan_off _ (by first | exact wanted_yes rfl rfl | exact wanted_no rfl rfl | rfl) (by first | with_reducible rfl | (simp; done) | rfl | decide) ?_; intro K hK; (try go_simp); refine hK _ ?_; clear hK K))
            refine plan_nil fun w20 k20 => ?_
            try simp only [List.drop_succ_cons, List.drop_zero]
            have UE := hideP ((U4.out.keep jj1).keep (Kept.below k20))
            clear k20 jj1
            go_wp2
            go_returns
            exact ⟨rfl, UE.out.kw⟩


      · have htg : tg = 0 := by have := rt_trusted HZ.out; rw [HR.out] at this; exact this
        subst htg
        by_cases hk1 : k = 1
        · subst hk1
          go_wp2
          clear i0 i1 if0 if1 il h0 h1' h2 hf hl' r0 r1' r2 r3 r4 r5 rf rl
          clear a0 a1 a2 a3 a4 a5 af al n1 n2 n3 n4
          generalize w13.alloc (.cells #[.int .i64 zb, .int .i64 0, .int .i64 kb', .slice sb nb cb, .bool trb, .int .i64 fo1] 34) = w14 at *
          generalize w13.heap.size = rb at *
          obtain ⟨i0, i1, if0, if1, il⟩ := U4.out.i
          obtain ⟨h0, h1', h2, hf, hl'⟩ := U4.out.h
          obtain ⟨r0, r1', r2, r3, r4, r5, rf, rl⟩ := U4.out.r
          refine wp_region_plan (R := Kept) (G := Kept) rel_keptA rel_keptA (fun h => h) 30 [(true, 0), (true, 1), (true, 2), (true, 3), (true, 4), (true, 5), (true, 6), (true, 7), (true, 8), (true, 9), (true, 10), (true, 11), (true, 12), (true, 13), (true, 14), (true, 15), (true, 16), (true, 17), (true, 18), (true, 19), (true, 20), (true, 21), (true, 22), (true, 23), (true, 24), (true, 25), (true, 26), (false, 27), (true, 28), (true, 29)] (by kernel_rfl) (by kernel_rfl) ?_
          simp only [selP, List.filterMap_cons, List.filterMap_nil, List.getElem?_cons_succ, List.getElem?_cons_zero, Option.map_some]
          repeat (first | (refine plan_take _ (by first | exact wanted_free rfl | exact wanted_yes rfl rfl | exact wanted_no rfl rfl) (by first | with_reducible rfl | (simp; done) | decide) ?_; apply Exists.intro; refine ⟨fun w' k1 => ?_, fun K hK => ?_⟩; (focus (have hc := Kept.cell k1; go_simp; first | done | (go_at_call 15; exact kept_call (Below.refl _ _) (PF.out _ (U4.out.l1.upH (Kept.below k1)))) | rfl)); (go_simp; refine hK _ ?_; clear hK K)) | (refine plan_off _ (by first | exact wanted_yes rfl rfl | exact wanted_no rfl rfl | rfl) (by first | with_reducible rfl | (simp; done) | rfl | decide) ?_; intro K hK; (try go_simp); refine hK _ ?_; clear hK K))
          refine plan_made _ (by first | exact wanted_free rfl | exact wanted_yes rfl rfl | exact wanted_no rfl rfl) (by first | with_reducible rfl | (simp; done) | decide) fun u1 i1 => ?_
          have ii1 := Kept.below i1
          have bb1 := ii1
          refine made_callsR (by go_simp; first | done | rfl) ((SR.out u1 (U4.out.l1.upH bb1)).mono ?_)
          intro e v1 h1
          obtain ⟨q1, m1, d1, rfl, j1⟩ := rt_outR h1
          clear h1
          refine ⟨_, rfl, j1, fun K hK => ?_⟩
          go_simp
          refine hK _ ?_
          clear hK K
          have jj1 := bb1.trans (j1.mono bb1.size)
          clear bb1 i1 ii1 j1
          clear i0 i1 if0 if1 il h0 h1' h2 hf hl' r0 r1' r2 r3 r4 r5 rf rl
          repeat (first | (refine plan_take _ (by first | exact wanted_free rfl | exact wanted_yes rfl rfl | exact wanted_no rfl rfl) (by first | with_reducible rfl | (simp; done) | decide) ?_; apply Exists.intro; refine ⟨fun w' k1 => ?_, fun K hK => ?_⟩; (focus (have hc := Kept.cell k1; go_simp; first | done | rfl)); (go_simp; refine hK _ ?_; clear hK K)) | (refine plan_off _ (by first | exact wanted_yes rfl rfl | exact wanted_no rfl rfl | rfl) (by first | with_reducible rfl | (simp; done) | rfl | decide) ?_; intro K hK; (try go_simp); refine hK _ ?_; clear hK K))
          refine plan_nil fun w20 k20 => ?_
          try simp only [List.drop_succ_cons, List.drop_zero]
          have UE := hideP ((U4.out.keep jj1).keep (Kept.below k20))
          clear k20 jj1
          go_wp2
          go_returns
          exact ⟨rfl, UE.out.kw⟩

        · have hk1n : (k != 1) = true := by simpa using hk1
          by_cases hk2 : k = 2
          · subst hk2
            go_wp2
            clear i0 i1 if0 if1 il h0 h1' h2 hf hl' r0 r1' r2 r3 r4 r5 rf rl
            clear a0 a1 a2 a3 a4 a5 af al n1 n2 n3 n4
            generalize w13.alloc (.cells #[.int .i64 zb, .int .i64 0, .int .i64 kb', .slice sb nb cb, .bool trb, .int .i64 fo1] 34) = w14 at *
            generalize w13.heap.size = rb at *
            obtain ⟨i0, i1, if0, if1, il⟩ := U4.out.i
            obtain ⟨h0, h1', h2, hf, hl'⟩ := U4.out.h
            obtain ⟨r0, r1', r2, r3, r4, r5, rf, rl⟩ := U4.out.r
            refine wp_region_plan (R := Kept) (G := Kept) rel_keptA rel_keptA (fun h => h) 30 [(true, 0), (true, 1), (true, 2), (true, 3), (true, 4), (true, 5), (true, 6), (true, 7), (true, 8), (true, 9), (true, 10), (true, 11), (true, 12), (true, 13), (true, 14), (true, 15), (true, 16), (true, 17), (true, 18), (true, 19), (true, 20), (true, 21), (true, 22), (true, 23), (true, 24), (true, 25), (true, 26), (false, 27), (true, 28), (true, 29)] (by kernel_rfl) (by kernel_rfl) ?_
            simp only [selP, List.filterMap_cons, List.filterMap_nil, List.getElem?_cons_succ, List.getElem?_cons_zero, Option.map_some]
            repeat (first | (refine plan_take _ (by first | exact wanted_free rfl | exact wanted_yes rfl rfl | exact wanted_no rfl rfl) (by first | with_reducible rfl | (simp; done) | decide) ?_; apply Exists.intro; refine ⟨fun w' k1 => ?_, fun K hK => ?_⟩; (focus (have hc := Kept.cell k1; go_simp; first | done | (go_at_call 15; exact kept_call (Below.refl _ _) (PF.out _ (U4.out.l1.upH (Kept.below k1)))) | rfl)); (go_simp; refine hK _ ?_; clear hK K)) | (refine plan_off _ (by first | exact wanted_yes rfl rfl | exact wanted_no rfl rfl | rfl) (by first | with_reducible rfl | (simp; done) | rfl | decide) ?_; intro K hK; (try go_simp); refine hK _ ?_; clear hK K))
            refine plan_made _ (by first | exact wanted_free rfl | exact wanted_yes rfl rfl | exact wanted_no rfl rfl) (by first | with_reducible rfl | (simp; done) | decide) fun u1 i1 => ?_
            have ii1 := Kept.below i1
            have bb1 := ii1
            refine made_callsR (by go_simp; first | done | rfl) ((SR.out u1 (U4.out.l1.upH bb1)).mono ?_)
            intro e v1 h1
            obtain ⟨q1, m1, d1, rfl, j1⟩ := rt_outR h1
            clear h1
            refine ⟨_, rfl, j1, fun K hK => ?_⟩
            go_simp
            refine hK _ ?_
            clear hK K
            have jj1 := bb1.trans (j1.mono bb1.size)
            clear bb1 i1 ii1 j1
            clear i0 i1 if0 if1 il h0 h1' h2 hf hl' r0 r1' r2 r3 r4 r5 rf rl
            repeat (first | (refine plan_take _ (by first | exact wanted_free rfl | exact wanted_yes rfl rfl | exact wanted_no rfl rfl) (by first | with_reducible rfl | (simp; done) | decide) ?_; apply Exists.intro; refine ⟨fun w' k1 => ?_, fun K hK => ?_⟩; (focus (have hc := Kept.cell k1; go_simp; first | done | rfl)); (go_simp; refine hK _ ?_; clear hK K)) | (refine plan_off _ (by first | exact wanted_yes rfl rfl | exact wanted_no rfl rfl | rfl) (by first | with_reducible rfl | (simp; done) | rfl | decide) ?_; intro K hK; (try go_simp); refine hK _ ?_; clear hK K))
            refine plan_nil fun w20 k20 => ?_
            try simp only [List.drop_succ_cons, List.drop_zero]
            have UE := hideP ((U4.out.keep jj1).keep (Kept.below k20))
            clear k20 jj1
            go_wp2
            go_returns
            exact ⟨rfl, UE.out.kw⟩

          · have hk2n : (k == 2) = false := by simpa using hk2
            go_wp2
            clear i0 i1 if0 if1 il h0 h1' h2 hf hl' r0 r1' r2 r3 r4 r5 rf rl
            clear a0 a1 a2 a3 a4 a5 af al n1 n2 n3 n4
            generalize w13.alloc (.cells #[.int .i64 zb, .int .i64 0, .int .i64 kb', .slice sb nb cb, .bool trb, .int .i64 fo1] 34) = w14 at *
            generalize w13.heap.size = rb at *
            obtain ⟨i0, i1, if0, if1, il⟩ := U4.out.i
            obtain ⟨h0, h1', h2, hf, hl'⟩ := U4.out.h
            obtain ⟨r0, r1', r2, r3, r4, r5, rf, rl⟩ := U4.out.r
            refine wp_region_plan (R := Kept) (G := Kept) rel_keptA rel_keptA (fun h => h) 30 [(true, 0), (true, 1), (true, 2), (true, 3), (true, 4), (true, 5), (true, 6), (true, 7), (true, 8), (true, 9), (true, 10), (true, 11), (true, 12), (true, 13), (true, 14), (true, 15), (true, 16), (true, 17), (true, 18), (true, 19), (true, 20), (true, 21), (true, 22), (true, 23), (true, 24), (true, 25), (true, 26), (false, 27), (true, 28), (true, 29)] (by kernel_rfl) (by kernel_rfl) ?_
            simp only [selP, List.filterMap_cons, List.filterMap_nil, List.getElem?_cons_succ, List.getElem?_cons_zero, Option.map_some]
            repeat (first | (refine plan_take _ (by first | exact wanted_free rfl | exact wanted_yes rfl rfl | exact wanted_no rfl rfl) (by first | with_reducible rfl | (simp; done) | decide) ?_; apply Exists.intro; refine ⟨fun w' k1 => ?_, fun K hK => ?_⟩; (focus (have hc := Kept.cell k1; go_simp; first | done | (go_at_call 15; exact kept_call (Below.refl _ _) (PF.out _ (U4.out.l1.upH (Kept.below k1)))) | rfl)); (go_simp; refine hK _ ?_; clear hK K)) | (refine plan_off _ (by first | exact wanted_yes rfl rfl | exact wanted_no rfl rfl | rfl) (by first | with_reducible rfl | (simp; done) | rfl | decide) ?_; intro K hK; (try go_simp); refine hK _ ?_; clear hK K))
            refine plan_made _ (by first | exact wanted_free rfl | exact wanted_yes rfl rfl | exact wanted_no rfl rfl) (by first | with_reducible rfl | (simp; done) | decide) fun u1 i1 => ?_
            have ii1 := Kept.below i1
            have bb1 := ii1
            refine made_callsR (by go_simp; first | done | rfl) ((SR.out u1 (U4.out.l1.upH bb1)).mono ?_)
            intro e v1 h1
            obtain ⟨q1, m1, d1, rfl, j1⟩ := rt_outR h1
            clear h1
            refine ⟨_, rfl, j1, fun K hK => ?_⟩
            go_simp
            refine hK _ ?_
            clear hK K
            have jj1 := bb1.trans (j1.mono bb1.size)
            clear bb1 i1 ii1 j1
            clear i0 i1 if0 if1 il h0 h1' h2 hf hl' r0 r1' r2 r3 r4 r5 rf rl
            repeat (first | (refine plan_take _ (by first | exact wanted_free rfl | exact wanted_yes rfl rfl | exact wanted_no rfl rfl) (by first | with_reducible rfl | (simp; done) | decide) ?_; apply Exists.intro; refine ⟨fun w' k1 => ?_, fun K hK => ?_⟩; (focus (have hc := Kept.cell k1; go_simp; first | done | rfl)); (go_simp; refine hK _ ?_; clear hK K)) | (refine plan_off _ (by first | exact wanted_yes rfl rfl | exact wanted_no rfl rfl | rfl) (by first | with_reducible rfl | (simp; done) | rfl | decide) ?_; intro K hK; (try go_simp); refine hK _ ?_; clear hK K))
            refine plan_nil fun w20 k20 => ?_
            try simp only [List.drop_succ_cons, List.drop_zero]
            have UE := hideP ((U4.out.keep jj1).keep (Kept.below k20))
            clear k20 jj1
            go_wp2
            go_returns
            exact ⟨rfl, UE.out.kw⟩


    · have hz : (z != 0) = true := by simpa using hz0
      have SR := hideP (fun W (h : Ws W 0 W.heap.size s1 L1) => sRoute_any tr1 fo1 k x y s1 c1 L1 W h LS1.out)
      rw [HR.out] at SR
      obtain ⟨i0, i1, if0, if1, il⟩ := U1.out.i
      obtain ⟨h0, h1', h2, hf, hl'⟩ := U1.out.h
      obtain ⟨r0, r1', r2, r3, r4, r5, rf, rl⟩ := U1.out.r
      go_wp2
      refine wp_region_plan (R := Kept) (G := Kept) rel_keptA rel_keptA (fun h => h) 14 [(true, 0), (true, 1), (true, 2), (true, 5), (true, 6), (false, 3), (true, 4), (true, 7), (true, 8), (true, 9), (true, 10), (true, 11), (true, 12), (true, 13)] (by kernel_rfl) (by kernel_rfl) ?_
      simp only [selP, List.filterMap_cons, List.filterMap_nil, List.getElem?_cons_succ, List.getElem?_cons_zero, Option.map_some]
      repeat (first | (refine plan_take _ (by first | exact wanted_free rfl | exact wanted_yes rfl rfl | exact wanted_no rfl rfl) (by first | with_reducible rfl | (simp; done) | decide) ?_; apply Exists.intro; refine ⟨fun w' k1 => ?_, fun K hK => ?_⟩; (focus (have hc := Kept.cell k1; go_simp; first | done | rfl)); (go_simp; refine hK _ ?_; clear hK K)) | (refine plan_off _ (by first | exact wanted_yes rfl rfl | exact wanted_no rfl rfl | rfl) (by first | with_reducible rfl | (simp; done) | rfl | decide) ?_; intro K hK; (try go_simp); refine hK _ ?_; clear hK K))
      refine plan_made _ (by first | exact wanted_free rfl | exact wanted_yes rfl rfl | exact wanted_no rfl rfl) (by first | with_reducible rfl | (simp; done) | decide) fun u1 i1 => ?_
      have ii1 := Kept.below i1
      have bb1 := ii1
      refine made_callsR (by go_simp; first | done | rfl) ((SR.out u1 (U1.out.l1.upH bb1)).mono ?_)
      intro e v1 h1
      obtain ⟨q1, m1, d1, rfl, j1⟩ := rt_outR h1
      clear h1
      refine ⟨_, rfl, j1, fun K hK => ?_⟩
      go_simp
      refine hK _ ?_
      clear hK K
      have jj1 := bb1.trans (j1.mono bb1.size)
      clear bb1 i1 ii1 j1
      clear i0 i1 if0 if1 il h0 h1' h2 hf hl' r0 r1' r2 r3 r4 r5 rf rl
      obtain ⟨i0, i1, if0, if1, il⟩ := (U1.out.keep jj1).i
      obtain ⟨h0, h1', h2, hf, hl'⟩ := (U1.out.keep jj1).h
      obtain ⟨r0, r1', r2, r3, r4, r5, rf, rl⟩ := (U1.out.keep jj1).r
      repeat (first | (refine plan_take _ (by first | exact wanted_free rfl | exact wanted_yes rfl rfl | exact wanted_no rfl rfl) (by first | with_reducible rfl | (simp; done) | decide) ?_; apply Exists.intro; refine ⟨fun w' k1 => ?_, fun K hK => ?_⟩; (focus (have hc := Kept.cell k1; go_simp; first | done | (go_at_call 19; exact kept_call (Below.refl _ _) (iHand_any k x y _)) | (go_at_call 20; exact kept_call (Below.refl _ _) (sHand_any k x y _)) | rfl)); (go_simp; refine hK _ ?_; clear hK K)) | (refine plan_off _ (by first | exact wanted_yes rfl rfl | exact wanted_no rfl rfl | rfl) (by first | with_reducible rfl | (simp; done) | rfl | decide) ?_; intro K hK; (try go_simp); refine hK _ ?_; clear hK K))
      refine plan_nil fun w20 k20 => ?_
      try simp only [List.drop_succ_cons, List.drop_zero]
      have UE := hideP ((U1.out.keep jj1).keep (Kept.below k20))
      clear k20 jj1
      go_wp2
      go_returns
      exact ⟨rfl, UE.out.kw⟩




theorem hands_law (a : Option Addr) (len cap : Nat) (zs : List Int) (w : World) (h : IsRow .u8 w a len cap zs) :
    Calls Try.prog 3 #[.slice a len cap] w fun e w' => e = .returned (.bool true) ∧ Below w.heap.size w w' := by
  have hm : len ≤ maxLen := by
    rcases h with ⟨_, h, _⟩ | ⟨x, _, h1, h2, _⟩
    · rw [h]; exact Nat.zero_le _
    · omega
  by_cases hl : len ≤ 1048576
  · exact hands_small w a len cap _ h.bytes hm hl
  · exact hands_big w a len cap hm (by omega)
end Go.Proofs.Ytoipcnpemmajaaa
