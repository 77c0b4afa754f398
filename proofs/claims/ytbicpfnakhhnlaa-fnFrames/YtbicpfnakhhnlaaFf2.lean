/- FnFrames: the law's walk. -/
import Derived.Test.YtbicpfnakhhnlaaFf1
namespace Go.Proofs.Ytbicpfnakhhnlaa
open Go.RowKit
set_option linter.unusedVariables false
attribute [local go_sem] growUpon growAt

theorem Bytes.below {w w' : World} {B N : Nat} {a : Option Addr} {len : Nat} {f : Nat → Int} (h : Bytes w B a len f) (k : Below N w w') (hB : B ≤ N) : Bytes w' B a len f := by
  rcases h with h | ⟨xb, xo, ha, hx, hc⟩
  · exact .inl h
  · exact .inr ⟨xb, xo, ha, hx, fun i hi => ⟨(k.cell (p := ⟨xb, xo + i, none⟩) (by show xb < N; omega)).trans (hc i hi).1, (hc i hi).2⟩⟩

/-- The mathematics: cut at once, and in two. -/
theorem cut_parts {L M : List Int} {c : Nat} (hc : c ≤ M.length) (h : frC L M = 0) : frC L (M.take c) = 0 ∧ frC (cut (L ++ M.take c)).2 (M.drop c) = 0 ∧ frA L M = L ++ M ∧ frA L (M.take c) = L ++ M.take c ∧ frA (cut (L ++ M.take c)).2 (M.drop c) = (cut (L ++ M.take c)).2 ++ M.drop c ∧
    (cut (L ++ M)).1 = (cut (L ++ M.take c)).1 ++ (cut ((cut (L ++ M.take c)).2 ++ M.drop c)).1 ∧ (cut (L ++ M)).2 = (cut ((cut (L ++ M.take c)).2 ++ M.drop c)).2 ∧ rsF (cut (L ++ M)).2 = 0 := by
  have hr : rsF L = 0 := by
    by_cases e : rsF L = 0
    · exact e
    · rw [(frC_no M e).1] at h; exact absurd h e
  have hM : ¬ 300 < M.length := fun e => by rw [(frC_many hr e).1] at h; cases h
  have h1 := frC_yes hr hM
  have h2 := frC_yes (L := L) (M := M.take c) hr (by simp; omega)
  have h3 := frC_yes (L := (cut (L ++ M.take c)).2) (M := M.drop c) (cut_rest _ _ (Nat.le_refl _)) (by simp; omega)
  have e : L ++ M = (L ++ M.take c) ++ M.drop c := by rw [List.append_assoc, List.take_append_drop]
  have h4 := cut_app _ (L ++ M.take c) (M.drop c) (Nat.le_refl _)
  rw [← e] at h4
  exact ⟨h2.1, h3.1, h1.2, h2.2, h3.2, h4.1, h4.2, cut_rest _ _ (Nat.le_refl _)⟩

set_option maxHeartbeats 400000 in
theorem frames_big (a : Option Addr) (len cap : Nat) (w : World) (hl : len ≤ maxLen) (h : 1048576 < len) :
    Calls Try.prog 3 #[.slice a len cap] w fun e w' => e = .returned (.bool true) ∧ Below w.heap.size w w' := by
  have hd : decide ((1048576 : Int) < (len : Int)) = true := by simp; omega
  go_enter Try.func3, Try.ntmps3
  go_wp2_with (go_at_call 8; refine Calls.mono (bigQ _ _ _ _ hl) ?_; rintro e w0 ⟨rfl, hw0⟩; subst w0)
  go_returns
  exact ⟨rfl, Below.refl _ _⟩

set_option maxRecDepth 100000 in
set_option maxHeartbeats 8000000 in
theorem frames_small (a : Option Addr) (len cap : Nat) (f : Nat → Int) (w : World) (hB : Bytes w w.heap.size a len f) (hlm : len ≤ maxLen) (hl : len ≤ 1048576) :
    Calls Try.prog 3 #[.slice a len cap] w fun e w' => e = .returned (.bool true) ∧ Below w.heap.size w w' := by
  have hd : decide ((1048576 : Int) < (len : Int)) = false := by simp; omega
  have HB := hideP hB
  clear hB
  go_enter Try.func3, Try.ntmps3
  go_wp2_with fail
  refine Calls.mono (bigQ _ _ _ _ hlm) ?_
  rintro e w0 ⟨rfl, hw0⟩
  subst w0
  rw [hd]
  go_wp2_with fail
  refine Calls.mono (drawCut_any w a len cap f HB.out hl) ?_
  rintro e w1 ⟨ao, ca, L, bo, cb, M, rfl, hbL, hbM, hLl, hMl, hMc, hAd, k1, RL, RM⟩
  have K1 := hideP k1
  have HRL := hideP RL
  have HRM := hideP RM
  have HbL := hideP hbL
  have HbM := hideP hbM
  have HAd := hideP hAd
  have n1 := k1.size
  have hMi : (M.length : Int) ≤ 301 := by omega
  clear k1 RL RM hbL hbM hAd
  obtain ⟨P, hP⟩ : ∃ P, cut (frA L M) = P := ⟨_, rfl⟩
  have HP := hideP hP
  obtain ⟨C, hC⟩ : ∃ C, frC L M = C := ⟨_, rfl⟩
  have HC := hideP hC
  have IC := fun lo hi w' x y z => (iCut_any lo hi ao bo ca cb L M w' x y z HbL.out HbM.out (by omega) (by omega)).mono fun e w'' h => ans3_of h hP
  have SC := fun lo hi w' x y z => (sCut_any lo hi ao bo ca cb L M w' x y z HbL.out HbM.out (by omega) (by omega)).mono fun e w'' h => ans3_of h hP
  rw [hC] at IC SC
  have IR := fun lo hi w' x => iRest_any lo hi ao ca L w' x HbL.out (by omega)
  have SR := fun lo hi w' x => sRest_any lo hi ao ca L w' x HbL.out (by omega)
  obtain ⟨F, hF⟩ : ∃ F, rsF L = F := ⟨_, rfl⟩
  rw [hF] at IR SR
  have IC' := hideP IC
  have SC' := hideP SC
  have IR' := hideP IR
  have SR' := hideP SR
  obtain ⟨n, hn⟩ : ∃ n, P.1.length = n := ⟨_, rfl⟩
  obtain ⟨m, hm⟩ : ∃ m, P.2.length = m := ⟨_, rfl⟩
  obtain ⟨N, hN⟩ : ∃ N, nW P.1 = N := ⟨_, rfl⟩
  rw [hn, hm, hN] at IC' SC'
  have HNm := hideP (And.intro hn (And.intro hm hN))
  clear hP hC IC SC IR SR hF hn hm hN
  go_wp2_with fail
  refine Calls.mono (IC'.out _ _ w1 HRL.out HRM.out (Nat.le_refl _)) ?_
  rintro e w2 ⟨so, sc, bs, r, rfl, k2, E1, E2, E3, E4, F2⟩
  have K2 := hideP (K1.out.trans (k2.mono (by omega)))
  have RL2 := hideP (HRL.out.keep k2 (Nat.le_refl _))
  have RM2 := hideP (HRM.out.keep k2 (Nat.le_refl _))
  have G3 : Hid (FX (w2.alloc (.cells #[.int .i64 C, .slice so n sc, .int .i64 N, .slice r.ao m r.cap] 30)) w2.heap.size w1.heap.size w2.heap.size C N n m so sc bs r) := hideP (FX.new F2)
  have HE := hideP (And.intro E1 (And.intro E2 (And.intro E3 E4)))
  have n2 := k2.size
  clear k2 F2 E1 E2 E3 E4 K1 HRL HRM
  go_wp2_with fail
  have ka := kalF w2 (.cells #[.int .i64 C, .slice so n sc, .int .i64 N, .slice r.ao m r.cap] 30)
  have K3 := hideP (K2.out.trans (ka.mono (by omega)))
  have RL3 := hideP (RL2.out.keep ka (by omega))
  have RM3 := hideP (RM2.out.keep ka (by omega))
  have n3 : w2.heap.size < (w2.alloc (.cells #[.int .i64 C, .slice so n sc, .int .i64 N, .slice r.ao m r.cap] 30)).heap.size := by simp
  clear ka K2 RL2 RM2
  generalize w2.alloc (.cells #[.int .i64 C, .slice so n sc, .int .i64 N, .slice r.ao m r.cap] 30) = w3 at *
  refine Calls.mono (SC'.out _ _ w3 RL3.out RM3.out (by omega)) ?_
  rintro e w4 ⟨so4, sc4, bs4, r4, rfl, k4, -, -, -, -, F4⟩
  have K4 := hideP (K3.out.trans (k4.mono (by omega)))
  have RL4 := hideP (RL3.out.keep k4 (by omega))
  have RM4 := hideP (RM3.out.keep k4 (by omega))
  have G4 := hideP (G3.out.keep k4 (by omega) (by omega))
  have H5 : Hid (R4 (w4.alloc (.cells #[.int .i64 C, .slice so4 n sc4, .int .i64 N, .slice r4.ao m r4.cap] 30)) w4.heap.size (.int .i64 C) (.slice so4 n sc4) (.int .i64 N) (.slice r4.ao m r4.cap)) := hideP ⟨by simp, by simp, by simp, by simp, by simp, by simp, by simp, by simp, by simp⟩
  have n4 := k4.size
  clear k4 F4 K3 RL3 RM3 G3
  have ka := kalF w4 (.cells #[.int .i64 C, .slice so4 n sc4, .int .i64 N, .slice r4.ao m r4.cap] 30)
  have K5 := hideP (K4.out.trans (ka.mono (by omega)))
  have RL5 := hideP (RL4.out.keep ka (by omega))
  have RM5 := hideP (RM4.out.keep ka (by omega))
  have G5 := hideP (G4.out.keep ka (by omega) (by omega))
  have n5 : w4.heap.size < (w4.alloc (.cells #[.int .i64 C, .slice so4 n sc4, .int .i64 N, .slice r4.ao m r4.cap] 30)).heap.size := by simp
  clear ka K4 RL4 RM4
  obtain ⟨g0, g1, g2, g3, g4, g5, g6, g7, g8⟩ := G4.out.box
  have q1 : (C != C) = false := by simp
  have q2 : ((n : Int) != (n : Int)) = false := by simp
  have q3 : (N != N) = false := by simp
  have q4 : (F != F) = false := by simp
  go_wp2_with fail
  refine Calls.mono (IR'.out _ _ _ RL5.out) ?_
  rintro e w6 ⟨rfl, hw6⟩
  subst w6
  go_wp2_with fail
  refine Calls.mono (SR'.out _ _ _ RL5.out) ?_
  rintro e w6 ⟨rfl, hw6⟩
  subst w6
  by_cases hC0 : C = 0
  rotate_left
  · have hCn : (C != 0) = true := by simpa using hC0
    go_wp2
    go_returns
    exact ⟨rfl, K5.out⟩
  subst hC0
  clear q1 q2 q3 q4
  go_wp2_with fail
  clear g0 g1 g2 g3 g4 g5 g6 g7 g8 IR' SR' SC' G4
  generalize w4.alloc (.cells #[.int .i64 0, .slice so4 n sc4, .int .i64 N, .slice r4.ao m r4.cap] 30) = w5 at *
  refine Calls.mono (atQ w5 a len cap w.heap.size f 3 _ (HB.out.below K5.out (Nat.le_refl _)) hl (by omega) (by omega) (by omega) (by omega)) ?_
  rintro e w6 ⟨x, rfl, x0, x1, k6⟩
  have K6 := hideP (K5.out.trans (k6.mono (by omega)))
  have RL6 := hideP (RL5.out.keep k6 (by omega))
  have RM6 := hideP (RM5.out.keep k6 (by omega))
  have G6 := hideP (G5.out.keep k6 (by omega) (by omega))
  have n6 := k6.size
  obtain ⟨c, rfl⟩ : ∃ c : Nat, x = c := ⟨x.toNat, by omega⟩
  have hcM : c ≤ M.length := by omega
  clear k6 K5 RL5 RM5 G5 H5
  obtain ⟨p1, p2, p3, p4, p5, p6, p7, p8⟩ := cut_parts hcM HC.out
  obtain ⟨bo1, cb1, bo2, cb2, hs1, hs2, RT, RD⟩ := cut_two c HAd.out hMc hcM RM6.out
  have HRT := hideP RT
  have HRD := hideP RD
  have HS2 := hideP hs2
  have I1 := fun lo hi w' x y z => (iCut_any lo hi ao bo1 ca cb1 L (M.take c) w' x y z HbL.out (byts_take HbM.out c) (by omega) (by simp; omega)).mono fun e w'' h => ans3_of h (P := cut (L ++ M.take c)) (by rw [p4])
  rw [p1] at I1
  have hL1 : (L ++ M.take c).length ≤ 1000 := by simp; omega
  have hbP : byts (cut (L ++ M.take c)).2 := cut_byts (byts_app HbL.out (byts_take HbM.out c))
  have hl1 := cut_len _ (L ++ M.take c) (Nat.le_refl _)
  obtain ⟨P1, hP1⟩ : ∃ P1, cut (L ++ M.take c) = P1 := ⟨_, rfl⟩
  rw [hP1] at I1 p2 p5 p6 p7 hbP hl1
  obtain ⟨P2, hP2⟩ : ∃ P2, cut (P1.2 ++ M.drop c) = P2 := ⟨_, rfl⟩
  have hl2 := cut_len _ (P1.2 ++ M.drop c) (Nat.le_refl _)
  rw [hP2] at p6 p7 hl2
  have hPP : cut (L ++ M) = P := by rw [← p3]; exact HP.out
  rw [hPP] at p6 p7 p8
  have I2 := fun (ro : Option Addr) (rc lo hi : Nat) (w' : World) x y z => (iCut_any lo hi ro bo2 rc cb2 P1.2 (M.drop c) w' x y z hbP (byts_drop HbM.out c) (by omega) (by simp; omega)).mono fun e w'' h => ans3_of h (P := P2) (by rw [p5]; exact hP2)
  rw [p2] at I2
  have I1' := hideP I1
  have I2' := hideP I2
  have IRF := fun (ro : Option Addr) (rc lo hi : Nat) (w' : World) x => iRest_any lo hi ro rc P.2 w' x (by rw [p7]; rw [← hP2]; exact cut_byts (byts_app hbP (byts_drop HbM.out c))) (by rw [p7]; simp at hl2; omega)
  rw [p8] at IRF
  have IRF' := hideP IRF
  have Q6 := hideP p6
  have Q7 := hideP p7
  have hN12 : nW P.1 = nW P1.1 + nW P2.1 := by rw [p6, nW_app]
  have hn12 : P.1.length = P1.1.length + P2.1.length := by rw [p6]; simp
  have hnA : P1.1.length ≤ 1000 := by omega
  have hnB : P2.1.length ≤ 2000 := by simp at hl2; omega
  have hNA0 := nW_nonneg P1.1
  have hNA1 := nW_le P1.1
  have hNB0 := nW_nonneg P2.1
  have hNB1 := nW_le P2.1
  rw [HNm.out.2.2] at hN12
  rw [HNm.out.1] at hn12
  clear p1 p2 p3 p4 p5 p6 p7 p8 I1 I2 IRF hbP hP1 hP2 hPP hl1 hl2 hL1 RT RD hs2
  obtain ⟨nA, hnA'⟩ : ∃ nA, P1.1.length = nA := ⟨_, rfl⟩
  obtain ⟨mA, hmA'⟩ : ∃ mA, P1.2.length = mA := ⟨_, rfl⟩
  obtain ⟨NA, hNA'⟩ : ∃ NA, nW P1.1 = NA := ⟨_, rfl⟩
  obtain ⟨nB, hnB'⟩ : ∃ nB, P2.1.length = nB := ⟨_, rfl⟩
  obtain ⟨mB, hmB'⟩ : ∃ mB, P2.2.length = mB := ⟨_, rfl⟩
  obtain ⟨NB, hNB'⟩ : ∃ NB, nW P2.1 = NB := ⟨_, rfl⟩
  rw [hnA'] at I1' hn12 hnA hNA1
  rw [hmA'] at I1' I2'
  rw [hNA'] at I1' hN12 hNA0 hNA1
  rw [hnB'] at I2' hn12 hnB hNB1
  rw [hmB'] at I2'
  rw [hNB'] at I2' hN12 hNB0 hNB1
  have HmB := hideP hmB'
  clear hnA' hmA' hNA' hnB' hmB' hNB'
  obtain ⟨lT, hlT⟩ : ∃ lT, (M.take c).length = lT := ⟨_, rfl⟩
  rw [hlT] at hs1 I1'
  obtain ⟨lD, hlD⟩ : ∃ lD, (M.drop c).length = lD := ⟨_, rfl⟩
  rw [hlD] at HS2 I2'
  clear hlT hlD
  go_wp2_with fail
  refine Calls.mono (I1'.out _ _ w6 RL6.out HRT.out (by omega)) ?_
  rintro e w7 ⟨soA, scA, bsA, rA, rfl, k7, E1, E2, E3, E4, F7⟩
  have K7 := hideP (K6.out.trans (k7.mono (by omega)))
  have RD7 := hideP (HRD.out.keep k7 (by omega))
  have G7 := hideP (G6.out.keep k7 (by omega) (by omega))
  have A8 : Hid (FX (w7.alloc (.cells #[.int .i64 0, .slice soA nA scA, .int .i64 NA, .slice rA.ao mA rA.cap] 30)) w7.heap.size w6.heap.size w7.heap.size 0 NA nA mA soA scA bsA rA) := hideP (FX.new F7)
  have HEA := hideP (And.intro E1 (And.intro E2 (And.intro E3 E4)))
  have n7 := k7.size
  clear k7 F7 E1 E2 E3 E4 K6 RL6 RM6 G6 HRT HRD hs1 I1'
  have ka := kalF w7 (.cells #[.int .i64 0, .slice soA nA scA, .int .i64 NA, .slice rA.ao mA rA.cap] 30)
  have K8 := hideP (K7.out.trans (ka.mono (by omega)))
  have RD8 := hideP (RD7.out.keep ka (by omega))
  have G8 := hideP (G7.out.keep ka (by omega) (by omega))
  have n8 : w7.heap.size < (w7.alloc (.cells #[.int .i64 0, .slice soA nA scA, .int .i64 NA, .slice rA.ao mA rA.cap] 30)).heap.size := by simp
  clear ka K7 RD7 G7
  go_wp2
  generalize w7.alloc (.cells #[.int .i64 0, .slice soA nA scA, .int .i64 NA, .slice rA.ao mA rA.cap] 30) = w8 at *
  obtain ⟨la, ua, ra, qa⟩ := Bd.row (A8.out.fr.bods.each rA (by simp))
  rw [HEA.out.2.1] at ra
  have hs2 := HS2.out
  obtain ⟨a0, a1, a2, a3, a4, a5, a6, a7, a8⟩ := A8.out.box
  refine wp_region_called 6 rfl rfl (ResF 0 NB P2 nB mB) (.cells #[.int .i64 0, .slice none 0 0, .int .i64 0, .slice none 0 0] 30) (by kernel_rfl) (by kernel_rfl) ?_
  simp only [List.take_succ_cons, List.take_zero, List.drop_succ_cons, List.drop_zero]
  repeat (refine grow_step (by rfl) ?_; apply Exists.intro; refine ⟨fun w1 k1 => ?_, fun K hK => ?_⟩; (focus (have hc := Kept.cell k1; go_simp; first | done | rfl)); (go_simp; refine hK _ ?_; clear hK K))
  refine grow_nil ?_
  refine ⟨by rfl, by rfl, fun w1 k1 => ?_, fun w1 => (by go_simp), fun v B9 w9 h9 => ?_⟩
  · have kk1 := Kept.below k1
    have z1 := kk1.size
    refine made_call (by go_simp; first | done | rfl) ((I2'.out rA.ao rA.cap 0 w8.heap.size w1 ((ra.keep kk1 qa).wide (Nat.zero_le _) (by omega)) ((RD8.out.keep kk1 (by omega)).wide (Nat.zero_le _) (by omega)) (by omega)).mono ?_)
    rintro e w2 ⟨so, sc, bs, r, rfl, k2, E1, E2, E3, E4, F⟩
    exact ⟨_, rfl, k2, so, sc, bs, r, rfl, E1, E2, E3, E4, F⟩
  obtain ⟨soB, scB, bsB, rB, lo9, hi9, rfl, R9, E1, E2, E3, E4, z9, y9, k9, F9⟩ := gotF h9
  clear h9 a0 a1 a2 a3 a4 a5 a6 a7 a8 hs2 HS2 I2' ra qa
  have HEB := hideP (And.intro E1 (And.intro E2 (And.intro E3 E4)))
  have K9 := hideP k9
  have B9' := hideP F9
  clear E1 E2 E3 E4 k9 F9
  obtain ⟨b0, b1, b2, b3, b4, b5, b6, b7, b8⟩ := R9
  go_wp2
  clear b0 b1 b2 b3 b4 b5 b6 b7 b8
  have A10 := hideP (A8.out.keep K9.out n8 (by omega))
  have G10 := hideP (G8.out.keep K9.out (by omega) (by omega))
  have K10 := hideP (K8.out.trans (K9.out.mono (by omega)))
  have z10 := K9.out.size
  have y10 := B9'.out.box.lt
  clear A8 G8 K8 K9 RD8
  generalize (((w9.setCell ⟨B9, 0, none⟩ (.int .i64 0)).setCell ⟨B9, 1, none⟩ (.slice soB nB scB)).setCell ⟨B9, 2, none⟩ (.int .i64 NB)).setCell ⟨B9, 3, none⟩ (.slice rB.ao mB rB.cap) = w10 at *
  have hA7 : w7.heap.size < w10.heap.size := by omega
  obtain ⟨a0, a1, a2, a3, a4, a5, a6, a7, a8⟩ := A10.out.box
  obtain ⟨b0, b1, b2, b3, b4, b5, b6, b7, b8⟩ := B9'.out.box
  refine wp_region_held (S := Kept w10) (by kernel_rfl) ?_
  show wpAnyH _ _ _ _ _ 10 (Array.replicate 10 false) _ (w10).drew
  have hK0 : Kept (w10) (w10).drew := (Below.refl _ _).drew
  generalize hQQ : (Exit.then _ _ : Exit → Act → World → Prop) = QQ
  have hQ : ∀ c a d v w, QQ (.panic c) (Act.put a d v) w → QQ (.panic c) a w := by
    subst hQQ
    intro c a d v w h
    cases d <;> exact h
  refine held_take (i := 1) rfl (by kernel_rfl) (by kernel_rfl) (by kernel_rfl) hQ hK0 (by rfl) ?_
  apply Exists.intro
  refine ⟨fun w1 k1 => ?_, fun K hK => ?_⟩
  · have hc := Kept.cell k1
    go_simp
    first | done | rfl
  go_simp
  refine hK _ ?_
  clear hK K
  refine held_take (i := 2) rfl (by kernel_rfl) (by kernel_rfl) (by kernel_rfl) hQ hK0 (by rfl) ?_
  apply Exists.intro
  refine ⟨fun w1 k1 => ?_, fun K hK => ?_⟩
  · have hc := Kept.cell k1
    go_simp
    first | done | rfl
  go_simp
  refine hK _ ?_
  clear hK K
  refine held_take (i := 3) rfl (by kernel_rfl) (by kernel_rfl) (by kernel_rfl) hQ hK0 (by rfl) ?_
  apply Exists.intro
  refine ⟨fun w1 k1 => ?_, fun K hK => ?_⟩
  · have hc := Kept.cell k1
    go_simp
    first | done | rfl
  go_simp
  refine hK _ ?_
  clear hK K
  refine held_take (i := 5) rfl (by kernel_rfl) (by kernel_rfl) (by kernel_rfl) hQ hK0 (by rfl) ?_
  apply Exists.intro
  refine ⟨fun w1 k1 => ?_, fun K hK => ?_⟩
  · have hc := Kept.cell k1
    go_simp
    first | done | rfl
  go_simp
  refine hK _ ?_
  clear hK K
  refine held_take (i := 6) rfl (by kernel_rfl) (by kernel_rfl) (by kernel_rfl) hQ hK0 (by rfl) ?_
  apply Exists.intro
  refine ⟨fun w1 k1 => ?_, fun K hK => ?_⟩
  · have hc := Kept.cell k1
    go_simp
    first | done | rfl
  go_simp
  refine hK _ ?_
  clear hK K
  refine held_take (i := 7) rfl (by kernel_rfl) (by kernel_rfl) (by kernel_rfl) hQ hK0 (by rfl) ?_
  apply Exists.intro
  refine ⟨fun w1 k1 => ?_, fun K hK => ?_⟩
  · have hc := Kept.cell k1
    go_simp
    first | done | rfl
  go_simp
  refine hK _ ?_
  clear hK K
  clear a0 a1 a2 a3 a4 a5 a6 a7 b0 b1 b2 b3 b4 b5 b6 b7
  have hO11 : OwnV (w10.drew.alloc (.cells #[] 22)) w10.heap.size (some ⟨w10.heap.size, 0, none⟩) 0 [] := World.ownsRow_lit (e := 22) (size := 1) w10.drew #[] 0 (by simp) (by unfold maxLen; simp) rfl
  have hK11 : Kept w10 (w10.drew.alloc (.cells #[] 22)) := Kept.trans hK0 (kept_alloc _ _)
  refine held_one (i := 0) rfl (by kernel_rfl) (by rfl) ?_
  refine wp_of_run (v := .slice (some ⟨w10.heap.size, 0, none⟩) 0 0) (w' := w10.drew.alloc (.cells #[] 22)) (by go_simp; first | done | rfl) ?_
  refine ⟨hK11, ?_⟩
  refine norm_act fun K hK => ?_
  go_simp
  refine hK _ ?_
  clear hK K
  have z11 : w10.heap.size ≤ (w10.drew.alloc (.cells #[] 22)).heap.size := hK11.le
  generalize w10.drew.alloc (.cells #[] 22) = w11 at *
  have SA := A10.out.fr.spine
  have SB := B9'.out.fr.spine
  refine held_one (i := 4) rfl (by kernel_rfl) (by rfl) ?_
  obtain ⟨so12, sc12, w12, hr12, O12, k12⟩ := run_appV (w := w11) w10.heap.size 26 _ _ [] bsA _ _ soA scA nA HEA.out.2.2.1 hO11 (SA.keep (Kept.below hK11) A10.out.fr.hs) (by rw [HEA.out.2.2.1]; simp; omega) z11
  rw [List.nil_append] at hr12 O12
  rw [HEA.out.2.2.1] at hr12
  have hK12 : Kept w10 w12 := Below.trans (Kept.below hK11) k12
  have hr12' : (Builtin.append_ #[26, 26] 26 #[.slice (some ⟨w10.heap.size, 0, none⟩) 0 0, .slice soA nA scA]).run Try.prog w11 = .ok (.slice so12 nA sc12) w12 := hr12
  refine wp_of_run (v := .slice so12 nA sc12) (w' := w12) (exec_app _ _ rfl rfl rfl hr12') ?_
  refine ⟨hK12, ?_⟩
  refine norm_act fun K hK => ?_
  go_simp
  refine hK _ ?_
  clear hK K hr12 hr12' hO11 k12
  refine held_one (i := 8) rfl (by kernel_rfl) (by rfl) ?_
  obtain ⟨so13, sc13, w13, hr13, O13, k13⟩ := run_appV (w := w12) w10.heap.size 26 _ _ bsA bsB _ _ soB scB nB HEB.out.2.2.1 O12 (SB.keep (Kept.below hK12) B9'.out.fr.hs) (by rw [HEA.out.2.2.1, HEB.out.2.2.1]; omega) hK12.le
  have hlen13 : (bsA ++ bsB).length = n := by rw [List.length_append, HEA.out.2.2.1, HEB.out.2.2.1, hn12]
  rw [HEA.out.2.2.1, hlen13] at hr13
  have hK13 : Kept w10 w13 := Below.trans (Kept.below hK12) k13
  refine wp_of_run (v := .slice so13 n sc13) (w' := w13) (exec_app _ _ rfl rfl rfl hr13) ?_
  refine ⟨hK13, ?_⟩
  refine norm_act fun K hK => ?_
  go_simp
  refine hK _ ?_
  clear hK K hr13 k13 O12 SA SB
  refine held_one (i := 9) rfl (by kernel_rfl) (by rfl) ?_
  refine wp_of_run (v := .slice so13 n sc13) (w' := _) (by go_simp; first | done | rfl) ?_
  refine ⟨hK13, ?_⟩
  refine norm_act fun K hK => ?_
  go_simp
  refine hK _ ?_
  clear hK K
  refine wpAnyH_done (by kernel_rfl) ?_ _
  subst hQQ
  have kk13 := Kept.below hK13
  have S13 := hideP O13.spn
  have A13 := hideP (A10.out.keep kk13 hA7 (by have := A10.out.fr.hs; omega))
  have B13 := hideP (B9'.out.keep kk13 y10 (by have := B9'.out.fr.hs; omega))
  have G13 := hideP (G10.out.keep kk13 (by omega) (by omega))
  have K13 := hideP (K10.out.trans (kk13.mono (by omega)))
  have z13 := kk13.size
  have HL13 := hideP hlen13
  clear hQ hK0 hK11 hK12 hK13 kk13 O13 A10 B9' G10 K10 a8 b8 hlen13
  obtain ⟨a0, a1, a2, a3, a4, a5, a6, a7, a8⟩ := A13.out.box
  obtain ⟨b0, b1, b2, b3, b4, b5, b6, b7, b8⟩ := B13.out.box
  obtain ⟨g0, g1, g2, g3, g4, g5, g6, g7, g8⟩ := G13.out.box
  have q2 : ((n : Int) != (n : Int)) = false := by simp
  go_wp2
  clear a0 a1 a2 a3 a4 a5 a6 a7 b0 b1 b2 b3 b4 b5 b6 b7 g0 g1 g2 g3 g4 g5 g6 g7
  have HML : Hid ((bsA ++ bsB).map Bd.L = bs.map Bd.L) := hideP (by rw [List.map_append, HEA.out.1, HEB.out.1, HE.out.1]; exact Q6.out.symm)
  have HON : Hid (∀ b ∈ bsA ++ bsB, b.on w13) := hideP (fun b m => by
    rcases List.mem_append.1 m with m | m
    · exact A13.out.fr.bods.each b (by simp [m])
    · exact B13.out.fr.bods.each b (by simp [m]))
  have hnI : (n : Int) ≤ 3000 := by omega
  go_loopw [11] (fun i wr => ∃ j : Nat, j ≤ n ∧ i = .int .i64 j ∧ Below w13.heap.size w13 wr) (fun i _ => n - (intOf i).toNat)
  case atStart => exact ⟨0, Nat.zero_le _, rfl, Below.refl _ _⟩
  case round =>
    obtain ⟨j, hj, rfl, kr⟩ := hrel
    have KR := hideP kr
    have zr := kr.size
    by_cases hlt : j < n
    · have hlt' : (j : Int) < (n : Int) := by omega
      have hj1 : j < (bsA ++ bsB).length := by rw [HL13.out]; exact hlt
      have hj2 : j < bs.length := by rw [HE.out.2.2.1]; exact hlt
      have hne1 : bsA ++ bsB ≠ [] := fun e => by rw [e] at hj1; simp at hj1
      have hne2 : bs ≠ [] := fun e => by rw [e] at hj2; simp at hj2
      rcases S13.out with e | ⟨gs, rfl, _, hg, hc⟩
      · exact absurd e hne1
      rcases G13.out.fr.spine with e | ⟨gs2, rfl, _, hg2, hc2⟩
      · exact absurd e hne2
      have hh2 := G13.out.fr.hs
      have c1 := (kr.cell (p := ⟨gs, j, none⟩) (by show gs < _; omega)).trans (hc j hj1)
      have c2 := (kr.cell (p := ⟨gs2, j, none⟩) (by show gs2 < _; omega)).trans (hc2 j hj2)
      have hX := map_at HML.out j hj2 hj1
      obtain ⟨l3, u3, r3, q3⟩ := Bd.row (HON.out (bsA ++ bsB)[j] (List.getElem_mem _))
      obtain ⟨l4, u4, r4', q4⟩ := Bd.row (G13.out.fr.bods.each bs[j] (by simp [List.getElem_mem]))
      unfold Bd.val at c1 c2
      rw [hX] at c1 r3
      have BY := fun w1 (kk : Kept wr w1) => bytes_same l3 u3 l4 u4 (bsA ++ bsB)[j].ao bs[j].ao (bsA ++ bsB)[j].cap bs[j].cap bs[j].L w1 (r3.keep (KR.out.trans (kk.mono KR.out.size)) q3) (r4'.keep (KR.out.trans (kk.mono KR.out.size)) q4)
      have BY' := hideP BY
      have gl1 : gs < wr.heap.size := by omega
      have gl2 : gs2 < wr.heap.size := by omega
      have gl3 : w2.heap.size < wr.heap.size := by omega
      obtain ⟨g0, g1, g2, g3, g4, g5, g6, g7, g8'⟩ := G13.out.box.keep kr (by omega)
      clear hc hc2 BY r3 r4' hX hne1 hne2 kr q3 q4
      generalize bs[j].L = X at *
      generalize (bsA ++ bsB)[j].ao = x1 at *
      generalize bs[j].ao = x2 at *
      generalize (bsA ++ bsB)[j].cap = x3 at *
      generalize bs[j].cap = x4 at *
      go_wp2
      refine wp_region_kept (by kernel_rfl) (by kernel_rfl) ?_
      repeat (refine kept_step (by rfl) ?_; apply Exists.intro; refine ⟨fun w1 k1 => ?_, fun K hK => ?_⟩; (focus (have hc := Kept.cell k1; go_simp; first | done | rfl | (go_at_call 15; exact kept_call_same k1 (BY'.out _ k1)))); (go_simp; refine hK _ ?_; clear hK K))
      refine wpQuiet_nil ?_
      intro w19 k19
      replace k19 := Kept.below k19
      have hc19 := Kept.cell k19
      have hf19 := Kept.frozen k19
      have hz19 := k19.size
      try simp only [World.size_alloc] at hz19
      try simp only [World.size_setCell] at hz19
      try simp only [World.size_drew] at hz19
      try (first | have hs19 := sz12 hz19 | have hs19 := sz11 hz19 | have hs19 := sz10 hz19 | have hs19 := sz9 hz19 | have hs19 := sz8 hz19 | have hs19 := sz7 hz19 | have hs19 := sz6 hz19 | have hs19 := sz5 hz19 | have hs19 := sz4 hz19 | have hs19 := sz3 hz19 | have hs19 := sz2 hz19 | have hs19 := sz1 hz19)
      go_wp2
      go_roundw
      case rel => exact ⟨j + 1, by omega, by go_num, KR.out.trans (k19.mono KR.out.size)⟩
      case measure => simp [intOf]; omega
    · obtain rfl : j = n := by omega
      have hltn : ¬ ((j : Int) < (j : Int)) := by omega
      have hmm : mB = m := by rw [← HmB.out, ← Q7.out]; exact HNm.out.2.1
      subst hmm
      obtain ⟨l3, u3, r3, q3⟩ := Bd.row (B13.out.fr.bods.each rB (by simp))
      obtain ⟨l4, u4, r4', q4⟩ := Bd.row (G13.out.fr.bods.each r (by simp))
      have e3 : rB.L = P.2 := by rw [HEB.out.2.1]; exact Q7.out.symm
      rw [e3] at r3
      rw [HE.out.2.1] at r4'
      have BY := bytes_same l3 u3 l4 u4 rB.ao r.ao rB.cap r.cap P.2 wr (r3.keep KR.out q3) (r4'.keep KR.out q4)
      have RF := IRF'.out r.ao r.cap l4 u4 wr (r4'.keep KR.out q4)
      rw [HNm.out.2.1] at BY RF
      have BY' := hideP BY
      have RF' := hideP RF
      have qN : (NA + NB == N) = true := by simp [hN12]
      have KF := hideP (K13.out.trans (KR.out.mono (by omega)))
      obtain ⟨a0, a1, a2, a3, a4, a5, a6, a7, a8'⟩ := A13.out.box.keep kr (by omega)
      obtain ⟨b0, b1, b2, b3, b4, b5, b6, b7, b8'⟩ := B13.out.box.keep kr (by omega)
      obtain ⟨g0, g1, g2, g3, g4, g5, g6, g7, g8'⟩ := G13.out.box.keep kr (by omega)
      clear BY RF r3 r4' e3 kr q3 q4 hN12
      go_wp2_with (first | (go_at_call 15; refine Calls.mono BY'.out ?_; rintro e w1 ⟨rfl, hw1⟩; subst w1) | (go_at_call 12; refine Calls.mono RF'.out ?_; rintro e w1 ⟨rfl, hw1⟩; subst w1))
      go_returns
      exact ⟨rfl, KF.out⟩

theorem frames_law (a : Option Addr) (len cap : Nat) (zs : List Int) (w : World) (h : IsRow .u8 w a len cap zs) :
    Calls Try.prog 3 #[.slice a len cap] w fun e w' => e = .returned (.bool true) ∧ Below w.heap.size w w' := by
  have hm : len ≤ maxLen := by
    rcases h with ⟨_, h, _⟩ | ⟨x, _, h1, h2, _⟩
    · rw [h]; exact Nat.zero_le _
    · omega
  by_cases hl : len ≤ 1048576
  · exact frames_small a len cap _ w h.bytes hm hl
  · exact frames_big a len cap w hm (by omega)

end Go.Proofs.Ytbicpfnakhhnlaa
