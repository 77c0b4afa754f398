/- FnQueues: the law's walk. -/
import Derived.Test.YtefkngpceeclhaaQd4
import Derived.Test.YtefkngpceeclhaaLwA
import Derived.Test.YtefkngpceeclhaaPlanR
import Derived.Test.YtefkngpceeclhaaQf3
import Derived.Test.YtefkngpceeclhaaKeepG
namespace Go.Proofs.Ytefkngpceeclhaa
open Go.RowKit
set_option linter.unusedVariables false
attribute [local go_sem] growUpon growAt growUponR growAtR

set_option maxHeartbeats 1000000 in
theorem drawIR_any (w : World) (a : Option Addr) (len cap : Nat) (f : Nat → Int) (hB : Bytes w w.heap.size a len f) (hl : len ≤ 1048576) :
    Calls Try.prog 13 #[.slice a len cap] w fun e w' => ∃ k : Int, e = .returned (.int .i64 k) ∧ Below w.heap.size w w' := by
  have S0 := hideP (Src.newR w w w.heap.size a len cap f 96 hB hl (Below.refl _ _) (Nat.le_refl _))
  have K0 := hideP (kal3 w (.cells #[.slice a len cap, .int .i64 0] 96))
  clear hB
  go_enter Try.func13, Try.ntmps13
  go_wp2_with (first | (go_at_call 40; go_in))
  have n0 : w.heap.size < (w.alloc (.cells #[.slice a len cap, .int .i64 0] 96)).heap.size := by simp
  generalize w.alloc (.cells #[.slice a len cap, .int .i64 0] 96) = w1 at *
  refine Calls.mono (next_any w1 _ _ a len cap f 0 10 S0.out (by omega) (by omega) (by omega) (by omega)) ?_
  rintro e w2 ⟨r, rfl, r0, r7, h2, S2⟩
  have K2 := hideP (Turn.below K0.out (by omega) (by omega) h2)
  clear h2 S2 S0 K0
  go_wp2
  go_returns
  exact ⟨r - 1, rfl, K2.out⟩

set_option maxHeartbeats 400000 in
theorem fq_big (w : World) (a : Option Addr) (len cap : Nat) (hl : len ≤ maxLen) (h : 1048576 < len) :
    Calls Try.prog 3 #[.slice a len cap] w fun e w' => e = .returned (.bool true) ∧ Below w.heap.size w w' := by
  have hb := bigQ w a len cap hl
  rw [decide_eq_true (by omega : (1048576 : Int) < (len : Int))] at hb
  go_enter Try.func3, Try.ntmps3
  go_wp2_with fail
  refine Calls.mono hb ?_
  rintro e w1 ⟨rfl, rfl⟩
  go_wp2
  go_returns
  exact ⟨rfl, Below.refl _ _⟩

theorem Bytes.upQ {w w' : World} {a : Option Addr} {len : Nat} {f : Nat → Int} (h : Bytes w w.heap.size a len f) (k : Below w.heap.size w w') : Bytes w' w'.heap.size a len f := by
  have h2 := h.stay (Nat.le_refl _) (Turn.of_below (b := w.heap.size) k) (Nat.le_refl _)
  rcases h2 with h | ⟨xb, xo, ha, hx, hc⟩
  · exact .inl h
  · exact .inr ⟨xb, xo, ha, Nat.lt_of_lt_of_le hx k.size, hc⟩
theorem mzs_okB : ∀ (L : List Mg), okB (L.map Mg.ct) → mzs L ≤ 31 * L.length
  | [], _ => by simp [mzs_nil]
  | m :: L, h => by
    have h1 := mzs_okB L (fun t ht => h t (by simp at ht ⊢; exact .inr ht))
    have h2 : m.b.L.length ≤ 31 := h m.ct (by simp)
    rw [mzs_cons, List.length_cons]
    omega

theorem put_lost {C : List (Int × List Int)} {t : Int × List Int} {rep : Bool} {N M : List Mg} (v : Bool) (hz : puC C t rep = 0) (hC : M.map Mg.ct = C) (hN : N.map Mg.ct = puL C t rep) (h : rmOf rep ≤ (M.length : Int)) :
    N.length = M.length ∧ puV C t rep v = true ∧ qF (N.map Mg.ct) = 0 := by
  have hl : M.length = C.length := by rw [← hC]; simp
  have e1 : puL C t rep = C := by unfold puL pcC; rw [if_pos hz, if_pos (by omega)]
  rw [e1] at hN
  refine ⟨?_, ?_, ?_⟩
  · rw [hl, ← hN]; simp
  · unfold puV pcV; rw [if_pos hz, if_pos (by omega)]
  · rw [hN]; exact (puC_zero hz).1
theorem put_new {C : List (Int × List Int)} {t : Int × List Int} {rep : Bool} {N M : List Mg} (v : Bool) (hz : puC C t rep = 0) (hC : M.map Mg.ct = C) (hN : N.map Mg.ct = puL C t rep) (h : ¬ rmOf rep ≤ (M.length : Int)) :
    ∃ (X : List Mg) (r : Mg), N = X ++ [r] ∧ X.length = M.length ∧ r.k = t.1 ∧ r.b.L = t.2 ∧ puV C t rep v = v ∧ qF (N.map Mg.ct) = 0 := by
  have hl : M.length = C.length := by rw [← hC]; simp
  have e1 : puL C t rep = C ++ [t] := by unfold puL pcC; rw [if_pos hz, if_neg (by omega)]
  rw [e1] at hN
  obtain ⟨X, Y, rfl, hX, hY⟩ := List.map_eq_append_iff.1 hN
  obtain ⟨r, Z, rfl, hr, hZ⟩ := List.map_eq_cons_iff.1 hY
  obtain rfl : Z = [] := by simpa using hZ
  have hrm : rmOf rep ≤ 10 := by cases rep <;> simp [rmOf]
  have h3 := puC_zero hz
  have hq := qF_nn C h3.1
  refine ⟨X, r, rfl, ?_, ?_, ?_, ?_, ?_⟩
  · rw [hl, ← hX]; simp
  · rw [← hr]; rfl
  · rw [← hr]; rfl
  · unfold puV pcV; rw [if_pos hz, if_neg (by omega)]
  · rw [hN, qF_few (by simp; omega), msF_pre hq.2]
    simp [msF, h3.2.1]

theorem fQ0 (z : Int) (s1 s2 : Option Addr) (n1 c1 n2 c2 : Nat) (v : Bool) (w : World) : Sem.run Try.prog (Instr.field 32 (.agg #[.int .i64 z, .slice s1 n1 c1, .slice s2 n2 c2, .bool v]) 0) w = .ok (.int .i64 z) w := by kernel_rfl
attribute [local go_sem] fQ0

theorem kk_of {w w1 : World} {Z : Obj} (k : Kept (w.alloc Z) w1) : Below w.heap.size w w1 := (kalM w Z).trans (Below.mono k (by simp))

/-- The law's own boxes. -/
structure FQS (w W : World) (b3 b4 b5 b6 : Nat) (q0 q1 m0 m1 e0 e1 e2 e3 r0 r1 r2 r3 : Value) (sM sE sR ao : Option Addr) (M E R : List Mg) (D : List Int) : Prop where
  K : Below w.heap.size w W
  A : Rb W b3 q0 q1
  B : Rb W b4 m0 m1
  C : R4 W b5 e0 e1 e2 e3
  F : R4 W b6 r0 r1 r2 r3
  M : Ms W 0 W.heap.size sM M
  E : Ms W 0 W.heap.size sE E
  R : Ms W 0 W.heap.size sR R
  D : Row .u8 W 0 W.heap.size ao D
theorem FQS.keep {w W W' : World} {b3 b4 b5 b6 : Nat} {q0 q1 m0 m1 e0 e1 e2 e3 r0 r1 r2 r3 : Value} {sM sE sR ao : Option Addr} {M E R : List Mg} {D : List Int} (h : FQS w W b3 b4 b5 b6 q0 q1 m0 m1 e0 e1 e2 e3 r0 r1 r2 r3 sM sE sR ao M E R D) (k : Below W.heap.size W W') :
    FQS w W' b3 b4 b5 b6 q0 q1 m0 m1 e0 e1 e2 e3 r0 r1 r2 r3 sM sE sR ao M E R D :=
  ⟨h.K.trans (k.mono h.K.size), h.A.keep k h.A.lt, h.B.keep k h.B.lt, h.C.keep k h.C.lt, h.F.keep k h.F.lt, (h.M.keep k (Nat.le_refl _)).wide (Nat.le_refl _) k.size, (h.E.keep k (Nat.le_refl _)).wide (Nat.le_refl _) k.size, (h.R.keep k (Nat.le_refl _)).wide (Nat.le_refl _) k.size, (h.D.keep k (Nat.le_refl _)).wide (Nat.le_refl _) k.size⟩

set_option maxRecDepth 100000 in
set_option maxHeartbeats 8000000 in
theorem fq_small (w : World) (a : Option Addr) (len cap : Nat) (f : Nat → Int) (hB : Bytes w w.heap.size a len f) (hl : len ≤ 1048576) :
    Calls Try.prog 3 #[.slice a len cap] w fun e w' => e = .returned (.bool true) ∧ Below w.heap.size w w' := by
  have hb := bigQ w a len cap (by unfold maxLen; omega)
  rw [decide_eq_false (by omega : ¬ (1048576 : Int) < (len : Int))] at hb
  have HBb := hideP hb
  have DP := hideP (drawPE_any w a len cap f hB hl)
  have DI := hideP (fun w1 (k : Below w.heap.size w w1) => drawIR_any w1 a len cap f (hB.upQ k) hl)
  clear hb hB
  go_enter Try.func3, Try.ntmps3
  go_wp2_with fail
  refine Calls.mono HBb.out ?_
  rintro e w1 ⟨rfl, hw1⟩
  subst w1
  go_wp2_with fail
  refine Calls.mono DP.out ?_
  rintro e w1 ⟨s, c, M, v, k, ao, ca, D, rfl, hok, hby, hM13, hD3, hbD, hMs, hRw, k1⟩
  have hmz := mzs_okB M hok
  have hn : M.length + mzs M ≤ 1048576 := by omega
  have hdl : D.length ≤ 1048576 := by omega
  have C0 := (rfl : M.map Mg.ct = M.map Mg.ct)
  have kb : Below w1.heap.size w1 ((w1.alloc (.cells #[.slice s M.length c, .bool v] 26)).alloc (.cells #[.int .i64 k, .slice ao D.length ca] 28)) := by go_grown
  have A2 : Hid (Rb ((w1.alloc (.cells #[.slice s M.length c, .bool v] 26)).alloc (.cells #[.int .i64 k, .slice ao D.length ca] 28)) w1.heap.size (.slice s M.length c) (.bool v)) := hideP ⟨by simp, by simp, by simp, by simp, by simp; omega⟩
  have B2 : Hid (Rb ((w1.alloc (.cells #[.slice s M.length c, .bool v] 26)).alloc (.cells #[.int .i64 k, .slice ao D.length ca] 28)) (w1.heap.size + 1) (.int .i64 k) (.slice ao D.length ca)) := hideP ⟨by simp, by simp, by simp, by simp, by simp⟩
  have K2 := hideP (k1.trans (kb.mono k1.size))
  have M2 := hideP ((hMs.keep kb (Nat.le_refl _)).wide (Nat.zero_le _) kb.size)
  have D2 := hideP ((hRw.keep kb (Nat.le_refl _)).wide (Nat.zero_le _) kb.size)
  clear hMs hRw k1 kb
  go_wp2_with fail
  generalize (w1.alloc (.cells #[.slice s M.length c, .bool v] 26)).alloc (.cells #[.int .i64 k, .slice ao D.length ca] 28) = w2 at *
  refine Calls.mono (iPushEvent_any 0 w2.heap.size s c M v k ao ca D w2 M2.out (Nat.le_refl _) hn D2.out hdl) ?_
  rintro e w3 ⟨sE, cE, NE, rfl, hNE, linE, k3⟩
  have ka := kalM w3 (.cells #[.int .i64 (puC (M.map Mg.ct) (k, D) false), .slice none 0 0, .slice sE NE.length cE, .bool (puV (M.map Mg.ct) (k, D) false v)] 32)
  have k4 := k3.trans (ka.mono k3.size)
  have A4 := hideP (A2.out.keep k4 A2.out.lt)
  have B4 := hideP (B2.out.keep k4 B2.out.lt)
  have C4 : Hid (R4 (w3.alloc (.cells #[.int .i64 (puC (M.map Mg.ct) (k, D) false), .slice none 0 0, .slice sE NE.length cE, .bool (puV (M.map Mg.ct) (k, D) false v)] 32)) w3.heap.size _ _ _ _) := hideP (r4_new _ _ _ _ _ _)
  have K4 := hideP (K2.out.trans (k4.mono K2.out.size))
  have M4 := hideP ((M2.out.keep k4 (Nat.le_refl _)).wide (Nat.zero_le _) k4.size)
  have D4 := hideP ((D2.out.keep k4 (Nat.le_refl _)).wide (Nat.zero_le _) k4.size)
  have E4 := hideP (((linE.qm (s1 := none) k3.size).ms2.keep ka (Nat.le_refl _)).wide (lo' := 0) (Nat.zero_le _) ka.size)
  have HNE := hideP hNE
  clear linE k3 ka k4 A2 B2 K2 M2 D2 hNE
  obtain ⟨a0, a1, a2, a3, a4⟩ := A4.out
  obtain ⟨b0, b1, b2, b3, b4⟩ := B4.out
  go_wp2_with fail
  clear a0 a1 a2 a3 a4 b0 b1 b2 b3 b4
  generalize w3.alloc (.cells #[.int .i64 (puC (M.map Mg.ct) (k, D) false), .slice none 0 0, .slice sE NE.length cE, .bool (puV (M.map Mg.ct) (k, D) false v)] 32) = w4 at *
  refine Calls.mono (iPushReply_any 0 w4.heap.size s c M v k ao ca D w4 M4.out (Nat.le_refl _) hn D4.out hdl) ?_
  rintro e w5 ⟨sR, cR, NR, rfl, hNR, linR, k5⟩
  have ka := kalM w5 (.cells #[.int .i64 (puC (M.map Mg.ct) (k, D) true), .slice none 0 0, .slice sR NR.length cR, .bool (puV (M.map Mg.ct) (k, D) true v)] 32)
  have k6 := k5.trans (ka.mono k5.size)
  have S6 : Hid (FQS w (w5.alloc (.cells #[.int .i64 (puC (M.map Mg.ct) (k, D) true), .slice none 0 0, .slice sR NR.length cR, .bool (puV (M.map Mg.ct) (k, D) true v)] 32)) w1.heap.size (w1.heap.size + 1) w3.heap.size w5.heap.size _ _ _ _ _ _ _ _ _ _ _ _ s sE sR ao M NE NR D) :=
    hideP ⟨K4.out.trans (k6.mono K4.out.size), A4.out.keep k6 A4.out.lt, B4.out.keep k6 B4.out.lt, C4.out.keep k6 C4.out.lt, r4_new _ _ _ _ _ _, (M4.out.keep k6 (Nat.le_refl _)).wide (Nat.zero_le _) k6.size, (E4.out.keep k6 (Nat.le_refl _)).wide (Nat.zero_le _) k6.size, ((linR.qm (s1 := none) k5.size).ms2.keep ka (Nat.le_refl _)).wide (lo' := 0) (Nat.zero_le _) ka.size, (D4.out.keep k6 (Nat.le_refl _)).wide (Nat.zero_le _) k6.size⟩
  have HNR := hideP hNR
  clear linR k5 ka k6 A4 B4 C4 K4 M4 D4 E4 hNR
  go_wp2_with fail
  generalize w5.alloc (.cells #[.int .i64 (puC (M.map Mg.ct) (k, D) true), .slice none 0 0, .slice sR NR.length cR, .bool (puV (M.map Mg.ct) (k, D) true v)] 32) = w6 at *
  refine Calls.mono (DI.out w6 S6.out.K) ?_
  rintro e w7 ⟨k', rfl, k7⟩
  have S7 := hideP (S6.out.keep k7)
  clear k7 S6 DI DP HBb
  generalize w1.heap.size = x3 at *
  generalize w3.heap.size = x5 at *
  generalize w5.heap.size = x6 at *
  have SE := hideP (fun w1 (kk : Kept w7 w1) => sPushEvent_any 0 w1.heap.size s c M v k ao ca D w1 (S7.out.keep (Kept.below kk)).M (Nat.le_refl _) hn (S7.out.keep (Kept.below kk)).D hdl)
  have SR := hideP (fun w1 (kk : Kept w7 w1) => sPushReply_any 0 w1.heap.size s c M v k ao ca D w1 (S7.out.keep (Kept.below kk)).M (Nat.le_refl _) hn (S7.out.keep (Kept.below kk)).D hdl)
  obtain ⟨C, hC⟩ : ∃ C, M.map Mg.ct = C := ⟨_, rfl⟩
  rw [hC] at HNE HNR S7 SE SR hok hby
  obtain ⟨ze, hze⟩ : ∃ ze, puC C (k, D) false = ze := ⟨_, rfl⟩
  obtain ⟨zr, hzr⟩ : ∃ zr, puC C (k, D) true = zr := ⟨_, rfl⟩
  rw [hze, hzr] at S7
  unfold PutA at SE SR
  rw [hze] at SE
  rw [hzr] at SR
  have HC := hideP hC
  have HZE := hideP hze
  have HZR := hideP hzr
  have IR := hideP (fun w1 => iRep_any k' w1)
  have SRp := hideP (fun w1 => sRep_any k' w1)
  generalize isRep k' = ρ at IR SRp
  clear hC hze hzr
  obtain ⟨a0, a1, a2, a3, a4⟩ := S7.out.A
  obtain ⟨b0, b1, b2, b3, b4⟩ := S7.out.B
  obtain ⟨c0, c1, c2, c3, c4, c5, c6, c7, c8⟩ := S7.out.C
  obtain ⟨d0, d1, d2, d3, d4, d5, d6, d7, d8⟩ := S7.out.F
  go_wp2_with fail
  refine wp_region_plan (R := Kept) (G := Kept) rel_keptA rel_keptA (fun h => h) 23 [(true, 0), (true, 1), (true, 2), (true, 3), (true, 4), (true, 5), (true, 6), (true, 7), (true, 8), (true, 9), (false, 10), (true, 11), (true, 12), (true, 13), (true, 14), (true, 15), (true, 16), (true, 17), (true, 18), (false, 19), (true, 20), (true, 21), (true, 22)] (by kernel_rfl) (by kernel_rfl) ?_
  simp only [selP, List.filterMap_cons, List.filterMap_nil, List.getElem?_cons_succ, List.getElem?_cons_zero, Option.map_some]
  repeat (refine plan_take _ (by first | exact wanted_free rfl | exact wanted_yes rfl rfl | exact wanted_no rfl rfl) (by first | with_reducible rfl | decide) ?_; apply Exists.intro; refine ⟨fun w1 k1 => ?_, fun K hK => ?_⟩; (focus (have hc := Kept.cell k1; go_simp; first | done | (go_at_call 14; exact kept_call (Below.refl _ _) (IR.out _)) | (go_at_call 15; exact kept_call (Below.refl _ _) (SRp.out _)) | rfl)); (go_simp; refine hK _ ?_; clear hK K))
  refine plan_made _ (by first | exact wanted_free rfl | exact wanted_yes rfl rfl | exact wanted_no rfl rfl) (by first | with_reducible rfl | decide) fun v1 j1 => ?_
  have jj1 : Kept w7 v1 := j1
  refine made_callsR (by go_simp; first | done | rfl) ((SE.out v1 jj1).mono ?_)
  rintro e v2 ⟨s2, cz2, N2, rfl, hN2, l2, j2⟩
  have jj2 : Kept w7 v2 := Below.trans jj1 (Below.mono j2 jj1.size)
  clear hN2 l2
  refine ⟨_, rfl, j2, fun K hK => ?_⟩
  go_simp
  refine hK _ ?_
  clear hK K
  clear a0 a1 a2 a3 a4 b0 b1 b2 b3 b4 c0 c1 c2 c3 c4 c5 c6 c7 c8 d0 d1 d2 d3 d4 d5 d6 d7 d8
  obtain ⟨a0, a1, a2, a3, a4⟩ := (S7.out.keep (Kept.below jj2)).A
  obtain ⟨b0, b1, b2, b3, b4⟩ := (S7.out.keep (Kept.below jj2)).B
  obtain ⟨c0, c1, c2, c3, c4, c5, c6, c7, c8⟩ := (S7.out.keep (Kept.below jj2)).C
  obtain ⟨d0, d1, d2, d3, d4, d5, d6, d7, d8⟩ := (S7.out.keep (Kept.below jj2)).F
  repeat (refine plan_take _ (by first | exact wanted_free rfl | exact wanted_yes rfl rfl | exact wanted_no rfl rfl) (by first | with_reducible rfl | decide) ?_; apply Exists.intro; refine ⟨fun w1 k1 => ?_, fun K hK => ?_⟩; (focus (have hc := Kept.cell k1; go_simp; first | done | rfl)); (go_simp; refine hK _ ?_; clear hK K))
  refine plan_made _ (by first | exact wanted_free rfl | exact wanted_yes rfl rfl | exact wanted_no rfl rfl) (by first | with_reducible rfl | decide) fun v3 j3 => ?_
  have jj3 : Kept w7 v3 := Below.trans jj2 (Below.mono j3 jj2.size)
  refine made_callsR (by go_simp; first | done | rfl) ((SR.out v3 jj3).mono ?_)
  rintro e v4 ⟨s4, cz4, N4, rfl, hN4, l4, j4⟩
  have jj4 : Kept w7 v4 := Below.trans jj3 (Below.mono j4 jj3.size)
  clear hN4 l4
  refine ⟨_, rfl, j4, fun K hK => ?_⟩
  go_simp
  refine hK _ ?_
  clear hK K
  clear a0 a1 a2 a3 a4 b0 b1 b2 b3 b4 c0 c1 c2 c3 c4 c5 c6 c7 c8 d0 d1 d2 d3 d4 d5 d6 d7 d8
  obtain ⟨a0, a1, a2, a3, a4⟩ := (S7.out.keep (Kept.below jj4)).A
  obtain ⟨b0, b1, b2, b3, b4⟩ := (S7.out.keep (Kept.below jj4)).B
  obtain ⟨c0, c1, c2, c3, c4, c5, c6, c7, c8⟩ := (S7.out.keep (Kept.below jj4)).C
  obtain ⟨d0, d1, d2, d3, d4, d5, d6, d7, d8⟩ := (S7.out.keep (Kept.below jj4)).F
  repeat (refine plan_take _ (by first | exact wanted_free rfl | exact wanted_yes rfl rfl | exact wanted_no rfl rfl) (by first | with_reducible rfl | decide) ?_; apply Exists.intro; refine ⟨fun w1 k1 => ?_, fun K hK => ?_⟩; (focus (have hc := Kept.cell k1; go_simp; first | done | rfl)); (go_simp; refine hK _ ?_; clear hK K))
  refine plan_nil fun w8 k8 => ?_
  simp only [List.drop_succ_cons, List.drop_zero]
  have S8 := hideP (S7.out.keep (Below.trans jj4 (Below.mono k8 jj4.size)))
  clear j1 jj1 j2 jj2 j3 jj3 j4 jj4 k8 SE SR IR SRp S7
  clear a0 a1 a2 a3 a4 b0 b1 b2 b3 b4 c0 c1 c2 c3 c4 c5 c6 c7 c8 d0 d1 d2 d3 d4 d5 d6 d7 d8
  clear v1 v2 v3 v4
  by_cases hz : ze = 0
  · by_cases hm : 10 ≤ M.length
    · as_aux_lemma =>
        have hz0 : puC C (k, D) false = 0 := HZE.out.trans hz
        have hp3 := puC_zero hz0
        have hq := qF_nn C hp3.1
        have hlC : M.length = C.length := by rw [← HC.out]; simp
        obtain ⟨hnl, hV, hqf⟩ := put_lost v hz0 HC.out HNE.out (by show (6 : Int) ≤ _; omega)
        have QF := hideP (fun (Z : Obj) w1 (kk : Kept (w8.alloc Z) w1) => iQF_any 0 w1.heap.size sE cE NE true w1 (S8.out.keep (kk_of kk)).E (Nat.le_refl _) (by have := pu_small HNE.out; omega))
        rw [hqf, hnl] at QF
        rw [hV, hnl] at S8
        have IK := hideP (fun w1 => iRep_any k w1)
        rw [hp3.2.2] at IK
        rw [hz] at S8
        have hm10 : M.length ≤ 10 := by omega
        clear hp3 hz0 hq hlC hV hqf hnl
        generalize M.length = m at *
        have h10 : (10 : Int) ≤ (m : Int) := by omega
        obtain ⟨a0, a1, a2, a3, a4⟩ := S8.out.A
        obtain ⟨b0, b1, b2, b3, b4⟩ := S8.out.B
        obtain ⟨c0, c1, c2, c3, c4, c5, c6, c7, c8⟩ := S8.out.C
        go_wp2_with fail
        refine wp_region_wq (by kernel_rfl) (by kernel_rfl) ?_
        repeat (first | (refine wq_up _ (by first | exact wanted_free rfl | exact wanted_yes rfl rfl | exact wanted_no rfl rfl | exact wanted_lost rfl rfl) (by first | with_reducible rfl | decide) ?_; apply Exists.intro; refine ⟨fun w1 k1 => ?_, fun K hK => ?_⟩; (focus (have hc := Kept.cell k1; go_simp; first | done | rfl | (go_at_call 18; exact kept_call k1 (QF.out _ _ k1)) | (go_at_call 14; exact kept_call k1 (IK.out _)))); (go_simp; refine hK _ ?_; clear hK K)) | (refine wq_off _ (by first | exact wanted_free rfl | exact wanted_yes rfl rfl | exact wanted_no rfl rfl | exact wanted_lost rfl rfl) (by first | with_reducible rfl | decide) ?_; intro K hK; go_simp; refine hK _ ?_; clear hK K))
        refine wq_nil ?_
        intro w16 k16
        replace k16 := Kept.below k16
        have hc16 := Kept.cell k16
        have hf16 := Kept.frozen k16
        have hz16 := k16.size
        try simp only [World.size_alloc] at hz16
        try simp only [World.size_setCell] at hz16
        try simp only [World.size_drew] at hz16
        try (first | have hs16 := sz12 hz16 | have hs16 := sz11 hz16 | have hs16 := sz10 hz16 | have hs16 := sz9 hz16 | have hs16 := sz8 hz16 | have hs16 := sz7 hz16 | have hs16 := sz6 hz16 | have hs16 := sz5 hz16 | have hs16 := sz4 hz16 | have hs16 := sz3 hz16 | have hs16 := sz2 hz16 | have hs16 := sz1 hz16)
        go_wp2
        go_returns
        exact ⟨rfl, S8.out.K.trans ((kk_of k16).mono S8.out.K.size)⟩
    by_cases hm' : 6 ≤ M.length
    · as_aux_lemma =>
        have hz0 : puC C (k, D) false = 0 := HZE.out.trans hz
        have hp3 := puC_zero hz0
        have hq := qF_nn C hp3.1
        have hlC : M.length = C.length := by rw [← HC.out]; simp
        obtain ⟨hnl, hV, hqf⟩ := put_lost v hz0 HC.out HNE.out (by show (6 : Int) ≤ _; omega)
        have QF := hideP (fun (Z : Obj) w1 (kk : Kept (w8.alloc Z) w1) => iQF_any 0 w1.heap.size sE cE NE true w1 (S8.out.keep (kk_of kk)).E (Nat.le_refl _) (by have := pu_small HNE.out; omega))
        rw [hqf, hnl] at QF
        rw [hV, hnl] at S8
        have IK := hideP (fun w1 => iRep_any k w1)
        rw [hp3.2.2] at IK
        rw [hz] at S8
        have hm10 : M.length ≤ 10 := by omega
        clear hp3 hz0 hq hlC hV hqf hnl
        generalize M.length = m at *
        have h10 : decide ((10 : Int) ≤ (m : Int)) = false := decide_eq_false (by omega)
        have h11 : ((m : Int) < 10) = True := eq_true (by omega)
        have h6 : (6 : Int) ≤ (m : Int) := by omega
        obtain ⟨a0, a1, a2, a3, a4⟩ := S8.out.A
        obtain ⟨b0, b1, b2, b3, b4⟩ := S8.out.B
        obtain ⟨c0, c1, c2, c3, c4, c5, c6, c7, c8⟩ := S8.out.C
        go_wp2_with fail
        refine wp_region_wq (by kernel_rfl) (by kernel_rfl) ?_
        repeat (first | (refine wq_up _ (by first | exact wanted_free rfl | exact wanted_yes rfl rfl | exact wanted_no rfl rfl | exact wanted_lost rfl rfl) (by first | with_reducible rfl | decide) ?_; apply Exists.intro; refine ⟨fun w1 k1 => ?_, fun K hK => ?_⟩; (focus (have hc := Kept.cell k1; go_simp; first | done | rfl | (go_at_call 18; exact kept_call k1 (QF.out _ _ k1)) | (go_at_call 14; exact kept_call k1 (IK.out _)))); (go_simp; refine hK _ ?_; clear hK K)) | (refine wq_off _ (by first | exact wanted_free rfl | exact wanted_yes rfl rfl | exact wanted_no rfl rfl | exact wanted_lost rfl rfl) (by first | with_reducible rfl | decide) ?_; intro K hK; go_simp; refine hK _ ?_; clear hK K))
        refine wq_nil ?_
        intro w16 k16
        replace k16 := Kept.below k16
        have hc16 := Kept.cell k16
        have hf16 := Kept.frozen k16
        have hz16 := k16.size
        try simp only [World.size_alloc] at hz16
        try simp only [World.size_setCell] at hz16
        try simp only [World.size_drew] at hz16
        try (first | have hs16 := sz12 hz16 | have hs16 := sz11 hz16 | have hs16 := sz10 hz16 | have hs16 := sz9 hz16 | have hs16 := sz8 hz16 | have hs16 := sz7 hz16 | have hs16 := sz6 hz16 | have hs16 := sz5 hz16 | have hs16 := sz4 hz16 | have hs16 := sz3 hz16 | have hs16 := sz2 hz16 | have hs16 := sz1 hz16)
        go_wp2
        go_returns
        exact ⟨rfl, S8.out.K.trans ((kk_of k16).mono S8.out.K.size)⟩
    · as_aux_lemma =>
        have hz0 : puC C (k, D) false = 0 := HZE.out.trans hz
        have hp3 := puC_zero hz0
        have hq := qF_nn C hp3.1
        have hlC : M.length = C.length := by rw [← HC.out]; simp
        obtain ⟨X, r, hX, hXl, hrk, hrD, hV, hqf⟩ := put_new v hz0 HC.out HNE.out (by show ¬ (6 : Int) ≤ _; omega)
        have QF := hideP (fun (Z : Obj) w1 (kk : Kept (w8.alloc Z) w1) => iQF_any 0 w1.heap.size sE cE NE v w1 (S8.out.keep (kk_of kk)).E (Nat.le_refl _) (by have := pu_small HNE.out; omega))
        have hnl : NE.length = M.length + 1 := by rw [hX, ← hXl]; simp
        rw [hqf, hnl] at QF
        have hMs := S8.out.E
        rw [hX] at hMs
        obtain ⟨g, o, hs, hg, hc, hon⟩ := Ms.at hMs
        rw [hXl] at hc
        obtain ⟨rk, ⟨rao, rcap, rg, rL⟩⟩ := r
        simp only at hrk hrD
        subst hrk hrD
        have BY := hideP (fun (Z : Obj) w1 (kk : Kept (w8.alloc Z) w1) => bytes_same 0 w8.heap.size 0 w8.heap.size rao ao rcap ca rL w1 (Row.keep hon (kk_of kk) (Nat.le_refl _)) (S8.out.D.keep (kk_of kk) (Nat.le_refl _)))
        obtain ⟨e0, e1⟩ := hc
        simp only at e0 e1
        rw [hV, hnl] at S8
        subst hs
        obtain ⟨n, hnm⟩ : ∃ n, M.length + 1 = n := ⟨_, rfl⟩
        rw [hnm] at QF S8
        have hg' : g < w8.heap.size := hg
        clear hMs hon hX hXl
        have IK := hideP (fun w1 => iRep_any rk w1)
        rw [hp3.2.2] at IK
        rw [hz] at S8
        have hm10 : M.length ≤ 10 := by omega
        clear hp3 hz0 hq hlC hV hqf hnl
        generalize M.length = m at *
        have h10 : decide ((10 : Int) ≤ (m : Int)) = false := decide_eq_false (by omega)
        have h11 : ((m : Int) < 10) = True := eq_true (by omega)
        have h6 : decide ((6 : Int) ≤ (m : Int)) = false := decide_eq_false (by omega)
        have hne1 : ((n : Int) == (m : Int)) = false := by simp; omega
        have hw1 : IntKind.i64.wrap ((m : Int) + 1) = (n : Int) := (IntWalk.i64_in _ (by omega)).trans (by omega)
        have hw2 : IntKind.i64.wrap ((n : Int) - 1) = (m : Int) := (IntWalk.i64_in _ (by omega)).trans (by omega)
        have hlt : (m : Int) < (n : Int) := by omega
        obtain ⟨a0, a1, a2, a3, a4⟩ := S8.out.A
        obtain ⟨b0, b1, b2, b3, b4⟩ := S8.out.B
        obtain ⟨c0, c1, c2, c3, c4, c5, c6, c7, c8⟩ := S8.out.C
        go_wp2_with fail
        refine wp_region_wq (by kernel_rfl) (by kernel_rfl) ?_
        repeat (first | (refine wq_up _ (by first | exact wanted_free rfl | exact wanted_yes rfl rfl | exact wanted_no rfl rfl | exact wanted_lost rfl rfl) (by first | with_reducible rfl | decide) ?_; apply Exists.intro; refine ⟨fun w1 k1 => ?_, fun K hK => ?_⟩; (focus (have hc := Kept.cell k1; go_simp; first | done | rfl | (go_at_call 18; exact kept_call k1 (QF.out _ _ k1)) | (go_at_call 14; exact kept_call k1 (IK.out _)) | (go_at_call 20; exact kept_call_same k1 (BY.out _ _ k1)))); (go_simp; refine hK _ ?_; clear hK K)) | (refine wq_off _ (by first | exact wanted_free rfl | exact wanted_yes rfl rfl | exact wanted_no rfl rfl | exact wanted_lost rfl rfl) (by first | with_reducible rfl | decide) ?_; intro K hK; go_simp; refine hK _ ?_; clear hK K))
        refine wq_nil ?_
        intro w16 k16
        replace k16 := Kept.below k16
        have hc16 := Kept.cell k16
        have hf16 := Kept.frozen k16
        have hz16 := k16.size
        try simp only [World.size_alloc] at hz16
        try simp only [World.size_setCell] at hz16
        try simp only [World.size_drew] at hz16
        try (first | have hs16 := sz12 hz16 | have hs16 := sz11 hz16 | have hs16 := sz10 hz16 | have hs16 := sz9 hz16 | have hs16 := sz8 hz16 | have hs16 := sz7 hz16 | have hs16 := sz6 hz16 | have hs16 := sz5 hz16 | have hs16 := sz4 hz16 | have hs16 := sz3 hz16 | have hs16 := sz2 hz16 | have hs16 := sz1 hz16)
        go_wp2
        go_returns
        exact ⟨rfl, S8.out.K.trans ((kk_of k16).mono S8.out.K.size)⟩
  · have hz' : (ze != 0) = true := by simpa using hz
    by_cases hy : zr = 0
    · by_cases hm : 10 ≤ M.length
      · as_aux_lemma =>
          have hz0 : puC C (k, D) true = 0 := HZR.out.trans hy
          have hp3 := puC_zero hz0
          have hq := qF_nn C hp3.1
          have hlC : M.length = C.length := by rw [← HC.out]; simp
          obtain ⟨hnl, hV, hqf⟩ := put_lost v hz0 HC.out HNR.out (by show (10 : Int) ≤ _; omega)
          have QF := hideP (fun (Z : Obj) w1 (kk : Kept (w8.alloc Z) w1) => iQF_any 0 w1.heap.size sR cR NR true w1 (S8.out.keep (kk_of kk)).R (Nat.le_refl _) (by have := pu_small HNR.out; omega))
          rw [hqf, hnl] at QF
          rw [hV, hnl] at S8
          have IK := hideP (fun w1 => iRep_any k w1)
          rw [hp3.2.2] at IK
          rw [hy] at S8
          have hm10 : M.length ≤ 10 := by omega
          clear hp3 hz0 hq hlC hV hqf hnl
          generalize M.length = m at *
          have h10 : (10 : Int) ≤ (m : Int) := by omega
          obtain ⟨a0, a1, a2, a3, a4⟩ := S8.out.A
          obtain ⟨b0, b1, b2, b3, b4⟩ := S8.out.B
          obtain ⟨c0, c1, c2, c3, c4, c5, c6, c7, c8⟩ := S8.out.C
          obtain ⟨d0, d1, d2, d3, d4, d5, d6, d7, d8⟩ := S8.out.F
          go_wp2_with fail
          refine wp_region_wq (by kernel_rfl) (by kernel_rfl) ?_
          repeat (first | (refine wq_up _ (by first | exact wanted_free rfl | exact wanted_yes rfl rfl | exact wanted_no rfl rfl | exact wanted_lost rfl rfl) (by first | with_reducible rfl | decide) ?_; apply Exists.intro; refine ⟨fun w1 k1 => ?_, fun K hK => ?_⟩; (focus (have hc := Kept.cell k1; go_simp; first | done | rfl | (go_at_call 18; exact kept_call k1 (QF.out _ _ k1)) | (go_at_call 14; exact kept_call k1 (IK.out _)))); (go_simp; refine hK _ ?_; clear hK K)) | (refine wq_off _ (by first | exact wanted_free rfl | exact wanted_yes rfl rfl | exact wanted_no rfl rfl | exact wanted_lost rfl rfl) (by first | with_reducible rfl | decide) ?_; intro K hK; go_simp; refine hK _ ?_; clear hK K))
          refine wq_nil ?_
          intro w16 k16
          replace k16 := Kept.below k16
          have hc16 := Kept.cell k16
          have hf16 := Kept.frozen k16
          have hz16 := k16.size
          try simp only [World.size_alloc] at hz16
          try simp only [World.size_setCell] at hz16
          try simp only [World.size_drew] at hz16
          try (first | have hs16 := sz12 hz16 | have hs16 := sz11 hz16 | have hs16 := sz10 hz16 | have hs16 := sz9 hz16 | have hs16 := sz8 hz16 | have hs16 := sz7 hz16 | have hs16 := sz6 hz16 | have hs16 := sz5 hz16 | have hs16 := sz4 hz16 | have hs16 := sz3 hz16 | have hs16 := sz2 hz16 | have hs16 := sz1 hz16)
          go_wp2
          go_returns
          exact ⟨rfl, S8.out.K.trans ((kk_of k16).mono S8.out.K.size)⟩
      · as_aux_lemma =>
          have hz0 : puC C (k, D) true = 0 := HZR.out.trans hy
          have hp3 := puC_zero hz0
          have hq := qF_nn C hp3.1
          have hlC : M.length = C.length := by rw [← HC.out]; simp
          obtain ⟨X, r, hX, hXl, hrk, hrD, hV, hqf⟩ := put_new v hz0 HC.out HNR.out (by show ¬ (10 : Int) ≤ _; omega)
          have QF := hideP (fun (Z : Obj) w1 (kk : Kept (w8.alloc Z) w1) => iQF_any 0 w1.heap.size sR cR NR v w1 (S8.out.keep (kk_of kk)).R (Nat.le_refl _) (by have := pu_small HNR.out; omega))
          have hnl : NR.length = M.length + 1 := by rw [hX, ← hXl]; simp
          rw [hqf, hnl] at QF
          have hMs := S8.out.R
          rw [hX] at hMs
          obtain ⟨g, o, hs, hg, hc, hon⟩ := Ms.at hMs
          rw [hXl] at hc
          obtain ⟨rk, ⟨rao, rcap, rg, rL⟩⟩ := r
          simp only at hrk hrD
          subst hrk hrD
          have BY := hideP (fun (Z : Obj) w1 (kk : Kept (w8.alloc Z) w1) => bytes_same 0 w8.heap.size 0 w8.heap.size rao ao rcap ca rL w1 (Row.keep hon (kk_of kk) (Nat.le_refl _)) (S8.out.D.keep (kk_of kk) (Nat.le_refl _)))
          obtain ⟨e0, e1⟩ := hc
          simp only at e0 e1
          rw [hV, hnl] at S8
          subst hs
          obtain ⟨n, hnm⟩ : ∃ n, M.length + 1 = n := ⟨_, rfl⟩
          rw [hnm] at QF S8
          have hg' : g < w8.heap.size := hg
          clear hMs hon hX hXl
          have IK := hideP (fun w1 => iRep_any rk w1)
          rw [hp3.2.2] at IK
          rw [hy] at S8
          have hm10 : M.length ≤ 10 := by omega
          clear hp3 hz0 hq hlC hV hqf hnl
          generalize M.length = m at *
          have h10 : decide ((10 : Int) ≤ (m : Int)) = false := decide_eq_false (by omega)
          have h11 : ((m : Int) < 10) = True := eq_true (by omega)
          have hne1 : ((n : Int) == (m : Int)) = false := by simp; omega
          have hw1 : IntKind.i64.wrap ((m : Int) + 1) = (n : Int) := (IntWalk.i64_in _ (by omega)).trans (by omega)
          have hw2 : IntKind.i64.wrap ((n : Int) - 1) = (m : Int) := (IntWalk.i64_in _ (by omega)).trans (by omega)
          have hlt : (m : Int) < (n : Int) := by omega
          obtain ⟨a0, a1, a2, a3, a4⟩ := S8.out.A
          obtain ⟨b0, b1, b2, b3, b4⟩ := S8.out.B
          obtain ⟨c0, c1, c2, c3, c4, c5, c6, c7, c8⟩ := S8.out.C
          obtain ⟨d0, d1, d2, d3, d4, d5, d6, d7, d8⟩ := S8.out.F
          go_wp2_with fail
          refine wp_region_wq (by kernel_rfl) (by kernel_rfl) ?_
          repeat (first | (refine wq_up _ (by first | exact wanted_free rfl | exact wanted_yes rfl rfl | exact wanted_no rfl rfl | exact wanted_lost rfl rfl) (by first | with_reducible rfl | decide) ?_; apply Exists.intro; refine ⟨fun w1 k1 => ?_, fun K hK => ?_⟩; (focus (have hc := Kept.cell k1; go_simp; first | done | rfl | (go_at_call 18; exact kept_call k1 (QF.out _ _ k1)) | (go_at_call 14; exact kept_call k1 (IK.out _)) | (go_at_call 20; exact kept_call_same k1 (BY.out _ _ k1)))); (go_simp; refine hK _ ?_; clear hK K)) | (refine wq_off _ (by first | exact wanted_free rfl | exact wanted_yes rfl rfl | exact wanted_no rfl rfl | exact wanted_lost rfl rfl) (by first | with_reducible rfl | decide) ?_; intro K hK; go_simp; refine hK _ ?_; clear hK K))
          refine wq_nil ?_
          intro w16 k16
          replace k16 := Kept.below k16
          have hc16 := Kept.cell k16
          have hf16 := Kept.frozen k16
          have hz16 := k16.size
          try simp only [World.size_alloc] at hz16
          try simp only [World.size_setCell] at hz16
          try simp only [World.size_drew] at hz16
          try (first | have hs16 := sz12 hz16 | have hs16 := sz11 hz16 | have hs16 := sz10 hz16 | have hs16 := sz9 hz16 | have hs16 := sz8 hz16 | have hs16 := sz7 hz16 | have hs16 := sz6 hz16 | have hs16 := sz5 hz16 | have hs16 := sz4 hz16 | have hs16 := sz3 hz16 | have hs16 := sz2 hz16 | have hs16 := sz1 hz16)
          go_wp2
          go_returns
          exact ⟨rfl, S8.out.K.trans ((kk_of k16).mono S8.out.K.size)⟩
    · have hy' : (zr != 0) = true := by simpa using hy
      have QI := hideP (fun (Z : Obj) w1 (kk : Kept (w8.alloc Z) w1) => iQF_any 0 w1.heap.size s c M v w1 (S8.out.keep (kk_of kk)).M (Nat.le_refl _) hn)
      have QQ := hideP (fun (Z : Obj) w1 (kk : Kept (w8.alloc Z) w1) => sQF_any 0 w1.heap.size s c M v w1 (S8.out.keep (kk_of kk)).M (Nat.le_refl _) hn)
      rw [HC.out] at QI QQ
      generalize qF C = zq at QI QQ
      obtain ⟨a0, a1, a2, a3, a4⟩ := S8.out.A
      obtain ⟨c0, c1, c2, c3, c4, c5, c6, c7, c8⟩ := S8.out.C
      obtain ⟨d0, d1, d2, d3, d4, d5, d6, d7, d8⟩ := S8.out.F
      clear hz hy
      go_wp2_with fail
      refine wp_region_kept (by kernel_rfl) (by kernel_rfl) ?_
      repeat (refine kept_step (by rfl) ?_; apply Exists.intro; refine ⟨fun w1 k1 => ?_, fun K hK => ?_⟩; (focus (have hc := Kept.cell k1; go_simp; first | done | rfl | (go_at_call 18; exact kept_call k1 (QI.out _ _ k1)) | (go_at_call 19; exact kept_call k1 (QQ.out _ _ k1)))); (go_simp; refine hK _ ?_; clear hK K))
      refine wpQuiet_nil ?_
      intro w13 k13
      replace k13 := Kept.below k13
      have hc13 := Kept.cell k13
      have hf13 := Kept.frozen k13
      have hz13 := k13.size
      try simp only [World.size_alloc] at hz13
      try simp only [World.size_setCell] at hz13
      try simp only [World.size_drew] at hz13
      try (first | have hs13 := sz12 hz13 | have hs13 := sz11 hz13 | have hs13 := sz10 hz13 | have hs13 := sz9 hz13 | have hs13 := sz8 hz13 | have hs13 := sz7 hz13 | have hs13 := sz6 hz13 | have hs13 := sz5 hz13 | have hs13 := sz4 hz13 | have hs13 := sz3 hz13 | have hs13 := sz2 hz13 | have hs13 := sz1 hz13)
      go_wp2
      go_returns
      exact ⟨rfl, S8.out.K.trans ((kk_of k13).mono S8.out.K.size)⟩

theorem queues_law (a : Option Addr) (len cap : Nat) (zs : List Int) (w : World) (h : IsRow .u8 w a len cap zs) :
    Calls Try.prog 3 #[.slice a len cap] w fun e w' => e = .returned (.bool true) ∧ Below w.heap.size w w' := by
  have hm : len ≤ maxLen := by
    rcases h with ⟨_, h, _⟩ | ⟨x, _, h1, h2, _⟩
    · rw [h]; exact Nat.zero_le _
    · omega
  by_cases hl : len ≤ 1048576
  · exact fq_small w a len cap _ h.bytes hl
  · exact fq_big w a len cap hm (by omega)
end Go.Proofs.Ytefkngpceeclhaa
