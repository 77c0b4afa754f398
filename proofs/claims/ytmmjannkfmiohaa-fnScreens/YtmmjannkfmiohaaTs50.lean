/- FnScreens: the law's walk. (Written by mksn1.py.) -/
import Derived.Test.YtmmjannkfmiohaaTs49
import Derived.Test.YtmmjannkfmiohaaTs42
import Derived.Test.YtmmjannkfmiohaaTs43
import Derived.Test.YtmmjannkfmiohaaTs27
import Derived.Test.YtmmjannkfmiohaaTs0
import Derived.Test.YtmmjannkfmiohaaTs1
namespace Go.Proofs.Ytmmjannkfmiohaa
open Go.RowKit Go.Maps
set_option linter.unusedVariables false
attribute [local go_sem] growUpon growAt growUponR growAtR
theorem fS0 (c v : Int) (w : World) : Sem.run Try.prog (Instr.field 38 (.agg #[.int .i64 c, .int .i64 v]) 0) w = .ok (.int .i64 c) w := by kernel_rfl
theorem fS1 (c v : Int) (w : World) : Sem.run Try.prog (Instr.field 38 (.agg #[.int .i64 c, .int .i64 v]) 1) w = .ok (.int .i64 v) w := by kernel_rfl
theorem fS2 (c : Int) (s : Value) (w : World) : Sem.run Try.prog (Instr.field 30 (.agg #[.int .i64 c, s]) 0) w = .ok (.int .i64 c) w := by kernel_rfl
attribute [local go_sem high] fS0 fS1 fS2 sluI

set_option maxHeartbeats 400000 in
theorem bigS (w : World) (a : Option Addr) (len cap : Nat) (hl : len ≤ maxLen) :
    Calls Try.prog 4 #[.slice a len cap] w fun e w' => e = .returned (.bool (decide ((1048576 : Int) < (len : Int)))) ∧ w' = w := by
  go_enter Try.func4, Try.ntmps4
  go_wp2
  go_returns
  exact ⟨rfl, rfl⟩
theorem Bytes.upS {w w' : World} {a : Option Addr} {len : Nat} {f : Nat → Int} (h : Bytes w w.heap.size a len f) (k : Below w.heap.size w w') : Bytes w' w'.heap.size a len f := by
  have h2 := h.stay (Nat.le_refl _) (Turn.of_below (b := w.heap.size) k) (Nat.le_refl _)
  rcases h2 with h | ⟨xb, xo, ha, hx, hc⟩
  · exact .inl h
  · exact .inr ⟨xb, xo, ha, Nat.lt_of_lt_of_le hx k.size, hc⟩
theorem wr64 {q : Int} {s : Nat} (h : 0 ≤ q) (hs : (s : Int) = q / 64) (h4 : s < 4) : wrap64 (q.tdiv 64) = (s : Int) := by
  rw [Int.tdiv_eq_ediv_of_nonneg (by omega), ← hs]
  unfold wrap64
  omega
theorem kalS (w : World) (o : Obj) : Below w.heap.size w (w.alloc o) := (Below.refl _ w).alloc (Nat.le_refl _) o
theorem rb_newS (w : World) (v0 v1 : Value) (T : TypeId) : Rb (w.alloc (.cells #[v0, v1] T)) w.heap.size v0 v1 := ⟨by simp, by simp, by simp, by simp, by simp⟩

set_option maxRecDepth 100000 in
set_option maxHeartbeats 2000000 in
theorem screens_big (w : World) (a : Option Addr) (len cap : Nat) (hl : len ≤ maxLen) (h : 1048576 < len) :
    Calls Try.prog 3 #[.slice a len cap] w fun e w' => e = .returned (.bool true) ∧ Below w.heap.size w w' := by
  have hb := bigS w a len cap hl
  rw [decide_eq_true (by omega : (1048576 : Int) < (len : Int))] at hb
  go_enter Try.func3, Try.ntmps3
  go_wp2_with fail
  refine Calls.mono hb ?_
  rintro e w1 ⟨rfl, rfl⟩
  go_wp2
  go_returns
  exact ⟨rfl, Below.refl _ _⟩

set_option maxRecDepth 100000 in
set_option maxHeartbeats 4000000 in
theorem screens_small (w : World) (a : Option Addr) (len cap : Nat) (f : Nat → Int) (hB : Bytes w w.heap.size a len f) (hlm : len ≤ maxLen) (hl : len ≤ 1048576) :
    Calls Try.prog 3 #[.slice a len cap] w fun e w' => e = .returned (.bool true) ∧ Below w.heap.size w w' := by
  have hb := bigS w a len cap hlm
  rw [decide_eq_false (by omega : ¬ (1048576 : Int) < (len : Int))] at hb
  have HB := hideP hB
  clear hB
  go_enter Try.func3, Try.ntmps3
  go_wp2_with fail
  refine Calls.mono hb ?_
  rintro e w0 ⟨rfl, hw0⟩
  subst w0
  clear hb
  go_wp2_with fail
  refine Calls.mono (drawScr_any w a len cap f HB.out hl) ?_
  rintro e w1 ⟨so, sc, L, la, lc, LL, ao, ac, A, rfl, hL, hz, hLL, hA, kk, hWs, hLas, hRow⟩
  have K1 := hideP kk
  have W1 := hideP hWs
  have A1 := hideP hLas
  have R1 := hideP hRow
  have LS : Hid (L.length + wzs L ≤ 1048576) := hideP (by omega)
  have HL13 := hideP hL
  have HZ624 := hideP hz
  have PSC := hideP (iScreen_any so sc L la lc LL ao ac A w1 W1.out LS.out A1.out (by omega) R1.out (by omega))
  have PSS := hideP (fun W (h1 : Ws W 0 W.heap.size so L) (h2 : Las W 0 W.heap.size la LL) (h3 : Row .i64 W 0 W.heap.size ao A) => sScreen_any so sc L la lc LL ao ac A W h1 LS.out h2 (by omega) h3 (by omega))
  have PIT := hideP (fun x y W (h : Ws W 0 W.heap.size so L) => iTop_any so sc L x y W h LS.out)
  have POW := hideP (fun W (h : Ws W 0 W.heap.size so L) => iOwnersOf_any so sc L W h LS.out)
  have HOK := hideP (fun h => scr_ok (C := L.map Wn.ct) (LL := LL) (A := A) h)
  obtain ⟨z, hzz⟩ : ∃ z, scrZ (L.map Wn.ct) LL A = z := ⟨_, rfl⟩
  obtain ⟨S, hS⟩ : ∃ S, scrL (L.map Wn.ct) LL A = S := ⟨_, rfl⟩
  rw [hzz] at HOK
  simp only [hzz, hS] at PSC PSS
  have HS := hideP hS
  clear hzz hS kk hWs hLas hRow hL hz hLL hA
  go_wp2_with fail
  refine Calls.mono PSC.out ?_
  rintro e w2 ⟨s1, c1, rfl, O2, kk⟩
  have kb := kk.trans ((kalS w2 (.cells #[.int .i64 z, .slice s1 S.length c1] 30)).mono kk.size)
  have K3 := hideP (K1.out.trans (kb.mono K1.out.size))
  have W3 := hideP (W1.out.upS kb)
  have A3 := hideP (A1.out.upS kb)
  have R3 := hideP (R1.out.upS kb)
  have X3 := hideP (rb_newS w2 (.int .i64 z) (.slice s1 S.length c1) 30)
  have N3 := hideP ((O2.le (Nat.zero_le _)).keep (kalS w2 (.cells #[.int .i64 z, .slice s1 S.length c1] 30)))
  clear O2 kk kb K1 W1 A1 R1 PSC
  go_wp2_with fail
  generalize w2.alloc (.cells #[.int .i64 z, .slice s1 S.length c1] 30) = w3 at *
  generalize w2.heap.size = b6 at *
  refine Calls.mono (drawLabs_any w3 a len cap f (HB.out.upS K3.out) hl) ?_
  rintro e w4 ⟨la7, lc7, L7, rfl, hL7, kk, hA7⟩
  have K4 := hideP (K3.out.trans (kk.mono K3.out.size))
  have W4 := hideP (W3.out.upS kk)
  have A4 := hideP (A3.out.upS kk)
  have R4 := hideP (R3.out.upS kk)
  have X4 := hideP (X3.out.keep kk X3.out.lt)
  have N4 := hideP (N3.out.keep kk)
  have J4 := hideP hA7
  clear kk hA7 K3 W3 A3 R3 X3 N3
  go_wp2_with fail
  refine Calls.mono (drawBan_any w4 a len cap f (HB.out.upS K4.out) hl) ?_
  rintro e w5 ⟨bl, bp, rfl, kk⟩
  have kb := kk.trans ((kalS w5 (.cells #[.int .i64 bl, .int .i64 bp] 34)).mono kk.size)
  have K6 := hideP (K4.out.trans (kb.mono K4.out.size))
  have W6 := hideP (W4.out.upS kb)
  have A6 := hideP (A4.out.upS kb)
  have R6 := hideP (R4.out.upS kb)
  have X6 := hideP (X4.out.keep kb X4.out.lt)
  have N6 := hideP (N4.out.keep kb)
  have J6 := hideP (J4.out.upS kb)
  have B6 := hideP (rb_newS w5 (.int .i64 bl) (.int .i64 bp) 34)
  have PA := hideP (fun W (h : Las W 0 W.heap.size la7 L7) => iLabels_any 0 W.heap.size la7 lc7 L7 W h (Nat.le_refl _) (by omega))
  have PB := hideP (fun W (h : Las W 0 W.heap.size la7 L7) => sLF_any 0 W.heap.size la7 lc7 L7 W h (Nat.le_refl _) (by omega))
  have PC := hideP (fun W => iBan_any bl bp W)
  have PD := hideP (fun W => sBan_any bl bp W)
  clear kk kb K4 W4 A4 R4 X4 N4 J4 hL7
  generalize laF L7 = F7 at *
  generalize banZ bl bp = q1 at *
  generalize banV bl bp = q2 at *
  go_wp2
  generalize w5.alloc (.cells #[.int .i64 bl, .int .i64 bp] 34) = w6 at *
  generalize w5.heap.size = b8 at *
  obtain ⟨y0, y1, yf0, yf1, yl⟩ := B6.out
  refine wp_region_plan (R := Kept) (G := Kept) rel_keptA rel_keptA (fun h => h) 23 [(true, 0), (true, 1), (true, 2), (true, 3), (true, 4), (true, 5), (true, 6), (true, 7), (true, 8), (true, 9), (true, 10), (true, 11), (true, 12), (true, 13), (true, 14), (true, 15), (true, 16), (true, 17), (true, 18), (true, 19), (true, 20), (true, 21), (true, 22)] (by kernel_rfl) (by kernel_rfl) ?_
  simp only [selP, List.filterMap_cons, List.filterMap_nil, List.getElem?_cons_succ, List.getElem?_cons_zero, Option.map_some]
  repeat (first | (refine plan_take _ (by first | exact wanted_free rfl | exact wanted_yes rfl rfl | exact wanted_no rfl rfl) (by first | with_reducible rfl | (simp; done) | decide) ?_; apply Exists.intro; refine ⟨fun w' k1 => ?_, fun K hK => ?_⟩; (focus (have hc := Kept.cell k1; go_simp; first | done | (go_at_call 9; exact kept_call (Below.refl _ _) (PA.out _ (J6.out.upS (Kept.below k1)))) | (go_at_call 10; exact kept_call (Below.refl _ _) (PB.out _ (J6.out.upS (Kept.below k1)))) | (go_at_call 11; exact kept_call (Below.refl _ _) (PC.out _)) | (go_at_call 12; exact kept_call (Below.refl _ _) (PD.out _)) | rfl)); (go_simp; refine hK _ ?_; clear hK K)) | (refine plan_off _ (by first | exact wanted_yes rfl rfl | exact wanted_no rfl rfl | rfl) (by first | with_reducible rfl | (simp; done) | rfl | decide) ?_; intro K hK; (try go_simp); refine hK _ ?_; clear hK K))
  refine plan_nil fun w10 k10 => ?_
  try simp only [List.drop_succ_cons, List.drop_zero]
  have kk := Kept.below k10
  have K10 := hideP (K6.out.trans (kk.mono K6.out.size))
  have W10 := hideP (W6.out.upS kk)
  have A10 := hideP (A6.out.upS kk)
  have R10 := hideP (R6.out.upS kk)
  have X10 := hideP (X6.out.keep kk X6.out.lt)
  have N10 := hideP (N6.out.keep kk)
  clear kk k10 K6 W6 A6 R6 X6 N6 J6 B6 PA PB PC PD y0 y1 yf0 yf1 yl
  obtain ⟨x0, x1, xf0, xf1, xl⟩ := X10.out
  by_cases hz0 : z = 0
  · subst hz0
    have OK := HOK.out rfl
    have hst := OK.st
    have hA12 := OK.len
    have hSC : S = scrC (L.map Wn.ct) LL A := HS.out.symm.trans OK.s
    have hS96 : S.length = 96 := by rw [hSC]; exact scrC_len hA12
    rw [OK.st, OK.o] at POW
    have LA := hideP OK.la
    have IDS := hideP (ids_pos hst)
    have TOPS := hideP (fun (x y : Int) => top_cases (LL := LL) (x := x) (y := y) hst)
    have SATS := hideP (fun (i : Nat) (h : 12 ≤ i) (h2 : i < 96) => (show S[i]? = some (scrP LL (L.map Wn.ct) (((i % 12 : Nat) : Int), ((i / 12 : Nat) : Int))) by rw [hSC]; exact scrC_at hA12 h h2))
    have OATS := hideP (fun (i : Nat) (h : 12 ≤ i) (h2 : i < 96) => (show (ownC (L.map Wn.ct))[i]? = some (topV (L.map Wn.ct) ((i % 12 : Nat) : Int) ((i / 12 : Nat) : Int)) by rw [ownC_at h h2, own_top hst]))
    have hO96 := ownC_len (L.map Wn.ct)
    obtain ⟨g1, hs1, I1⟩ := owI_of N10.out (by omega)
    subst hs1
    have hc1 : 12 ≤ c1 := by have := I1.room; omega
    have N11 := hideP I1
    have PN := hideP (fun W (h : OwI W 0 g1 c1 S) (h2 : Row .i64 W 0 W.heap.size ao A) => (show Calls Try.prog 15 #[.slice (some ⟨g1, 0, none⟩) 12 c1, .slice ao 12 ac] W fun e w' => e = .returned (.bool true) ∧ Below W.heap.size W w' by
      have h3 : Row .i64 W 0 W.heap.size (some ⟨g1, 0, none⟩) A := by rw [hSC] at h; exact h.pre
      have := nums_same 0 W.heap.size 0 W.heap.size (some ⟨g1, 0, none⟩) ao c1 ac A W h3 h2 (Nat.le_refl _) (Nat.le_refl _) (by omega)
      rw [hA12] at this
      exact this))
    have HX10 := X10.out
    rw [hS96] at HX10
    have X11 := hideP HX10
    clear HX10
    rw [hS96, hA12]
    clear N10 X10 x0 x1 xf0 xf1 xl I1 hst hA12 hSC hS96 OK HS HOK PSS
    obtain ⟨x0, x1, xf0, xf1, xl⟩ := X11.out
    obtain ⟨O, hO⟩ : ∃ O, ownC (L.map Wn.ct) = O := ⟨_, rfl⟩
    rw [hO] at POW hO96
    have OATS' := hideP (fun (i : Nat) (h : 12 ≤ i) (h2 : i < 96) => (show O[i]? = some (topV (L.map Wn.ct) ((i % 12 : Nat) : Int) ((i / 12 : Nat) : Int)) by rw [← hO]; exact OATS.out i h h2))
    clear hO OATS
    go_wp2_with fail
    refine Calls.mono (POW.out _ W10.out) ?_
    rintro e w11 ⟨s2, c2, rfl, O2, kk⟩
    obtain ⟨g2, hs2, I2⟩ := owI_of (O2.le (Nat.zero_le _)) (by omega)
    subst hs2
    rw [hO96]
    have kb := kk.trans ((kalS w11 (.cells #[.int .i64 0, .slice (some ⟨g2, 0, none⟩) 96 c2] 41)).mono kk.size)
    have U0 : Hid (SA w (w11.alloc (.cells #[.int .i64 0, .slice (some ⟨g2, 0, none⟩) 96 c2] 41)) so la g1 g2 L LL S O b6 w11.heap.size c1 c2) := hideP ⟨K10.out.trans (kb.mono K10.out.size), W10.out.upS kb, A10.out.upS kb, X11.out.keep kb X11.out.lt, N11.out.keep kb N11.out.lt, rb_newS w11 _ _ _, I2.keep (kalS w11 _) I2.lt⟩
    have R11 := hideP (R10.out.upS kb)
    clear O2 I2 kk kb K10 W10 A10 R10 X11 N11 POW hO96 x0 x1 xf0 xf1 xl
    obtain ⟨x0, x1, xf0, xf1, xl⟩ := U0.out.x
    obtain ⟨y0, y1, yf0, yf1, yl⟩ := U0.out.y
    go_wp2_with fail
    generalize w11.alloc (.cells #[.int .i64 0, .slice (some ⟨g2, 0, none⟩) 96 c2] 41) = w12 at *
    generalize w11.heap.size = b9 at *
    refine Calls.mono (PN.out _ U0.out.s R11.out) ?_
    rintro e w13 ⟨rfl, kk⟩
    have U1 := hideP (U0.out.keep kk)
    clear kk U0 R11 PN x0 x1 xf0 xf1 xl y0 y1 yf0 yf1 yl
    go_wp2
    go_loopw [10] (fun v10 wr => ∃ i : Nat, 12 ≤ i ∧ i ≤ 96 ∧ v10 = .int .i64 i ∧ SA w wr so la g1 g2 L LL S O b6 b9 c1 c2) (fun v _ => 96 - (intOf v).toNat)
    case atStart => exact ⟨12, by omega, by omega, rfl, U1.out⟩
    case round =>
      obtain ⟨i, hi12, hi96, rfl, hU⟩ := hrel
      have UH := hideP hU
      clear hU U1
      by_cases hi : i < 96
      · have hi' : (i : Int) < 96 := by omega
        have hi0 : (0 : Int) ≤ (i : Int) := by omega
        obtain ⟨x, hx⟩ : ∃ x, i % 12 = x := ⟨_, rfl⟩
        obtain ⟨y, hy⟩ : ∃ y, i / 12 = y := ⟨_, rfl⟩
        have SAT := hideP (SATS.out i hi12 hi)
        have OAT := hideP (OATS'.out i hi12 hi)
        rw [hx, hy] at SAT OAT
        have hmod : (i : Int).tmod 12 = (x : Int) := by rw [Int.tmod_eq_emod_of_nonneg hi0]; omega
        have hdiv : (i : Int).tdiv 12 = (y : Int) := by rw [Int.tdiv_eq_ediv_of_nonneg hi0]; omega
        have hxl : (x : Int) < 12 := by omega
        have hyl : (y : Int) < 8 := by omega
        obtain ⟨V, hV⟩ : ∃ V, scrP LL (L.map Wn.ct) ((x : Int), (y : Int)) = V := ⟨_, rfl⟩
        obtain ⟨q, hq⟩ : ∃ q, topV (L.map Wn.ct) (x : Int) (y : Int) = q := ⟨_, rfl⟩
        rw [hV] at SAT
        rw [hq] at OAT
        have TC := TOPS.out (x : Int) (y : Int)
        have HV := hideP hV
        have HQ := hideP hq
        obtain ⟨x0, x1, xf0, xf1, xl⟩ := UH.out.x
        clear hV hq hx hy
        rcases TC with hno | hys
        · obtain ⟨e1, e2⟩ := hno
          rw [e1] at HQ
          rw [e2] at HV
          have hq0 : q = 0 := HQ.out.symm
          have hV0 : V = 0 := HV.out.symm
          subst hq0 hV0
          go_wp2
          have PIT2 := hideP (PIT.out (x : Int) (y : Int))
          rw [e1] at PIT2
          go_loopw [13, 14] (fun v13 v14 wr => ∃ k : Nat, k ≤ L.length ∧ v14 = .int .i64 k ∧ v13 = .int .i64 0 ∧ SA w wr so la g1 g2 L LL S O b6 b9 c1 c2) (fun _ v _ => L.length - (intOf v).toNat)
          case atStart => exact ⟨0, Nat.zero_le _, rfl, rfl, UH.out⟩
          case round =>
            obtain ⟨k, hk, rfl, rfl, hU⟩ := hrel
            have UI := hideP hU
            clear hU UH
            by_cases hlt : k < L.length
            · have hlt' : (k : Int) < (L.length : Int) := by omega
              have hid : (L[k].i != 0) = true := by simpa using IDS.out k hlt
              have hL13' : (L.length : Int) ≤ 13 := by have := HL13.out; omega
              obtain ⟨g, o, hso, -, hgl, hc⟩ : ∃ g o, so = some ⟨g, o, none⟩ ∧ 0 ≤ g ∧ g < wr.heap.size ∧ ∀ i (h : i < L.length), Cl Wn.vals wr g (o + i * 7) L[i] ∧ Row .i64 wr 0 wr.heap.size L[i].b.ao L[i].b.L := by
                rcases UI.out.l with e | h
                · rw [e] at hlt; simp at hlt
                · exact h
              subst hso
              obtain ⟨a0, a1, a2, a3, a4, a5, a6⟩ := (hc k hlt).1.seven
              obtain ⟨y0, y1, yf0, yf1, yl⟩ := UI.out.y
              have o0 := UI.out.o.at OAT.out
              have gl2 := UI.out.o.lt
              clear hc a1 a2 a3 a4 a5 a6
              generalize L[k].i = id at *
              go_wp2
              refine wp_region_plan (R := Kept) (G := Kept) rel_keptA rel_keptA (fun h => h) 11 [(true, 0), (true, 1), (true, 2), (true, 3), (true, 4), (true, 5), (true, 6), (true, 7), (true, 8), (true, 9), (true, 10)] (by kernel_rfl) (by kernel_rfl) ?_
              simp only [selP, List.filterMap_cons, List.filterMap_nil, List.getElem?_cons_succ, List.getElem?_cons_zero, Option.map_some]
              repeat (first | (refine plan_take _ (by first | exact wanted_free rfl | exact wanted_yes rfl rfl | exact wanted_no rfl rfl) (by first | with_reducible rfl | (simp; done) | decide) ?_; apply Exists.intro; refine ⟨fun w' k1 => ?_, fun K hK => ?_⟩; (focus (have hc := Kept.cell k1; go_simp; first | done | rfl)); (go_simp; refine hK _ ?_; clear hK K)) | (refine plan_off _ (by first | exact wanted_yes rfl rfl | exact wanted_no rfl rfl | rfl) (by first | with_reducible rfl | (simp; done) | rfl | decide) ?_; intro K hK; (try go_simp); refine hK _ ?_; clear hK K))
              refine plan_nil fun w30 k30 => ?_
              try simp only [List.drop_succ_cons, List.drop_zero]
              have UJ := hideP (UI.out.keep (Kept.below k30))
              clear k30 UI
              go_wp2
              go_roundw
              case rel => exact ⟨k + 1, by omega, by go_num, rfl, UJ.out⟩
              case measure => simp [intOf]; omega
            · obtain rfl : k = L.length := by omega
              obtain ⟨x0, x1, xf0, xf1, xl⟩ := UI.out.x
              obtain ⟨y0, y1, yf0, yf1, yl⟩ := UI.out.y
              have s0 := UI.out.s.at SAT.out
              have o0 := UI.out.o.at OAT.out
              have gl1 := UI.out.s.lt
              have gl2 := UI.out.o.lt
              go_wp2
              refine wp_region_plan (R := Kept) (G := Kept) rel_keptA rel_keptA (fun h => h) 20 [(true, 0), (true, 1), (true, 2), (true, 3), (true, 4), (true, 5), (true, 6), (true, 7), (true, 8), (true, 9), (true, 10), (true, 11), (true, 12), (true, 13), (true, 14), (true, 15), (true, 16), (true, 17), (true, 18), (true, 19)] (by kernel_rfl) (by kernel_rfl) ?_
              simp only [selP, List.filterMap_cons, List.filterMap_nil, List.getElem?_cons_succ, List.getElem?_cons_zero, Option.map_some]
              repeat (first | (refine plan_take _ (by first | exact wanted_free rfl | exact wanted_yes rfl rfl | exact wanted_no rfl rfl) (by first | with_reducible rfl | (simp; done) | decide) ?_; apply Exists.intro; refine ⟨fun w' k1 => ?_, fun K hK => ?_⟩; (focus (have hc := Kept.cell k1; go_simp; first | done | (go_at_call 17; exact kept_call (Below.refl _ _) (PIT2.out _ (UI.out.l.upS (Kept.below k1)))) | rfl)); (go_simp; refine hK _ ?_; clear hK K)) | (refine plan_off _ (by first | exact wanted_yes rfl rfl | exact wanted_no rfl rfl | rfl) (by first | with_reducible rfl | (simp; done) | rfl | decide) ?_; intro K hK; (try go_simp); refine hK _ ?_; clear hK K))
              refine plan_nil fun w40 k40 => ?_
              try simp only [List.drop_succ_cons, List.drop_zero]
              have UR := hideP (UI.out.keep (Kept.below k40))
              clear k40 UI
              go_wp2
              go_roundw
              case rel => exact ⟨i + 1, by omega, by omega, by go_num, UR.out⟩
              case measure => simp [intOf]; omega

        · obtain ⟨m, s, TS⟩ := hys
          have HTS := hideP TS
          rw [TS.top] at HQ
          have hm13 : m < L.length := TS.lt
          go_wp2
          go_loopw [13, 14] (fun v13 v14 wr => ∃ k : Nat, k ≤ L.length ∧ v14 = .int .i64 k ∧ v13 = .int .i64 (if m < k then V else 0) ∧ SA w wr so la g1 g2 L LL S O b6 b9 c1 c2) (fun _ v _ => L.length - (intOf v).toNat)
          case atStart => exact ⟨0, Nat.zero_le _, rfl, rfl, UH.out⟩
          case round =>
            obtain ⟨k, hk, rfl, rfl, hU⟩ := hrel
            have UI := hideP hU
            clear hU UH
            by_cases hlt : k < L.length
            · have hlt' : (k : Int) < (L.length : Int) := by omega
              have hL13' : (L.length : Int) ≤ 13 := by have := HL13.out; omega
              obtain ⟨g, o, hso, -, hgl, hc⟩ : ∃ g o, so = some ⟨g, o, none⟩ ∧ 0 ≤ g ∧ g < wr.heap.size ∧ ∀ i (h : i < L.length), Cl Wn.vals wr g (o + i * 7) L[i] ∧ Row .i64 wr 0 wr.heap.size L[i].b.ao L[i].b.L := by
                rcases UI.out.l with e | h
                · rw [e] at hlt; simp at hlt
                · exact h
              subst hso
              obtain ⟨y0, y1, yf0, yf1, yl⟩ := UI.out.y
              have o0 := UI.out.o.at OAT.out
              have gl2 := UI.out.o.lt
              obtain ⟨a0, a1, a2, a3, a4, a5, a6⟩ := (hc k hlt).1.seven
              by_cases hkm : k = m
              · subst hkm
                have hqi : L[k].i = q := HQ.out
                have hG := HTS.out.good
                have hrow := hideP (hc k hlt).2
                have hdl : L[k].b.L.length ≤ 1048576 := by have := wzs_mem (List.getElem_mem hlt); have := HZ624.out; omega
                have PCE := hideP (fun W (kk : Below wr.heap.size wr W) => iCell_any 0 wr.heap.size L[k].i L[k].x L[k].y L[k].w L[k].h L[k].m L[k].b.ao L[k].b.cap L[k].b.L ((x : Int) - L[k].x) ((y : Int) - L[k].y) W (hrow.out.keep kk (Nat.le_refl _)) kk.size hdl)
                have hscr := HTS.out.scr
                rw [HV.out] at hscr
                have hct : L[k].ct = ⟨L[k].i, L[k].x, L[k].y, L[k].w, L[k].h, L[k].m, L[k].b.L⟩ := rfl
                rw [hct] at hscr
                have hsl := HTS.out.sl
                obtain ⟨hx1, hx2⟩ := hG.rx
                obtain ⟨hy1, hy2⟩ := hG.ry
                have hid0 := (okId_iff.1 hG.id).1
                have hs4 := HTS.out.s4
                clear hc hrow hG hdl hct
                generalize celZ ⟨L[k].i, L[k].x, L[k].y, L[k].w, L[k].h, L[k].m, L[k].b.L⟩ ((x : Int) - L[k].x) ((y : Int) - L[k].y) = cz at *
                generalize celV ⟨L[k].i, L[k].x, L[k].y, L[k].w, L[k].h, L[k].m, L[k].b.L⟩ ((x : Int) - L[k].x) ((y : Int) - L[k].y) = cv at *
                rw [hqi] at a0 PCE hsl hid0
                have HSC := hideP hscr
                clear hscr hqi
                generalize L[k].x = X at *
                generalize L[k].y = Y at *
                generalize L[k].w = WW at *
                generalize L[k].h = HH at *
                generalize L[k].m = mm at *
                generalize L[k].b.ao = bao at *
                generalize L[k].b.cap = bcap at *
                generalize L[k].b.L.length = bln at *
                have hwx : IntKind.i64.wrap ((x : Int) - X) = (x : Int) - X := IntWalk.i64_in _ (by omega)
                have hwy : IntKind.i64.wrap ((y : Int) - Y) = (y : Int) - Y := IntWalk.i64_in _ (by omega)
                go_wp2
                refine wp_region_plan (R := Kept) (G := Kept) rel_keptA rel_keptA (fun h => h) 11 [(true, 0), (true, 1), (true, 2), (true, 3), (true, 4), (true, 5), (true, 6), (true, 7), (true, 8), (true, 9), (true, 10)] (by kernel_rfl) (by kernel_rfl) ?_
                simp only [selP, List.filterMap_cons, List.filterMap_nil, List.getElem?_cons_succ, List.getElem?_cons_zero, Option.map_some]
                repeat (first | (refine plan_take _ (by first | exact wanted_free rfl | exact wanted_yes rfl rfl | exact wanted_no rfl rfl) (by first | with_reducible rfl | (simp; done) | decide) ?_; apply Exists.intro; refine ⟨fun w' k1 => ?_, fun K hK => ?_⟩; (focus (have hc := Kept.cell k1; go_simp; first | done | rfl)); (go_simp; refine hK _ ?_; clear hK K)) | (refine plan_off _ (by first | exact wanted_yes rfl rfl | exact wanted_no rfl rfl | rfl) (by first | with_reducible rfl | (simp; done) | rfl | decide) ?_; intro K hK; (try go_simp); refine hK _ ?_; clear hK K))
                refine plan_nil fun w30 k30 => ?_
                try simp only [List.drop_succ_cons, List.drop_zero]
                have UK := hideP (UI.out.keep (Kept.below k30))
                have kk30 := Kept.below k30
                have PCF := hideP (fun W (kk : Below w30.heap.size w30 W) => PCE.out W (kk30.trans (kk.mono kk30.size)))
                have d0 := (kk30.cell (p := ⟨g, o + k * 7, none⟩) hgl).trans a0
                have d1 := (kk30.cell (p := ⟨g, o + k * 7 + 1, none⟩) hgl).trans a1
                have d2 := (kk30.cell (p := ⟨g, o + k * 7 + 2, none⟩) hgl).trans a2
                have d3 := (kk30.cell (p := ⟨g, o + k * 7 + 3, none⟩) hgl).trans a3
                have d4 := (kk30.cell (p := ⟨g, o + k * 7 + 4, none⟩) hgl).trans a4
                have d5 := (kk30.cell (p := ⟨g, o + k * 7 + 5, none⟩) hgl).trans a5
                have d6 := (kk30.cell (p := ⟨g, o + k * 7 + 6, none⟩) hgl).trans a6
                have hgl3 : g < w30.heap.size := Nat.lt_of_lt_of_le hgl kk30.size
                clear k30 kk30 UI PCE a0 a1 a2 a3 a4 a5 a6 y0 y1 yf0 yf1 yl o0 gl2
                go_wp2
                refine wp_region_plan (R := Kept) (G := Kept) rel_keptA rel_keptA (fun h => h) 22 [(true, 0), (true, 1), (true, 2), (true, 3), (true, 4), (true, 5), (true, 6), (true, 7), (true, 8), (true, 9), (true, 10), (true, 11), (true, 12), (true, 13), (true, 14), (true, 15), (true, 16), (true, 17), (true, 18), (true, 19), (true, 20), (true, 21)] (by kernel_rfl) (by kernel_rfl) ?_
                simp only [selP, List.filterMap_cons, List.filterMap_nil, List.getElem?_cons_succ, List.getElem?_cons_zero, Option.map_some]
                repeat (first | (refine plan_take _ (by first | exact wanted_free rfl | exact wanted_yes rfl rfl | exact wanted_no rfl rfl) (by first | with_reducible rfl | (simp; done) | decide) ?_; apply Exists.intro; refine ⟨fun w' k1 => ?_, fun K hK => ?_⟩; (focus (have hc := Kept.cell k1; go_simp; first | done | (go_at_call 16; exact kept_call (Below.refl _ _) (PCF.out _ (Kept.below k1))) | rfl)); (go_simp; refine hK _ ?_; clear hK K)) | (refine plan_off _ (by first | exact wanted_yes rfl rfl | exact wanted_no rfl rfl | rfl) (by first | with_reducible rfl | (simp; done) | rfl | decide) ?_; intro K hK; (try go_simp); refine hK _ ?_; clear hK K))
                refine plan_nil fun w31 k31 => ?_
                try simp only [List.drop_succ_cons, List.drop_zero]
                have kk31 := Kept.below k31
                have UL := hideP (UK.out.keep kk31)
                have a0 := (kk31.cell (p := ⟨g, o + k * 7, none⟩) hgl3).trans d0
                have a2 := (kk31.cell (p := ⟨g, o + k * 7 + 2, none⟩) hgl3).trans d2
                have hgl4 : g < w31.heap.size := Nat.lt_of_lt_of_le hgl3 kk31.size
                clear k31 kk31 UK PCF d0 d1 d2 d3 d4 d5 d6
                by_cases hyY : (y : Int) = Y
                · have hyb : ((y : Int) == Y) = true := by simpa using hyY
                  obtain ⟨h4, hfl⟩ := laF_ok LA.out
                  have hs4l : s < LL.length := by omega
                  have hs4' : (s : Int) < (LL.length : Int) := by omega
                  have hft := hfl s hs4l
                  have hVB : V = 256 + (LL[s].l * 16 + LL[s].p) := by
                    have := HSC.out
                    rw [if_pos hyY] at this
                    rw [this, List.getD_eq_getElem?_getD, List.getElem?_eq_getElem hs4l]
                    rfl
                  have PBN := hideP (fun W => iBan_any LL[s].l LL[s].p W)
                  have e0 : banV LL[s].l LL[s].p = V := by unfold banV; rw [hft, hVB]; rfl
                  rw [e0] at PBN
                  generalize banZ LL[s].l LL[s].p = bz at *
                  obtain ⟨gL, oL, hla, -, hglL, hcL⟩ : ∃ g o, la = some ⟨g, o, none⟩ ∧ 0 ≤ g ∧ g < w31.heap.size ∧ ∀ i (h : i < LL.length), IsLab w31 g (o + i * 2) LL[i].l LL[i].p := by
                    rcases UL.out.a with e | h
                    · rw [e] at hs4l; simp at hs4l
                    · exact h
                  subst hla
                  obtain ⟨l0, l1⟩ := hcL s hs4l
                  clear hcL hVB e0 hft hfl HSC h4
                  generalize LL[s].l = ll at *
                  generalize LL[s].p = lp at *
                  have hWs := wr64 hid0 hsl hs4
                  have hW : (wrap64 (q.tdiv 64)).toNat = s := by rw [hWs]; exact Int.toNat_natCast s
                  have hw0 : 0 ≤ wrap64 (q.tdiv 64) := by rw [hWs]; exact Int.natCast_nonneg s
                  have hwl : wrap64 (q.tdiv 64) < (LL.length : Int) := by rw [hWs]; exact hs4'
                  have l0' : w31.cell? ⟨gL, oL + (wrap64 (q.tdiv 64)).toNat * 2, none⟩ = some (.int .i64 ll) := by rw [hW]; exact l0
                  have l1' : w31.cell? ⟨gL, oL + (wrap64 (q.tdiv 64)).toNat * 2 + 1, none⟩ = some (.int .i64 lp) := by rw [hW]; exact l1
                  clear hW hWs hsl l0 l1
                  have hs4i : (s : Int) < 4 := by omega
                  subst hyY
                  go_wp2_with fail
                  refine Calls.mono (PBN.out _) ?_
                  rintro e w32 ⟨rfl, kk⟩
                  have UJ := hideP (UL.out.keep kk)
                  clear kk UL PBN a0 a2 l0' l1'
                  go_wp2
                  go_roundw
                  case rel => exact ⟨k + 1, by omega, by go_num, by rw [if_pos (Nat.lt_succ_self k)], UJ.out⟩
                  case measure => simp [intOf]; omega
                · have hyb : ((y : Int) == Y) = false := by simpa using hyY
                  have hVc : V = cv := by have := HSC.out; rw [if_neg hyY] at this; exact this
                  have HVC := hideP hVc
                  clear hVc HSC
                  go_wp2
                  go_roundw
                  case rel => exact ⟨k + 1, by omega, by go_num, by rw [if_pos (Nat.lt_succ_self k), HVC.out], UL.out⟩
                  case measure => simp [intOf]; omega
              · have hid : (L[k].i != q) = true := by
                  have h1 : L[k].i ≠ q := fun e => hkm (HTS.out.one k hlt (e.trans HQ.out.symm))
                  simpa using h1
                have hif : (if m < k + 1 then V else 0) = (if m < k then V else 0) := by
                  by_cases h1 : m < k
                  · rw [if_pos h1, if_pos (by omega)]
                  · rw [if_neg h1, if_neg (by omega)]
                have HIF := hideP hif
                clear hif hc a1 a2 a3 a4 a5 a6
                generalize L[k].i = id at *
                generalize (if m < k then V else 0) = vk at *
                go_wp2
                refine wp_region_plan (R := Kept) (G := Kept) rel_keptA rel_keptA (fun h => h) 11 [(true, 0), (true, 1), (true, 2), (true, 3), (true, 4), (true, 5), (true, 6), (true, 7), (true, 8), (true, 9), (true, 10)] (by kernel_rfl) (by kernel_rfl) ?_
                simp only [selP, List.filterMap_cons, List.filterMap_nil, List.getElem?_cons_succ, List.getElem?_cons_zero, Option.map_some]
                repeat (first | (refine plan_take _ (by first | exact wanted_free rfl | exact wanted_yes rfl rfl | exact wanted_no rfl rfl) (by first | with_reducible rfl | (simp; done) | decide) ?_; apply Exists.intro; refine ⟨fun w' k1 => ?_, fun K hK => ?_⟩; (focus (have hc := Kept.cell k1; go_simp; first | done | rfl)); (go_simp; refine hK _ ?_; clear hK K)) | (refine plan_off _ (by first | exact wanted_yes rfl rfl | exact wanted_no rfl rfl | rfl) (by first | with_reducible rfl | (simp; done) | rfl | decide) ?_; intro K hK; (try go_simp); refine hK _ ?_; clear hK K))
                refine plan_nil fun w30 k30 => ?_
                try simp only [List.drop_succ_cons, List.drop_zero]
                have UJ := hideP (UI.out.keep (Kept.below k30))
                clear k30 UI
                go_wp2
                go_roundw
                case rel => exact ⟨k + 1, by omega, by go_num, by rw [HIF.out], UJ.out⟩
                case measure => simp [intOf]; omega
            · obtain rfl : k = L.length := by omega
              rw [if_pos hm13]
              have PIT2 := hideP (PIT.out (x : Int) (y : Int))
              rw [HTS.out.top, HQ.out] at PIT2
              clear HTS PIT
              have PIT := hideP (fun (_ _ : Int) => PIT2.out)
              obtain ⟨x0, x1, xf0, xf1, xl⟩ := UI.out.x
              obtain ⟨y0, y1, yf0, yf1, yl⟩ := UI.out.y
              have s0 := UI.out.s.at SAT.out
              have o0 := UI.out.o.at OAT.out
              have gl1 := UI.out.s.lt
              have gl2 := UI.out.o.lt
              go_wp2
              refine wp_region_plan (R := Kept) (G := Kept) rel_keptA rel_keptA (fun h => h) 20 [(true, 0), (true, 1), (true, 2), (true, 3), (true, 4), (true, 5), (true, 6), (true, 7), (true, 8), (true, 9), (true, 10), (true, 11), (true, 12), (true, 13), (true, 14), (true, 15), (true, 16), (true, 17), (true, 18), (true, 19)] (by kernel_rfl) (by kernel_rfl) ?_
              simp only [selP, List.filterMap_cons, List.filterMap_nil, List.getElem?_cons_succ, List.getElem?_cons_zero, Option.map_some]
              repeat (first | (refine plan_take _ (by first | exact wanted_free rfl | exact wanted_yes rfl rfl | exact wanted_no rfl rfl) (by first | with_reducible rfl | (simp; done) | decide) ?_; apply Exists.intro; refine ⟨fun w' k1 => ?_, fun K hK => ?_⟩; (focus (have hc := Kept.cell k1; go_simp; first | done | (go_at_call 17; exact kept_call (Below.refl _ _) (PIT2.out _ (UI.out.l.upS (Kept.below k1)))) | rfl)); (go_simp; refine hK _ ?_; clear hK K)) | (refine plan_off _ (by first | exact wanted_yes rfl rfl | exact wanted_no rfl rfl | rfl) (by first | with_reducible rfl | (simp; done) | rfl | decide) ?_; intro K hK; (try go_simp); refine hK _ ?_; clear hK K))
              refine plan_nil fun w40 k40 => ?_
              try simp only [List.drop_succ_cons, List.drop_zero]
              have UR := hideP (UI.out.keep (Kept.below k40))
              clear k40 UI
              go_wp2
              go_roundw
              case rel => exact ⟨i + 1, by omega, by omega, by go_num, UR.out⟩
              case measure => simp [intOf]; omega

      · obtain rfl : i = 96 := by omega
        obtain ⟨x0, x1, xf0, xf1, xl⟩ := UH.out.x
        go_wp2
        go_returns
        exact ⟨rfl, UH.out.kw⟩

  · have hz : (z != 0) = true := by simpa using hz0
    go_wp2
    refine wp_region_plan (R := Kept) (G := Kept) rel_keptA rel_keptA (fun h => h) 7 [(true, 0), (true, 1), (true, 2), (true, 5), (true, 6), (false, 3), (true, 4)] (by kernel_rfl) (by kernel_rfl) ?_
    simp only [selP, List.filterMap_cons, List.filterMap_nil, List.getElem?_cons_succ, List.getElem?_cons_zero, Option.map_some]
    repeat (first | (refine plan_take _ (by first | exact wanted_free rfl | exact wanted_yes rfl rfl | exact wanted_no rfl rfl) (by first | with_reducible rfl | (simp; done) | decide) ?_; apply Exists.intro; refine ⟨fun w' k1 => ?_, fun K hK => ?_⟩; (focus (have hc := Kept.cell k1; go_simp; first | done | rfl)); (go_simp; refine hK _ ?_; clear hK K)) | (refine plan_off _ (by first | exact wanted_yes rfl rfl | exact wanted_no rfl rfl | rfl) (by first | with_reducible rfl | (simp; done) | rfl | decide) ?_; intro K hK; (try go_simp); refine hK _ ?_; clear hK K))
    refine plan_made _ (by first | exact wanted_free rfl | exact wanted_yes rfl rfl | exact wanted_no rfl rfl) (by first | with_reducible rfl | (simp; done) | decide) fun u1 i1 => ?_
    have bb1 := Kept.below i1
    refine made_callsR (by go_simp; first | done | rfl) ((PSS.out u1 (W10.out.upS bb1) (A10.out.upS bb1) (R10.out.upS bb1)).mono ?_)
    rintro e v1 ⟨ao1, ca1, rfl, -, j1⟩
    refine ⟨_, rfl, j1, fun K hK => ?_⟩
    go_simp
    refine hK _ ?_
    clear hK K
    have jj1 := bb1.trans (j1.mono bb1.size)
    clear bb1 i1 j1 x0 x1 xf0 xf1 xl
    repeat (first | (refine plan_take _ (by first | exact wanted_free rfl | exact wanted_yes rfl rfl | exact wanted_no rfl rfl) (by first | with_reducible rfl | (simp; done) | decide) ?_; apply Exists.intro; refine ⟨fun w' k1 => ?_, fun K hK => ?_⟩; (focus (have hc := Kept.cell k1; go_simp; first | done | rfl)); (go_simp; refine hK _ ?_; clear hK K)) | (refine plan_off _ (by first | exact wanted_yes rfl rfl | exact wanted_no rfl rfl | rfl) (by first | with_reducible rfl | (simp; done) | rfl | decide) ?_; intro K hK; (try go_simp); refine hK _ ?_; clear hK K))
    refine plan_nil fun w20 k20 => ?_
    try simp only [List.drop_succ_cons, List.drop_zero]
    have jk := jj1.trans ((Kept.below k20).mono jj1.size)
    have UE := hideP (K10.out.trans (jk.mono K10.out.size))
    clear k20 jj1 jk
    go_wp2
    go_returns
    exact ⟨rfl, UE.out⟩


theorem screens_law (a : Option Addr) (len cap : Nat) (zs : List Int) (w : World) (h : IsRow .u8 w a len cap zs) :
    Calls Try.prog 3 #[.slice a len cap] w fun e w' => e = .returned (.bool true) ∧ Below w.heap.size w w' := by
  have hm : len ≤ maxLen := by
    rcases h with ⟨_, h, _⟩ | ⟨x, _, h1, h2, _⟩
    · rw [h]; exact Nat.zero_le _
    · omega
  by_cases hl : len ≤ 1048576
  · exact screens_small w a len cap _ h.bytes hm hl
  · exact screens_big w a len cap hm (by omega)
end Go.Proofs.Ytmmjannkfmiohaa
