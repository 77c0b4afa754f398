/- JoinFrames: the law's walk. -/
import Derived.Test.YtbceacnadkhdoacJo2
import Derived.Test.YtbceacnadkhdoacJo5
namespace Go.Proofs.Ytbceacnadkhdoac
open Go.RowKit
set_option linter.unusedVariables false

theorem kalJ (w : World) (o : Obj) : Below w.heap.size w (w.alloc o) := (Below.refl _ _).alloc (Nat.le_refl _) o

set_option maxHeartbeats 400000 in
theorem join_big (lo hi : Nat) (so : Option Addr) (sc : Nat) (L : List Rq) (w : World) (hL : Rqs w lo hi so L) (hs : hi ≤ w.heap.size) (hn : L.length ≤ maxLen) (hm : ∀ r ∈ L, r.A.length ≤ maxLen ∧ r.D.length ≤ maxLen) (h : 1048576 < L.length + szs L) :
    Calls Try.prog 3 #[.slice so L.length sc] w fun e w' => e = .returned (.bool true) ∧ Below w.heap.size w w' := by
  have SZ := szRS_any lo hi so sc L w hL hs hn hm
  rw [szV_no (by omega)] at SZ
  have SZ' := hideP SZ
  clear SZ hL hm
  go_enter Try.func3, Try.ntmps3
  go_wp2_with fail
  refine Calls.mono SZ'.out ?_
  rintro e w1 ⟨rfl, k1⟩
  have K1 := hideP k1
  clear k1
  go_wp2
  go_returns
  exact ⟨rfl, K1.out⟩

set_option maxRecDepth 100000 in
set_option maxHeartbeats 4000000 in
theorem join_small (lo hi : Nat) (so : Option Addr) (sc : Nat) (L : List Rq) (w : World) (hL : Rqs w lo hi so L) (hs : hi ≤ w.heap.size) (hn : L.length ≤ maxLen) (hm : ∀ r ∈ L, r.A.length ≤ maxLen ∧ r.D.length ≤ maxLen) (h : L.length + szs L ≤ 1048576) :
    Calls Try.prog 3 #[.slice so L.length sc] w fun e w' => e = .returned (.bool true) ∧ Below w.heap.size w w' := by
  have SZ := szRS_any lo hi so sc L w hL hs hn hm
  rw [szV_yes (by omega)] at SZ
  obtain ⟨z, hz⟩ : ∃ z : Int, (1048576 : Int) - ((L.length + szs L : Nat) : Int) = z := ⟨_, rfl⟩
  have hz0 : ¬ z < 0 := by omega
  rw [hz] at SZ
  have SZ' := hideP SZ
  have HL := hideP hL
  have hpl := jB_len (L.map Rq.ct)
  obtain ⟨C, hC⟩ : ∃ C, jC (L.map Rq.ct) = C := ⟨_, rfl⟩
  obtain ⟨P, hP⟩ : ∃ P, jB (L.map Rq.ct) = P := ⟨_, rfl⟩
  rw [hP] at hpl
  have TO : Hid (∀ W, Below w.heap.size w W → Calls Try.prog 6 #[.slice so L.length sc] W fun e w' => ∃ (g : Nat) (M : List Rq), e = .returned (.slice (some ⟨g, 0, none⟩) L.length L.length) ∧ M.length = L.length ∧ szs M = szs L ∧ M.map Rq.ct = L.map Rq.ct ∧ W.heap.size ≤ g ∧ g < w'.heap.size ∧ OwnQ w' g w'.heap.size M ∧ Below W.heap.size W w') := hideP (fun W kW =>
    (toRS_any lo hi so sc L W (HL.out.keep kW hs) (Nat.le_trans hs kW.size) h).mono fun e w' ⟨g, M, he, hc, hg, ho, hb⟩ => by
      have hl : M.length = L.length := by have := congrArg List.length hc; simpa using this
      exact ⟨g, M, by rw [he, hl], hl, szs_ct hc, hc, hg, by have := ho.sp.le; omega, ho, hb⟩)
  have SJ : Hid (∀ (g hi' : Nat) (M : List Rq) W, M.length = L.length → M.map Rq.ct = L.map Rq.ct → OwnQ W g hi' M → hi' ≤ W.heap.size → Calls Try.prog 5 #[.slice (some ⟨g, 0, none⟩) L.length L.length] W fun e w' => ∃ ao' cap', e = .returned (.agg #[.int .i64 C, .slice ao' P.length cap']) ∧ OwnR .u8 5 w' W.heap.size ao' cap' P ∧ Below W.heap.size W w') := hideP (fun g hi' M W hl hc ho hh => by
    have h := sJoin_any _ _ _ L.length M W ho.rqs hh (by omega)
    rw [hc, hC, hP, hl] at h
    exact h)
  have IJ : Hid (∀ (g hi' : Nat) (M : List Rq) W, M.length = L.length → M.map Rq.ct = L.map Rq.ct → OwnQ W g hi' M → hi' ≤ W.heap.size → Calls Try.prog 7 #[.slice (some ⟨g, 0, none⟩) L.length L.length] W fun e w' => ∃ ao' cap', e = .returned (.agg #[.int .i64 C, .slice ao' P.length cap']) ∧ OwnR .u8 5 w' W.heap.size ao' cap' P ∧ Below W.heap.size W w') := hideP (fun g hi' M W hl hc ho hh => by
    have h := iJoin_any _ _ _ L.length M W ho.rqs hh (by omega)
    rw [hc, hC, hP, hl] at h
    exact h)
  clear SZ hL hC hP hm hz
  go_enter Try.func3, Try.ntmps3
  go_wp2_with fail
  refine Calls.mono SZ'.out ?_
  rintro e w1 ⟨rfl, k1⟩
  have K1 := hideP k1
  have n1 := k1.size
  clear k1 SZ'
  go_wp2_with fail
  refine Calls.mono (TO.out w1 K1.out) ?_
  rintro e w2 ⟨g2, M2, rfl, l2, z2, c2, le2, lt2, o2, k2⟩
  have O2 := hideP o2
  have C2 := hideP c2
  have K2 := hideP (K1.out.trans (k2.mono n1))
  have n2 := k2.size
  clear k2 o2 c2 K1
  go_wp2_with fail
  refine Calls.mono (SJ.out g2 w2.heap.size M2 w2 l2 C2.out O2.out (Nat.le_refl _)) ?_
  rintro e w3 ⟨aw, cw, rfl, O3, k3⟩
  have K3 := hideP (K2.out.trans (k3.mono (by omega)))
  have n3 := k3.size
  have W4 : Hid (PW (w3.alloc (.cells #[.int .i64 C, .slice aw P.length cw] 26)) w3.heap.size w2.heap.size w3.heap.size C aw cw P) := hideP (PW.new O3 k3.size)
  clear k3 O3 K2 O2 C2
  go_wp2_with fail
  have K4 := hideP (K3.out.trans ((kalJ w3 (.cells #[.int .i64 C, .slice aw P.length cw] 26)).mono (by omega)))
  have n4 : w3.heap.size < (w3.alloc (.cells #[.int .i64 C, .slice aw P.length cw] 26)).heap.size := by simp
  clear K3
  generalize w3.alloc (.cells #[.int .i64 C, .slice aw P.length cw] 26) = w4 at *
  refine Calls.mono (TO.out w4 K4.out) ?_
  rintro e w5 ⟨g, M, rfl, l5, z5, c5, le5, lt5, o5, k5⟩
  have O5 := hideP o5
  have C5 := hideP c5
  have K5 := hideP (K4.out.trans (k5.mono (by omega)))
  have W5 := hideP (W4.out.keep k5 n4 (by omega))
  have n5 := k5.size
  clear k5 o5 c5 K4 W4
  go_wp2_with fail
  refine Calls.mono (IJ.out g w5.heap.size M w5 l5 C5.out O5.out (Nat.le_refl _)) ?_
  rintro e w7 ⟨ag, cg, rfl, O7, k7⟩
  have K7 := hideP (K5.out.trans (k7.mono (by omega)))
  have W7 := hideP (W5.out.keep k7 (by omega) (by omega))
  have Y7 := hideP (O5.out.keep k7 (Nat.le_refl _))
  have n7 := k7.size
  have G8 : Hid (PW (w7.alloc (.cells #[.int .i64 C, .slice ag P.length cg] 26)) w7.heap.size w5.heap.size w7.heap.size C ag cg P) := hideP (PW.new O7 k7.size)
  clear k7 O7 K5 W5 O5
  obtain ⟨r0, r1, r2, r3, r4⟩ := W7.out.box
  go_wp2_with fail
  clear r0 r1 r2 r3 r4
  have ka := kalJ w7 (.cells #[.int .i64 C, .slice ag P.length cg] 26)
  have K8 := hideP (K7.out.trans (ka.mono (by omega)))
  have W8 := hideP (W7.out.keep ka (by omega) (by omega))
  have Y8 := hideP (Y7.out.keep ka (by omega))
  have n8 : w7.heap.size < (w7.alloc (.cells #[.int .i64 C, .slice ag P.length cg] 26)).heap.size := by simp
  clear ka K7 W7 Y7
  generalize w7.alloc (.cells #[.int .i64 C, .slice ag P.length cg] 26) = w8 at *
  refine Calls.mono (eqBR_same _ _ _ _ C ag aw cg cw P w8 G8.out.row.row W8.out.row.row (by omega) (by omega) (by omega)) ?_
  rintro e w9 ⟨rfl, k9⟩
  have K9 := hideP (K8.out.trans (k9.mono (by omega)))
  have W9 := hideP (W8.out.keep k9 (by omega) (by omega))
  have Y9 := hideP (Y8.out.keep k9 (by omega))
  have G9 := hideP (G8.out.keep k9 (by omega) (by omega))
  have n9 := k9.size
  clear k9 K8 W8 Y8 G8
  go_wp2_with fail
  refine Calls.mono (TO.out w9 K9.out) ?_
  rintro e w10 ⟨g10, M10, rfl, l10, z10, c10, le10, lt10, o10, k10⟩
  have O10 := hideP o10
  have C10 := hideP (c10.trans C5.out.symm)
  have K10 := hideP (K9.out.trans (k10.mono (by omega)))
  have W10 := hideP (W9.out.keep k10 (by omega) (by omega))
  have Y10 := hideP (Y9.out.keep k10 (by omega))
  have G10 := hideP (G9.out.keep k10 (by omega) (by omega))
  have n10 := k10.size
  clear k10 o10 c10 K9 W9 Y9 G9
  have EQ : Hid (Calls Try.prog 9 #[.slice (some ⟨g, 0, none⟩) L.length L.length, .slice (some ⟨g10, 0, none⟩) L.length L.length] w10 fun e w' => e = .returned (.bool true) ∧ Below w10.heap.size w10 w') := hideP (by
    have h := eqRS_same _ _ _ _ _ _ L.length L.length M M10 w10 C10.out Y10.out.rqs O10.out.rqs (by omega) (Nat.le_refl _) (by omega)
    rw [l5, l10] at h
    exact h)
  go_wp2_with fail
  refine Calls.mono EQ.out ?_
  rintro e w11 ⟨rfl, k11⟩
  have K11 := hideP (K10.out.trans (k11.mono (by omega)))
  have W11 := hideP (W10.out.keep k11 (by omega) (by omega))
  have Y11 := hideP (Y10.out.keep k11 (by omega))
  have G11 := hideP (G10.out.keep k11 (by omega) (by omega))
  have n11 := k11.size
  clear k11 K10 W10 Y10 G10 EQ O10 C10
  have MK : Hid (Calls Try.prog 10 #[.slice (some ⟨g, 0, none⟩) L.length L.length, .int .i64 1] w11 fun e w' => e = .returned (.int .i64 (1 + (L.length : Int) + (szs L : Int))) ∧ Far g w5.heap.size w11 w') := hideP (by
    have h := markRS_any g _ L.length M w11 Y11.out (by omega)
    rw [l5, z5] at h
    exact h)
  go_wp2_with fail
  refine Calls.mono MK.out ?_
  rintro e w12 ⟨rfl, f12⟩
  have K12 := hideP (K11.out.trans (f12.below (B := w.heap.size) (by omega) (by omega)))
  have W12 := hideP (W11.out.far f12 (by omega) (by omega))
  have G12 := hideP (G11.out.far f12 (by omega) (by omega))
  have n12 := f12.size
  have hk0 : ¬ (1 + (L.length : Int) + (szs L : Int) < 0) := by omega
  clear f12 K11 W11 G11 Y11 MK
  obtain ⟨r0, r1, r2, r3, r4⟩ := W12.out.box
  obtain ⟨s0, s1, s2, s3, s4⟩ := G12.out.box
  go_wp2_with fail
  clear r0 r1 r2 r3 r4 s0 s1 s2 s3 s4
  refine Calls.mono (eqBR_same _ _ _ _ C ag aw cg cw P w12 G12.out.row.row W12.out.row.row (by omega) (by omega) (by omega)) ?_
  rintro e w13 ⟨rfl, k13⟩
  have K13 := hideP (K12.out.trans (k13.mono (by omega)))
  have W13 := hideP (W12.out.keep k13 (by omega) (by omega))
  have G13 := hideP (G12.out.keep k13 (by omega) (by omega))
  have n13 := k13.size
  clear k13 K12 W12 G12
  obtain ⟨s0, s1, s2, s3, s4⟩ := G13.out.box
  go_wp2_with fail
  clear s0 s1 s2 s3 s4
  refine Calls.mono (markBR_any _ _ C ag cg 1 P w13 G13.out.row (by omega) (by omega) (by omega) (by omega)) ?_
  rintro e w14 ⟨rfl, f14, M14⟩
  have K14 := hideP (K13.out.trans (f14.below (B := w.heap.size) (by omega) (by omega)))
  have W14 := hideP (W13.out.far f14 (by omega) (by omega))
  have B14 := hideP (G13.out.box.far f14 (by omega))
  have M14' := hideP M14
  have n14 := f14.size
  clear f14 M14 K13 W13 G13
  obtain ⟨s0, s1, s2, s3, s4⟩ := B14.out
  go_wp2_with fail
  clear s0 s1 s2 s3 s4
  refine Calls.mono (heldBR_any _ _ C ag cg P.length 1 w14 M14'.out.row (by omega) (by omega) (by omega) (by omega)) ?_
  rintro e w15 ⟨rfl, k15⟩
  have K15 := hideP (K14.out.trans (k15.mono (by omega)))
  have W15 := hideP (W14.out.keep k15 (by omega) (by omega))
  have B15 := hideP (B14.out.keep k15 (by omega))
  have M15 := hideP (M14'.out.keep k15 (by omega))
  have n15 := k15.size
  have hp0 : ¬ (1 + (P.length : Int) < 0) := by omega
  have hpe : (1 + (P.length : Int) != 1 + (P.length : Int)) = false := by simp
  clear k15 K14 W14 B14 M14'
  go_wp2_with fail
  refine Calls.mono (TO.out w15 K15.out) ?_
  rintro e w16 ⟨g16, M16, rfl, l16, z16, c16, le16, lt16, o16, k16⟩
  have O16 := hideP o16
  have C16 := hideP c16
  have K16 := hideP (K15.out.trans (k16.mono (by omega)))
  have W16 := hideP (W15.out.keep k16 (by omega) (by omega))
  have B16 := hideP (B15.out.keep k16 (by omega))
  have M16' := hideP (M15.out.keep k16 (by omega))
  have n16 := k16.size
  clear k16 o16 c16 K15 W15 B15 M15
  go_wp2_with fail
  refine Calls.mono (IJ.out g16 w16.heap.size M16 w16 l16 C16.out O16.out (Nat.le_refl _)) ?_
  rintro e w17 ⟨ay, cy, rfl, O17, k17⟩
  have K17 := hideP (K16.out.trans (k17.mono (by omega)))
  have W17 := hideP (W16.out.keep k17 (by omega) (by omega))
  have B17 := hideP (B16.out.keep k17 (by omega))
  have M17 := hideP (M16'.out.keep k17 (by omega))
  have n17 := k17.size
  have H18 : Hid (PW (w17.alloc (.cells #[.int .i64 C, .slice ay P.length cy] 26)) w17.heap.size w16.heap.size w17.heap.size C ay cy P) := hideP (PW.new O17 k17.size)
  clear k17 O17 K16 W16 B16 M16' O16 C16
  obtain ⟨r0, r1, r2, r3, r4⟩ := W17.out.box
  go_wp2_with fail
  clear r0 r1 r2 r3 r4
  have ka := kalJ w17 (.cells #[.int .i64 C, .slice ay P.length cy] 26)
  have K18 := hideP (K17.out.trans (ka.mono (by omega)))
  have W18 := hideP (W17.out.keep ka (by omega) (by omega))
  have B18 := hideP (B17.out.keep ka (by omega))
  have M18 := hideP (M17.out.keep ka (by omega))
  have n18 : w17.heap.size < (w17.alloc (.cells #[.int .i64 C, .slice ay P.length cy] 26)).heap.size := by simp
  clear ka K17 W17 B17 M17
  generalize w17.alloc (.cells #[.int .i64 C, .slice ay P.length cy] 26) = w18 at *
  refine Calls.mono (eqBR_same _ _ _ _ C ay aw cy cw P w18 H18.out.row.row W18.out.row.row (by omega) (by omega) (by omega)) ?_
  rintro e w19 ⟨rfl, k19⟩
  have K19 := hideP (K18.out.trans (k19.mono (by omega)))
  have B19 := hideP (B18.out.keep k19 (by omega))
  have M19 := hideP (M18.out.keep k19 (by omega))
  have n19 := k19.size
  clear k19 K18 W18 B18 M18 H18
  obtain ⟨s0, s1, s2, s3, s4⟩ := B19.out
  go_wp2_with fail
  clear s0 s1 s2 s3 s4
  refine Calls.mono (heldBR_any _ _ C ag cg P.length 1 w19 M19.out.row (by omega) (by omega) (by omega) (by omega)) ?_
  rintro e w20 ⟨rfl, k20⟩
  have K20 := hideP (K19.out.trans (k20.mono (by omega)))
  clear k20 K19 B19 M19
  go_wp2
  go_returns
  exact ⟨rfl, K20.out⟩

theorem join_law (so : Option Addr) (sc : Nat) (L : List Rq) (w : World) (hn : L.length ≤ maxLen) (hL : Rqs w 0 w.heap.size so L) (hm : ∀ r ∈ L, r.A.length ≤ maxLen ∧ r.D.length ≤ maxLen) :
    Calls Try.prog 3 #[.slice so L.length sc] w fun e w' => e = .returned (.bool true) ∧ Below w.heap.size w w' := by
  by_cases h : L.length + szs L ≤ 1048576
  · exact join_small 0 w.heap.size so sc L w hL (Nat.le_refl _) hn hm h
  · exact join_big 0 w.heap.size so sc L w hL (Nat.le_refl _) hn hm (by omega)
end Go.Proofs.Ytbceacnadkhdoac
