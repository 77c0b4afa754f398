/- CutFrames: the law's walk. -/
import Derived.Test.YtbicpfnakhhnlaaMk2
namespace Go.Proofs.Ytbicpfnakhhnlaa
open Go.RowKit
set_option linter.unusedVariables false

def Small (bs : List Bd) (r : Bd) : Prop := bs.length ≤ 1000 ∧ totB bs ≤ 1000 ∧ r.L.length ≤ 1000 ∧ ∀ b ∈ bs, b.L.length ≤ 1000
theorem frA_len (L M : List Int) : (frA L M).length ≤ 325 := by
  by_cases h : rsF L = 0
  · have := rsF_len h
    by_cases h1 : 300 < M.length
    · rw [(frC_many h h1).2]; simp
    · rw [(frC_yes h h1).2]; simp; omega
  · rw [(frC_no M h).2]; simp
theorem small_of {A : List Int} {bs : List Bd} {r : Bd} (h : cut A = (bs.map Bd.L, r.L)) (hl : A.length ≤ 325) : Small bs r := by
  have h1 := cut_len A.length A (Nat.le_refl _)
  have h2 := cut_tot A.length A (Nat.le_refl _)
  rw [h] at h1 h2
  dsimp only at h1 h2
  simp only [List.length_map] at h1
  have ht : totB bs ≤ 325 := by unfold totB; omega
  exact ⟨by omega, by omega, by omega, fun b m => by have := totB_mem m; omega⟩

/-- What is told of bytes that were cut, by names. -/
def Ans2 (C N : Int) (P : List (List Int) × List Int) (w : World) (e : Ending) (w' : World) : Prop :=
  ∃ so sc bs r, e = .returned (.agg #[.int .i64 C, .slice so bs.length sc, .int .i64 N, .slice r.ao r.L.length r.cap]) ∧ Below w.heap.size w w' ∧ bs.map Bd.L = P.1 ∧ r.L = P.2 ∧ Small bs r ∧ Frm w' w.heap.size w'.heap.size so bs r
theorem ans2_of {w : World} {c : Int} {A : List Int} {e : Ending} {w' : World} (h : FrAns w c A e w') (hl : A.length ≤ 325) : Ans2 c (nW (cut A).1) (cut A) w e w' := by
  obtain ⟨so, sc, bs, r, he, hb, hc, hF⟩ := h
  exact ⟨so, sc, bs, r, by rw [hc]; exact he, hb, by rw [hc], by rw [hc], small_of hc hl, hF⟩

/-- An answer in its box. -/
structure FW (W : World) (b lo hi : Nat) (c n : Int) (so : Option Addr) (sc : Nat) (bs : List Bd) (r : Bd) : Prop where
  box : R4 W b (.int .i64 c) (.slice so bs.length sc) (.int .i64 n) (.slice r.ao r.L.length r.cap)
  fr : Frm W lo hi so bs r
theorem FW.keep {W W' : World} {b lo hi B : Nat} {c n : Int} {so : Option Addr} {sc : Nat} {bs : List Bd} {r : Bd} (h : FW W b lo hi c n so sc bs r) (k : Below B W W') (hb : b < B) (hh : hi ≤ B) : FW W' b lo hi c n so sc bs r := ⟨h.box.keep k hb, h.fr.keep k hh⟩
theorem FW.far {W W' : World} {b lo hi lo' hi' : Nat} {c n : Int} {so : Option Addr} {sc : Nat} {bs : List Bd} {r : Bd} (h : FW W b lo hi c n so sc bs r) (f : Far lo' hi' W W') (hb : b < lo' ∨ hi' ≤ b) (hd : hi ≤ lo' ∨ hi' ≤ lo) : FW W' b lo hi c n so sc bs r := ⟨h.box.far f hb, h.fr.far f hd⟩
theorem FW.new {w : World} {lo : Nat} {c n : Int} {so : Option Addr} {sc : Nat} {bs : List Bd} {r : Bd} {T : TypeId} (h : Frm w lo w.heap.size so bs r) : FW (w.alloc (.cells #[.int .i64 c, .slice so bs.length sc, .int .i64 n, .slice r.ao r.L.length r.cap] T)) w.heap.size lo w.heap.size c n so sc bs r :=
  ⟨⟨by simp, by simp, by simp, by simp, by simp, by simp, by simp, by simp, by simp⟩, h.keep (B := w.heap.size) (kalF w _) (Nat.le_refl _)⟩

set_option maxHeartbeats 400000 in
theorem cut_big (ao : Option Addr) (n ca : Nat) (bo : Option Addr) (m cb : Nat) (w : World) (hn : n ≤ maxLen) (hm : m ≤ maxLen) (h : 1048576 < n ∨ 1048576 < m) :
    Calls Try.prog 5 #[.slice ao n ca, .slice bo m cb] w fun e w' => e = .returned (.bool true) ∧ Below w.heap.size w w' := by
  unfold maxLen at hn hm
  have h2 : (n : Int) ≤ 9223372036854775807 := by omega
  have h3 : (m : Int) ≤ 9223372036854775807 := by omega
  by_cases h' : (1048576 : Int) < (n : Int)
  · clear h
    go_enter Try.func5, Try.ntmps5
    go_wp2
    go_returns
    exact ⟨rfl, Below.refl _ _⟩
  · have h4 : (1048576 : Int) < (m : Int) := by omega
    clear h
    go_enter Try.func5, Try.ntmps5
    go_wp2
    go_returns
    exact ⟨rfl, Below.refl _ _⟩

set_option maxRecDepth 100000 in
set_option maxHeartbeats 4000000 in
theorem cut_small (ao : Option Addr) (ca : Nat) (L : List Int) (bo : Option Addr) (cb : Nat) (M : List Int) (w : World) (hL : Row .u8 w 0 w.heap.size ao L) (hM : Row .u8 w 0 w.heap.size bo M) (hB : byts L) (hB2 : byts M) (hl : L.length ≤ 1048576) (hm : M.length ≤ 1048576) :
    Calls Try.prog 5 #[.slice ao L.length ca, .slice bo M.length cb] w fun e w' => e = .returned (.bool true) ∧ Below w.heap.size w w' := by
  have HL := hideP hL
  have HM := hideP hM
  have hl' : (L.length : Int) ≤ 1048576 := by omega
  have hm' : (M.length : Int) ≤ 1048576 := by omega
  have hfl := frA_len L M
  have SP := fun lo hi ao bo ca cb w a b c => (sCut_any lo hi ao bo ca cb L M w a b c hB hB2 hl hm).mono fun e w' h => ans2_of h hfl
  have IP := fun lo hi ao bo ca cb w a b c => (iCut_any lo hi ao bo ca cb L M w a b c hB hB2 hl hm).mono fun e w' h => ans2_of h hfl
  generalize cut (frA L M) = P at *
  generalize nW P.1 = N at *
  generalize frC L M = C at *
  have SP' := hideP SP
  have IP' := hideP IP
  clear hL hM SP IP hfl hB hB2
  go_enter Try.func5, Try.ntmps5
  go_wp2_with fail
  refine Calls.mono (toB_any 0 w.heap.size ao ca L w HL.out (Nat.le_refl _) hl) ?_
  rintro e w1 ⟨rfl, k1, n1, W1⟩
  have K1 := hideP k1
  have A1 := hideP W1
  clear k1 W1
  go_wp2_with fail
  refine Calls.mono (toB_any 0 w.heap.size bo cb M w1 (HM.out.keep K1.out (Nat.le_refl _)) (by omega) hm) ?_
  rintro e w2 ⟨rfl, k2, n2, W2⟩
  have K2 := hideP (K1.out.trans (k2.mono (by omega)))
  have A2 := hideP (A1.out.keep k2 (by omega))
  have D2 := hideP W2
  clear k2 W2 A1 K1
  go_wp2_with fail
  refine Calls.mono (SP'.out 0 w2.heap.size _ _ _ _ w2 (A2.out.row.wide (Nat.zero_le _) (by omega)) (D2.out.row.wide (Nat.zero_le _) (by omega)) (Nat.le_refl _)) ?_
  rintro e w3 ⟨so, sc, bs, r, rfl, k3, E1, E2, hsm, F3⟩
  have K3 := hideP (K2.out.trans (k3.mono (by omega)))
  have HW4 : Hid (FW (w3.alloc (.cells #[.int .i64 C, .slice so bs.length sc, .int .i64 N, .slice r.ao r.L.length r.cap] 30)) w3.heap.size w2.heap.size w3.heap.size C N so sc bs r) := hideP (FW.new F3)
  have n3 := k3.size
  have HE := hideP (And.intro E1 E2)
  have HS := hideP hsm
  clear k3 F3 K2 A2 D2 E1 E2 hsm
  go_wp2_with fail
  have ka := kalF w3 (.cells #[.int .i64 C, .slice so bs.length sc, .int .i64 N, .slice r.ao r.L.length r.cap] 30)
  have K4 := hideP (K3.out.trans (ka.mono (by omega)))
  have n4 : w3.heap.size < (w3.alloc (.cells #[.int .i64 C, .slice so bs.length sc, .int .i64 N, .slice r.ao r.L.length r.cap] 30)).heap.size := by simp
  clear ka K3
  generalize w3.alloc (.cells #[.int .i64 C, .slice so bs.length sc, .int .i64 N, .slice r.ao r.L.length r.cap] 30) = w4 at *
  refine Calls.mono (toB_any 0 w.heap.size ao ca L w4 (HL.out.keep K4.out (Nat.le_refl _)) (by omega) hl) ?_
  rintro e w5 ⟨rfl, k5, n5, W5⟩
  have K5 := hideP (K4.out.trans (k5.mono (by omega)))
  have HW5 := hideP (HW4.out.keep k5 n4 (by omega))
  have A5 := hideP W5
  clear k5 W5 K4 HW4
  go_wp2_with fail
  refine Calls.mono (toB_any 0 w.heap.size bo cb M w5 (HM.out.keep K5.out (Nat.le_refl _)) (by omega) hm) ?_
  rintro e w6 ⟨rfl, k6, n6, W6⟩
  have K6 := hideP (K5.out.trans (k6.mono (by omega)))
  have HW6 := hideP (HW5.out.keep k6 (by omega) (by omega))
  have A6 := hideP (A5.out.keep k6 (by omega))
  have D6 := hideP W6
  clear k6 W6 K5 HW5 A5
  go_wp2_with fail
  refine Calls.mono (IP'.out 0 w6.heap.size _ _ _ _ w6 (A6.out.row.wide (Nat.zero_le _) (by omega)) (D6.out.row.wide (Nat.zero_le _) (by omega)) (Nat.le_refl _)) ?_
  rintro e w7 ⟨so7, sc7, cs, q, rfl, k7, E1, E2, hsm, F7⟩
  have K7 := hideP (K6.out.trans (k7.mono (by omega)))
  have HW7 := hideP (HW6.out.keep k7 (by omega) (by omega))
  have A7 := hideP (A6.out.keep k7 (by omega))
  have D7 := hideP (D6.out.keep k7 (by omega))
  have HG8 : Hid (FW (w7.alloc (.cells #[.int .i64 C, .slice so7 cs.length sc7, .int .i64 N, .slice q.ao q.L.length q.cap] 30)) w7.heap.size w6.heap.size w7.heap.size C N so7 sc7 cs q) := hideP (FW.new F7)
  have n7 := k7.size
  have HEq : Hid (bs.map Bd.L = cs.map Bd.L ∧ r.L = q.L) := hideP ⟨by rw [E1]; exact HE.out.1, by rw [E2]; exact HE.out.2⟩
  obtain ⟨s1, s2, s3, s4⟩ := hsm
  have HS4 := hideP s4
  clear k7 F7 K6 HW6 A6 D6 E1 E2 s4
  obtain ⟨r0, r1, r2, r3, r4, r5, r6, r7, r8⟩ := HW7.out.box
  go_wp2_with fail
  clear r0 r1 r2 r3 r4 r5 r6 r7 r8
  have ka := kalF w7 (.cells #[.int .i64 C, .slice so7 cs.length sc7, .int .i64 N, .slice q.ao q.L.length q.cap] 30)
  have K8 := hideP (K7.out.trans (ka.mono (by omega)))
  have HW8 := hideP (HW7.out.keep ka (by omega) (by omega))
  have A8 := hideP (A7.out.keep ka (by omega))
  have D8 := hideP (D7.out.keep ka (by omega))
  have n8 : w7.heap.size < (w7.alloc (.cells #[.int .i64 C, .slice so7 cs.length sc7, .int .i64 N, .slice q.ao q.L.length q.cap] 30)).heap.size := by simp
  clear ka K7 HW7 A7 D7
  generalize w7.alloc (.cells #[.int .i64 C, .slice so7 cs.length sc7, .int .i64 N, .slice q.ao q.L.length q.cap] 30) = w8 at *
  refine Calls.mono (eqFR_same _ _ _ _ so7 so sc7 sc cs bs q r C N w8 HEq.out.1 HEq.out.2 HG8.out.fr.frr HW8.out.fr.frr (by omega) (by omega) s1 HS4.out s3) ?_
  rintro e w9 ⟨rfl, k9⟩
  have K9 := hideP (K8.out.trans (k9.mono (by omega)))
  have HW9 := hideP (HW8.out.keep k9 (by omega) (by omega))
  have HG9 := hideP (HG8.out.keep k9 (by omega) (by omega))
  have A9 := hideP (A8.out.keep k9 (by omega))
  have D9 := hideP (D8.out.keep k9 (by omega))
  have n9 := k9.size
  clear k9 K8 HW8 HG8 A8 D8
  go_wp2_with fail
  refine Calls.mono (toB_any 0 w.heap.size ao ca L w9 (HL.out.keep K9.out (Nat.le_refl _)) (by omega) hl) ?_
  rintro e w10 ⟨rfl, k10, n10, W10⟩
  have K10 := hideP (K9.out.trans (k10.mono (by omega)))
  have HW10 := hideP (HW9.out.keep k10 (by omega) (by omega))
  have HG10 := hideP (HG9.out.keep k10 (by omega) (by omega))
  have A10 := hideP (A9.out.keep k10 (by omega))
  have D10 := hideP (D9.out.keep k10 (by omega))
  have T10 := hideP W10
  clear k10 W10 K9 HW9 HG9 A9 D9
  go_wp2_with fail
  refine Calls.mono (eqB_same _ _ _ _ _ _ _ _ L w10 A10.out.row T10.out.row (by omega) (by omega) hl) ?_
  rintro e w11 ⟨rfl, k11⟩
  have K11 := hideP (K10.out.trans (k11.mono (by omega)))
  have HW11 := hideP (HW10.out.keep k11 (by omega) (by omega))
  have HG11 := hideP (HG10.out.keep k11 (by omega) (by omega))
  have A11 := hideP (A10.out.keep k11 (by omega))
  have D11 := hideP (D10.out.keep k11 (by omega))
  have n11 := k11.size
  clear k11 K10 HW10 HG10 A10 D10 T10
  go_wp2_with fail
  refine Calls.mono (toB_any 0 w.heap.size bo cb M w11 (HM.out.keep K11.out (Nat.le_refl _)) (by omega) hm) ?_
  rintro e w12 ⟨rfl, k12, n12, W12⟩
  have K12 := hideP (K11.out.trans (k12.mono (by omega)))
  have HW12 := hideP (HW11.out.keep k12 (by omega) (by omega))
  have HG12 := hideP (HG11.out.keep k12 (by omega) (by omega))
  have A12 := hideP (A11.out.keep k12 (by omega))
  have D12 := hideP (D11.out.keep k12 (by omega))
  have T12 := hideP W12
  clear k12 W12 K11 HW11 HG11 A11 D11
  go_wp2_with fail
  refine Calls.mono (eqB_same _ _ _ _ _ _ _ _ M w12 D12.out.row T12.out.row (by omega) (by omega) hm) ?_
  rintro e w13 ⟨rfl, k13⟩
  have K13 := hideP (K12.out.trans (k13.mono (by omega)))
  have HW13 := hideP (HW12.out.keep k13 (by omega) (by omega))
  have HG13 := hideP (HG12.out.keep k13 (by omega) (by omega))
  have A13 := hideP (A12.out.keep k13 (by omega))
  have D13 := hideP (D12.out.keep k13 (by omega))
  have n13 := k13.size
  clear k13 K12 HW12 HG12 A12 D12 T12
  go_wp2_with fail
  refine Calls.mono (markB_any _ _ _ _ 1 L w13 A13.out (by omega) hl (by omega) (by omega)) ?_
  rintro e w14 ⟨rfl, f14, -⟩
  have K14 := hideP (K13.out.trans (f14.below (B := w.heap.size) (by omega) (by omega)))
  have HW14 := hideP (HW13.out.far f14 (by omega) (by omega))
  have HG14 := hideP (HG13.out.far f14 (by omega) (by omega))
  have D14 := hideP (D13.out.far f14 (by omega) (by omega))
  have n14 := f14.size
  clear f14 K13 HW13 HG13 A13 D13
  go_wp2_with fail
  refine Calls.mono (markB_any _ _ _ _ _ M w14 D14.out (by omega) hm (by omega) (by omega)) ?_
  rintro e w15 ⟨rfl, f15, -⟩
  have K15 := hideP (K14.out.trans (f15.below (B := w.heap.size) (by omega) (by omega)))
  have HW15 := hideP (HW14.out.far f15 (by omega) (by omega))
  have HG15 := hideP (HG14.out.far f15 (by omega) (by omega))
  have n15 := f15.size
  have hk0 : ¬ (1 + (L.length : Int) + (M.length : Int) < 0) := by omega
  clear f15 K14 HW14 HG14 D14
  obtain ⟨r0, r1, r2, r3, r4, r5, r6, r7, r8⟩ := HW15.out.box
  obtain ⟨g0, g1, g2, g3, g4, g5, g6, g7, g8⟩ := HG15.out.box
  go_wp2_with fail
  clear r0 r1 r2 r3 r4 r5 r6 r7 r8 g0 g1 g2 g3 g4 g5 g6 g7 g8
  refine Calls.mono (eqFR_same _ _ _ _ so7 so sc7 sc cs bs q r C N w15 HEq.out.1 HEq.out.2 HG15.out.fr.frr HW15.out.fr.frr (by omega) (by omega) s1 HS4.out s3) ?_
  rintro e w16 ⟨rfl, k16⟩
  have K16 := hideP (K15.out.trans (k16.mono (by omega)))
  have HW16 := hideP (HW15.out.keep k16 (by omega) (by omega))
  have HG16 := hideP (HG15.out.keep k16 (by omega) (by omega))
  have n16 := k16.size
  clear k16 K15 HW15 HG15
  obtain ⟨g0, g1, g2, g3, g4, g5, g6, g7, g8⟩ := HG16.out.box
  go_wp2_with fail
  clear g0 g1 g2 g3 g4 g5 g6 g7 g8
  refine Calls.mono (markFR_any _ _ so7 sc7 cs q C N 1 w16 HG16.out.fr s1 s2 s3 (by omega) (by omega)) ?_
  rintro e w17 ⟨rfl, f17, M17, S17⟩
  have K17 := hideP (K16.out.trans (f17.below (B := w.heap.size) (by omega) (by omega)))
  have HW17 := hideP (HW16.out.far f17 (by omega) (by omega))
  have B17 := hideP (HG16.out.box.far f17 (by omega))
  have MK17 : Hid (Mkd w17 w6.heap.size w7.heap.size so7 cs q 1) := hideP ⟨M17, S17⟩
  have n17 := f17.size
  clear f17 M17 S17 K16 HW16 HG16
  obtain ⟨g0, g1, g2, g3, g4, g5, g6, g7, g8⟩ := B17.out
  go_wp2_with fail
  clear g0 g1 g2 g3 g4 g5 g6 g7 g8
  refine Calls.mono (heldFR_any _ _ so7 sc7 cs q C N 1 w17 MK17.out (by omega) s1 s2 s3 (by omega) (by omega)) ?_
  rintro e w18 ⟨rfl, k18⟩
  have K18 := hideP (K17.out.trans (k18.mono (by omega)))
  have HW18 := hideP (HW17.out.keep k18 (by omega) (by omega))
  have B18 := hideP (B17.out.keep k18 (by omega))
  have MK18 := hideP (MK17.out.keep k18 (by omega))
  have n18 := k18.size
  have hp0 : ¬ (1 + (totB cs : Int) + (q.L.length : Int) < 0) := by omega
  have hpe : (1 + (totB cs : Int) + (q.L.length : Int) != 1 + (totB cs : Int) + (q.L.length : Int)) = false := by simp
  clear k18 K17 HW17 B17 MK17
  go_wp2_with fail
  refine Calls.mono (toB_any 0 w.heap.size ao ca L w18 (HL.out.keep K18.out (Nat.le_refl _)) (by omega) hl) ?_
  rintro e w19 ⟨rfl, k19, n19, W19⟩
  have K19 := hideP (K18.out.trans (k19.mono (by omega)))
  have HW19 := hideP (HW18.out.keep k19 (by omega) (by omega))
  have B19 := hideP (B18.out.keep k19 (by omega))
  have MK19 := hideP (MK18.out.keep k19 (by omega))
  have A19 := hideP W19
  clear k19 W19 K18 HW18 B18 MK18
  go_wp2_with fail
  refine Calls.mono (toB_any 0 w.heap.size bo cb M w19 (HM.out.keep K19.out (Nat.le_refl _)) (by omega) hm) ?_
  rintro e w20 ⟨rfl, k20, n20, W20⟩
  have K20 := hideP (K19.out.trans (k20.mono (by omega)))
  have HW20 := hideP (HW19.out.keep k20 (by omega) (by omega))
  have B20 := hideP (B19.out.keep k20 (by omega))
  have MK20 := hideP (MK19.out.keep k20 (by omega))
  have A20 := hideP (A19.out.keep k20 (by omega))
  have D20 := hideP W20
  clear k20 W20 K19 HW19 B19 MK19 A19
  go_wp2_with fail
  refine Calls.mono (IP'.out 0 w20.heap.size _ _ _ _ w20 (A20.out.row.wide (Nat.zero_le _) (by omega)) (D20.out.row.wide (Nat.zero_le _) (by omega)) (Nat.le_refl _)) ?_
  rintro e w21 ⟨so8, sc8, ds, p, rfl, k21, E3, E4, hsm2, F21⟩
  have K21 := hideP (K20.out.trans (k21.mono (by omega)))
  have HW21 := hideP (HW20.out.keep k21 (by omega) (by omega))
  have B21 := hideP (B20.out.keep k21 (by omega))
  have MK21 := hideP (MK20.out.keep k21 (by omega))
  have HH : Hid (FW (w21.alloc (.cells #[.int .i64 C, .slice so8 ds.length sc8, .int .i64 N, .slice p.ao p.L.length p.cap] 30)) w21.heap.size w20.heap.size w21.heap.size C N so8 sc8 ds p) := hideP (FW.new F21)
  have n21 := k21.size
  have HEq2 : Hid (bs.map Bd.L = ds.map Bd.L ∧ r.L = p.L) := hideP ⟨by rw [E3]; exact HE.out.1, by rw [E4]; exact HE.out.2⟩
  obtain ⟨t1, t2, t3, t4⟩ := hsm2
  have HT4 := hideP t4
  clear k21 F21 K20 HW20 B20 MK20 A20 D20 E3 E4 t4
  obtain ⟨r0, r1, r2, r3, r4, r5, r6, r7, r8⟩ := HW21.out.box
  go_wp2_with fail
  clear r0 r1 r2 r3 r4 r5 r6 r7 r8
  have ka := kalF w21 (.cells #[.int .i64 C, .slice so8 ds.length sc8, .int .i64 N, .slice p.ao p.L.length p.cap] 30)
  have K22 := hideP (K21.out.trans (ka.mono (by omega)))
  have HW22 := hideP (HW21.out.keep ka (by omega) (by omega))
  have B22 := hideP (B21.out.keep ka (by omega))
  have MK22 := hideP (MK21.out.keep ka (by omega))
  have n22 : w21.heap.size < (w21.alloc (.cells #[.int .i64 C, .slice so8 ds.length sc8, .int .i64 N, .slice p.ao p.L.length p.cap] 30)).heap.size := by simp
  clear ka K21 HW21 B21 MK21
  generalize w21.alloc (.cells #[.int .i64 C, .slice so8 ds.length sc8, .int .i64 N, .slice p.ao p.L.length p.cap] 30) = w22 at *
  refine Calls.mono (eqFR_same _ _ _ _ so8 so sc8 sc ds bs p r C N w22 HEq2.out.1 HEq2.out.2 HH.out.fr.frr HW22.out.fr.frr (by omega) (by omega) t1 HT4.out t3) ?_
  rintro e w23 ⟨rfl, k23⟩
  have K23 := hideP (K22.out.trans (k23.mono (by omega)))
  have B23 := hideP (B22.out.keep k23 (by omega))
  have MK23 := hideP (MK22.out.keep k23 (by omega))
  have n23 := k23.size
  clear k23 K22 HW22 B22 MK22 HH
  obtain ⟨g0, g1, g2, g3, g4, g5, g6, g7, g8⟩ := B23.out
  go_wp2_with fail
  clear g0 g1 g2 g3 g4 g5 g6 g7 g8
  refine Calls.mono (heldFR_any _ _ so7 sc7 cs q C N 1 w23 MK23.out (by omega) s1 s2 s3 (by omega) (by omega)) ?_
  rintro e w24 ⟨rfl, k24⟩
  have K24 := hideP (K23.out.trans (k24.mono (by omega)))
  clear k24 K23 B23 MK23
  go_wp2
  go_returns
  exact ⟨rfl, K24.out⟩

theorem cut_law (ao : Option Addr) (ca : Nat) (L : List Int) (bo : Option Addr) (cb : Nat) (M : List Int) (w : World) (hmL : L.length ≤ maxLen) (hL : Row .u8 w 0 w.heap.size ao L) (hwL : ∀ n ∈ L, (Lit.int .u8 n).wf = true) (hmM : M.length ≤ maxLen) (hM : Row .u8 w 0 w.heap.size bo M) (hwM : ∀ n ∈ M, (Lit.int .u8 n).wf = true) :
    Calls Try.prog 5 #[.slice ao L.length ca, .slice bo M.length cb] w fun e w' => e = .returned (.bool true) ∧ Below w.heap.size w w' := by
  by_cases h : 1048576 < L.length ∨ 1048576 < M.length
  · exact cut_big ao L.length ca bo M.length cb w hmL hmM h
  · exact cut_small ao ca L bo cb M w hL hM (byts_of hwL) (byts_of hwM) (by omega) (by omega)

end Go.Proofs.Ytbicpfnakhhnlaa
