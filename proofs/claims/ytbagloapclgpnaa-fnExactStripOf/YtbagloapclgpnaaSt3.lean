/- StripOf: the law's walk. -/
import Derived.Test.YtbagloapclgpnaaSt2
namespace Go.Proofs.Ytbagloapclgpnaa
open Go.RowKit
set_option linter.unusedVariables false

set_option maxHeartbeats 400000 in
theorem strip_big (ao : Option Addr) (n ca : Nat) (m f : Int) (w : World) (hn : n ≤ maxLen) (h : 1048576 < n) :
    Calls Try.prog 6 #[.int .i64 m, .int .i64 f, .slice ao n ca] w fun e w' => e = .returned (.bool true) ∧ Below w.heap.size w w' := by
  unfold maxLen at hn
  have h' : (1048576 : Int) < (n : Int) := by omega
  have h2 : (n : Int) ≤ 9223372036854775807 := by omega
  go_enter Try.func6, Try.ntmps6
  go_wp2
  go_returns
  exact ⟨rfl, Below.refl _ _⟩

set_option maxRecDepth 100000 in
set_option maxHeartbeats 4000000 in
theorem strip_small (ao : Option Addr) (ca : Nat) (L : List Int) (m f : Int) (w : World) (hL : Row .i64 w 0 w.heap.size ao L) (h : L.length ≤ 1048576) :
    Calls Try.prog 6 #[.int .i64 m, .int .i64 f, .slice ao L.length ca] w fun e w' => e = .returned (.bool true) ∧ Below w.heap.size w w' := by
  have HL := hideP hL
  have h' : (L.length : Int) ≤ 1048576 := by omega
  obtain ⟨C, hC⟩ : ∃ C, stripZ m f L = C := ⟨_, rfl⟩
  obtain ⟨P, hP⟩ : ∃ P, stripL m f L = P := ⟨_, rfl⟩
  have hpl : P.length ≤ 1048576 := by rw [← hP]; have := stripL_len m f L; omega
  have SP := fun lo hi ao ca w => sStripOf_any m f lo hi ao ca L w
  have IP := fun lo hi ao ca w => iStripOf_any m f lo hi ao ca L w
  rw [hC, hP] at SP IP
  have SP' := hideP SP
  have IP' := hideP IP
  clear hL SP IP hC hP
  go_enter Try.func6, Try.ntmps6
  go_wp2_with fail
  refine Calls.mono (toI_any 0 w.heap.size ao ca L w HL.out (Nat.le_refl _) h) ?_
  rintro e w2 ⟨rfl, k2, n2, W2⟩
  have K2 := hideP k2
  have R2 := hideP W2
  clear k2 W2
  go_wp2_with fail
  refine Calls.mono (SP'.out _ _ _ _ w2 R2.out.row (by omega) h) ?_
  rintro e w3 ⟨aw, cw, rfl, O3, k3⟩
  have K3 : Hid (Below w.heap.size w w3) := hideP (K2.out.trans (k3.mono (by omega)))
  have n3 := k3.size
  have W4 : Hid (PI (w3.alloc (.cells #[.int .i64 C, .slice aw P.length cw] 41)) w3.heap.size w2.heap.size w3.heap.size C aw cw P) := hideP (PI.new O3 k3.size)
  clear k3 O3 K2 R2
  go_wp2_with fail
  have K4 := hideP (K3.out.trans ((kal5 w3 (.cells #[.int .i64 C, .slice aw P.length cw] 41)).mono (by omega)))
  have n4 : w3.heap.size < (w3.alloc (.cells #[.int .i64 C, .slice aw P.length cw] 41)).heap.size := by simp
  generalize w3.alloc (.cells #[.int .i64 C, .slice aw P.length cw] 41) = w4 at *
  refine Calls.mono (toI_any 0 w.heap.size ao ca L _ (HL.out.keep K4.out (Nat.le_refl _)) (by omega) h) ?_
  rintro e w5 ⟨rfl, k5, n5, R5⟩
  have K5 : Hid (Below w.heap.size w w5) := hideP (K4.out.trans (k5.mono (by omega)))
  have W5 := hideP (W4.out.keep k5 n4 (by omega))
  have Y5 := hideP R5
  clear k5 R5 K3 K4 W4
  go_wp2_with fail
  refine Calls.mono (IP'.out _ _ _ _ w5 Y5.out.row (by omega) h) ?_
  rintro e w7 ⟨ag, cg, rfl, O7, k7⟩
  have K7 := hideP (K5.out.trans (k7.mono (by omega)))
  have W7 := hideP (W5.out.keep k7 (by omega) (by omega))
  have Y7 := hideP (Y5.out.keep k7 (by omega))
  have n7 := k7.size
  have G8 : Hid (PI (w7.alloc (.cells #[.int .i64 C, .slice ag P.length cg] 41)) w7.heap.size w5.heap.size w7.heap.size C ag cg P) := hideP (PI.new O7 k7.size)
  clear k7 O7 K5 W5 Y5
  obtain ⟨r0, r1, r2, r3, r4⟩ := W7.out.box
  go_wp2_with fail
  clear r0 r1 r2 r3 r4
  have ka := kal5 w7 (.cells #[.int .i64 C, .slice ag P.length cg] 41)
  have K8 := hideP (K7.out.trans (ka.mono (by omega)))
  have W8 := hideP (W7.out.keep ka (by omega) (by omega))
  have Y8 := hideP (Y7.out.keep ka (by omega))
  have n8 : w7.heap.size < (w7.alloc (.cells #[.int .i64 C, .slice ag P.length cg] 41)).heap.size := by simp
  clear ka K7 W7 Y7
  generalize w7.alloc (.cells #[.int .i64 C, .slice ag P.length cg] 41) = w8 at *
  refine Calls.mono (eqIS_same _ _ _ _ C ag aw cg cw P w8 G8.out.row.row W8.out.row.row (by omega) (by omega) hpl) ?_
  rintro e w9 ⟨rfl, k9⟩
  have K9 := hideP (K8.out.trans (k9.mono (by omega)))
  have W9 := hideP (W8.out.keep k9 (by omega) (by omega))
  have Y9 := hideP (Y8.out.keep k9 (by omega))
  have G9 := hideP (G8.out.keep k9 (by omega) (by omega))
  have n9 := k9.size
  clear k9 K8 W8 Y8 G8
  go_wp2_with fail
  refine Calls.mono (toI_any 0 w.heap.size ao ca L _ (HL.out.keep K9.out (Nat.le_refl _)) (by omega) h) ?_
  rintro e w10 ⟨rfl, k10, n10, R10⟩
  have K10 := hideP (K9.out.trans (k10.mono (by omega)))
  have W10 := hideP (W9.out.keep k10 (by omega) (by omega))
  have Y10 := hideP (Y9.out.keep k10 (by omega))
  have G10 := hideP (G9.out.keep k10 (by omega) (by omega))
  have Z10 := hideP R10
  clear k10 R10 K9 W9 Y9 G9
  go_wp2_with fail
  refine Calls.mono (eqI_same _ _ _ _ _ _ _ _ L w10 Y10.out.row Z10.out.row (by omega) (by omega) h) ?_
  rintro e w11 ⟨rfl, k11⟩
  have K11 := hideP (K10.out.trans (k11.mono (by omega)))
  have W11 := hideP (W10.out.keep k11 (by omega) (by omega))
  have Y11 := hideP (Y10.out.keep k11 (by omega))
  have G11 := hideP (G10.out.keep k11 (by omega) (by omega))
  have n11 := k11.size
  clear k11 K10 W10 Y10 G10 Z10
  go_wp2_with fail
  refine Calls.mono (markI_any _ _ _ _ 1 L w11 Y11.out (by omega) h (by omega) (by omega)) ?_
  rintro e w12 ⟨rfl, f12, -⟩
  have K12 := hideP (K11.out.trans (f12.below (B := w.heap.size) (by omega) (by omega)))
  have W12 := hideP (W11.out.far f12 (by omega) (by omega))
  have G12 := hideP (G11.out.far f12 (by omega) (by omega))
  have n12 := f12.size
  have hk0 : ¬ (1 + (L.length : Int) < 0) := by omega
  clear f12 K11 W11 G11 Y11
  obtain ⟨r0, r1, r2, r3, r4⟩ := W12.out.box
  obtain ⟨s0, s1, s2, s3, s4⟩ := G12.out.box
  go_wp2_with fail
  clear r0 r1 r2 r3 r4 s0 s1 s2 s3 s4
  refine Calls.mono (eqIS_same _ _ _ _ C ag aw cg cw P w12 G12.out.row.row W12.out.row.row (by omega) (by omega) hpl) ?_
  rintro e w13 ⟨rfl, k13⟩
  have K13 := hideP (K12.out.trans (k13.mono (by omega)))
  have W13 := hideP (W12.out.keep k13 (by omega) (by omega))
  have G13 := hideP (G12.out.keep k13 (by omega) (by omega))
  have n13 := k13.size
  clear k13 K12 W12 G12
  obtain ⟨s0, s1, s2, s3, s4⟩ := G13.out.box
  go_wp2_with fail
  clear s0 s1 s2 s3 s4
  refine Calls.mono (markIS_any _ _ C ag cg 1 P w13 G13.out.row (by omega) hpl (by omega) (by omega)) ?_
  rintro e w14 ⟨rfl, f14, M14⟩
  have K14 := hideP (K13.out.trans (f14.below (B := w.heap.size) (by omega) (by omega)))
  have W14 := hideP (W13.out.far f14 (by omega) (by omega))
  have B14 := hideP (G13.out.box.far f14 (by omega))
  have M14' := hideP M14
  have n14 := f14.size
  clear f14 M14 K13 W13 G13
  obtain ⟨s0, s1, s2, s3, s4⟩ := B14.out
  go_wp2_with fail
  clear s0 s1 s2 s3 s4
  refine Calls.mono (heldIS_any _ _ C ag cg P.length 1 w14 M14'.out.row (by omega) hpl (by omega) (by omega)) ?_
  rintro e w15 ⟨rfl, k15⟩
  have K15 := hideP (K14.out.trans (k15.mono (by omega)))
  have W15 := hideP (W14.out.keep k15 (by omega) (by omega))
  have B15 := hideP (B14.out.keep k15 (by omega))
  have M15 := hideP (M14'.out.keep k15 (by omega))
  have n15 := k15.size
  have hp0 : ¬ (1 + (P.length : Int) < 0) := by omega
  have hpe : (1 + (P.length : Int) != 1 + (P.length : Int)) = false := by simp
  clear k15 K14 W14 B14 M14'
  go_wp2_with fail
  refine Calls.mono (toI_any 0 w.heap.size ao ca L _ (HL.out.keep K15.out (Nat.le_refl _)) (by omega) h) ?_
  rintro e w16 ⟨rfl, k16, n16, R16⟩
  have R16' := hideP R16
  have K16 := hideP (K15.out.trans (k16.mono (by omega)))
  have W16 := hideP (W15.out.keep k16 (by omega) (by omega))
  have B16 := hideP (B15.out.keep k16 (by omega))
  have M16 := hideP (M15.out.keep k16 (by omega))
  clear k16 R16 K15 W15 B15 M15
  go_wp2_with fail
  refine Calls.mono (IP'.out _ _ _ _ w16 R16'.out.row (by omega) h) ?_
  rintro e w17 ⟨ay, cy, rfl, O17, k17⟩
  have K17 := hideP (K16.out.trans (k17.mono (by omega)))
  have W17 := hideP (W16.out.keep k17 (by omega) (by omega))
  have B17 := hideP (B16.out.keep k17 (by omega))
  have M17 := hideP (M16.out.keep k17 (by omega))
  have n17 := k17.size
  have H18 : Hid (PI (w17.alloc (.cells #[.int .i64 C, .slice ay P.length cy] 41)) w17.heap.size w16.heap.size w17.heap.size C ay cy P) := hideP (PI.new O17 k17.size)
  clear k17 O17 K16 W16 B16 M16 R16'
  obtain ⟨r0, r1, r2, r3, r4⟩ := W17.out.box
  go_wp2_with fail
  clear r0 r1 r2 r3 r4
  have ka := kal5 w17 (.cells #[.int .i64 C, .slice ay P.length cy] 41)
  have K18 := hideP (K17.out.trans (ka.mono (by omega)))
  have W18 := hideP (W17.out.keep ka (by omega) (by omega))
  have B18 := hideP (B17.out.keep ka (by omega))
  have M18 := hideP (M17.out.keep ka (by omega))
  have n18 : w17.heap.size < (w17.alloc (.cells #[.int .i64 C, .slice ay P.length cy] 41)).heap.size := by simp
  clear ka K17 W17 B17 M17
  generalize w17.alloc (.cells #[.int .i64 C, .slice ay P.length cy] 41) = w18 at *
  refine Calls.mono (eqIS_same _ _ _ _ C ay aw cy cw P w18 H18.out.row.row W18.out.row.row (by omega) (by omega) hpl) ?_
  rintro e w19 ⟨rfl, k19⟩
  have K19 := hideP (K18.out.trans (k19.mono (by omega)))
  have B19 := hideP (B18.out.keep k19 (by omega))
  have M19 := hideP (M18.out.keep k19 (by omega))
  have n19 := k19.size
  clear k19 K18 W18 B18 M18 H18
  obtain ⟨s0, s1, s2, s3, s4⟩ := B19.out
  go_wp2_with fail
  clear s0 s1 s2 s3 s4
  refine Calls.mono (heldIS_any _ _ C ag cg P.length 1 w19 M19.out.row (by omega) hpl (by omega) (by omega)) ?_
  rintro e w20 ⟨rfl, k20⟩
  have K20 := hideP (K19.out.trans (k20.mono (by omega)))
  clear k20 K19 B19 M19
  go_wp2
  go_returns
  exact ⟨rfl, K20.out⟩

theorem strip_law (ao : Option Addr) (ca : Nat) (L : List Int) (m f : Int) (w : World) (hm : L.length ≤ maxLen) (hL : Row .i64 w 0 w.heap.size ao L) (hw : ∀ n ∈ L, (Lit.int .i64 n).wf = true) :
    Calls Try.prog 6 #[.int .i64 m, .int .i64 f, .slice ao L.length ca] w fun e w' => e = .returned (.bool true) ∧ Below w.heap.size w w' := by
  by_cases h : L.length ≤ 1048576
  · exact strip_small ao ca L m f w hL h
  · exact strip_big ao L.length ca m f w hm (by omega)

theorem strip_lawP (m f : Int) (ao : Option Addr) (ca : Nat) (L : List Int) (w : World) (hm : L.length ≤ maxLen) (hL : Row .i64 w 0 w.heap.size ao L) (hw : ∀ n ∈ L, (Lit.int .i64 n).wf = true) :
    Calls Try.prog 6 #[.int .i64 m, .int .i64 f, .slice ao L.length ca] w fun e w' => e = .returned (.bool true) ∧ Below w.heap.size w w' := strip_law ao ca L m f w hm hL hw
end Go.Proofs.Ytbagloapclgpnaa
