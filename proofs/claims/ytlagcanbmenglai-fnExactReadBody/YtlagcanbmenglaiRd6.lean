/- ReadBody: the law's walk. -/
import Derived.Test.YtlagcanbmenglaiRd5
namespace Go.Proofs.Ytlagcanbmenglai
open Go.RowKit
set_option linter.unusedVariables false

theorem rd_lens (L : List Int) : (rdA L).length ≤ 7 ∧ (rdD L).length ≤ 24 := by
  cases L with
  | nil => exact ⟨by simp [rdA], by simp [rdD]⟩
  | cons k r =>
    by_cases h : aC k = 0 ∧ aN k ≤ r.length ∧ r.length - aN k ≤ mD k
    · obtain ⟨_, _, h3, h4⟩ := rd_yes h
      have := aN_le k
      have := mD_le k
      rw [h3, h4]
      simp
      omega
    · obtain ⟨_, _, h3, h4⟩ := rd_no h
      rw [h3, h4]; simp
theorem kalR (w : World) (o : Obj) : Below w.heap.size w (w.alloc o) := (Below.refl _ _).alloc (Nat.le_refl _) o

set_option maxHeartbeats 400000 in
theorem read_big (ao : Option Addr) (n ca : Nat) (w : World) (hn : n ≤ maxLen) (h : 1048576 < n) :
    Calls Try.prog 7 #[.slice ao n ca] w fun e w' => e = .returned (.bool true) ∧ Below w.heap.size w w' := by
  have hd : (1048576 : Int) < (n : Int) := by omega
  go_enter Try.func7, Try.ntmps7
  go_wp2
  go_returns
  exact ⟨rfl, Below.refl _ _⟩

set_option maxRecDepth 100000 in
set_option maxHeartbeats 4000000 in
theorem read_small (lo hi : Nat) (ao : Option Addr) (ca : Nat) (L : List Int) (w : World) (hR : Row .u8 w lo hi ao L) (hs : hi ≤ w.heap.size) (hl : L.length ≤ 1048576) (hB : byts L) :
    Calls Try.prog 7 #[.slice ao L.length ca] w fun e w' => e = .returned (.bool true) ∧ Below w.heap.size w w' := by
  have HL := hideP hR
  have HB := hideP hB
  have hl' : (L.length : Int) ≤ 1048576 := by omega
  obtain ⟨hA7, hD24⟩ := rd_lens L
  obtain ⟨C, hC⟩ : ∃ C, rdC L = C := ⟨_, rfl⟩
  obtain ⟨q, hq⟩ : ∃ q, rdK L = q := ⟨_, rfl⟩
  obtain ⟨A, hAe⟩ : ∃ A, rdA L = A := ⟨_, rfl⟩
  obtain ⟨D, hDe⟩ : ∃ D, rdD L = D := ⟨_, rfl⟩
  have SP := fun lo hi ao ca w => sRead_any lo hi ao ca L w
  have IP := fun lo hi ao ca w => iRead_any lo hi ao ca L w
  unfold ReadAns at SP IP
  rw [hC, hq, hAe, hDe] at SP IP
  rw [hAe] at hA7
  rw [hDe] at hD24
  have SP' := hideP SP
  have IP' := hideP IP
  have hA : A.length ≤ 1048576 := by omega
  have hDl : D.length ≤ 1048576 := by omega
  clear hR hB SP IP hC hq hAe hDe
  go_enter Try.func7, Try.ntmps7
  go_wp2_with fail
  refine Calls.mono (toB_ex lo hi ao ca L w HL.out hs hl) ?_
  rintro e w2 ⟨a2, rfl, k2, R2⟩
  have R2' := hideP R2
  have K2 := hideP k2
  have n2 := k2.size
  clear k2 R2
  go_wp2_with fail
  refine Calls.mono (SP'.out _ _ a2 L.length w2 R2'.out.row (Nat.le_refl _) (Nat.le_refl _) (by omega) HB.out) ?_
  rintro e w3 ⟨aw, cw, bw, dw, mw, rfl, k3, hm1, hm2, A3, D3⟩
  have K3 := hideP (K2.out.trans (k3.mono n2))
  have n3 := k3.size
  have W4 : Hid (PR (w3.alloc (.cells #[.int .i64 C, .int .i64 q, .slice aw A.length cw, .slice bw D.length dw] 51)) w3.heap.size w2.heap.size mw w3.heap.size C q aw bw cw dw A D) := hideP (PR.new hm1 hm2 A3 D3)
  clear k3 A3 D3 hm1 hm2 K2 R2'
  go_wp2_with fail
  have K4 := hideP (K3.out.trans ((kalR w3 (.cells #[.int .i64 C, .int .i64 q, .slice aw A.length cw, .slice bw D.length dw] 51)).mono (by omega)))
  have n4 : w3.heap.size < (w3.alloc (.cells #[.int .i64 C, .int .i64 q, .slice aw A.length cw, .slice bw D.length dw] 51)).heap.size := by simp
  generalize w3.alloc (.cells #[.int .i64 C, .int .i64 q, .slice aw A.length cw, .slice bw D.length dw] 51) = w4 at *
  refine Calls.mono (toB_ex lo hi ao ca L w4 (HL.out.keep K4.out hs) (by omega) hl) ?_
  rintro e w5 ⟨ax, rfl, k5, R5⟩
  have K5 := hideP (K4.out.trans (k5.mono (by omega)))
  have W5 := hideP (W4.out.keep k5 n4 (by omega))
  have Y5 : Hid (Wrt .u8 w5 w4.heap.size w5.heap.size ax L) := hideP R5
  have n5 := k5.size
  clear k5 R5 K3 K4 W4
  go_wp2_with fail
  refine Calls.mono (IP'.out _ _ ax L.length w5 Y5.out.row (Nat.le_refl _) (Nat.le_refl _) (by omega) HB.out) ?_
  rintro e w7 ⟨ag, cg, bg, dg, mg, rfl, k7, hm1, hm2, A7, D7⟩
  have K7 := hideP (K5.out.trans (k7.mono (by omega)))
  have W7 := hideP (W5.out.keep k7 (by omega) (by omega))
  have Y7 := hideP (Y5.out.keep k7 (Nat.le_refl _))
  have n7 := k7.size
  have G8 : Hid (PR (w7.alloc (.cells #[.int .i64 C, .int .i64 q, .slice ag A.length cg, .slice bg D.length dg] 51)) w7.heap.size w5.heap.size mg w7.heap.size C q ag bg cg dg A D) := hideP (PR.new hm1 hm2 A7 D7)
  clear k7 A7 D7 hm1 hm2 K5 W5 Y5
  obtain ⟨r0, r1, r2, r3, r4, r5, r6, r7, r8⟩ := W7.out.box
  go_wp2_with fail
  clear r0 r1 r2 r3 r4 r5 r6 r7 r8
  have ka := kalR w7 (.cells #[.int .i64 C, .int .i64 q, .slice ag A.length cg, .slice bg D.length dg] 51)
  have K8 := hideP (K7.out.trans (ka.mono (by omega)))
  have W8 := hideP (W7.out.keep ka (by omega) (by omega))
  have Y8 := hideP (Y7.out.keep ka (by omega))
  have n8 : w7.heap.size < (w7.alloc (.cells #[.int .i64 C, .int .i64 q, .slice ag A.length cg, .slice bg D.length dg] 51)).heap.size := by simp
  clear ka K7 W7 Y7
  generalize w7.alloc (.cells #[.int .i64 C, .int .i64 q, .slice ag A.length cg, .slice bg D.length dg] 51) = w8 at *
  refine Calls.mono (eqRR_same _ _ _ _ C q ag bg aw bw cg dg cw dw A D w8 G8.out.req.rowA G8.out.req.rowD W8.out.req.rowA W8.out.req.rowD (by omega) (by omega) hA hDl) ?_
  rintro e w9 ⟨rfl, k9⟩
  have K9 := hideP (K8.out.trans (k9.mono (by omega)))
  have W9 := hideP (W8.out.keep k9 (by omega) (by omega))
  have Y9 := hideP (Y8.out.keep k9 (by omega))
  have G9 := hideP (G8.out.keep k9 (by omega) (by omega))
  have n9 := k9.size
  clear k9 K8 W8 Y8 G8
  go_wp2_with fail
  refine Calls.mono (toB_ex lo hi ao ca L w9 (HL.out.keep K9.out hs) (by omega) hl) ?_
  rintro e w10 ⟨a10, rfl, k10, R10⟩
  have K10 := hideP (K9.out.trans (k10.mono (by omega)))
  have W10 := hideP (W9.out.keep k10 (by omega) (by omega))
  have Y10 := hideP (Y9.out.keep k10 (by omega))
  have G10 := hideP (G9.out.keep k10 (by omega) (by omega))
  have T10 := hideP R10
  have n10 := k10.size
  clear k10 R10 K9 W9 Y9 G9
  go_wp2_with fail
  refine Calls.mono (eqB_same _ _ _ _ ax a10 L.length L.length L w10 Y10.out.row T10.out.row (by omega) (Nat.le_refl _) hl) ?_
  rintro e w11 ⟨rfl, k11⟩
  have K11 := hideP (K10.out.trans (k11.mono (by omega)))
  have W11 := hideP (W10.out.keep k11 (by omega) (by omega))
  have Y11 := hideP (Y10.out.keep k11 (by omega))
  have G11 := hideP (G10.out.keep k11 (by omega) (by omega))
  have n11 := k11.size
  clear k11 K10 W10 Y10 G10 T10
  go_wp2_with fail
  refine Calls.mono (markB_any _ _ ax L.length 1 L w11 Y11.out (by omega) hl (by omega) (by omega)) ?_
  rintro e w12 ⟨rfl, f12, -⟩
  have K12 := hideP (K11.out.trans (f12.below (B := w.heap.size) (by omega) (by omega)))
  have W12 := hideP (W11.out.far f12 (by omega) (by omega))
  have G12 := hideP (G11.out.far f12 (by omega) (by omega))
  have n12 := f12.size
  have hk0 : ¬ (1 + (L.length : Int) < 0) := by omega
  clear f12 K11 W11 G11 Y11
  obtain ⟨r0, r1, r2, r3, r4, r5, r6, r7, r8⟩ := W12.out.box
  obtain ⟨s0, s1, s2, s3, s4, s5, s6, s7, s8⟩ := G12.out.box
  go_wp2_with fail
  clear r0 r1 r2 r3 r4 r5 r6 r7 r8 s0 s1 s2 s3 s4 s5 s6 s7 s8
  refine Calls.mono (eqRR_same _ _ _ _ C q ag bg aw bw cg dg cw dw A D w12 G12.out.req.rowA G12.out.req.rowD W12.out.req.rowA W12.out.req.rowD (by omega) (by omega) hA hDl) ?_
  rintro e w13 ⟨rfl, k13⟩
  have K13 := hideP (K12.out.trans (k13.mono (by omega)))
  have W13 := hideP (W12.out.keep k13 (by omega) (by omega))
  have G13 := hideP (G12.out.keep k13 (by omega) (by omega))
  have n13 := k13.size
  clear k13 K12 W12 G12
  obtain ⟨s0, s1, s2, s3, s4, s5, s6, s7, s8⟩ := G13.out.box
  go_wp2_with fail
  clear s0 s1 s2 s3 s4 s5 s6 s7 s8
  refine Calls.mono (markRR_any _ _ _ C q ag bg cg dg 1 A D w13 G13.out.req hA hDl (by omega) (by omega)) ?_
  rintro e w14 ⟨rfl, f14, M14⟩
  have K14 := hideP (K13.out.trans (f14.below (B := w.heap.size) (by omega) (by omega)))
  have W14 := hideP (W13.out.far f14 (by omega) (by omega))
  have B14 := hideP (G13.out.box.far f14 (by omega))
  have M14' := hideP M14
  have n14 := f14.size
  clear f14 M14 K13 W13 G13
  obtain ⟨s0, s1, s2, s3, s4, s5, s6, s7, s8⟩ := B14.out
  go_wp2_with fail
  clear s0 s1 s2 s3 s4 s5 s6 s7 s8
  refine Calls.mono (heldRR_any _ _ C q ag bg cg dg A.length D.length 1 w14 M14'.out.rowA M14'.out.rowD (by omega) hA hDl (by omega) (by omega)) ?_
  rintro e w15 ⟨rfl, k15⟩
  have K15 := hideP (K14.out.trans (k15.mono (by omega)))
  have W15 := hideP (W14.out.keep k15 (by omega) (by omega))
  have B15 := hideP (B14.out.keep k15 (by omega))
  have M15 := hideP (M14'.out.keep k15 (by omega))
  have n15 := k15.size
  have hp0 : ¬ (1 + (A.length : Int) + (D.length : Int) < 0) := by omega
  have hpe : (1 + (A.length : Int) + (D.length : Int) != 1 + (A.length : Int) + (D.length : Int)) = false := by simp
  clear k15 K14 W14 B14 M14'
  go_wp2_with fail
  refine Calls.mono (toB_ex lo hi ao ca L w15 (HL.out.keep K15.out hs) (by omega) hl) ?_
  rintro e w16 ⟨ah, rfl, k16, R16⟩
  have R16' := hideP R16
  have K16 := hideP (K15.out.trans (k16.mono (by omega)))
  have W16 := hideP (W15.out.keep k16 (by omega) (by omega))
  have B16 := hideP (B15.out.keep k16 (by omega))
  have M16 := hideP (M15.out.keep k16 (by omega))
  have n16 := k16.size
  clear k16 R16 K15 W15 B15 M15
  go_wp2_with fail
  refine Calls.mono (IP'.out _ _ ah L.length w16 R16'.out.row (Nat.le_refl _) (Nat.le_refl _) (by omega) HB.out) ?_
  rintro e w17 ⟨ay, cy, by_, dy, my, rfl, k17, hm1, hm2, A17, D17⟩
  have K17 := hideP (K16.out.trans (k17.mono (by omega)))
  have W17 := hideP (W16.out.keep k17 (by omega) (by omega))
  have B17 := hideP (B16.out.keep k17 (by omega))
  have M17 := hideP (M16.out.keep k17 (by omega))
  have n17 := k17.size
  have H18 : Hid (PR (w17.alloc (.cells #[.int .i64 C, .int .i64 q, .slice ay A.length cy, .slice by_ D.length dy] 51)) w17.heap.size w16.heap.size my w17.heap.size C q ay by_ cy dy A D) := hideP (PR.new hm1 hm2 A17 D17)
  clear k17 A17 D17 hm1 hm2 K16 W16 B16 M16 R16'
  obtain ⟨r0, r1, r2, r3, r4, r5, r6, r7, r8⟩ := W17.out.box
  go_wp2_with fail
  clear r0 r1 r2 r3 r4 r5 r6 r7 r8
  have ka := kalR w17 (.cells #[.int .i64 C, .int .i64 q, .slice ay A.length cy, .slice by_ D.length dy] 51)
  have K18 := hideP (K17.out.trans (ka.mono (by omega)))
  have W18 := hideP (W17.out.keep ka (by omega) (by omega))
  have B18 := hideP (B17.out.keep ka (by omega))
  have M18 := hideP (M17.out.keep ka (by omega))
  have n18 : w17.heap.size < (w17.alloc (.cells #[.int .i64 C, .int .i64 q, .slice ay A.length cy, .slice by_ D.length dy] 51)).heap.size := by simp
  clear ka K17 W17 B17 M17
  generalize w17.alloc (.cells #[.int .i64 C, .int .i64 q, .slice ay A.length cy, .slice by_ D.length dy] 51) = w18 at *
  refine Calls.mono (eqRR_same _ _ _ _ C q ay by_ aw bw cy dy cw dw A D w18 H18.out.req.rowA H18.out.req.rowD W18.out.req.rowA W18.out.req.rowD (by omega) (by omega) hA hDl) ?_
  rintro e w19 ⟨rfl, k19⟩
  have K19 := hideP (K18.out.trans (k19.mono (by omega)))
  have B19 := hideP (B18.out.keep k19 (by omega))
  have M19 := hideP (M18.out.keep k19 (by omega))
  have n19 := k19.size
  clear k19 K18 W18 B18 M18 H18
  obtain ⟨s0, s1, s2, s3, s4, s5, s6, s7, s8⟩ := B19.out
  go_wp2_with fail
  clear s0 s1 s2 s3 s4 s5 s6 s7 s8
  refine Calls.mono (heldRR_any _ _ C q ag bg cg dg A.length D.length 1 w19 M19.out.rowA M19.out.rowD (by omega) hA hDl (by omega) (by omega)) ?_
  rintro e w20 ⟨rfl, k20⟩
  have K20 := hideP (K19.out.trans (k20.mono (by omega)))
  clear k20 K19 B19 M19
  go_wp2
  go_returns
  exact ⟨rfl, K20.out⟩

theorem read_law (ao : Option Addr) (ca : Nat) (L : List Int) (w : World) (hm : L.length ≤ maxLen) (hR : Row .u8 w 0 w.heap.size ao L) (hw : ∀ n ∈ L, (Lit.int .u8 n).wf = true) :
    Calls Try.prog 7 #[.slice ao L.length ca] w fun e w' => e = .returned (.bool true) ∧ Below w.heap.size w w' := by
  by_cases h : L.length ≤ 1048576
  · exact read_small 0 w.heap.size ao ca L w hR (Nat.le_refl _) h (byts_of hw)
  · exact read_big ao L.length ca w hm (by omega)

end Go.Proofs.Ytlagcanbmenglai
