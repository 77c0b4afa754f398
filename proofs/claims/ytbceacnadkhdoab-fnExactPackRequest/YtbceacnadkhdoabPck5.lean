/- PackRequest: the law's walk. -/
import Derived.Test.YtbceacnadkhdoabPck4
namespace Go.Proofs.Ytbceacnadkhdoab
open Go.RowKit
set_option linter.unusedVariables false

theorem kal (w : World) (o : Obj) : Below w.heap.size w (w.alloc o) := (Below.refl _ _).alloc (Nat.le_refl _) o

set_option maxHeartbeats 400000 in
theorem pack_big (k : Int) (ao bo : Option Addr) (na ca nd cb : Nat) (w : World) (hn : na ≤ maxLen) (hd : nd ≤ maxLen) (h : (1048576 : Int) < (na : Int) + nd) :
    Calls Try.prog 7 #[.agg #[.int .i64 k, .slice ao na ca, .slice bo nd cb]] w fun e w' => e = .returned (.bool true) ∧ Below w.heap.size w w' := by
  go_enter Try.func7, Try.ntmps7
  go_wp2_with fail
  refine Calls.mono (szR_big k ao bo na ca nd cb 1048576 _ hn hd (by omega) (by omega) h) ?_
  rintro e w1 ⟨rfl, k1⟩
  go_wp2
  go_returns
  refine ⟨rfl, ?_⟩
  repeat' (first | (with_reducible exact Below.refl _ _) | (with_reducible refine kept_below ?_ (by assumption) ?_) | (with_reducible refine Below.alloc ?_ ?_ _) | (with_reducible refine Below.drew ?_) | (with_reducible refine Below.setCell ?_ ?_ _) | go_size)

set_option maxRecDepth 100000 in
set_option maxHeartbeats 4000000 in
theorem pack_small (lo hi : Nat) (k : Int) (ao bo : Option Addr) (ca cb : Nat) (A D : List Int) (w : World) (ha : Row .i64 w lo hi ao A) (hd : Row .u8 w lo hi bo D) (hs : hi ≤ w.heap.size) (h : (A.length : Int) + D.length ≤ 1048576) :
    Calls Try.prog 7 #[.agg #[.int .i64 k, .slice ao A.length ca, .slice bo D.length cb]] w fun e w' => e = .returned (.bool true) ∧ Below w.heap.size w w' := by
  have HA := hideP ha
  have HD := hideP hd
  have hA : A.length ≤ 1048576 := by omega
  have hDl : D.length ≤ 1048576 := by omega
  have hq0 : 0 ≤ 1048576 - (A.length : Int) - (D.length : Int) := by omega
  have hpl := pkL_len k A D
  obtain ⟨C, hC⟩ : ∃ C, rF k A D.length = C := ⟨_, rfl⟩
  obtain ⟨P, hP⟩ : ∃ P, pkL k A D = P := ⟨_, rfl⟩
  have SP := sPack_any (k := k) (A := A) (D := D)
  have IP := iPack_any (k := k) (A := A) (D := D)
  rw [hC, hP] at SP IP
  rw [hP] at hpl
  have SP' := hideP SP
  have IP' := hideP IP
  clear ha hd SP IP hC hP
  go_enter Try.func7, Try.ntmps7
  go_wp2_with fail
  refine Calls.mono (szR_small k ao bo A.length ca D.length cb 1048576 _ (by unfold maxLen; omega) (by unfold maxLen; omega) (by omega) (by omega) h) ?_
  rintro e w1 ⟨rfl, k1⟩
  have K1 : Hid (Below w.heap.size w w1) := hideP (Below.trans (by go_grown) (k1.mono (by simp)))
  have X1 : Hid (Bx w1 w.heap.size k (.slice ao A.length ca) (.slice bo D.length cb)) := hideP (Bx.keep ⟨by simp, by simp, by simp⟩ k1 (by simp))
  have n1 : w.heap.size < w1.heap.size := by have := k1.size; simp at this; omega
  clear k1
  obtain ⟨p0, p1, p2⟩ := X1.out
  go_wp2_with fail
  clear p0 p1 p2
  refine Calls.mono (toReq_any lo hi k ao bo ca cb A D _ (HA.out.keep K1.out hs) (HD.out.keep K1.out hs) (by omega) hA hDl) ?_
  rintro e w2 ⟨ao2, bo2, mid2, rfl, k2, R2⟩
  have R2' := hideP R2
  have K2 : Hid (Below w.heap.size w w2) := hideP (K1.out.trans (k2.mono (by omega)))
  have X2 := hideP (X1.out.keep k2 n1)
  have n2 := Nat.lt_of_lt_of_le n1 k2.size
  clear k2 R2 K1 X1 n1
  go_wp2_with fail
  refine Calls.mono (SP'.out _ _ ao2 bo2 A.length D.length w2 R2'.out.rowA R2'.out.rowD (Nat.le_refl _)) ?_
  rintro e w3 ⟨aw, cw, rfl, O3, k3⟩
  have K3 : Hid (Below w.heap.size w w3) := hideP (K2.out.trans (k3.mono (by omega)))
  have X3 := hideP (X2.out.keep k3 n2)
  have n3 := Nat.lt_of_lt_of_le n2 k3.size
  have W4 : Hid (PW (w3.alloc (.cells #[.int .i64 C, .slice aw P.length cw] 55)) w3.heap.size w2.heap.size w3.heap.size C aw cw P) := hideP (PW.new O3 k3.size)
  clear k3 O3 K2 X2 R2'
  obtain ⟨p0, p1, p2⟩ := X3.out
  go_wp2_with fail
  clear p0 p1 p2
  have K4 := hideP (K3.out.trans ((kal w3 (.cells #[.int .i64 C, .slice aw P.length cw] 55)).mono (by omega)))
  have X4 := hideP (X3.out.keep (kal w3 (.cells #[.int .i64 C, .slice aw P.length cw] 55)) n3)
  have n4 : w3.heap.size < (w3.alloc (.cells #[.int .i64 C, .slice aw P.length cw] 55)).heap.size := by simp
  generalize w3.alloc (.cells #[.int .i64 C, .slice aw P.length cw] 55) = w4 at *
  refine Calls.mono (toReq_any lo hi k ao bo ca cb A D _ (HA.out.keep K4.out hs) (HD.out.keep K4.out hs) (by omega) hA hDl) ?_
  rintro e w5 ⟨ax, bx, mx, rfl, k5, R5⟩
  have K5 : Hid (Below w.heap.size w w5) := hideP (K4.out.trans (k5.mono (by omega)))
  have X5 := hideP (X4.out.keep k5 (by omega))
  have W5 := hideP (W4.out.keep k5 n4 (by omega))
  have n5 := k5.size
  have Y6 : Hid (PX (w5.alloc (.cells #[.int .i64 k, .slice ax A.length A.length, .slice bx D.length D.length] 50)) w5.heap.size w4.heap.size mx w5.heap.size k ax bx A.length D.length A D) := hideP (PX.new R5)
  clear k5 R5 K3 X3 K4 X4 W4
  go_wp2_with fail
  have ka := kal w5 (.cells #[.int .i64 k, .slice ax A.length A.length, .slice bx D.length D.length] 50)
  have K6 := hideP (K5.out.trans (ka.mono (by omega)))
  have X6 := hideP (X5.out.keep ka (by omega))
  have W6 := hideP (W5.out.keep ka (by omega) (by omega))
  have n6 : w5.heap.size < (w5.alloc (.cells #[.int .i64 k, .slice ax A.length A.length, .slice bx D.length D.length] 50)).heap.size := by simp
  clear ka K5 X5 W5
  generalize w5.alloc (.cells #[.int .i64 k, .slice ax A.length A.length, .slice bx D.length D.length] 50) = w6 at *
  refine Calls.mono (IP'.out _ _ ax bx A.length D.length w6 Y6.out.req.rowA Y6.out.req.rowD (by omega)) ?_
  rintro e w7 ⟨ag, cg, rfl, O7, k7⟩
  have K7 := hideP (K6.out.trans (k7.mono (by omega)))
  have X7 := hideP (X6.out.keep k7 (by omega))
  have W7 := hideP (W6.out.keep k7 (by omega) (by omega))
  have Y7 := hideP (Y6.out.keep k7 n6 (by omega))
  have n7 := k7.size
  have G8 : Hid (PW (w7.alloc (.cells #[.int .i64 C, .slice ag P.length cg] 55)) w7.heap.size w6.heap.size w7.heap.size C ag cg P) := hideP (PW.new O7 k7.size)
  clear k7 O7 K6 X6 W6 Y6
  obtain ⟨r0, r1, r2, r3, r4⟩ := W7.out.box
  go_wp2_with fail
  clear r0 r1 r2 r3 r4
  have ka := kal w7 (.cells #[.int .i64 C, .slice ag P.length cg] 55)
  have K8 := hideP (K7.out.trans (ka.mono (by omega)))
  have X8 := hideP (X7.out.keep ka (by omega))
  have W8 := hideP (W7.out.keep ka (by omega) (by omega))
  have Y8 := hideP (Y7.out.keep ka (by omega) (by omega))
  have n8 : w7.heap.size < (w7.alloc (.cells #[.int .i64 C, .slice ag P.length cg] 55)).heap.size := by simp
  clear ka K7 X7 W7 Y7
  generalize w7.alloc (.cells #[.int .i64 C, .slice ag P.length cg] 55) = w8 at *
  refine Calls.mono (eqBR_same _ _ _ _ C ag aw cg cw P w8 G8.out.row.row W8.out.row.row (by omega) (by omega) (by omega)) ?_
  rintro e w9 ⟨rfl, k9⟩
  have K9 := hideP (K8.out.trans (k9.mono (by omega)))
  have X9 := hideP (X8.out.keep k9 (by omega))
  have W9 := hideP (W8.out.keep k9 (by omega) (by omega))
  have Y9 := hideP (Y8.out.keep k9 (by omega) (by omega))
  have G9 := hideP (G8.out.keep k9 (by omega) (by omega))
  have n9 := k9.size
  clear k9 K8 X8 W8 Y8 G8
  obtain ⟨p0, p1, p2⟩ := X9.out
  obtain ⟨q0, q1, q2⟩ := Y9.out.box
  have n9a : w.heap.size < w9.heap.size := by omega
  have n9b : w5.heap.size < w9.heap.size := by omega
  go_wp2_with fail
  refine wp_region_held (S := Kept w9) (by kernel_rfl) ?_
  show wpAnyH _ _ _ _ _ 5 (Array.replicate 5 false) _ (w9).drew
  have hK0 : Kept (w9) (w9).drew := (Below.refl _ _).drew
  generalize hQQ : (Exit.then _ _ : Exit → Act → World → Prop) = QQ
  have hQ : ∀ c a d v w, QQ (.panic c) (Act.put a d v) w → QQ (.panic c) a w := by
    subst hQQ
    intro c a d v w h
    cases d <;> exact h
  refine held_take (i := 0) rfl (by kernel_rfl) (by kernel_rfl) (by kernel_rfl) hQ hK0 (by rfl) ?_
  apply Exists.intro
  refine ⟨fun w1 k1 => ?_, fun K hK => ?_⟩
  · have hc := Kept.cell k1
    go_simp
    first | done | rfl
  go_simp
  refine hK _ ?_
  clear hK K
  refine held_take (i := 1) rfl (by kernel_rfl) (by kernel_rfl) (by kernel_rfl) hQ hK0 (by rfl) ?_
  apply Exists.intro
  refine ⟨fun w1 k1 => ?_, fun K hK => ?_⟩
  · have hc := Kept.cell k1
    go_simp
    first | done | rfl
  go_simp
  refine hK _ ?_
  clear hK K
  have hAA := HA.out.keep K9.out hs
  have hDD := HD.out.keep K9.out hs
  refine held_one (i := 2) rfl (by kernel_rfl) (by rfl) ?_
  refine wp_of_made (L := CopyR w9.drew k A D) ?_ ?_
  · exact made_call (by go_simp; first | done | rfl) (toReq_made lo hi k ao bo ca cb A D _ (hAA.keep hK0 (by omega)) (hDD.keep hK0 (by omega)) (by simp; omega) hA hDl)
  rintro w10 v hb ⟨ao6, bo6, mid6, rfl, R6⟩
  have hK6 := Kept.trans hK0 hb
  refine ⟨hK6, ?_⟩
  refine norm_act fun K hK => ?_
  go_simp
  refine hK _ ?_
  clear hK K
  have n10 := hb.size
  simp only [World.size_drew] at n10
  refine held_one (i := 3) rfl (by kernel_rfl) (by rfl) ?_
  refine wp_of_made (L := SaidYes) ?_ ?_
  · exact made_call (by go_simp; first | done | rfl) (true_made (eqR_same _ _ _ _ k ax bx ao6 bo6 A.length D.length A.length D.length A D w10 (Y9.out.req.rowA.keep hK6 (by omega)) (Y9.out.req.rowD.keep hK6 (by omega)) R6.rowA R6.rowD (by omega) (Nat.le_refl _) hA hDl))
  rintro w11 v hb ⟨⟩
  have hK7 := Kept.trans hK6 hb
  refine ⟨hK7, ?_⟩
  refine norm_act fun K hK => ?_
  go_simp
  refine hK _ ?_
  clear hK K
  refine held_one (i := 4) rfl (by kernel_rfl) (by rfl) ?_
  refine wp_of_run (v := .bool false) (w' := _) (by go_simp; first | done | rfl) ?_
  refine ⟨hK7, ?_⟩
  refine norm_act fun K hK => ?_
  go_simp
  refine hK _ ?_
  clear hK K
  refine wpAnyH_done (by kernel_rfl) ?_ _
  subst hQQ
  have K11 := hideP (K9.out.trans (hK7.mono (by omega)))
  have X11 := hideP (X9.out.keep hK7 (by omega))
  have W11 := hideP (W9.out.keep hK7 (by omega) (by omega))
  have Y11 := hideP (Y9.out.keep hK7 (by omega) (by omega))
  have G11 := hideP (G9.out.keep hK7 (by omega) (by omega))
  have n11 := hK7.size
  clear hQ hK0 hK6 hK7 R6 hb p0 p1 p2 q0 q1 q2 K9 X9 W9 Y9 G9 hAA hDD n10 n9a n9b
  obtain ⟨q0, q1, q2⟩ := Y11.out.box
  go_wp2_with fail
  clear q0 q1 q2
  refine Calls.mono (markR_any _ _ _ k ax bx A.length D.length 1 A D w11 Y11.out.req hA hDl (by omega) (by omega)) ?_
  rintro e w12 ⟨rfl, f12, -⟩
  have K12 := hideP (K11.out.trans (f12.below (B := w.heap.size) (by omega) (by omega)))
  have X12 := hideP (X11.out.far f12 (by omega) (by omega))
  have W12 := hideP (W11.out.far f12 (by omega) (by omega))
  have G12 := hideP (G11.out.far f12 (by omega) (by omega))
  have n12 := f12.size
  have hk0 : ¬ (1 + (A.length : Int) + (D.length : Int) < 0) := by omega
  clear f12 K11 X11 W11 G11 Y11
  obtain ⟨r0, r1, r2, r3, r4⟩ := W12.out.box
  obtain ⟨s0, s1, s2, s3, s4⟩ := G12.out.box
  go_wp2_with fail
  clear r0 r1 r2 r3 r4 s0 s1 s2 s3 s4
  refine Calls.mono (eqBR_same _ _ _ _ C ag aw cg cw P w12 G12.out.row.row W12.out.row.row (by omega) (by omega) (by omega)) ?_
  rintro e w13 ⟨rfl, k13⟩
  have K13 := hideP (K12.out.trans (k13.mono (by omega)))
  have X13 := hideP (X12.out.keep k13 (by omega))
  have W13 := hideP (W12.out.keep k13 (by omega) (by omega))
  have G13 := hideP (G12.out.keep k13 (by omega) (by omega))
  have n13 := k13.size
  clear k13 K12 X12 W12 G12
  obtain ⟨s0, s1, s2, s3, s4⟩ := G13.out.box
  go_wp2_with fail
  clear s0 s1 s2 s3 s4
  refine Calls.mono (markBR_any _ _ C ag cg 1 P w13 G13.out.row (by omega) (by omega) (by omega) (by omega)) ?_
  rintro e w14 ⟨rfl, f14, M14⟩
  have K14 := hideP (K13.out.trans (f14.below (B := w.heap.size) (by omega) (by omega)))
  have X14 := hideP (X13.out.far f14 (by omega) (by omega))
  have W14 := hideP (W13.out.far f14 (by omega) (by omega))
  have B14 := hideP (G13.out.box.far f14 (by omega))
  have M14' := hideP M14
  have n14 := f14.size
  clear f14 M14 K13 X13 W13 G13
  obtain ⟨s0, s1, s2, s3, s4⟩ := B14.out
  go_wp2_with fail
  clear s0 s1 s2 s3 s4
  refine Calls.mono (heldBR_any _ _ C ag cg P.length 1 w14 M14'.out.row (by omega) (by omega) (by omega) (by omega)) ?_
  rintro e w15 ⟨rfl, k15⟩
  have K15 := hideP (K14.out.trans (k15.mono (by omega)))
  have X15 := hideP (X14.out.keep k15 (by omega))
  have W15 := hideP (W14.out.keep k15 (by omega) (by omega))
  have B15 := hideP (B14.out.keep k15 (by omega))
  have M15 := hideP (M14'.out.keep k15 (by omega))
  have n15 := k15.size
  have hp0 : ¬ (1 + (P.length : Int) < 0) := by omega
  have hpe : (1 + (P.length : Int) != 1 + (P.length : Int)) = false := by simp
  clear k15 K14 X14 W14 B14 M14'
  obtain ⟨p0, p1, p2⟩ := X15.out
  go_wp2_with fail
  clear p0 p1 p2
  refine Calls.mono (toReq_any lo hi k ao bo ca cb A D _ (HA.out.keep K15.out hs) (HD.out.keep K15.out hs) (by omega) hA hDl) ?_
  rintro e w16 ⟨ah, bh, mh, rfl, k16, R16⟩
  have R16' := hideP R16
  have K16 := hideP (K15.out.trans (k16.mono (by omega)))
  have W16 := hideP (W15.out.keep k16 (by omega) (by omega))
  have B16 := hideP (B15.out.keep k16 (by omega))
  have M16 := hideP (M15.out.keep k16 (by omega))
  have n16 := k16.size
  clear k16 R16 K15 X15 W15 B15 M15
  go_wp2_with fail
  refine Calls.mono (IP'.out _ _ ah bh A.length D.length w16 R16'.out.rowA R16'.out.rowD (Nat.le_refl _)) ?_
  rintro e w17 ⟨ay, cy, rfl, O17, k17⟩
  have K17 := hideP (K16.out.trans (k17.mono (by omega)))
  have W17 := hideP (W16.out.keep k17 (by omega) (by omega))
  have B17 := hideP (B16.out.keep k17 (by omega))
  have M17 := hideP (M16.out.keep k17 (by omega))
  have n17 := k17.size
  have H18 : Hid (PW (w17.alloc (.cells #[.int .i64 C, .slice ay P.length cy] 55)) w17.heap.size w16.heap.size w17.heap.size C ay cy P) := hideP (PW.new O17 k17.size)
  clear k17 O17 K16 W16 B16 M16 R16'
  obtain ⟨r0, r1, r2, r3, r4⟩ := W17.out.box
  go_wp2_with fail
  clear r0 r1 r2 r3 r4
  have ka := kal w17 (.cells #[.int .i64 C, .slice ay P.length cy] 55)
  have K18 := hideP (K17.out.trans (ka.mono (by omega)))
  have W18 := hideP (W17.out.keep ka (by omega) (by omega))
  have B18 := hideP (B17.out.keep ka (by omega))
  have M18 := hideP (M17.out.keep ka (by omega))
  have n18 : w17.heap.size < (w17.alloc (.cells #[.int .i64 C, .slice ay P.length cy] 55)).heap.size := by simp
  clear ka K17 W17 B17 M17
  generalize w17.alloc (.cells #[.int .i64 C, .slice ay P.length cy] 55) = w18 at *
  refine Calls.mono (eqBR_same _ _ _ _ C ay aw cy cw P w18 H18.out.row.row W18.out.row.row (by omega) (by omega) (by omega)) ?_
  rintro e w19 ⟨rfl, k19⟩
  have K19 := hideP (K18.out.trans (k19.mono (by omega)))
  have B19 := hideP (B18.out.keep k19 (by omega))
  have M19 := hideP (M18.out.keep k19 (by omega))
  have n19 := k19.size
  clear k19 K18 W18 B18 M18 H18
  obtain ⟨s0, s1, s2, s3, s4⟩ := B19.out
  go_wp2_with fail
  clear s0 s1 s2 s3 s4
  refine Calls.mono (heldBR_any _ _ C ag cg P.length 1 w19 M19.out.row (by omega) (by omega) (by omega) (by omega)) ?_
  rintro e w20 ⟨rfl, k20⟩
  have K20 := hideP (K19.out.trans (k20.mono (by omega)))
  clear k20 K19 B19 M19
  go_wp2
  go_returns
  exact ⟨rfl, K20.out⟩

theorem pack_law (k : Int) (ao : Option Addr) (ca : Nat) (A : List Int) (bo : Option Addr) (cb : Nat) (D : List Int) (w : World) (hmA : A.length ≤ maxLen) (hA : Row .i64 w 0 w.heap.size ao A) (hwA : ∀ n ∈ A, (Lit.int .i64 n).wf = true) (hmD : D.length ≤ maxLen) (hD : Row .u8 w 0 w.heap.size bo D) (hwD : ∀ n ∈ D, (Lit.int .u8 n).wf = true) :
    Calls Try.prog 7 #[.agg #[.int .i64 k, .slice ao A.length ca, .slice bo D.length cb]] w fun e w' => e = .returned (.bool true) ∧ Below w.heap.size w w' := by
  by_cases h : (A.length : Int) + D.length ≤ 1048576
  · exact pack_small 0 w.heap.size k ao bo ca cb A D w hA hD (Nat.le_refl _) h
  · exact pack_big k ao bo A.length ca D.length cb w hmA hmD (by omega)

end Go.Proofs.Ytbceacnadkhdoab
