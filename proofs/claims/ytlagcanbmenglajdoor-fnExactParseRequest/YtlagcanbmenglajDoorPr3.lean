/- ParseRequest: the law's walk. -/
import Derived.Test.YtlagcanbmenglajDoorPr2
import Derived.Test.YtlagcanbmenglajDoorPq4
import Derived.Test.YtlagcanbmenglajDoorRd6
namespace Go.Proofs.YtlagcanbmenglajDoor
open Go.RowKit
set_option linter.unusedVariables false

set_option maxHeartbeats 400000 in
theorem parse_big (s : ByteArray) (w : World) (h : 1048576 < s.size) :
    Calls Tryd.prog 4 #[.string s] w fun e w' => e = .returned (.bool true) ∧ Below w.heap.size w w' := by
  have hd : (1048576 : Int) < (s.size : Int) := by omega
  go_enter Tryd.func4, Tryd.ntmps4
  go_wp2
  go_returns
  exact ⟨rfl, Below.refl _ _⟩

set_option maxRecDepth 100000 in
set_option maxHeartbeats 4000000 in
theorem parse_small (s : ByteArray) (w : World) (E : Env w) (hl : s.size ≤ 1048576) :
    Calls Tryd.prog 4 #[.string s] w fun e w' => e = .returned (.bool true) ∧ Below w.heap.size w w' := by
  have HE := hideP E
  have hl' : (s.size : Int) ≤ 1048576 := by omega
  have SP := fun w => sParse_any s w hl
  have IP := fun w E => iParse_any s w E hl
  obtain ⟨L, hL⟩ : ∃ L, prL s.data.toList = L := ⟨_, rfl⟩
  rw [hL] at SP IP
  obtain ⟨hA7, hD24⟩ := rd_lens L
  obtain ⟨C, hC⟩ : ∃ C, rdC L = C := ⟨_, rfl⟩
  obtain ⟨q, hq⟩ : ∃ q, rdK L = q := ⟨_, rfl⟩
  obtain ⟨A, hAe⟩ : ∃ A, rdA L = A := ⟨_, rfl⟩
  obtain ⟨D, hDe⟩ : ∃ D, rdD L = D := ⟨_, rfl⟩
  unfold ReadAns at SP IP
  rw [hC, hq, hAe, hDe] at SP IP
  rw [hAe] at hA7
  rw [hDe] at hD24
  have SP' := hideP SP
  have IP' := hideP IP
  have hA : A.length ≤ 1048576 := by omega
  have hDl : D.length ≤ 1048576 := by omega
  clear E SP IP hC hq hAe hDe hL
  go_enter Tryd.func4, Tryd.ntmps4
  go_wp2_with fail
  refine Calls.mono (SP'.out w) ?_
  rintro e w3 ⟨aw, cw, bw, dw, mw, rfl, k3, hm1, hm2, A3, D3⟩
  have K3 := hideP k3
  have n3 := k3.size
  have W4 : Hid (PR (w3.alloc (.cells #[.int .i64 C, .int .i64 q, .slice aw A.length cw, .slice bw D.length dw] 36)) w3.heap.size w.heap.size mw w3.heap.size C q aw bw cw dw A D) := hideP (PR.new hm1 hm2 A3 D3)
  clear k3 A3 D3 hm1 hm2
  go_wp2_with fail
  have K4 := hideP (K3.out.trans ((kalR w3 (.cells #[.int .i64 C, .int .i64 q, .slice aw A.length cw, .slice bw D.length dw] 36)).mono (by omega)))
  have n4 : w3.heap.size < (w3.alloc (.cells #[.int .i64 C, .int .i64 q, .slice aw A.length cw, .slice bw D.length dw] 36)).heap.size := by simp
  generalize w3.alloc (.cells #[.int .i64 C, .int .i64 q, .slice aw A.length cw, .slice bw D.length dw] 36) = w4 at *
  refine Calls.mono (IP'.out w4 (HE.out.keep K4.out)) ?_
  rintro e w7 ⟨ag, cg, bg, dg, mg, rfl, k7, hm1, hm2, A7, D7⟩
  have K7 := hideP (K4.out.trans (k7.mono (by omega)))
  have W7 := hideP (W4.out.keep k7 (by omega) (by omega))
  have n7 := k7.size
  have G8 : Hid (PR (w7.alloc (.cells #[.int .i64 C, .int .i64 q, .slice ag A.length cg, .slice bg D.length dg] 36)) w7.heap.size w4.heap.size mg w7.heap.size C q ag bg cg dg A D) := hideP (PR.new hm1 hm2 A7 D7)
  clear k7 A7 D7 hm1 hm2 K3 K4 W4
  obtain ⟨r0, r1, r2, r3, r4, r5, r6, r7, r8⟩ := W7.out.box
  go_wp2_with fail
  clear r0 r1 r2 r3 r4 r5 r6 r7 r8
  have ka := kalR w7 (.cells #[.int .i64 C, .int .i64 q, .slice ag A.length cg, .slice bg D.length dg] 36)
  have K8 := hideP (K7.out.trans (ka.mono (by omega)))
  have W8 := hideP (W7.out.keep ka (by omega) (by omega))
  have n8 : w7.heap.size < (w7.alloc (.cells #[.int .i64 C, .int .i64 q, .slice ag A.length cg, .slice bg D.length dg] 36)).heap.size := by simp
  clear ka K7 W7
  generalize w7.alloc (.cells #[.int .i64 C, .int .i64 q, .slice ag A.length cg, .slice bg D.length dg] 36) = w8 at *
  refine Calls.mono (eqRR_same _ _ _ _ C q ag bg aw bw cg dg cw dw A D w8 G8.out.req.rowA G8.out.req.rowD W8.out.req.rowA W8.out.req.rowD (by omega) (by omega) hA hDl) ?_
  rintro e w13 ⟨rfl, k13⟩
  have K13 := hideP (K8.out.trans (k13.mono (by omega)))
  have W13 := hideP (W8.out.keep k13 (by omega) (by omega))
  have G13 := hideP (G8.out.keep k13 (by omega) (by omega))
  have n13 := k13.size
  clear k13 K8 W8 G8
  obtain ⟨s0, s1, s2, s3, s4, s5, s6, s7, s8⟩ := G13.out.box
  go_wp2_with fail
  clear s0 s1 s2 s3 s4 s5 s6 s7 s8
  refine Calls.mono (markRR_any _ _ _ C q ag bg cg dg 1 A D w13 G13.out.req hA hDl (by omega) (by omega)) ?_
  rintro e w14 ⟨rfl, f14, M14⟩
  have K14 := hideP (K13.out.trans (f14.below (B := w.heap.size) (by omega) (by omega)))
  have W14 := hideP (W13.out.far f14 (by omega) (by omega))
  have B14 := hideP (G13.out.box.far f14 (by omega))
  have M14' := hideP M14
  have n14 := f14.size
  clear f14 M14 K13 W13 G13
  obtain ⟨s0, s1, s2, s3, s4, s5, s6, s7, s8⟩ := B14.out
  go_wp2_with fail
  clear s0 s1 s2 s3 s4 s5 s6 s7 s8
  refine Calls.mono (heldRR_any _ _ C q ag bg cg dg A.length D.length 1 w14 M14'.out.rowA M14'.out.rowD (by omega) hA hDl (by omega) (by omega)) ?_
  rintro e w15 ⟨rfl, k15⟩
  have K15 := hideP (K14.out.trans (k15.mono (by omega)))
  have W15 := hideP (W14.out.keep k15 (by omega) (by omega))
  have B15 := hideP (B14.out.keep k15 (by omega))
  have M15 := hideP (M14'.out.keep k15 (by omega))
  have n15 := k15.size
  have hp0 : ¬ (1 + (A.length : Int) + (D.length : Int) < 0) := by omega
  have hpe : (1 + (A.length : Int) + (D.length : Int) != 1 + (A.length : Int) + (D.length : Int)) = false := by simp
  clear k15 K14 W14 B14 M14'
  go_wp2_with fail
  refine Calls.mono (IP'.out w15 (HE.out.keep K15.out)) ?_
  rintro e w17 ⟨ay, cy, by_, dy, my, rfl, k17, hm1, hm2, A17, D17⟩
  have K17 := hideP (K15.out.trans (k17.mono (by omega)))
  have W17 := hideP (W15.out.keep k17 (by omega) (by omega))
  have B17 := hideP (B15.out.keep k17 (by omega))
  have M17 := hideP (M15.out.keep k17 (by omega))
  have n17 := k17.size
  have H18 : Hid (PR (w17.alloc (.cells #[.int .i64 C, .int .i64 q, .slice ay A.length cy, .slice by_ D.length dy] 36)) w17.heap.size w15.heap.size my w17.heap.size C q ay by_ cy dy A D) := hideP (PR.new hm1 hm2 A17 D17)
  clear k17 A17 D17 hm1 hm2 K15 W15 B15 M15
  obtain ⟨r0, r1, r2, r3, r4, r5, r6, r7, r8⟩ := W17.out.box
  go_wp2_with fail
  clear r0 r1 r2 r3 r4 r5 r6 r7 r8
  have ka := kalR w17 (.cells #[.int .i64 C, .int .i64 q, .slice ay A.length cy, .slice by_ D.length dy] 36)
  have K18 := hideP (K17.out.trans (ka.mono (by omega)))
  have W18 := hideP (W17.out.keep ka (by omega) (by omega))
  have B18 := hideP (B17.out.keep ka (by omega))
  have M18 := hideP (M17.out.keep ka (by omega))
  have n18 : w17.heap.size < (w17.alloc (.cells #[.int .i64 C, .int .i64 q, .slice ay A.length cy, .slice by_ D.length dy] 36)).heap.size := by simp
  clear ka K17 W17 B17 M17
  generalize w17.alloc (.cells #[.int .i64 C, .int .i64 q, .slice ay A.length cy, .slice by_ D.length dy] 36) = w18 at *
  refine Calls.mono (eqRR_same _ _ _ _ C q ay by_ aw bw cy dy cw dw A D w18 H18.out.req.rowA H18.out.req.rowD W18.out.req.rowA W18.out.req.rowD (by omega) (by omega) hA hDl) ?_
  rintro e w19 ⟨rfl, k19⟩
  have K19 := hideP (K18.out.trans (k19.mono (by omega)))
  have B19 := hideP (B18.out.keep k19 (by omega))
  have M19 := hideP (M18.out.keep k19 (by omega))
  have n19 := k19.size
  clear k19 K18 W18 B18 M18 H18
  obtain ⟨s0, s1, s2, s3, s4, s5, s6, s7, s8⟩ := B19.out
  go_wp2_with fail
  clear s0 s1 s2 s3 s4 s5 s6 s7 s8
  refine Calls.mono (heldRR_any _ _ C q ag bg cg dg A.length D.length 1 w19 M19.out.rowA M19.out.rowD (by omega) hA hDl (by omega) (by omega)) ?_
  rintro e w20 ⟨rfl, k20⟩
  have K20 := hideP (K19.out.trans (k20.mono (by omega)))
  clear k20 K19 B19 M19
  go_wp2
  go_returns
  exact ⟨rfl, K20.out⟩

theorem parse_law (s : ByteArray) (w : World) (hs : s.size ≤ maxLen) (E : Env w) :
    Calls Tryd.prog 4 #[.string s] w fun e w' => e = .returned (.bool true) ∧ Below w.heap.size w w' := by
  by_cases h : s.size ≤ 1048576
  · exact parse_small s w E h
  · exact parse_big s w (by omega)

end Go.Proofs.YtlagcanbmenglajDoor
