/- LessRect: the model's, at every two rectangles. -/
import Derived.Test.YtbceacnadkhdoabLess1
import Derived.Deep.Cut
namespace Go.Proofs.Ytbceacnadkhdoab
open Go.RowKit
set_option linter.unusedVariables false

set_option maxHeartbeats 1000000 in
theorem sLess_no (a b : Rc) (w : World) (h : (a.flt || b.flt) = true) :
    Calls Try.prog 8 #[.agg #[.int .i64 a.x, .int .i64 a.y, .int .i64 a.w, .int .i64 a.h], .agg #[.int .i64 b.x, .int .i64 b.y, .int .i64 b.w, .int .i64 b.h]] w fun e w' => ∃ v, e = .returned v ∧ Below w.heap.size w w' ∧ Res 3 [] w v w' := by
  have H := hideP h
  clear h
  go_enter Try.func8, Try.ntmps8
  go_wp2_with fail
  refine Calls.mono (l2B_any w.heap.size 0 (w.heap.size + 1) 0 a b _ ⟨by simp [go_sem], by simp [go_sem], by simp [go_sem], by simp [go_sem]⟩ ⟨by simp [go_sem], by simp [go_sem], by simp [go_sem], by simp [go_sem]⟩) ?_
  rintro e w1 ⟨rfl, rfl⟩
  rw [H.out]
  simp only [rfOf, if_true]
  go_wp2
  refine bodyPost_ret (v := .agg #[.int .i64 3, .slice none 0 0]) (by simp [results, Try.results8, go_sem]) rfl ⟨_, rfl, by go_grown, none, 0, rfl, own_nil _ _⟩

set_option maxHeartbeats 4000000 in
theorem sLess_ok (a b : Rc) (w : World) (h : (a.flt || b.flt) = false) :
    Calls Try.prog 8 #[.agg #[.int .i64 a.x, .int .i64 a.y, .int .i64 a.w, .int .i64 a.h], .agg #[.int .i64 b.x, .int .i64 b.y, .int .i64 b.w, .int .i64 b.h]] w fun e w' => ∃ v, e = .returned v ∧ Below w.heap.size w w' ∧ Res 0 (lessL a b) w v w' := by
  have H := hideP h
  have BN := hideP (bnd a b h)
  have LN := hideP (lessL_len a b)
  obtain ⟨ha, hb⟩ := rfB_of h
  have B0 := hideP (rfB_no ha)
  have B1 := hideP (rfB_no hb)
  obtain ⟨⟨h1, h2⟩, ⟨h3, h4⟩, ⟨h5, h6⟩, h7, h8⟩ := rfB_no ha
  obtain ⟨⟨g1, g2⟩, ⟨g3, g4⟩, ⟨g5, g6⟩, g7, g8⟩ := rfB_no hb
  have F0 := hideP (fr_new w a b)
  clear h ha hb
  go_enter Try.func8, Try.ntmps8
  go_wp2_with fail
  refine Calls.mono (l2B_any w.heap.size 0 (w.heap.size + 1) 0 a b _ F0.out.ra F0.out.rb) ?_
  rintro e w1 ⟨rfl, rfl⟩
  rw [H.out]
  simp only [rfOf]
  go_wp2_with (first | (go_at_call 35; refine Calls.mono (max_any _ _ _) ?_; rintro e w1 ⟨rfl, rfl⟩) | (go_at_call 34; refine Calls.mono (min_any _ _ _) ?_; rintro e w1 ⟨rfl, rfl⟩))
  refine Calls.mono (sPut_any (w.heap.size + 3) _ 0 [] (lessM1 a b) _ _ _ _ _ rfl (own_new _ _ (by first | (simp; done) | (simp; omega) | omega)) (by first | (simp; done) | (simp; omega) | omega) (by first | (simp; done) | (simp; omega) | omega) (by have q := BN.out; simp only [lowI, topI] at q; have := B0.out; have := B1.out; omega) (by have q := BN.out; simp only [lowI, topI] at q; have := B0.out; have := B1.out; omega) (by have q := BN.out; simp only [lowI, topI] at q; have := B0.out; have := B1.out; omega) (by have q := BN.out; simp only [lowI, topI] at q; have := B0.out; have := B1.out; omega)) ?_
  rintro e w1 ⟨ao1, cap1, rfl, O1, k1⟩
  have F1 := hideP (Fr.keep (F0.out.keep (n := w.heap.size + 3) (by go_grown) (Nat.le_refl _)) k1 (Nat.le_refl _))
  have P1 := hideP O1
  clear O1 k1 F0
  obtain ⟨_, s1, ⟨a0, a1, a2, a3⟩, ⟨d0, d1, d2, d3⟩, r0, r1, z0, z1⟩ := F1.out
  have m1 : w.heap.size < w1.heap.size ∧ w.heap.size + 1 < w1.heap.size ∧ w.heap.size + 2 < w1.heap.size := by omega
  go_upto_region 9 with fail
  refine wp_region_kept_tail 9 (by kernel_rfl) (by kernel_rfl) ?_
  simp only [List.take_succ_cons, List.take_zero, List.drop_succ_cons, List.drop_zero]
  repeat (refine kept_step (by rfl) ?_; apply Exists.intro; refine ⟨fun w1 k1 => ?_, fun K hK => ?_⟩; (focus (have hc := Kept.cell k1; go_simp; first | done | rfl | (go_at_call 34; exact kept_call_same k1 (min_any _ _ _)))); (go_simp; refine hK _ ?_; clear hK K))
  refine wpQuiet_nil ?_
  intro w5 k5
  replace k5 := Kept.below k5
  have hc5 := Kept.cell k5
  have hf5 := Kept.frozen k5
  have hz5 := k5.size
  try simp only [World.size_alloc] at hz5
  try simp only [World.size_setCell] at hz5
  try simp only [World.size_drew] at hz5
  try (first | have hs5 := sz12 hz5 | have hs5 := sz11 hz5 | have hs5 := sz10 hz5 | have hs5 := sz9 hz5 | have hs5 := sz8 hz5 | have hs5 := sz7 hz5 | have hs5 := sz6 hz5 | have hs5 := sz5 hz5 | have hs5 := sz4 hz5 | have hs5 := sz3 hz5 | have hs5 := sz2 hz5 | have hs5 := sz1 hz5)
  have F5 := hideP (F1.out.keep k5 F1.out.sz)
  have P5 := hideP (P1.out.keep k5)
  clear k5 hc5 hf5 hz5 P1 F1
  clear a0 a1 a2 a3 d0 d1 d2 d3 r0 r1 z0 z1 s1 m1
  go_wp2_with fail
  refine Calls.mono (sPut_any (w.heap.size + 3) _ cap1 (lessM1 a b) (lessM2 a b) _ _ _ _ _ rfl P5.out F5.out.sz (by have := LN.out; omega) (by have q := BN.out; simp only [lowI, topI] at q; have := B0.out; have := B1.out; omega) (by have q := BN.out; simp only [lowI, topI] at q; have := B0.out; have := B1.out; omega) (by have q := BN.out; simp only [lowI, topI] at q; have := B0.out; have := B1.out; omega) (by have q := BN.out; simp only [lowI, topI] at q; have := B0.out; have := B1.out; omega)) ?_
  rintro e w2 ⟨ao2, cap2, rfl, O2, k2⟩
  have F2 := hideP (F5.out.keep k2 (Nat.le_refl _))
  have P2 := hideP O2
  clear O2 k2 F5 P5
  obtain ⟨_, s2, ⟨a0, a1, a2, a3⟩, ⟨d0, d1, d2, d3⟩, r0, r1, z0, z1⟩ := F2.out
  have m2 : w.heap.size < w2.heap.size ∧ w.heap.size + 1 < w2.heap.size ∧ w.heap.size + 2 < w2.heap.size := by omega
  go_wp2_with (first | (go_at_call 35; refine Calls.mono (max_any _ _ _) ?_; rintro e w7 ⟨rfl, rfl⟩) | (go_at_call 34; refine Calls.mono (min_any _ _ _) ?_; rintro e w7 ⟨rfl, rfl⟩))
  refine Calls.mono (sPut_any (w.heap.size + 3) _ cap2 (lessM2 a b) (lessM3 a b) _ _ _ _ _ rfl P2.out F2.out.sz (by have := LN.out; omega) (by have q := BN.out; simp only [lowI, topI] at q; have := B0.out; have := B1.out; omega) (by have q := BN.out; simp only [lowI, topI] at q; have := B0.out; have := B1.out; omega) (by have q := BN.out; simp only [lowI, topI] at q; have := B0.out; have := B1.out; omega) (by have q := BN.out; simp only [lowI, topI] at q; have := B0.out; have := B1.out; omega)) ?_
  rintro e w3 ⟨ao3, cap3, rfl, O3, k3⟩
  have F3 := hideP (F2.out.keep k3 (Nat.le_refl _))
  have P3 := hideP O3
  clear O3 k3 F2 P2
  clear a0 a1 a2 a3 d0 d1 d2 d3 r0 r1 z0 z1 s2 m2
  obtain ⟨_, s3, ⟨a0, a1, a2, a3⟩, ⟨d0, d1, d2, d3⟩, r0, r1, z0, z1⟩ := F3.out
  have m3 : w.heap.size < w3.heap.size ∧ w.heap.size + 1 < w3.heap.size ∧ w.heap.size + 2 < w3.heap.size := by omega
  go_wp2_with fail
  refine Calls.mono (sPut_any (w.heap.size + 3) _ cap3 (lessM3 a b) (lessL a b) _ _ _ _ _ rfl P3.out F3.out.sz (by have := LN.out; omega) (by have q := BN.out; simp only [lowI, topI] at q; have := B0.out; have := B1.out; omega) (by have q := BN.out; simp only [lowI, topI] at q; have := B0.out; have := B1.out; omega) (by have q := BN.out; simp only [lowI, topI] at q; have := B0.out; have := B1.out; omega) (by have q := BN.out; simp only [lowI, topI] at q; have := B0.out; have := B1.out; omega)) ?_
  rintro e w4 ⟨ao4, cap4, rfl, O4, k4⟩
  have F4 := hideP (F3.out.keep k4 (Nat.le_refl _))
  have P4 := hideP O4
  clear O4 k4 F3 P3
  clear a0 a1 a2 a3 d0 d1 d2 d3 r0 r1 z0 z1 s3 m3
  obtain ⟨_, s4, ⟨a0, a1, a2, a3⟩, ⟨d0, d1, d2, d3⟩, r0, r1, z0, z1⟩ := F4.out
  have m4 : w.heap.size < w4.heap.size ∧ w.heap.size + 1 < w4.heap.size ∧ w.heap.size + 2 < w4.heap.size := by omega
  go_wp2
  refine bodyPost_ret (v := .agg #[.int .i64 0, .slice ao4 (lessL a b).length cap4]) (by simp [results, Try.results8, go_sem, *]; done) rfl ⟨_, rfl, ?_, ao4, cap4, rfl, ?_⟩
  · exact (F4.out.kb.setCell (by first | (simp; done) | (simp; omega) | omega) _).setCell (by first | (simp; done) | (simp; omega) | omega) _
  · exact ((P4.out.set _ 0 _ (by omega)).set _ 1 _ (by omega)).base (by omega)

end Go.Proofs.Ytbceacnadkhdoab
