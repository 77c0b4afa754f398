/- LessRect: the program's, at every two rectangles. -/
import Derived.Test.YtbceacnadkhdoaaLess1
import Derived.Deep.Cut
namespace Go.Proofs.Ytbceacnadkhdoaa
open Go.RowKit
set_option linter.unusedVariables false
attribute [local go_sem high] run_max_mx run_min_mn

set_option maxHeartbeats 1000000 in
theorem iLess_no (a b : Rc) (w : World) (h : (a.flt || b.flt) = true) :
    Calls Try.prog 11 #[.agg #[.int .i64 a.x, .int .i64 a.y, .int .i64 a.w, .int .i64 a.h], .agg #[.int .i64 b.x, .int .i64 b.y, .int .i64 b.w, .int .i64 b.h]] w fun e w' => ∃ v, e = .returned v ∧ Below w.heap.size w w' ∧ Res 3 [] w v w' := by
  have H := hideP (show rfOf (fltL [a, b]) = 3 by rw [fltL_two, h]; rfl)
  clear h
  go_enter Try.func11, Try.ntmps11
  go_wp2_with fail
  refine Calls.mono (fo_any (w.heap.size + 3) (w.heap.size + 3 + 1) _ 2 [a, b] _ (lst_two _ a b _ (by first | (simp; done) | (simp; omega) | omega)) (by first | (simp; done) | (simp; omega) | omega) (by simp)) ?_
  rintro e w1 ⟨rfl, k1⟩
  rw [H.out]
  replace k1 := Kept.below k1
  have hc1 := Kept.cell k1
  have hf1 := Kept.frozen k1
  have hz1 := k1.size
  try simp only [World.size_alloc] at hz1
  try simp only [World.size_setCell] at hz1
  try simp only [World.size_drew] at hz1
  have hb1_0 : w.heap.size < w1.heap.size ∧ w.heap.size ≤ w1.heap.size ∧ w.heap.size ≤ w1.heap.size + 1 ∧ ¬ w.heap.size = w1.heap.size ∧ ¬ w.heap.size = w1.heap.size + 1 := by omega
  have hb1_1 : w.heap.size + 1 < w1.heap.size ∧ w.heap.size + 1 ≤ w1.heap.size ∧ w.heap.size + 1 ≤ w1.heap.size + 1 ∧ ¬ w.heap.size + 1 = w1.heap.size ∧ ¬ w.heap.size + 1 = w1.heap.size + 1 := by omega
  have hb1_2 : w.heap.size + 2 < w1.heap.size ∧ w.heap.size + 2 ≤ w1.heap.size ∧ w.heap.size + 2 ≤ w1.heap.size + 1 ∧ ¬ w.heap.size + 2 = w1.heap.size ∧ ¬ w.heap.size + 2 = w1.heap.size + 1 := by omega
  go_wp2
  refine bodyPost_ret (v := .agg #[.int .i64 3, .slice none 0 0]) (by simp [results, Try.results11, go_sem, *]; done) rfl ⟨_, rfl, ?_, none, 0, rfl, own_nil _ _⟩
  repeat' (first | (with_reducible exact Below.refl _ _) | (with_reducible refine kept_below ?_ (by assumption) ?_) | (with_reducible refine Below.alloc ?_ ?_ _) | (with_reducible refine Below.drew ?_) | (with_reducible refine Below.setCell ?_ ?_ _) | go_size)

set_option maxHeartbeats 4000000 in
theorem iLess_ok (a b : Rc) (w : World) (h : (a.flt || b.flt) = false) :
    Calls Try.prog 11 #[.agg #[.int .i64 a.x, .int .i64 a.y, .int .i64 a.w, .int .i64 a.h], .agg #[.int .i64 b.x, .int .i64 b.y, .int .i64 b.w, .int .i64 b.h]] w fun e w' => ∃ v, e = .returned v ∧ Below w.heap.size w w' ∧ Res 0 (lessL a b) w v w' := by
  rw [← less_eq a b h]
  have H := hideP (show rfOf (fltL [a, b]) = 0 by rw [fltL_two, h]; rfl)
  have BN := hideP (bnd a b h)
  have LN := hideP (lessI_len a b)
  obtain ⟨ha, hb⟩ := rfB_of h
  have B0 := hideP (rfB_no ha)
  have B1 := hideP (rfB_no hb)
  have F0 := hideP (fr_new w a b)
  clear h
  go_enter Try.func11, Try.ntmps11
  go_wp2_with fail
  refine Calls.mono (fo_any (w.heap.size + 3) (w.heap.size + 3 + 1) _ 2 [a, b] _ (lst_two _ a b _ (by first | (simp; done) | (simp; omega) | omega)) (by first | (simp; done) | (simp; omega) | omega) (by simp)) ?_
  rintro e w1 ⟨rfl, k1⟩
  rw [H.out]
  have F1 := hideP (Fr.keep (F0.out.keep (n := w.heap.size + 3) (by go_grown) (Nat.le_refl _)) k1 (by first | (simp; done) | (simp; omega) | omega))
  clear k1 F0
  obtain ⟨_, s1, ⟨a0, a1, a2, a3⟩, ⟨d0, d1, d2, d3⟩, r0, r1, z0, z1⟩ := F1.out
  have m1 : w.heap.size < w1.heap.size ∧ w.heap.size + 1 < w1.heap.size ∧ w.heap.size + 2 < w1.heap.size := by omega
  go_upto_region 4 with fail
  refine wp_region_kept (by kernel_rfl) (by kernel_rfl) ?_
  repeat (refine kept_step (by rfl) ?_; apply Exists.intro; refine ⟨fun w1 k1 => ?_, fun K hK => ?_⟩; (focus (have hc := Kept.cell k1; go_simp; first | done | rfl | (go_at_call 39; exact kept_call k1 (re_any _ _ _ _ _ (by assumption))) | (go_at_call 40; exact kept_call k1 (le_any _ _ _ _ _ (by assumption))))); (go_simp; refine hK _ ?_; clear hK K))
  refine wpQuiet_nil ?_
  intro w5 k5
  replace k5 := Kept.below k5
  have hc5 := Kept.cell k5
  have hf5 := Kept.frozen k5
  have hz5 := k5.size
  try simp only [World.size_alloc] at hz5
  try simp only [World.size_setCell] at hz5
  try simp only [World.size_drew] at hz5
  try (first | have hs5 := sz12 hz5 | have hs5 := sz11 hz5 | have hs5 := sz10 hz5 | have hs5 := sz9 hz5 | have hs5 := sz8 hz5 | have hs5 := sz7 hz5 | have hs5 := sz6 hz5 | have hs5 := sz5 hz5 | have hs5 := sz4 hz5 | have hs5 := sz3 hz5 | have hs5 := sz2 hz5 | have hs5 := sz1 hz5)
  have F5 := hideP (F1.out.keep k5 F1.out.sz)
  clear k5 hc5 hf5 hz5 F1
  clear a0 a1 a2 a3 d0 d1 d2 d3 r0 r1 z0 z1 s1 m1
  obtain ⟨_, s5, ⟨a0, a1, a2, a3⟩, ⟨d0, d1, d2, d3⟩, r0, r1, z0, z1⟩ := F5.out
  have m5 : w.heap.size < w5.heap.size ∧ w.heap.size + 1 < w5.heap.size ∧ w.heap.size + 2 < w5.heap.size := by omega
  go_upto_region 5 with fail
  refine wp_region_kept (by kernel_rfl) (by kernel_rfl) ?_
  repeat (refine kept_step (by rfl) ?_; apply Exists.intro; refine ⟨fun w1 k1 => ?_, fun K hK => ?_⟩; (focus (have hc := Kept.cell k1; go_simp; first | done | rfl | (go_at_call 39; exact kept_call k1 (re_any _ _ _ _ _ (by assumption))) | (go_at_call 40; exact kept_call k1 (le_any _ _ _ _ _ (by assumption))))); (go_simp; refine hK _ ?_; clear hK K))
  refine wpQuiet_nil ?_
  intro w6 k6
  replace k6 := Kept.below k6
  have hc6 := Kept.cell k6
  have hf6 := Kept.frozen k6
  have hz6 := k6.size
  try simp only [World.size_alloc] at hz6
  try simp only [World.size_setCell] at hz6
  try simp only [World.size_drew] at hz6
  try (first | have hs6 := sz12 hz6 | have hs6 := sz11 hz6 | have hs6 := sz10 hz6 | have hs6 := sz9 hz6 | have hs6 := sz8 hz6 | have hs6 := sz7 hz6 | have hs6 := sz6 hz6 | have hs6 := sz5 hz6 | have hs6 := sz4 hz6 | have hs6 := sz3 hz6 | have hs6 := sz2 hz6 | have hs6 := sz1 hz6)
  have F6 := hideP (F5.out.keep k6 F5.out.sz)
  clear k6 hc6 hf6 hz6 F5
  clear a0 a1 a2 a3 d0 d1 d2 d3 r0 r1 z0 z1 s5 m5
  obtain ⟨_, s6, ⟨a0, a1, a2, a3⟩, ⟨d0, d1, d2, d3⟩, r0, r1, z0, z1⟩ := F6.out
  have m6 : w.heap.size < w6.heap.size ∧ w.heap.size + 1 < w6.heap.size ∧ w.heap.size + 2 < w6.heap.size := by omega
  go_wp2_with fail
  refine Calls.mono (iPut_any (w.heap.size + 3) _ 0 [] (lessI1 a b) _ _ _ _ _ rfl (own_nil _ _) F6.out.sz (by have := LN.out; first | (simp; done) | (simp; omega)) (by have q := BN.out; simp only [lowI, topI] at q; have := B0.out; have := B1.out; omega) (by have q := BN.out; simp only [lowI, topI] at q; have := B0.out; have := B1.out; omega) (by have q := BN.out; simp only [lowI, topI] at q; have := B0.out; have := B1.out; omega) (by have q := BN.out; simp only [lowI, topI] at q; have := B0.out; have := B1.out; omega)) ?_
  rintro e w7 ⟨ao7, cap7, rfl, O7, k7⟩
  have F7 := hideP (F6.out.keep k7 (Nat.le_refl _))
  have P7 := hideP O7
  clear O7 k7 F6
  clear a0 a1 a2 a3 d0 d1 d2 d3 r0 r1 z0 z1 s6 m6
  obtain ⟨_, s7, ⟨a0, a1, a2, a3⟩, ⟨d0, d1, d2, d3⟩, r0, r1, z0, z1⟩ := F7.out
  have m7 : w.heap.size < w7.heap.size ∧ w.heap.size + 1 < w7.heap.size ∧ w.heap.size + 2 < w7.heap.size := by omega
  go_wp2_with fail
  refine Calls.mono (iPut_any (w.heap.size + 3) _ cap7 (lessI1 a b) (lessI2 a b) _ _ _ _ _ rfl P7.out F7.out.sz (by have := LN.out; first | (simp; done) | (simp; omega)) (by have q := BN.out; simp only [lowI, topI] at q; have := B0.out; have := B1.out; omega) (by have q := BN.out; simp only [lowI, topI] at q; have := B0.out; have := B1.out; omega) (by have q := BN.out; simp only [lowI, topI] at q; have := B0.out; have := B1.out; omega) (by have q := BN.out; simp only [lowI, topI] at q; have := B0.out; have := B1.out; omega)) ?_
  rintro e w8 ⟨ao8, cap8, rfl, O8, k8⟩
  have F8 := hideP (F7.out.keep k8 (Nat.le_refl _))
  have P8 := hideP O8
  clear O8 k8 F7 P7
  clear a0 a1 a2 a3 d0 d1 d2 d3 r0 r1 z0 z1 s7 m7
  obtain ⟨_, s8, ⟨a0, a1, a2, a3⟩, ⟨d0, d1, d2, d3⟩, r0, r1, z0, z1⟩ := F8.out
  have m8 : w.heap.size < w8.heap.size ∧ w.heap.size + 1 < w8.heap.size ∧ w.heap.size + 2 < w8.heap.size := by omega
  go_upto_region 9 with fail
  refine wp_region_kept_tail 9 (by kernel_rfl) (by kernel_rfl) ?_
  simp only [List.take_succ_cons, List.take_zero, List.drop_succ_cons, List.drop_zero]
  repeat (refine kept_step (by rfl) ?_; apply Exists.intro; refine ⟨fun w1 k1 => ?_, fun K hK => ?_⟩; (focus (have hc := Kept.cell k1; go_simp; first | done | rfl | (go_at_call 39; exact kept_call k1 (re_any _ _ _ _ _ (by assumption))) | (go_at_call 40; exact kept_call k1 (le_any _ _ _ _ _ (by assumption))))); (go_simp; refine hK _ ?_; clear hK K))
  refine wpQuiet_nil ?_
  intro w9 k9
  replace k9 := Kept.below k9
  have hc9 := Kept.cell k9
  have hf9 := Kept.frozen k9
  have hz9 := k9.size
  try simp only [World.size_alloc] at hz9
  try simp only [World.size_setCell] at hz9
  try simp only [World.size_drew] at hz9
  try (first | have hs9 := sz12 hz9 | have hs9 := sz11 hz9 | have hs9 := sz10 hz9 | have hs9 := sz9 hz9 | have hs9 := sz8 hz9 | have hs9 := sz7 hz9 | have hs9 := sz6 hz9 | have hs9 := sz5 hz9 | have hs9 := sz4 hz9 | have hs9 := sz3 hz9 | have hs9 := sz2 hz9 | have hs9 := sz1 hz9)
  have F9 := hideP (F8.out.keep k9 F8.out.sz)
  have P9 := hideP (P8.out.keep k9)
  clear k9 hc9 hf9 hz9 P8 F8
  clear a0 a1 a2 a3 d0 d1 d2 d3 r0 r1 z0 z1 s8 m8
  go_wp2_with fail
  refine Calls.mono (iPut_any (w.heap.size + 3) _ cap8 (lessI2 a b) (lessI3 a b) _ _ _ _ _ rfl P9.out F9.out.sz (by have := LN.out; first | (simp; done) | (simp; omega)) (by have q := BN.out; simp only [lowI, topI] at q; have := B0.out; have := B1.out; omega) (by have q := BN.out; simp only [lowI, topI] at q; have := B0.out; have := B1.out; omega) (by have q := BN.out; simp only [lowI, topI] at q; have := B0.out; have := B1.out; omega) (by have q := BN.out; simp only [lowI, topI] at q; have := B0.out; have := B1.out; omega)) ?_
  rintro e w10 ⟨ao10, cap10, rfl, O10, k10⟩
  have F10 := hideP (F9.out.keep k10 (Nat.le_refl _))
  have P10 := hideP O10
  clear O10 k10 F9 P9
  obtain ⟨_, s10, ⟨a0, a1, a2, a3⟩, ⟨d0, d1, d2, d3⟩, r0, r1, z0, z1⟩ := F10.out
  have m10 : w.heap.size < w10.heap.size ∧ w.heap.size + 1 < w10.heap.size ∧ w.heap.size + 2 < w10.heap.size := by omega
  go_upto_region 10 with fail
  refine wp_region_kept_tail 10 (by kernel_rfl) (by kernel_rfl) ?_
  simp only [List.take_succ_cons, List.take_zero, List.drop_succ_cons, List.drop_zero]
  repeat (refine kept_step (by rfl) ?_; apply Exists.intro; refine ⟨fun w1 k1 => ?_, fun K hK => ?_⟩; (focus (have hc := Kept.cell k1; go_simp; first | done | rfl | (go_at_call 39; exact kept_call k1 (re_any _ _ _ _ _ (by assumption))) | (go_at_call 40; exact kept_call k1 (le_any _ _ _ _ _ (by assumption))))); (go_simp; refine hK _ ?_; clear hK K))
  refine wpQuiet_nil ?_
  intro w11 k11
  replace k11 := Kept.below k11
  have hc11 := Kept.cell k11
  have hf11 := Kept.frozen k11
  have hz11 := k11.size
  try simp only [World.size_alloc] at hz11
  try simp only [World.size_setCell] at hz11
  try simp only [World.size_drew] at hz11
  try (first | have hs11 := sz12 hz11 | have hs11 := sz11 hz11 | have hs11 := sz10 hz11 | have hs11 := sz9 hz11 | have hs11 := sz8 hz11 | have hs11 := sz7 hz11 | have hs11 := sz6 hz11 | have hs11 := sz5 hz11 | have hs11 := sz4 hz11 | have hs11 := sz3 hz11 | have hs11 := sz2 hz11 | have hs11 := sz1 hz11)
  have F11 := hideP (F10.out.keep k11 F10.out.sz)
  have P11 := hideP (P10.out.keep k11)
  clear k11 hc11 hf11 hz11 P10 F10
  clear a0 a1 a2 a3 d0 d1 d2 d3 r0 r1 z0 z1 s10 m10
  go_wp2_with fail
  refine Calls.mono (iPut_any (w.heap.size + 3) _ cap10 (lessI3 a b) (lessI a b) _ _ _ _ _ rfl P11.out F11.out.sz (by have := LN.out; first | (simp; done) | (simp; omega)) (by have q := BN.out; simp only [lowI, topI] at q; have := B0.out; have := B1.out; omega) (by have q := BN.out; simp only [lowI, topI] at q; have := B0.out; have := B1.out; omega) (by have q := BN.out; simp only [lowI, topI] at q; have := B0.out; have := B1.out; omega) (by have q := BN.out; simp only [lowI, topI] at q; have := B0.out; have := B1.out; omega)) ?_
  rintro e w12 ⟨ao12, cap12, rfl, O12, k12⟩
  have F12 := hideP (F11.out.keep k12 (Nat.le_refl _))
  have P12 := hideP O12
  clear O12 k12 F11 P11
  obtain ⟨_, s12, ⟨a0, a1, a2, a3⟩, ⟨d0, d1, d2, d3⟩, r0, r1, z0, z1⟩ := F12.out
  have m12 : w.heap.size < w12.heap.size ∧ w.heap.size + 1 < w12.heap.size ∧ w.heap.size + 2 < w12.heap.size := by omega
  go_wp2
  refine bodyPost_ret (v := .agg #[.int .i64 0, .slice ao12 (lessI a b).length cap12]) (by simp [results, Try.results11, go_sem, *]; done) rfl ⟨_, rfl, ?_, ao12, cap12, rfl, ?_⟩
  · exact (F12.out.kb.setCell (by first | (simp; done) | (simp; omega) | omega) _).setCell (by first | (simp; done) | (simp; omega) | omega) _
  · exact ((P12.out.set _ 0 _ (by omega)).set _ 1 _ (by omega)).base (by omega)

end Go.Proofs.Ytbceacnadkhdoaa
