/- LessRect: the law's walk. -/
import Derived.Test.YtbceacnadkhdoabCut4
import Derived.Test.YtbceacnadkhdoabLess2
import Derived.Test.YtbceacnadkhdoabLess3
import Derived.Deep.Cut
namespace Go.Proofs.Ytbceacnadkhdoab
open Go.RowKit
set_option linter.unusedVariables false
attribute [local go_sem] growUpon growAt madeUpon madeAt

theorem less_any_s (a b : Rc) (w : World) :
    Calls Try.prog 8 #[.agg #[.int .i64 a.x, .int .i64 a.y, .int .i64 a.w, .int .i64 a.h], .agg #[.int .i64 b.x, .int .i64 b.y, .int .i64 b.w, .int .i64 b.h]] w fun e w' => ∃ v, e = .returned v ∧ Below w.heap.size w w' ∧ Res (rfOf (a.flt || b.flt)) (lessR a b) w v w' := by
  cases h : (a.flt || b.flt)
  · have e : lessR a b = lessL a b := by unfold lessR; rw [h]; rfl
    rw [e]; exact sLess_ok a b w h
  · have e : lessR a b = [] := by unfold lessR; rw [h]; rfl
    rw [e]; exact sLess_no a b w h

theorem less_any_i (a b : Rc) (w : World) :
    Calls Try.prog 10 #[.agg #[.int .i64 a.x, .int .i64 a.y, .int .i64 a.w, .int .i64 a.h], .agg #[.int .i64 b.x, .int .i64 b.y, .int .i64 b.w, .int .i64 b.h]] w fun e w' => ∃ v, e = .returned v ∧ Below w.heap.size w w' ∧ Res (rfOf (a.flt || b.flt)) (lessR a b) w v w' := by
  cases h : (a.flt || b.flt)
  · have e : lessR a b = lessL a b := by unfold lessR; rw [h]; rfl
    rw [e]; exact iLess_ok a b w h
  · have e : lessR a b = [] := by unfold lessR; rw [h]; rfl
    rw [e]; exact iLess_no a b w h

theorem lessR_len (a b : Rc) : (lessR a b).length ≤ 4 := by
  unfold lessR
  split
  · simp
  · exact (lessL_len a b).2.2.2

set_option maxHeartbeats 4000000 in
theorem less_law (a b : Rc) (w : World) :
    Calls Try.prog 3 #[.agg #[.int .i64 a.x, .int .i64 a.y, .int .i64 a.w, .int .i64 a.h], .agg #[.int .i64 b.x, .int .i64 b.y, .int .i64 b.w, .int .i64 b.h]] w fun e w' => e = .returned (.bool true) ∧ Below w.heap.size w w' := by
  have HL := hideP (lessR_len a b)
  obtain ⟨C, hC⟩ : ∃ C, C = rfOf (a.flt || b.flt) := ⟨_, rfl⟩
  obtain ⟨L, hL⟩ : ∃ L, L = lessR a b := ⟨_, rfl⟩
  have SA := hideP (less_any_s a b)
  have SI := hideP (less_any_i a b)
  rw [← hC, ← hL] at SA SI
  rw [← hL] at HL
  clear hC hL
  have hl : L.length ≤ 4 := by have := HL.out; omega
  have hl' : (L.length : Int) ≤ 4 := by omega
  go_enter Try.func3, Try.ntmps3
  go_wp2
  refine wp_region_called 4 rfl rfl (Res C L) (.cells #[.int .i64 0, .slice none 0 0] 26) (by kernel_rfl) (by kernel_rfl) ?_
  simp only [List.take_succ_cons, List.take_zero, List.drop_succ_cons, List.drop_zero]
  repeat (refine grow_step (by rfl) ?_; apply Exists.intro; refine ⟨fun w1 k1 => ?_, fun K hK => ?_⟩; (focus (have hc := Kept.cell k1; go_simp; first | done | rfl | (go_at_call 9; exact toRect_any _ _ _ _ _))); (go_simp; refine hK _ ?_; clear hK K))
  refine grow_nil ?_
  refine ⟨by rfl, by rfl, fun w1 k1 => (by go_simp; exact SA.out w1), fun w1 => (by go_simp), fun v B5 w5 h5 => ?_⟩
  obtain ⟨ao5, cap5, lo5, hi5, rfl, b5, c50, c51, f50, f51, G50⟩ := got_of h5
  have G5 := hideP G50
  clear G50 h5
  go_wp2
  clear b5 c50 c51 f50 f51
  generalize (w5.setCell ⟨B5, 0, none⟩ (.int .i64 C)).setCell ⟨B5, 1, none⟩ (.slice ao5 L.length cap5) = W5 at *
  clear w5
  have A5 := hideP (IsRect.keep (b := w.heap.size) (o := 0) (x := a.x) (y := a.y) (ww := a.w) (hh := a.h) ⟨by simp [go_sem], by simp [go_sem], by simp [go_sem], by simp [go_sem]⟩ G5.out.below (by first | (simp; done) | (simp; omega) | omega))
  have D5 := hideP (IsRect.keep (b := w.heap.size + 1) (o := 0) (x := b.x) (y := b.y) (ww := b.w) (hh := b.h) ⟨by simp [go_sem], by simp [go_sem], by simp [go_sem], by simp [go_sem]⟩ G5.out.below (by first | (simp; done) | (simp; omega) | omega))
  have K5 : Hid (Below w.heap.size w W5) := Below.trans (by go_grown) (G5.out.below.mono (by first | (simp; done) | (simp; omega) | omega))
  have n5 : w.heap.size < W5.heap.size ∧ w.heap.size + 1 < W5.heap.size := by have h := G5.out.below.size; simp only [World.size_alloc] at h; exact ⟨Nat.lt_of_lt_of_le (by omega) h, Nat.lt_of_lt_of_le (by omega) h⟩
  have hB5 := hideP G5.out.box
  have L5 := hideP G5.out.lst
  have h5 := hideP G5.out.hi_
  clear G5
  have hA := A5.out
  have hD := D5.out
  obtain ⟨a0, a1, a2, a3⟩ := hA
  obtain ⟨d0, d1, d2, d3⟩ := hD
  refine wp_region_called 4 rfl rfl (Res C L) (.cells #[.int .i64 0, .slice none 0 0] 26) (by kernel_rfl) (by kernel_rfl) ?_
  simp only [List.take_succ_cons, List.take_zero, List.drop_succ_cons, List.drop_zero]
  repeat (refine grow_step (by rfl) ?_; apply Exists.intro; refine ⟨fun w1 k1 => ?_, fun K hK => ?_⟩; (focus (have hc := Kept.cell k1; go_simp; first | done | rfl | (go_at_call 9; exact toRect_any _ _ _ _ _))); (go_simp; refine hK _ ?_; clear hK K))
  refine grow_nil ?_
  refine ⟨by rfl, by rfl, fun w1 k1 => (by go_simp; exact SI.out w1), fun w1 => (by go_simp), fun v B6 w6 h6 => ?_⟩
  obtain ⟨ao6, cap6, lo6, hi6, rfl, b6, c60, c61, f60, f61, G60⟩ := got_of h6
  have G6 := hideP G60
  clear G60 h6
  clear a0 a1 a2 a3 d0 d1 d2 d3
  have S6 : Hid (Sit w ((w6.setCell ⟨B6, 0, none⟩ (.int .i64 C)).setCell ⟨B6, 1, none⟩ (.slice ao6 L.length cap6)) a b ((w6.setCell ⟨B6, 0, none⟩ (.int .i64 C)).setCell ⟨B6, 1, none⟩ (.slice ao6 L.length cap6)).heap.size B5 B6 lo5 hi5 lo6 hi6 C ao5 cap5 ao6 cap6 L L) := by
    have g := G6.out
    have k := g.below
    have hs := k.size
    have := h5.out
    have := hB5.out.lt
    have := g.box.lt
    have := g.hi_
    exact ⟨K5.out.trans (k.mono K5.out.size), Nat.le_refl _, A5.out.keep k n5.1, D5.out.keep k n5.2, hB5.out.keep k hB5.out.lt, g.box, L5.out.keep k h5.out, g.lst, by omega⟩
  have O6 := hideP G6.out.own
  have F6 := hideP G6.out.blk
  have Z6 : Hid ((w.heap.size + 1 < lo6 ∧ B5 < lo6 ∧ hi5 ≤ lo6) ∧ (B6 < lo6 ∨ hi6 ≤ B6) ∧ lo6 ≤ hi6) := by
    have g := G6.out
    have := g.lo_
    have := h5.out
    have := hB5.out.lt
    exact ⟨by omega, g.off, g.lohi⟩
  clear G6 A5 D5 K5 hB5 L5 h5
  go_upto_region 3 with fail
  clear b6 c60 c61 f60 f61
  generalize (w6.setCell ⟨B6, 0, none⟩ (.int .i64 C)).setCell ⟨B6, 1, none⟩ (.slice ao6 L.length cap6) = W6 at *
  clear w6 n5
  have e5 := S6.out.x5
  have e6 := S6.out.x6
  obtain ⟨e50, e51, e52⟩ := e5
  obtain ⟨e60, e61, e62⟩ := e6
  go_wp2_with fail
  clear e50 e51 e52 e60 e61 e62
  refine Calls.mono (eqRR_same lo6 hi6 lo5 hi5 C ao6 ao5 cap6 cap5 L W6 S6.out.l6 S6.out.l5 S6.out.n.2.2.2.2 S6.out.n.2.2.2.1 (by omega)) ?_
  rintro e w7 ⟨rfl, k7⟩
  have S7 := hideP (S6.out.keep k7)
  have e6 := S7.out.x6
  obtain ⟨e60, e61, e62⟩ := e6
  go_wp2_with fail
  clear e60 e61 e62
  refine Calls.mono (markRR_any W6 lo6 hi6 C ao6 cap6 L 1 w7 O6.out (fun g h => (F6.out g h).2) k7 (by omega) (by omega) (by omega)) ?_
  rintro e w8 ⟨rfl, m8⟩
  have S8 := hideP (S7.out.mark m8 Z6.out.1 Z6.out.2.1 (by have := S6.out.n; have := k7.size; have := Z6.out; omega))
  clear k7 m8 S6 S7
  have e6 := S8.out.x6
  obtain ⟨e60, e61, e62⟩ := e6
  go_wp2_with fail
  clear e60 e61 e62
  refine Calls.mono (heldRR_any lo6 hi6 C ao6 cap6 L.length 1 w8 S8.out.l6 (by have := S8.out.n; have := S8.out.sz; omega) (by omega) (by omega) (by omega)) ?_
  rintro e w9 ⟨rfl, k9⟩
  have S9 := hideP (S8.out.keep k9)
  clear k9 S8
  go_upto_region 13 with fail
  have hA := S9.out.ra
  have hD := S9.out.rb
  have n9 : w.heap.size < w9.heap.size ∧ w.heap.size + 1 < w9.heap.size := by have := S9.out.n; have := S9.out.sz; omega
  obtain ⟨a0, a1, a2, a3⟩ := hA
  obtain ⟨d0, d1, d2, d3⟩ := hD
  refine wp_region_called 4 rfl rfl (Res C L) (.cells #[.int .i64 0, .slice none 0 0] 26) (by kernel_rfl) (by kernel_rfl) ?_
  simp only [List.take_succ_cons, List.take_zero, List.drop_succ_cons, List.drop_zero]
  repeat (refine grow_step (by rfl) ?_; apply Exists.intro; refine ⟨fun w1 k1 => ?_, fun K hK => ?_⟩; (focus (have hc := Kept.cell k1; go_simp; first | done | rfl | (go_at_call 9; exact toRect_any _ _ _ _ _))); (go_simp; refine hK _ ?_; clear hK K))
  refine grow_nil ?_
  refine ⟨by rfl, by rfl, fun w1 k1 => (by go_simp; exact SI.out w1), fun w1 => (by go_simp), fun v B13 w13 h13 => ?_⟩
  obtain ⟨ao13, cap13, lo13, hi13, rfl, b13, c130, c131, f130, f131, G130⟩ := got_of h13
  have G13 := hideP G130
  clear G130 h13
  go_upto_region 14 with fail
  clear b13 c130 c131 f130 f131 a0 a1 a2 a3 d0 d1 d2 d3
  generalize (w13.setCell ⟨B13, 0, none⟩ (.int .i64 C)).setCell ⟨B13, 1, none⟩ (.slice ao13 L.length cap13) = W13 at *
  clear w13
  have S13 := hideP (S9.out.keep G13.out.below)
  have e5 := S13.out.x5
  have e13 := G13.out.box
  obtain ⟨e50, e51, e52⟩ := e5
  obtain ⟨e60, e61, e62⟩ := e13
  go_wp2_with fail
  clear e50 e51 e52 e60 e61 e62
  refine Calls.mono (eqRR_same lo13 hi13 lo5 hi5 C ao13 ao5 cap13 cap5 L W13 G13.out.lst S13.out.l5 G13.out.hi_ (by have := S13.out.n; have := S13.out.sz; omega) (by omega)) ?_
  rintro e w14 ⟨rfl, k14⟩
  have S14 := hideP (S13.out.keep k14)
  clear k14 S13 S9 G13
  have e6 := S14.out.x6
  obtain ⟨e60, e61, e62⟩ := e6
  go_wp2_with fail
  clear e60 e61 e62
  refine Calls.mono (heldRR_any lo6 hi6 C ao6 cap6 L.length 1 w14 S14.out.l6 (by have := S14.out.n; have := S14.out.sz; omega) (by omega) (by omega) (by omega)) ?_
  rintro e w15 ⟨rfl, k15⟩
  have S15 := hideP (S14.out.keep k15)
  clear k15 S14
  go_wp2
  go_returns
  exact ⟨rfl, S15.out.kb⟩

theorem less_law_i (x y ww hh x2 y2 w2 h2 : Int) (w : World) :
    Calls Try.prog 3 #[.agg #[.int .i64 x, .int .i64 y, .int .i64 ww, .int .i64 hh], .agg #[.int .i64 x2, .int .i64 y2, .int .i64 w2, .int .i64 h2]] w fun e w' => e = .returned (.bool true) ∧ Below w.heap.size w w' :=
  less_law ⟨x, y, ww, hh⟩ ⟨x2, y2, w2, h2⟩ w

end Go.Proofs.Ytbceacnadkhdoab
