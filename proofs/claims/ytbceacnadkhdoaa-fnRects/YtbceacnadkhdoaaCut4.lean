/- CutRects: the law's walk. -/
import Derived.Test.YtbceacnadkhdoaaCut3
import Derived.Deep.Cut
namespace Go.Proofs.Ytbceacnadkhdoaa
open Go.RowKit
set_option linter.unusedVariables false
attribute [local go_sem] growUpon growAt madeUpon madeAt

theorem cut_any_s (a b : Rc) (w : World) :
    Calls Try.prog 15 #[.agg #[.int .i64 a.x, .int .i64 a.y, .int .i64 a.w, .int .i64 a.h], .agg #[.int .i64 b.x, .int .i64 b.y, .int .i64 b.w, .int .i64 b.h]] w fun e w' => ∃ v, e = .returned v ∧ Below w.heap.size w w' ∧ Res (rfOf (a.flt || b.flt)) (cutR a b) w v w' := by
  cases h : (a.flt || b.flt)
  · have e : cutR a b = cutL a b := by unfold cutR; rw [h]; rfl
    rw [e]; exact sCut_ok a b w h
  · have e : cutR a b = [] := by unfold cutR; rw [h]; rfl
    rw [e]; exact sCut_no a b w h

theorem cut_any_i (a b : Rc) (w : World) :
    Calls Try.prog 10 #[.agg #[.int .i64 a.x, .int .i64 a.y, .int .i64 a.w, .int .i64 a.h], .agg #[.int .i64 b.x, .int .i64 b.y, .int .i64 b.w, .int .i64 b.h]] w fun e w' => ∃ v, e = .returned v ∧ Below w.heap.size w w' ∧ Res (rfOf (a.flt || b.flt)) (cutR a b) w v w' := by
  cases h : (a.flt || b.flt)
  · have e : cutR a b = cutL a b := by unfold cutR; rw [h]; rfl
    rw [e]; exact iCut_ok a b w h
  · have e : cutR a b = [] := by unfold cutR; rw [h]; rfl
    rw [e]; exact iCut_no a b w h

/-- A result's box. -/
structure Box (W : World) (B : Nat) (c : Int) (s : Value) : Prop where
  lt : B < W.heap.size
  c0 : W.cell? ⟨B, 0, none⟩ = some (.int .i64 c)
  c1 : W.cell? ⟨B, 1, none⟩ = some s
theorem Box.keep {W W' : World} {B n : Nat} {c : Int} {s : Value} (h : Box W B c s) (k : Below n W W') (hn : B < n) : Box W' B c s :=
  ⟨Nat.lt_of_lt_of_le h.lt k.size, (k.cell (p := ⟨B, 0, none⟩) hn).trans h.c0, (k.cell (p := ⟨B, 1, none⟩) hn).trans h.c1⟩

/-- Behind a region that called for a result and stored it into a local's box: w was ahead of it, W is behind it. -/
structure Got (w W : World) (B lo hi : Nat) (c : Int) (ao : Option Addr) (cap : Nat) (L : List Rc) : Prop where
  below : Below w.heap.size w W
  box : Box W B c (.slice ao L.length cap)
  le : w.heap.size ≤ B
  own : Own W lo ao cap L
  lst : Lst W lo hi ao L
  lo_ : w.heap.size ≤ lo
  lohi : lo ≤ hi
  hi_ : hi ≤ W.heap.size
  off : B < lo ∨ hi ≤ B
  blk : ∀ g, Value.ownBlock (.slice ao L.length cap) = some g → lo ≤ g ∧ g < hi

theorem own_off {w : World} {lo hi b o : Nat} {v : Value} {ao : Option Addr} {cap : Nat} {L : List Rc} (h : Own w lo ao cap L) (hl : ∀ g, Value.ownBlock (.slice ao L.length cap) = some g → g ≠ b) : Own (w.setCell ⟨b, o, none⟩ v) lo ao cap L :=
  World.ownsRow.kept (row := some b) h ⟨rfl, rfl, rfl, by simp, fun i hi hne => Below.heap_setCell _ ⟨b, o, none⟩ _ _ (fun e => hne (by rw [e]))⟩ (by
    cases e : Value.ownBlock (.slice ao L.length cap) with
    | none => exact .inl rfl
    | some g => right; intro h'; simp at h'; exact hl g e h')

theorem got_of {w w3 : World} {B : Nat} {c : Int} {L : List Rc} {v : Value} (h : Called w (.cells #[.int .i64 0, .slice none 0 0] 30) (Res c L) v B w3) :
    ∃ ao cap lo hi, v = .agg #[.int .i64 c, .slice ao L.length cap] ∧ B < w3.heap.size ∧ w3.cell? ⟨B, 0, none⟩ = some (.int .i64 0) ∧ w3.cell? ⟨B, 1, none⟩ = some (.slice none 0 0) ∧ w3.frozen? ⟨B, 0, none⟩ = false ∧ w3.frozen? ⟨B, 1, none⟩ = false ∧
      Got w ((w3.setCell ⟨B, 0, none⟩ (.int .i64 c)).setCell ⟨B, 1, none⟩ (.slice ao L.length cap)) B lo hi c ao cap L := by
  obtain ⟨w1, w2, k1, k2, ⟨ao, cap, rfl, O⟩, k3, hB1, hB2, hB3, hB4⟩ := h
  have c0 : w3.cell? ⟨B, 0, none⟩ = some (.int .i64 0) := by rw [cell_of_row w3 B 0 _ _ _ hB3]; rfl
  have c1 : w3.cell? ⟨B, 1, none⟩ = some (.slice none 0 0) := by rw [cell_of_row w3 B 1 _ _ _ hB3]; rfl
  have f0 : w3.frozen? ⟨B, 0, none⟩ = false := frozen_of_row w3 B 0 _ _ hB3
  have f1 : w3.frozen? ⟨B, 1, none⟩ = false := frozen_of_row w3 B 1 _ _ hB3
  have hlt : ∀ g, Value.ownBlock (.slice ao L.length cap) = some g → w1.heap.size ≤ g ∧ g < w2.heap.size := fun g e => World.ownsRow.lt O g e
  have O3 := O.keep k3
  have l3 := k3.le
  have hoff : ∀ g, Value.ownBlock (.slice ao L.length cap) = some g → g ≠ B := fun g e => by have := hlt g e; omega
  have O4 : Own ((w3.setCell ⟨B, 0, none⟩ (.int .i64 c)).setCell ⟨B, 1, none⟩ (.slice ao L.length cap)) w1.heap.size ao cap L := own_off (lo := w1.heap.size) (hi := 0) (own_off (lo := w1.heap.size) (hi := 0) O3 hoff) hoff
  refine ⟨ao, cap, w1.heap.size, w2.heap.size, rfl, hB2, c0, c1, f0, f1, ⟨?_, ⟨by simpa using hB2, ?_, ?_⟩, hB1, O4, ?_, k1.le, k2.le, by simpa using l3, hB4, hlt⟩⟩
  · exact (Below.setCell (Below.setCell ((k1.trans k2).trans k3) hB1 _) hB1 _)
  · rw [cell_set_other (by omega)]; exact cell_set_same c0
  · exact cell_set_same ((cell_set_other (by omega)).trans c1)
  · rcases O4.lst with e | ⟨g, o, rfl, h1, h2, h3⟩
    · exact .inl e
    · exact .inr ⟨g, o, rfl, h1, (hlt g rfl).2, h3⟩

/-- What lies where, between two calls of a law: the arguments' boxes, two results' boxes, their lists. -/
structure Sit (w X : World) (a b : Rc) (N B5 B6 lo5 hi5 lo6 hi6 : Nat) (C : Int) (ao5 : Option Addr) (cap5 : Nat) (ao6 : Option Addr) (cap6 : Nat) (L M : List Rc) : Prop where
  kb : Below w.heap.size w X
  sz : N ≤ X.heap.size
  ra : IsRect X w.heap.size 0 a.x a.y a.w a.h
  rb : IsRect X (w.heap.size + 1) 0 b.x b.y b.w b.h
  x5 : Box X B5 C (.slice ao5 L.length cap5)
  x6 : Box X B6 C (.slice ao6 L.length cap6)
  l5 : Lst X lo5 hi5 ao5 L
  l6 : Lst X lo6 hi6 ao6 M
  n : w.heap.size + 1 < N ∧ B5 < N ∧ B6 < N ∧ hi5 ≤ N ∧ hi6 ≤ N

theorem Sit.keep {w X X' : World} {a b : Rc} {N B5 B6 lo5 hi5 lo6 hi6 : Nat} {C : Int} {ao5 : Option Addr} {cap5 : Nat} {ao6 : Option Addr} {cap6 : Nat} {L M : List Rc} (h : Sit w X a b N B5 B6 lo5 hi5 lo6 hi6 C ao5 cap5 ao6 cap6 L M) (k : Below X.heap.size X X') :
    Sit w X' a b N B5 B6 lo5 hi5 lo6 hi6 C ao5 cap5 ao6 cap6 L M := by
  obtain ⟨kb, sz, ra, rb, x5, x6, l5, l6, n1, n2, n3, n4, n5⟩ := h
  exact ⟨kb.trans (k.mono kb.size), Nat.le_trans sz k.size, ra.keep k (by omega), rb.keep k (by omega), x5.keep k (by omega), x6.keep k (by omega), l5.keep k (by omega), l6.keep k (by omega), n1, n2, n3, n4, n5⟩

theorem Sit.mark {w X X' : World} {a b : Rc} {N B5 B6 lo5 hi5 lo6 hi6 : Nat} {C : Int} {ao5 : Option Addr} {cap5 : Nat} {ao6 : Option Addr} {cap6 : Nat} {L M : List Rc} {k : Int} (h : Sit w X a b N B5 B6 lo5 hi5 lo6 hi6 C ao5 cap5 ao6 cap6 L M)
    (m : Marked X X' lo6 hi6 ao6 L.length k) (h1 : w.heap.size + 1 < lo6 ∧ B5 < lo6 ∧ hi5 ≤ lo6) (h2 : B6 < lo6 ∨ hi6 ≤ B6) (h3 : lo6 ≤ X.heap.size) : Sit w X' a b N B5 B6 lo5 hi5 lo6 hi6 C ao5 cap5 ao6 cap6 L (mrk L.length k) := by
  obtain ⟨kb, sz, ra, rb, x5, x6, l5, l6, n1, n2, n3, n4, n5⟩ := h
  have k := m.turn lo6 (Nat.le_refl _) h3
  have e6 := m.far B6 x6.lt (.inr h2)
  refine ⟨kb.trans (k.mono (by omega)), Nat.le_trans sz m.size, ra.keep k (by omega), rb.keep k (by omega), x5.keep k (by omega), ⟨Nat.lt_of_lt_of_le x6.lt m.size, ?_, ?_⟩, l5.keep k (by omega), m.lst, n1, n2, n3, n4, n5⟩
  · exact (World.cell?_of_block (a := ⟨B6, 0, none⟩) e6).trans x6.c0
  · exact (World.cell?_of_block (a := ⟨B6, 1, none⟩) e6).trans x6.c1

theorem cutR_len (a b : Rc) : (cutR a b).length ≤ 1 := by
  unfold cutR
  split
  · simp
  · exact putR_len _ _ _ _ _

set_option maxHeartbeats 4000000 in
theorem cut_law (a b : Rc) (w : World) :
    Calls Try.prog 7 #[.agg #[.int .i64 a.x, .int .i64 a.y, .int .i64 a.w, .int .i64 a.h], .agg #[.int .i64 b.x, .int .i64 b.y, .int .i64 b.w, .int .i64 b.h]] w fun e w' => e = .returned (.bool true) ∧ Below w.heap.size w w' := by
  have HL := hideP (cutR_len a b)
  obtain ⟨C, hC⟩ : ∃ C, C = rfOf (a.flt || b.flt) := ⟨_, rfl⟩
  obtain ⟨L, hL⟩ : ∃ L, L = cutR a b := ⟨_, rfl⟩
  have SA := hideP (cut_any_s a b)
  have SI := hideP (cut_any_i a b)
  rw [← hC, ← hL] at SA SI
  rw [← hL] at HL
  clear hC hL
  have hl : L.length ≤ 4 := by have := HL.out; omega
  have hl' : (L.length : Int) ≤ 4 := by omega
  go_enter Try.func7, Try.ntmps7
  go_wp2
  refine wp_region_called 4 rfl rfl (Res C L) (.cells #[.int .i64 0, .slice none 0 0] 30) (by kernel_rfl) (by kernel_rfl) ?_
  simp only [List.take_succ_cons, List.take_zero, List.drop_succ_cons, List.drop_zero]
  repeat (refine grow_step (by rfl) ?_; apply Exists.intro; refine ⟨fun w1 k1 => ?_, fun K hK => ?_⟩; (focus (have hc := Kept.cell k1; go_simp; first | done | rfl | (go_at_call 31; exact toRect_any _ _ _ _ _))); (go_simp; refine hK _ ?_; clear hK K))
  refine grow_nil ?_
  refine ⟨by rfl, by rfl, fun w1 k1 => (by go_simp; exact SA.out w1), fun w1 => (by go_simp), fun v B5 w5 h5 => ?_⟩
  obtain ⟨ao5, cap5, lo5, hi5, rfl, b5, c50, c51, f50, f51, G50⟩ := got_of h5
  have G5 := hideP G50
  clear G50 h5
  go_wp2
  clear b5 c50 c51 f50 f51
  generalize (w5.setCell ⟨B5, 0, none⟩ (.int .i64 C)).setCell ⟨B5, 1, none⟩ (.slice ao5 L.length cap5) = W5 at *
  clear w5
  have A5 := hideP (IsRect.keep (b := w.heap.size) (o := 0) (x := a.x) (y := a.y) (ww := a.w) (hh := a.h) ⟨by simp [go_sem], by simp [go_sem], by simp [go_sem], by simp [go_sem]⟩ G5.out.below (by first | (simp; done) | (simp; omega) | omega))
  have D5 := hideP (IsRect.keep (b := w.heap.size + 1) (o := 0) (x := b.x) (y := b.y) (ww := b.w) (hh := b.h) ⟨by simp [go_sem], by simp [go_sem], by simp [go_sem], by simp [go_sem]⟩ G5.out.below (by first | (simp; done) | (simp; omega) | omega))
  have K5 : Hid (Below w.heap.size w W5) := Below.trans (by go_grown) (G5.out.below.mono (by first | (simp; done) | (simp; omega) | omega))
  have n5 : w.heap.size < W5.heap.size ∧ w.heap.size + 1 < W5.heap.size := by have h := G5.out.below.size; simp only [World.size_alloc] at h; exact ⟨Nat.lt_of_lt_of_le (by omega) h, Nat.lt_of_lt_of_le (by omega) h⟩
  have hB5 := hideP G5.out.box
  have L5 := hideP G5.out.lst
  have h5 := hideP G5.out.hi_
  clear G5
  have hA := A5.out
  have hD := D5.out
  obtain ⟨a0, a1, a2, a3⟩ := hA
  obtain ⟨d0, d1, d2, d3⟩ := hD
  refine wp_region_called 4 rfl rfl (Res C L) (.cells #[.int .i64 0, .slice none 0 0] 30) (by kernel_rfl) (by kernel_rfl) ?_
  simp only [List.take_succ_cons, List.take_zero, List.drop_succ_cons, List.drop_zero]
  repeat (refine grow_step (by rfl) ?_; apply Exists.intro; refine ⟨fun w1 k1 => ?_, fun K hK => ?_⟩; (focus (have hc := Kept.cell k1; go_simp; first | done | rfl | (go_at_call 31; exact toRect_any _ _ _ _ _))); (go_simp; refine hK _ ?_; clear hK K))
  refine grow_nil ?_
  refine ⟨by rfl, by rfl, fun w1 k1 => (by go_simp; exact SI.out w1), fun w1 => (by go_simp), fun v B6 w6 h6 => ?_⟩
  obtain ⟨ao6, cap6, lo6, hi6, rfl, b6, c60, c61, f60, f61, G60⟩ := got_of h6
  have G6 := hideP G60
  clear G60 h6
  clear a0 a1 a2 a3 d0 d1 d2 d3
  have S6 : Hid (Sit w ((w6.setCell ⟨B6, 0, none⟩ (.int .i64 C)).setCell ⟨B6, 1, none⟩ (.slice ao6 L.length cap6)) a b ((w6.setCell ⟨B6, 0, none⟩ (.int .i64 C)).setCell ⟨B6, 1, none⟩ (.slice ao6 L.length cap6)).heap.size B5 B6 lo5 hi5 lo6 hi6 C ao5 cap5 ao6 cap6 L L) := by
    have g := G6.out
    have k := g.below
    have hs := k.size
    have := h5.out
    have := hB5.out.lt
    have := g.box.lt
    have := g.hi_
    exact ⟨K5.out.trans (k.mono K5.out.size), Nat.le_refl _, A5.out.keep k n5.1, D5.out.keep k n5.2, hB5.out.keep k hB5.out.lt, g.box, L5.out.keep k h5.out, g.lst, by omega⟩
  have O6 := hideP G6.out.own
  have F6 := hideP G6.out.blk
  have Z6 : Hid ((w.heap.size + 1 < lo6 ∧ B5 < lo6 ∧ hi5 ≤ lo6) ∧ (B6 < lo6 ∨ hi6 ≤ B6) ∧ lo6 ≤ hi6) := by
    have g := G6.out
    have := g.lo_
    have := h5.out
    have := hB5.out.lt
    exact ⟨by omega, g.off, g.lohi⟩
  clear G6 A5 D5 K5 hB5 L5 h5
  go_upto_region 3 with fail
  clear b6 c60 c61 f60 f61
  generalize (w6.setCell ⟨B6, 0, none⟩ (.int .i64 C)).setCell ⟨B6, 1, none⟩ (.slice ao6 L.length cap6) = W6 at *
  clear w6 n5
  have e5 := S6.out.x5
  have e6 := S6.out.x6
  obtain ⟨e50, e51, e52⟩ := e5
  obtain ⟨e60, e61, e62⟩ := e6
  go_wp2_with fail
  clear e50 e51 e52 e60 e61 e62
  refine Calls.mono (eqRR_same lo6 hi6 lo5 hi5 C ao6 ao5 cap6 cap5 L W6 S6.out.l6 S6.out.l5 S6.out.n.2.2.2.2 S6.out.n.2.2.2.1 (by omega)) ?_
  rintro e w7 ⟨rfl, k7⟩
  have S7 := hideP (S6.out.keep k7)
  have e6 := S7.out.x6
  obtain ⟨e60, e61, e62⟩ := e6
  go_wp2_with fail
  clear e60 e61 e62
  refine Calls.mono (markRR_any W6 lo6 hi6 C ao6 cap6 L 1 w7 O6.out (fun g h => (F6.out g h).2) k7 (by omega) (by omega) (by omega)) ?_
  rintro e w8 ⟨rfl, m8⟩
  have S8 := hideP (S7.out.mark m8 Z6.out.1 Z6.out.2.1 (by have := S6.out.n; have := k7.size; have := Z6.out; omega))
  clear k7 m8 S6 S7
  have e6 := S8.out.x6
  obtain ⟨e60, e61, e62⟩ := e6
  go_wp2_with fail
  clear e60 e61 e62
  refine Calls.mono (heldRR_any lo6 hi6 C ao6 cap6 L.length 1 w8 S8.out.l6 (by have := S8.out.n; have := S8.out.sz; omega) (by omega) (by omega) (by omega)) ?_
  rintro e w9 ⟨rfl, k9⟩
  have S9 := hideP (S8.out.keep k9)
  clear k9 S8
  go_upto_region 13 with fail
  have hA := S9.out.ra
  have hD := S9.out.rb
  have n9 : w.heap.size < w9.heap.size ∧ w.heap.size + 1 < w9.heap.size := by have := S9.out.n; have := S9.out.sz; omega
  obtain ⟨a0, a1, a2, a3⟩ := hA
  obtain ⟨d0, d1, d2, d3⟩ := hD
  refine wp_region_called 4 rfl rfl (Res C L) (.cells #[.int .i64 0, .slice none 0 0] 30) (by kernel_rfl) (by kernel_rfl) ?_
  simp only [List.take_succ_cons, List.take_zero, List.drop_succ_cons, List.drop_zero]
  repeat (refine grow_step (by rfl) ?_; apply Exists.intro; refine ⟨fun w1 k1 => ?_, fun K hK => ?_⟩; (focus (have hc := Kept.cell k1; go_simp; first | done | rfl | (go_at_call 31; exact toRect_any _ _ _ _ _))); (go_simp; refine hK _ ?_; clear hK K))
  refine grow_nil ?_
  refine ⟨by rfl, by rfl, fun w1 k1 => (by go_simp; exact SI.out w1), fun w1 => (by go_simp), fun v B13 w13 h13 => ?_⟩
  obtain ⟨ao13, cap13, lo13, hi13, rfl, b13, c130, c131, f130, f131, G130⟩ := got_of h13
  have G13 := hideP G130
  clear G130 h13
  go_upto_region 14 with fail
  clear b13 c130 c131 f130 f131 a0 a1 a2 a3 d0 d1 d2 d3
  generalize (w13.setCell ⟨B13, 0, none⟩ (.int .i64 C)).setCell ⟨B13, 1, none⟩ (.slice ao13 L.length cap13) = W13 at *
  clear w13
  have S13 := hideP (S9.out.keep G13.out.below)
  have e5 := S13.out.x5
  have e13 := G13.out.box
  obtain ⟨e50, e51, e52⟩ := e5
  obtain ⟨e60, e61, e62⟩ := e13
  go_wp2_with fail
  clear e50 e51 e52 e60 e61 e62
  refine Calls.mono (eqRR_same lo13 hi13 lo5 hi5 C ao13 ao5 cap13 cap5 L W13 G13.out.lst S13.out.l5 G13.out.hi_ (by have := S13.out.n; have := S13.out.sz; omega) (by omega)) ?_
  rintro e w14 ⟨rfl, k14⟩
  have S14 := hideP (S13.out.keep k14)
  clear k14 S13 S9 G13
  have e6 := S14.out.x6
  obtain ⟨e60, e61, e62⟩ := e6
  go_wp2_with fail
  clear e60 e61 e62
  refine Calls.mono (heldRR_any lo6 hi6 C ao6 cap6 L.length 1 w14 S14.out.l6 (by have := S14.out.n; have := S14.out.sz; omega) (by omega) (by omega) (by omega)) ?_
  rintro e w15 ⟨rfl, k15⟩
  have S15 := hideP (S14.out.keep k15)
  clear k15 S14
  go_wp2
  go_returns
  exact ⟨rfl, S15.out.kb⟩

theorem cut_law_i (x y ww hh x2 y2 w2 h2 : Int) (w : World) :
    Calls Try.prog 7 #[.agg #[.int .i64 x, .int .i64 y, .int .i64 ww, .int .i64 hh], .agg #[.int .i64 x2, .int .i64 y2, .int .i64 w2, .int .i64 h2]] w fun e w' => e = .returned (.bool true) ∧ Below w.heap.size w w' :=
  cut_law ⟨x, y, ww, hh⟩ ⟨x2, y2, w2, h2⟩ w

end Go.Proofs.Ytbceacnadkhdoaa
