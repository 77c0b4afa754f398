/- CutRects: the law's walk. -/
import Derived.Test.YtbagloapclgpnaaU33
import Derived.Deep.Cut
namespace Go.Proofs.Ytbagloapclgpnaa
open Go.RowKit
set_option linter.unusedVariables false
attribute [local go_sem] growUpon growAt madeUpon madeAt

theorem cut_any_i (a b : Rc) (w : World) :
    Calls Try.prog 84 #[.agg #[.int .i64 a.x, .int .i64 a.y, .int .i64 a.w, .int .i64 a.h], .agg #[.int .i64 b.x, .int .i64 b.y, .int .i64 b.w, .int .i64 b.h]] w fun e w' => ∃ v, e = .returned v ∧ Below w.heap.size w w' ∧ Res (rfOf (a.flt || b.flt)) (cutR a b) w v w' := by
  cases h : (a.flt || b.flt)
  · have e : cutR a b = cutL a b := by unfold cutR; rw [h]; rfl
    rw [e]; exact iCut_ok a b w h
  · have e : cutR a b = [] := by unfold cutR; rw [h]; rfl
    rw [e]; exact iCut_no a b w h

/-- A result's box. -/
structure Box (W : World) (B : Nat) (c : Int) (s : Value) : Prop where
  lt : B < W.heap.size
  c0 : W.cell? ⟨B, 0, none⟩ = some (.int .i64 c)
  c1 : W.cell? ⟨B, 1, none⟩ = some s
theorem Box.keep {W W' : World} {B n : Nat} {c : Int} {s : Value} (h : Box W B c s) (k : Below n W W') (hn : B < n) : Box W' B c s :=
  ⟨Nat.lt_of_lt_of_le h.lt k.size, (k.cell (p := ⟨B, 0, none⟩) hn).trans h.c0, (k.cell (p := ⟨B, 1, none⟩) hn).trans h.c1⟩

/-- Behind a region that called for a result and stored it into a local's box: w was ahead of it, W is behind it. -/
structure Got (w W : World) (B lo hi : Nat) (c : Int) (ao : Option Addr) (cap : Nat) (L : List Rc) : Prop where
  below : Below w.heap.size w W
  box : Box W B c (.slice ao L.length cap)
  le : w.heap.size ≤ B
  own : Own W lo ao cap L
  lst : Lst W lo hi ao L
  lo_ : w.heap.size ≤ lo
  lohi : lo ≤ hi
  hi_ : hi ≤ W.heap.size
  off : B < lo ∨ hi ≤ B
  blk : ∀ g, Value.ownBlock (.slice ao L.length cap) = some g → lo ≤ g ∧ g < hi

theorem own_off {w : World} {lo hi b o : Nat} {v : Value} {ao : Option Addr} {cap : Nat} {L : List Rc} (h : Own w lo ao cap L) (hl : ∀ g, Value.ownBlock (.slice ao L.length cap) = some g → g ≠ b) : Own (w.setCell ⟨b, o, none⟩ v) lo ao cap L :=
  World.ownsRow.kept (row := some b) h ⟨rfl, rfl, rfl, by simp, fun i hi hne => Below.heap_setCell _ ⟨b, o, none⟩ _ _ (fun e => hne (by rw [e]))⟩ (by
    cases e : Value.ownBlock (.slice ao L.length cap) with
    | none => exact .inl rfl
    | some g => right; intro h'; simp at h'; exact hl g e h')

theorem got_of {w w3 : World} {B : Nat} {c : Int} {L : List Rc} {v : Value} (h : Called w (.cells #[.int .i64 0, .slice none 0 0] 123) (Res c L) v B w3) :
    ∃ ao cap lo hi, v = .agg #[.int .i64 c, .slice ao L.length cap] ∧ B < w3.heap.size ∧ w3.cell? ⟨B, 0, none⟩ = some (.int .i64 0) ∧ w3.cell? ⟨B, 1, none⟩ = some (.slice none 0 0) ∧ w3.frozen? ⟨B, 0, none⟩ = false ∧ w3.frozen? ⟨B, 1, none⟩ = false ∧
      Got w ((w3.setCell ⟨B, 0, none⟩ (.int .i64 c)).setCell ⟨B, 1, none⟩ (.slice ao L.length cap)) B lo hi c ao cap L := by
  obtain ⟨w1, w2, k1, k2, ⟨ao, cap, rfl, O⟩, k3, hB1, hB2, hB3, hB4⟩ := h
  have c0 : w3.cell? ⟨B, 0, none⟩ = some (.int .i64 0) := by rw [cell_of_row w3 B 0 _ _ _ hB3]; rfl
  have c1 : w3.cell? ⟨B, 1, none⟩ = some (.slice none 0 0) := by rw [cell_of_row w3 B 1 _ _ _ hB3]; rfl
  have f0 : w3.frozen? ⟨B, 0, none⟩ = false := frozen_of_row w3 B 0 _ _ hB3
  have f1 : w3.frozen? ⟨B, 1, none⟩ = false := frozen_of_row w3 B 1 _ _ hB3
  have hlt : ∀ g, Value.ownBlock (.slice ao L.length cap) = some g → w1.heap.size ≤ g ∧ g < w2.heap.size := fun g e => World.ownsRow.lt O g e
  have O3 := O.keep k3
  have l3 := k3.le
  have hoff : ∀ g, Value.ownBlock (.slice ao L.length cap) = some g → g ≠ B := fun g e => by have := hlt g e; omega
  have O4 : Own ((w3.setCell ⟨B, 0, none⟩ (.int .i64 c)).setCell ⟨B, 1, none⟩ (.slice ao L.length cap)) w1.heap.size ao cap L := own_off (lo := w1.heap.size) (hi := 0) (own_off (lo := w1.heap.size) (hi := 0) O3 hoff) hoff
  refine ⟨ao, cap, w1.heap.size, w2.heap.size, rfl, hB2, c0, c1, f0, f1, ⟨?_, ⟨by simpa using hB2, ?_, ?_⟩, hB1, O4, ?_, k1.le, k2.le, by simpa using l3, hB4, hlt⟩⟩
  · exact (Below.setCell (Below.setCell ((k1.trans k2).trans k3) hB1 _) hB1 _)
  · rw [cell_set_other (by omega)]; exact cell_set_same c0
  · exact cell_set_same ((cell_set_other (by omega)).trans c1)
  · rcases O4.lst with e | ⟨g, o, rfl, h1, h2, h3⟩
    · exact .inl e
    · exact .inr ⟨g, o, rfl, h1, (hlt g rfl).2, h3⟩

/-- What lies where, between two calls of a law: the arguments' boxes, two results' boxes, their lists. -/
structure Sit (w X : World) (a b : Rc) (N B5 B6 lo5 hi5 lo6 hi6 : Nat) (C : Int) (ao5 : Option Addr) (cap5 : Nat) (ao6 : Option Addr) (cap6 : Nat) (L M : List Rc) : Prop where
  kb : Below w.heap.size w X
  sz : N ≤ X.heap.size
  ra : IsRect X w.heap.size 0 a.x a.y a.w a.h
  rb : IsRect X (w.heap.size + 1) 0 b.x b.y b.w b.h
  x5 : Box X B5 C (.slice ao5 L.length cap5)
  x6 : Box X B6 C (.slice ao6 L.length cap6)
  l5 : Lst X lo5 hi5 ao5 L
  l6 : Lst X lo6 hi6 ao6 M
  n : w.heap.size + 1 < N ∧ B5 < N ∧ B6 < N ∧ hi5 ≤ N ∧ hi6 ≤ N

theorem Sit.keep {w X X' : World} {a b : Rc} {N B5 B6 lo5 hi5 lo6 hi6 : Nat} {C : Int} {ao5 : Option Addr} {cap5 : Nat} {ao6 : Option Addr} {cap6 : Nat} {L M : List Rc} (h : Sit w X a b N B5 B6 lo5 hi5 lo6 hi6 C ao5 cap5 ao6 cap6 L M) (k : Below X.heap.size X X') :
    Sit w X' a b N B5 B6 lo5 hi5 lo6 hi6 C ao5 cap5 ao6 cap6 L M := by
  obtain ⟨kb, sz, ra, rb, x5, x6, l5, l6, n1, n2, n3, n4, n5⟩ := h
  exact ⟨kb.trans (k.mono kb.size), Nat.le_trans sz k.size, ra.keep k (by omega), rb.keep k (by omega), x5.keep k (by omega), x6.keep k (by omega), l5.keep k (by omega), l6.keep k (by omega), n1, n2, n3, n4, n5⟩

theorem Sit.mark {w X X' : World} {a b : Rc} {N B5 B6 lo5 hi5 lo6 hi6 : Nat} {C : Int} {ao5 : Option Addr} {cap5 : Nat} {ao6 : Option Addr} {cap6 : Nat} {L M : List Rc} {k : Int} (h : Sit w X a b N B5 B6 lo5 hi5 lo6 hi6 C ao5 cap5 ao6 cap6 L M)
    (m : Marked X X' lo6 hi6 ao6 L.length k) (h1 : w.heap.size + 1 < lo6 ∧ B5 < lo6 ∧ hi5 ≤ lo6) (h2 : B6 < lo6 ∨ hi6 ≤ B6) (h3 : lo6 ≤ X.heap.size) : Sit w X' a b N B5 B6 lo5 hi5 lo6 hi6 C ao5 cap5 ao6 cap6 L (mrk L.length k) := by
  obtain ⟨kb, sz, ra, rb, x5, x6, l5, l6, n1, n2, n3, n4, n5⟩ := h
  have k := m.turn lo6 (Nat.le_refl _) h3
  have e6 := m.far B6 x6.lt (.inr h2)
  refine ⟨kb.trans (k.mono (by omega)), Nat.le_trans sz m.size, ra.keep k (by omega), rb.keep k (by omega), x5.keep k (by omega), ⟨Nat.lt_of_lt_of_le x6.lt m.size, ?_, ?_⟩, l5.keep k (by omega), m.lst, n1, n2, n3, n4, n5⟩
  · exact (World.cell?_of_block (a := ⟨B6, 0, none⟩) e6).trans x6.c0
  · exact (World.cell?_of_block (a := ⟨B6, 1, none⟩) e6).trans x6.c1

theorem cutR_len (a b : Rc) : (cutR a b).length ≤ 1 := by
  unfold cutR
  split
  · simp
  · exact putR_len _ _ _ _ _

end Go.Proofs.Ytbagloapclgpnaa
