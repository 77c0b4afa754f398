/- Marks into a list of rectangles, and whether they are held. Results with a list of rectangles: held against each other, marked, held. CutRects: the model's and the program's. CutRects: the model's and the program's, at every two rectangles. -/
import Derived.Test.YtbagloapclgpnaaV31
import Derived.Test.YtbagloapclgpnaaV20
import Derived.Test.YtbagloapclgpnaaV21
namespace Go.Proofs.Ytbagloapclgpnaa
open Go.RowKit
set_option linter.unusedVariables false

/-- All old memory but the block of ao is as it was. -/
structure TurnO (ao : Option Addr) (w w' : World) : Prop where
  os : w'.os = w.os
  tape : w'.tape = w.tape
  output : w'.output = w.output
  size : w.heap.size ≤ w'.heap.size
  block : ∀ k, k < w.heap.size → (∀ a, ao = some a → k ≠ a.block) → w'.heap[k]? = w.heap[k]?

theorem TurnO.refl (ao : Option Addr) (w : World) : TurnO ao w w := ⟨rfl, rfl, rfl, Nat.le_refl _, fun _ _ _ => rfl⟩
theorem TurnO.setCell {w w' : World} {g o : Nat} (h : TurnO (some ⟨g, o, none⟩) w w') (j : Nat) (v : Value) : TurnO (some ⟨g, o, none⟩) w (w'.setCell ⟨g, j, none⟩ v) :=
  ⟨h.os, h.tape, h.output, by simpa using h.size, fun k hk hb => (Below.heap_setCell w' ⟨g, j, none⟩ v k (hb ⟨g, o, none⟩ rfl)).trans (h.block k hk hb)⟩
theorem TurnO.below {ao : Option Addr} {w w' : World} {B : Nat} (h : TurnO ao w w') (hB : B ≤ w.heap.size) (ha : ∀ a, ao = some a → B ≤ a.block) : Below B w w' :=
  ⟨h.os, h.tape, h.output, h.size, fun k hk => h.block k (by omega) (fun a e => by have := ha a e; omega)⟩

def mrkAt (k : Int) (i : Nat) : Rc := ⟨k + 4 * i, k + 4 * i + 1, k + 4 * i + 2, k + 4 * i + 3⟩
def mrk (n : Nat) (k : Int) : List Rc := (List.range n).map (mrkAt k)
theorem mrk_len (n : Nat) (k : Int) : (mrk n k).length = n := by simp [mrk]
theorem mrk_at (n : Nat) (k : Int) (i : Nat) (h : i < (mrk n k).length) : (mrk n k)[i] = mrkAt k i := by simp [mrk]

/-- n places of rectangles from ⟨g, o⟩ on, the first i of them marked from k on; w was ahead of it. -/
structure Mk (w wr : World) (g o n i : Nat) (k : Int) : Prop where
  turn : TurnO (some ⟨g, o, none⟩) w wr
  lt : g < wr.heap.size
  done : ∀ j, j < i → IsRect wr g (o + j * 4) (mrkAt k j).x (mrkAt k j).y (mrkAt k j).w (mrkAt k j).h
  there : ∀ c, c < n * 4 → ∃ u, wr.cell? ⟨g, o + c, none⟩ = some u
  free : ∀ c, wr.frozen? ⟨g, c, none⟩ = false


theorem Mk.step {w wr : World} {g o n i : Nat} {k : Int} (h : Mk w wr g o n i k) (hi : i < n) {a b c d : Int} (ea : a = k + 4 * i) (eb : b = k + 4 * i + 1) (ec : c = k + 4 * i + 2) (ed : d = k + 4 * i + 3) :
    Mk w ((((wr.setCell ⟨g, o + i * 4, none⟩ (.int .i64 a)).setCell ⟨g, o + i * 4 + 1, none⟩ (.int .i64 b)).setCell ⟨g, o + i * 4 + 2, none⟩ (.int .i64 c)).setCell ⟨g, o + i * 4 + 3, none⟩ (.int .i64 d)) g o n (i + 1) k := by
  subst ea eb ec ed
  have t0 : ∃ u, wr.cell? ⟨g, o + i * 4, none⟩ = some u := h.there (i * 4) (by omega)
  have t1 : ∃ u, wr.cell? ⟨g, o + i * 4 + 1, none⟩ = some u := h.there (i * 4 + 1) (by omega)
  have t2 : ∃ u, wr.cell? ⟨g, o + i * 4 + 2, none⟩ = some u := h.there (i * 4 + 2) (by omega)
  have t3 : ∃ u, wr.cell? ⟨g, o + i * 4 + 3, none⟩ = some u := h.there (i * 4 + 3) (by omega)
  obtain ⟨u0, t0⟩ := t0
  obtain ⟨u1, t1⟩ := t1
  obtain ⟨u2, t2⟩ := t2
  obtain ⟨u3, t3⟩ := t3
  refine ⟨(((h.turn.setCell _ _).setCell _ _).setCell _ _).setCell _ _, by simpa using h.lt, fun j hj => ?_, fun c hc => ?_, fun c => by simpa using h.free c⟩
  · by_cases hji : j < i
    · obtain ⟨c0, c1, c2, c3⟩ := h.done j hji
      refine ⟨?_, ?_, ?_, ?_⟩ <;> (repeat rw [cell_set_other (by omega)]) <;> assumption
    · obtain rfl : j = i := by omega
      refine ⟨?_, ?_, ?_, ?_⟩
      · rw [cell_set_other (by omega), cell_set_other (by omega), cell_set_other (by omega)]; exact cell_set_same t0
      · rw [cell_set_other (by omega), cell_set_other (by omega)]; exact cell_set_same ((cell_set_other (by omega)).trans t1)
      · rw [cell_set_other (by omega)]; exact cell_set_same ((cell_set_other (by omega)).trans ((cell_set_other (by omega)).trans t2))
      · exact cell_set_same ((cell_set_other (by omega)).trans ((cell_set_other (by omega)).trans ((cell_set_other (by omega)).trans t3)))
  · obtain ⟨u, hu⟩ := h.there c hc
    have key : ∀ (W : World) (d : Nat) (v : Value), (∃ u, W.cell? ⟨g, o + c, none⟩ = some u) → ∃ u, (W.setCell ⟨g, d, none⟩ v).cell? ⟨g, o + c, none⟩ = some u := fun W d v ⟨u, hu⟩ => by
      by_cases e : o + c = d
      · subst e; exact ⟨v, cell_set_same hu⟩
      · exact ⟨u, (cell_set_other e).trans hu⟩
    exact key _ _ _ (key _ _ _ (key _ _ _ (key _ _ _ ⟨u, hu⟩)))

end Go.Proofs.Ytbagloapclgpnaa

namespace Go.Proofs.Ytbagloapclgpnaa
open Go.RowKit
set_option linter.unusedVariables false

theorem Mk.lst {w wr : World} {g o n : Nat} {k : Int} (h : Mk w wr g o n n k) (lo hi : Nat) (h1 : lo ≤ g) (h2 : g < hi) : Lst wr lo hi (some ⟨g, o, none⟩) (mrk n k) :=
  .inr ⟨g, o, rfl, h1, h2, fun i hi => by rw [mrk_at]; exact h.done i (by rw [mrk_len] at hi; exact hi)⟩

theorem Own.mk {w w' : World} {base : Nat} {ao : Option Addr} {cap : Nat} {L : List Rc} (h : Own w base ao cap L) (hn : 0 < L.length) (k : Int) (kw : Below w.heap.size w w') : ∃ g, ao = some ⟨g, 0, none⟩ ∧ base ≤ g ∧ g < w.heap.size ∧ Mk w' w' g 0 L.length 0 k := by
  obtain ⟨g, cap', hv, hb, hlt⟩ := World.ownsRow.form h hn
  cases hv
  have hs := kw.size
  refine ⟨g, rfl, hb, hlt, ⟨TurnO.refl _ _, by omega, fun j hj => absurd hj (Nat.not_lt_zero _), fun c hc => ?_, fun c => ?_⟩⟩
  · rw [kw.cell (p := ⟨g, 0 + c, none⟩) hlt, Nat.zero_add, World.ownsRow.cellAt h c hc]
    exact ⟨(rcs L)[c]'(by rw [rcs_len]; exact hc), by simp⟩
  · rw [kw.frozen (p := ⟨g, c, none⟩) hlt]
    exact World.ownsRow.frozenAt h c

/-- What marking a result leaves: its list marked from k on; all other old memory as it was. -/
structure Marked (w w' : World) (base hi : Nat) (ao : Option Addr) (n : Nat) (k : Int) : Prop where
  lst : Lst w' base hi ao (mrk n k)
  size : w.heap.size ≤ w'.heap.size
  turn : ∀ B, B ≤ base → B ≤ w.heap.size → Below B w w'
  far : ∀ b, b < w.heap.size → (n = 0 ∨ b < base ∨ hi ≤ b) → w'.heap[b]? = w.heap[b]?

end Go.Proofs.Ytbagloapclgpnaa

namespace Go.Proofs.Ytbagloapclgpnaa
open Go.RowKit
set_option linter.unusedVariables false

def mxI (a b : Int) : Int := if b > a then b else a
def mnI (a b : Int) : Int := if b < a then b else a
theorem mxI_eq (a b : Int) : (mxI a b = a ∧ b ≤ a) ∨ (mxI a b = b ∧ a ≤ b) := by unfold mxI; split <;> omega
theorem mnI_eq (a b : Int) : (mnI a b = a ∧ a ≤ b) ∨ (mnI a b = b ∧ b ≤ a) := by unfold mnI; split <;> omega
theorem run_max_mx {P : Program} {w : World} (ts : Array TypeId) (t : TypeId) (k k' : IntKind) (x y : Int) : (Builtin.max_ ts t #[.int k x, .int k' y]).run P w = .ok (.int k (mxI x y)) w := run_max_int2 w ts t k k' x y
theorem run_min_mn {P : Program} {w : World} (ts : Array TypeId) (t : TypeId) (k k' : IntKind) (x y : Int) : (Builtin.min_ ts t #[.int k x, .int k' y]).run P w = .ok (.int k (mnI x y)) w := run_min_int2 w ts t k k' x y

def cutL (a b : Rc) : List Rc := putR [] (mxI a.x b.x) (mxI a.y b.y) (mnI (a.x + a.w) (b.x + b.w)) (mnI (a.y + a.h) (b.y + b.h))
def cutR (a b : Rc) : List Rc := if a.flt || b.flt then [] else cutL a b

/-- A result with a list: its code, its list, which lies among the blocks that were made since w1. -/
def Res (c : Int) (L : List Rc) (w1 : World) (v : Value) (w2 : World) : Prop := ∃ ao cap, v = .agg #[.int .i64 c, .slice ao L.length cap] ∧ Own w2 w1.heap.size ao cap L

theorem rfB_of {a b : Rc} (h : (a.flt || b.flt) = false) : rfB a.x a.y a.w a.h = false ∧ rfB b.x b.y b.w b.h = false := by
  simpa [Rc.flt] using h

end Go.Proofs.Ytbagloapclgpnaa

namespace Go.Proofs.Ytbagloapclgpnaa
open Go.RowKit
set_option linter.unusedVariables false

theorem own_new (W : World) (n : Nat) (h : n = W.heap.size) : Own (W.alloc (.cells #[] 45)) n (some ⟨n, 0, none⟩) 0 [] := by
  subst h
  exact World.ownsRow_lit W #[] 0 (Nat.le_refl _) (by unfold maxLen; omega) rfl
theorem own_nil (W : World) (n : Nat) : Own W n none 0 [] := World.ownsRow_nil _ _ _ _
theorem Own.base {w : World} {B B' : Nat} {ao : Option Addr} {cap : Nat} {L : List Rc} (h : Own w B ao cap L) (hb : B' ≤ B) : Own w B' ao cap L := by
  refine ⟨h.1, ?_⟩
  rcases h.2 with h0 | ⟨g, cap', cur, hv, h1, h2⟩
  · exact .inl h0
  · exact .inr ⟨g, cap', cur, hv, by omega, h2⟩
theorem Own.keep {w w' : World} {B : Nat} {ao : Option Addr} {cap : Nat} {L : List Rc} (h : Own w B ao cap L) (k : Below w.heap.size w w') : Own w' B ao cap L :=
  World.ownsRow.kept (row := none) h ⟨k.os, k.tape, k.output, k.size, fun i hi _ => k.block i hi⟩ (by cases Value.ownBlock (.slice ao L.length cap) <;> simp)
theorem Own.set {w : World} {B : Nat} {ao : Option Addr} {cap : Nat} {L : List Rc} (h : Own w B ao cap L) (b o : Nat) (v : Value) (hb : b < B) : Own (w.setCell ⟨b, o, none⟩ v) B ao cap L :=
  World.ownsRow.kept (row := some b) h ⟨rfl, rfl, rfl, by simp, fun i hi hne => Below.heap_setCell _ ⟨b, o, none⟩ _ _ (fun e => hne (by rw [e]))⟩ (by
    cases e : Value.ownBlock (.slice ao L.length cap) with
    | none => exact .inl rfl
    | some g => right; have := (World.ownsRow.lt h g e).1; intro h'; simp at h'; omega)

end Go.Proofs.Ytbagloapclgpnaa
