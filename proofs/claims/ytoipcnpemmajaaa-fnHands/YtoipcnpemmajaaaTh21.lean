/- Lists of rectangles in memory: their cells, who owns them, what one more at their end makes of them. -/
import Derived.Test.YtoipcnpemmajaaaTh7
import Derived.OwnWalk
import Derived.Laws.OwnMore
import Derived.Deep.AppendLies
namespace Go.Proofs.Ytoipcnpemmajaaa
open Go.RowKit
set_option linter.unusedVariables false

structure Rc where
  x : Int
  y : Int
  w : Int
  h : Int

def Rc.flt (r : Rc) : Bool := rfB r.x r.y r.w r.h
def Rc.val (r : Rc) : Value := .agg #[.int .i64 r.x, .int .i64 r.y, .int .i64 r.w, .int .i64 r.h]
def Rc.cells (r : Rc) : List Value := [.int .i64 r.x, .int .i64 r.y, .int .i64 r.w, .int .i64 r.h]
def rcs : List Rc → List Value
  | [] => []
  | r :: L => r.cells ++ rcs L

theorem rcs_len (L : List Rc) : (rcs L).length = L.length * 4 := by
  induction L with
  | nil => rfl
  | cons r L ih => simp only [rcs, List.length_append, ih, List.length_cons, Rc.cells, List.length_nil]; omega
theorem rcs_app (L M : List Rc) : rcs (L ++ M) = rcs L ++ rcs M := by
  induction L with
  | nil => rfl
  | cons r L ih => simp only [List.cons_append, rcs, ih, List.append_assoc]
theorem rcs_at (L : List Rc) : ∀ (i : Nat) (h : i < L.length) (j : Nat), j < 4 → (rcs L)[i * 4 + j]? = L[i].cells[j]? := by
  induction L with
  | nil => intro i h; simp at h
  | cons r L ih =>
    intro i h j hj
    have hl : r.cells.length = 4 := rfl
    cases i with
    | zero => simp only [rcs, Nat.zero_mul, Nat.zero_add]; rw [List.getElem?_append_left (by omega)]; rfl
    | succ i =>
      simp only [rcs]
      rw [List.getElem?_append_right (by omega)]
      have e : (i + 1) * 4 + j - r.cells.length = i * 4 + j := by omega
      rw [e, ih i (by simpa using h) j hj]
      rfl

/-- The slice owns a list of rectangles, in a block from base on. -/
def Own (w : World) (base : Nat) (ao : Option Addr) (cap : Nat) (L : List Rc) : Prop := w.ownsRow base 79 4 (.slice ao L.length cap) L.length (rcs L)

theorem own_form {w : World} {base : Nat} {v : Value} {L : List Rc} (h : w.ownsRow base 79 4 v L.length (rcs L)) : ∃ ao cap, v = .slice ao L.length cap ∧ Own w base ao cap L := by
  have h' := h
  rcases h.2 with ⟨rfl, h0⟩ | ⟨g, cap, cur, rfl, _⟩
  · exact ⟨none, 0, by rw [h0], by unfold Own; rw [h0]; rw [h0] at h'; exact h'⟩
  · exact ⟨_, cap, rfl, h'⟩

/-- The slice reads as a list of rectangles; its block lies from lo on and ahead of hi. -/
def Lst (w : World) (lo hi : Nat) (ao : Option Addr) (L : List Rc) : Prop :=
  L = [] ∨ ∃ g o, ao = some ⟨g, o, none⟩ ∧ lo ≤ g ∧ g < hi ∧ ∀ i (h : i < L.length), IsRect w g (o + i * 4) L[i].x L[i].y L[i].w L[i].h

theorem Own.lst {w : World} {base : Nat} {ao : Option Addr} {cap : Nat} {L : List Rc} (h : Own w base ao cap L) : Lst w base w.heap.size ao L := by
  by_cases hn : L = []
  · exact .inl hn
  · have hpos : 0 < L.length := List.length_pos_iff.2 hn
    obtain ⟨g, cap', hv, hb, hlt⟩ := World.ownsRow.form h hpos
    cases hv
    refine .inr ⟨g, 0, rfl, hb, hlt, fun i hi => ?_⟩
    have c : ∀ j, j < 4 → w.cell? ⟨g, 0 + i * 4 + j, none⟩ = L[i].cells[j]? := fun j hj => by
      rw [Nat.zero_add, World.ownsRow.cellAt h (i * 4 + j) (by omega), rcs_at L i hi j hj]
    exact ⟨c 0 (by omega), c 1 (by omega), c 2 (by omega), c 3 (by omega)⟩

theorem IsRect.keep {w w' : World} {b o B : Nat} {x y ww hh : Int} (h : IsRect w b o x y ww hh) (k : Below B w w') (hb : b < B) : IsRect w' b o x y ww hh :=
  ⟨(k.cell (p := ⟨b, o, none⟩) hb).trans h.c0, (k.cell (p := ⟨b, o + 1, none⟩) hb).trans h.c1, (k.cell (p := ⟨b, o + 2, none⟩) hb).trans h.c2, (k.cell (p := ⟨b, o + 3, none⟩) hb).trans h.c3⟩
theorem Lst.keep {w w' : World} {lo hi B : Nat} {ao : Option Addr} {L : List Rc} (h : Lst w lo hi ao L) (k : Below B w w') (hb : hi ≤ B) : Lst w' lo hi ao L := by
  rcases h with h | ⟨g, o, ha, h1, h2, hc⟩
  · exact .inl h
  · exact .inr ⟨g, o, ha, h1, h2, fun i hi => (hc i hi).keep k (by omega)⟩
theorem Lst.wide {w : World} {lo hi lo' hi' : Nat} {ao : Option Addr} {L : List Rc} (h : Lst w lo hi ao L) (h1 : lo' ≤ lo) (h2 : hi ≤ hi') : Lst w lo' hi' ao L := by
  rcases h with h | ⟨g, o, ha, g1, g2, hc⟩
  · exact .inl h
  · exact .inr ⟨g, o, ha, by omega, by omega, hc⟩

/-- One more at the end, if it has a point. -/
def putR (L : List Rc) (x y r b : Int) : List Rc := if r ≤ x ∨ b ≤ y then L else L ++ [⟨x, y, r - x, b - y⟩]
theorem putR_no {L : List Rc} {x y r b : Int} (h : r ≤ x ∨ b ≤ y) : putR L x y r b = L := by unfold putR; rw [if_pos h]
theorem putR_yes {L : List Rc} {x y r b : Int} (h : x < r) (h2 : y < b) : putR L x y r b = L ++ [⟨x, y, r - x, b - y⟩] := by unfold putR; rw [if_neg (by omega)]
theorem putR_len (L : List Rc) (x y r b : Int) : (putR L x y r b).length ≤ L.length + 1 := by unfold putR; split <;> simp

theorem Try.infoRect : (Try.prog.info? 79).map (fun i => (i.zero, i.size, i.bytes)) = some (some (.agg #[.int .i64 0, .int .i64 0, .int .i64 0, .int .i64 0]), 4, 32) := by kernel_rfl

theorem put_step {w1 w2 : World} {base : Nat} {v2 : Value} {L : List Rc} {x y r b : Int} (h : x < r) (h2 : y < b)
    (ho : w2.ownsRow base 79 4 v2 (L.length + 1) (rcs L ++ [.int .i64 x, .int .i64 y, .int .i64 (r - x), .int .i64 (b - y)])) :
    ∃ ao cap, v2 = .slice ao (putR L x y r b).length cap ∧ Own w2 base ao cap (putR L x y r b) := by
  refine own_form ?_
  rw [putR_yes h h2, rcs_app, List.length_append]
  exact ho

theorem below_grown {base : Nat} {w w2 : World} {o : Obj} {v : Value} {e : TypeId} {n : Nat} {xs : List Value} (hb : base ≤ w.heap.size) (ho : w.ownsRow base e 4 v n xs) (hg : (w.alloc o).grownBy w2 v.ownBlock) : Below base w w2 :=
  ((Below.refl base w).alloc hb o).grown hg (by simp; omega) fun k hk => (ho.lt k hk).1

end Go.Proofs.Ytoipcnpemmajaaa
