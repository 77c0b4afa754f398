/- Lists of labels in memory: read; how great one is; copied; whether two are the same. -/
import Derived.Test.YtmmjannkfmiohaaTs2
import Derived.OwnWalk
import Derived.Laws.OwnMore
import Derived.Deep.AppendLies
import Derived.Test.YtmmjannkfmiohaaTs1
import Derived.ProofKit
import Derived.Lib.SmallJoins
import Derived.Deep.Slices
namespace Go.Proofs.Ytmmjannkfmiohaa
open Go.RowKit Go.ChangeShapes Go.WideShapes Go.ChangeAt Go.Joins
set_option linter.unusedVariables false

structure La where
  l : Int
  p : Int
instance laInh : Inhabited La := ⟨⟨0, 0⟩⟩
def La.flt (r : La) : Bool := fltB r.l r.p
def La.cells (r : La) : List Value := [.int .i64 r.l, .int .i64 r.p]
def las : List La → List Value
  | [] => []
  | r :: L => r.cells ++ las L
theorem las_len (L : List La) : (las L).length = L.length * 2 := by
  induction L with
  | nil => rfl
  | cons r L ih => simp only [las, List.length_append, ih, List.length_cons, La.cells, List.length_nil]; omega
theorem las_app (L M : List La) : las (L ++ M) = las L ++ las M := by
  induction L with
  | nil => rfl
  | cons r L ih => simp only [List.cons_append, las, ih, List.append_assoc]
theorem las_at (L : List La) : ∀ (i : Nat) (h : i < L.length) (j : Nat), j < 2 → (las L)[i * 2 + j]? = L[i].cells[j]? := by
  induction L with
  | nil => intro i h; simp at h
  | cons r L ih =>
    intro i h j hj
    have hl : r.cells.length = 2 := rfl
    cases i with
    | zero => simp only [las, Nat.zero_mul, Nat.zero_add]; rw [List.getElem?_append_left (by omega)]; rfl
    | succ i =>
      simp only [las]
      rw [List.getElem?_append_right (by omega)]
      have e : (i + 1) * 2 + j - r.cells.length = i * 2 + j := by omega
      rw [e, ih i (by simpa using h) j hj]
      rfl

structure IsLab (w : World) (b o : Nat) (l p : Int) : Prop where
  c0 : w.cell? ⟨b, o, none⟩ = some (.int .i64 l)
  c1 : w.cell? ⟨b, o + 1, none⟩ = some (.int .i64 p)
theorem IsLab.keep {w w' : World} {b o B : Nat} {l p : Int} (h : IsLab w b o l p) (k : Below B w w') (hb : b < B) : IsLab w' b o l p :=
  ⟨(k.cell (p := ⟨b, o, none⟩) hb).trans h.c0, (k.cell (p := ⟨b, o + 1, none⟩) hb).trans h.c1⟩

/-- The slice reads as a list of labels; its block lies from lo on and ahead of hi. -/
def Las (w : World) (lo hi : Nat) (ao : Option Addr) (L : List La) : Prop :=
  L = [] ∨ ∃ g o, ao = some ⟨g, o, none⟩ ∧ lo ≤ g ∧ g < hi ∧ ∀ i (h : i < L.length), IsLab w g (o + i * 2) L[i].l L[i].p
theorem Las.keep {w w' : World} {lo hi B : Nat} {ao : Option Addr} {L : List La} (h : Las w lo hi ao L) (k : Below B w w') (hb : hi ≤ B) : Las w' lo hi ao L := by
  rcases h with h | ⟨g, o, ha, h1, h2, hc⟩
  · exact .inl h
  · exact .inr ⟨g, o, ha, h1, h2, fun i hi => (hc i hi).keep k (by omega)⟩
theorem Las.wide {w : World} {lo hi lo' hi' : Nat} {ao : Option Addr} {L : List La} (h : Las w lo hi ao L) (h1 : lo' ≤ lo) (h2 : hi ≤ hi') : Las w lo' hi' ao L := by
  rcases h with h | ⟨g, o, ha, g1, g2, hc⟩
  · exact .inl h
  · exact .inr ⟨g, o, ha, by omega, by omega, hc⟩

/-- The slice owns a list of labels, in a block from base on. -/
def OwnL (w : World) (base : Nat) (ao : Option Addr) (cap : Nat) (L : List La) : Prop := w.ownsRow base 34 2 (.slice ao L.length cap) L.length (las L)
theorem OwnL.las {w : World} {base : Nat} {ao : Option Addr} {cap : Nat} {L : List La} (h : OwnL w base ao cap L) : Las w base w.heap.size ao L := by
  by_cases hn : L = []
  · exact .inl hn
  · have hpos : 0 < L.length := List.length_pos_iff.2 hn
    obtain ⟨g, cap', hv, hb, hlt⟩ := World.ownsRow.form h hpos
    cases hv
    refine .inr ⟨g, 0, rfl, hb, hlt, fun i hi => ?_⟩
    have c : ∀ j, j < 2 → w.cell? ⟨g, 0 + i * 2 + j, none⟩ = L[i].cells[j]? := fun j hj => by
      rw [Nat.zero_add, World.ownsRow.cellAt h (i * 2 + j) (by omega), las_at L i hi j hj]
    exact ⟨c 0 (by omega), c 1 (by omega)⟩

/-- A copy of a list, its first k labels there. -/
structure FillL (w wr : World) (g n k : Nat) (L : List La) : Prop where
  below : Below w.heap.size w wr
  lt : g < wr.heap.size
  done : ∀ j (hj : j < L.length), j < k → IsLab wr g (0 + j * 2) L[j].l L[j].p
  there : ∀ c, c < n * 2 → ∃ u, wr.cell? ⟨g, 0 + c, none⟩ = some u
  free : ∀ c, wr.frozen? ⟨g, c, none⟩ = false
  le : w.heap.size ≤ g

theorem FillL.keep {w wr wr' : World} {g n k : Nat} {L : List La} (h : FillL w wr g n k L) (kk : Below wr.heap.size wr wr') : FillL w wr' g n k L :=
  ⟨h.below.trans (kk.mono h.below.size), Nat.lt_of_lt_of_le h.lt kk.size, fun j hj hk => (h.done j hj hk).keep kk h.lt, fun c hc => by obtain ⟨u, hu⟩ := h.there c hc; exact ⟨u, (kk.cell (p := ⟨g, 0 + c, none⟩) h.lt).trans hu⟩,
    fun c => (kk.frozen (p := ⟨g, c, none⟩) h.lt).trans (h.free c), h.le⟩

theorem FillL.step {w wr : World} {g n i : Nat} {L : List La} (h : FillL w wr g n i L) (hi : i < n) (hl : i < L.length) :
    FillL w ((wr.setCell ⟨g, i * 2, none⟩ (.int .i64 L[i].l)).setCell ⟨g, i * 2 + 1, none⟩ (.int .i64 L[i].p)) g n (i + 1) L := by
  have t : ∀ c, c < 2 → ∃ u, wr.cell? ⟨g, i * 2 + c, none⟩ = some u := fun c hc => by
    obtain ⟨u, hu⟩ := h.there (i * 2 + c) (by omega)
    rw [Nat.zero_add] at hu
    exact ⟨u, hu⟩
  obtain ⟨u0, t0⟩ := t 0 (by omega)
  obtain ⟨u1, t1⟩ := t 1 (by omega)
  have hg := h.le
  refine ⟨(h.below.setCell (p := ⟨g, _, none⟩) hg _).setCell (p := ⟨g, _, none⟩) hg _, by simpa using h.lt, fun j hj hk => ?_, fun c hc => ?_, fun c => by simpa using h.free c, hg⟩
  · by_cases hji : j < i
    · obtain ⟨c0, c1⟩ := h.done j hj hji
      refine ⟨?_, ?_⟩ <;> (repeat rw [cell_set_other (by omega)]) <;> assumption
    · obtain rfl : j = i := by omega
      rw [Nat.zero_add]
      refine ⟨?_, ?_⟩
      · rw [cell_set_other (by omega)]; exact cell_set_same t0
      · exact cell_set_same ((cell_set_other (by omega)).trans t1)
  · obtain ⟨u, hu⟩ := h.there c hc
    have key : ∀ (W : World) (d : Nat) (v : Value), (∃ u, W.cell? ⟨g, 0 + c, none⟩ = some u) → ∃ u, (W.setCell ⟨g, d, none⟩ v).cell? ⟨g, 0 + c, none⟩ = some u := fun W d v ⟨u, hu⟩ => by
      by_cases e : 0 + c = d
      · subst e; exact ⟨v, cell_set_same hu⟩
      · exact ⟨u, (cell_set_other e).trans hu⟩
    exact key _ _ _ (key _ _ _ ⟨u, hu⟩)

theorem fillL_new {w w1 : World} {n : Nat} {L : List La} {xs : List Value} (ho : w1.ownsRow w.heap.size 34 2 (.slice (some ⟨w.heap.size, 0, none⟩) n n) n xs) (hg : w.grownBy w1 none) : FillL w w1 w.heap.size n 0 L := by
  refine ⟨⟨hg.os, hg.tape, hg.output, hg.size, fun k hk => hg.block k hk (by simp)⟩, ?_, fun j _ hj => absurd hj (Nat.not_lt_zero _), fun c hc => ?_, fun c => World.ownsRow.frozenAt ho c, Nat.le_refl _⟩
  · exact (World.ownsRow.lt ho w.heap.size rfl).2
  · rw [Nat.zero_add, World.ownsRow.cellAt ho c hc]
    exact ⟨xs[c]'(by rw [ho.1]; exact hc), by simp⟩
theorem FillL.las {w wr : World} {g n : Nat} {L : List La} (h : FillL w wr g n L.length L) : Las wr w.heap.size wr.heap.size (some ⟨g, 0, none⟩) L :=
  .inr ⟨g, 0, rfl, h.le, h.lt, fun i hi => h.done i hi hi⟩

end Go.Proofs.Ytmmjannkfmiohaa
