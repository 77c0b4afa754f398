/- Lists of hands in memory: read; how great one is; copied; whether two are the same; marked. -/
import Derived.Test.YtoipcnpemmajaaaTh2
import Derived.OwnWalk
import Derived.Laws.OwnMore
import Derived.Deep.AppendLies
import Derived.Deep.Strs
import Derived.Test.YtoipcnpemmajaaaTh1
import Derived.Test.YtoipcnpemmajaaaTh17
import Derived.Test.YtoipcnpemmajaaaTh20
import Derived.Test.YtoipcnpemmajaaaTh4
import Derived.Test.YtoipcnpemmajaaaTh44
import Derived.ProofKit
import Derived.Lib.SmallJoins
import Derived.Deep.Slices
namespace Go.Proofs.Ytoipcnpemmajaaa
open Go.RowKit Go.ChangeShapes Go.WideShapes Go.ChangeAt Go.Joins
set_option linter.unusedVariables false

structure Hd where
  k : Int
  a : Int
  b : Int
instance hdInh : Inhabited Hd := ⟨⟨0, 0, 0⟩⟩
def Hd.val (r : Hd) : Value := .agg #[.int .i64 r.k, .int .i64 r.a, .int .i64 r.b]
def Hd.cells (r : Hd) : List Value := [.int .i64 r.k, .int .i64 r.a, .int .i64 r.b]
def hds : List Hd → List Value
  | [] => []
  | r :: L => r.cells ++ hds L
theorem hds_len (L : List Hd) : (hds L).length = L.length * 3 := by
  induction L with
  | nil => rfl
  | cons r L ih => simp only [hds, List.length_append, ih, List.length_cons, Hd.cells, List.length_nil]; omega
theorem hds_app (L M : List Hd) : hds (L ++ M) = hds L ++ hds M := by
  induction L with
  | nil => rfl
  | cons r L ih => simp only [List.cons_append, hds, ih, List.append_assoc]
theorem hds_at (L : List Hd) : ∀ (i : Nat) (h : i < L.length) (j : Nat), j < 3 → (hds L)[i * 3 + j]? = L[i].cells[j]? := by
  induction L with
  | nil => intro i h; simp at h
  | cons r L ih =>
    intro i h j hj
    have hl : r.cells.length = 3 := rfl
    cases i with
    | zero => simp only [hds, Nat.zero_mul, Nat.zero_add]; rw [List.getElem?_append_left (by omega)]; rfl
    | succ i =>
      simp only [hds]
      rw [List.getElem?_append_right (by omega)]
      have e : (i + 1) * 3 + j - r.cells.length = i * 3 + j := by omega
      rw [e, ih i (by simpa using h) j hj]
      rfl

structure IsHd (w : World) (b o : Nat) (x y z : Int) : Prop where
  c0 : w.cell? ⟨b, o, none⟩ = some (.int .i64 x)
  c1 : w.cell? ⟨b, o + 1, none⟩ = some (.int .i64 y)
  c2 : w.cell? ⟨b, o + 2, none⟩ = some (.int .i64 z)
theorem IsHd.keep {w w' : World} {b o B : Nat} {x y z : Int} (h : IsHd w b o x y z) (k : Below B w w') (hb : b < B) : IsHd w' b o x y z :=
  ⟨(k.cell (p := ⟨b, o, none⟩) hb).trans h.c0, (k.cell (p := ⟨b, o + 1, none⟩) hb).trans h.c1, (k.cell (p := ⟨b, o + 2, none⟩) hb).trans h.c2⟩

/-- The slice reads as a list of hands; its block lies from lo on and ahead of hi. -/
def Hds (w : World) (lo hi : Nat) (ao : Option Addr) (L : List Hd) : Prop :=
  L = [] ∨ ∃ g o, ao = some ⟨g, o, none⟩ ∧ lo ≤ g ∧ g < hi ∧ ∀ i (h : i < L.length), IsHd w g (o + i * 3) L[i].k L[i].a L[i].b
theorem Hds.keep {w w' : World} {lo hi B : Nat} {ao : Option Addr} {L : List Hd} (h : Hds w lo hi ao L) (k : Below B w w') (hb : hi ≤ B) : Hds w' lo hi ao L := by
  rcases h with h | ⟨g, o, ha, h1, h2, hc⟩
  · exact .inl h
  · exact .inr ⟨g, o, ha, h1, h2, fun i hi => (hc i hi).keep k (by omega)⟩
theorem Hds.wide {w : World} {lo hi lo' hi' : Nat} {ao : Option Addr} {L : List Hd} (h : Hds w lo hi ao L) (h1 : lo' ≤ lo) (h2 : hi ≤ hi') : Hds w lo' hi' ao L := by
  rcases h with h | ⟨g, o, ha, g1, g2, hc⟩
  · exact .inl h
  · exact .inr ⟨g, o, ha, by omega, by omega, hc⟩

/-- The slice owns a list of hands, in a block from base on. -/
def OwnH (w : World) (base : Nat) (ao : Option Addr) (cap : Nat) (L : List Hd) : Prop := w.ownsRow base 28 3 (.slice ao L.length cap) L.length (hds L)
theorem OwnH.hds {w : World} {base : Nat} {ao : Option Addr} {cap : Nat} {L : List Hd} (h : OwnH w base ao cap L) : Hds w base w.heap.size ao L := by
  by_cases hn : L = []
  · exact .inl hn
  · have hpos : 0 < L.length := List.length_pos_iff.2 hn
    obtain ⟨g, cap', hv, hb, hlt⟩ := World.ownsRow.form h hpos
    cases hv
    refine .inr ⟨g, 0, rfl, hb, hlt, fun i hi => ?_⟩
    have c : ∀ j, j < 3 → w.cell? ⟨g, 0 + i * 3 + j, none⟩ = L[i].cells[j]? := fun j hj => by
      rw [Nat.zero_add, World.ownsRow.cellAt h (i * 3 + j) (by omega), hds_at L i hi j hj]
    exact ⟨c 0 (by omega), c 1 (by omega), c 2 (by omega)⟩

theorem Try.infoHd : (Try.prog.info? 28).map (fun i => (i.zero, i.size, i.bytes)) = some (some (.agg #[.int .i64 0, .int .i64 0, .int .i64 0]), 3, 24) := by kernel_rfl
theorem cellsHL : Try.prog.cellsOf 52 = 3 := by kernel_rfl
theorem cellsH6 : Try.prog.cellsOf 2 = 1 := by kernel_rfl

/-- A copy of a list, its first k hands there. -/
structure FillH (w wr : World) (g n k : Nat) (L : List Hd) : Prop where
  below : Below w.heap.size w wr
  lt : g < wr.heap.size
  done : ∀ j (hj : j < L.length), j < k → IsHd wr g (0 + j * 3) L[j].k L[j].a L[j].b
  there : ∀ c, c < n * 3 → ∃ u, wr.cell? ⟨g, 0 + c, none⟩ = some u
  free : ∀ c, wr.frozen? ⟨g, c, none⟩ = false
  le : w.heap.size ≤ g

theorem FillH.keep {w wr wr' : World} {g n k : Nat} {L : List Hd} (h : FillH w wr g n k L) (kk : Below wr.heap.size wr wr') : FillH w wr' g n k L :=
  ⟨h.below.trans (kk.mono h.below.size), Nat.lt_of_lt_of_le h.lt kk.size, fun j hj hk => (h.done j hj hk).keep kk h.lt, fun c hc => by obtain ⟨u, hu⟩ := h.there c hc; exact ⟨u, (kk.cell (p := ⟨g, 0 + c, none⟩) h.lt).trans hu⟩,
    fun c => (kk.frozen (p := ⟨g, c, none⟩) h.lt).trans (h.free c), h.le⟩

theorem FillH.step {w wr : World} {g n i : Nat} {L : List Hd} (h : FillH w wr g n i L) (hi : i < n) (hl : i < L.length) :
    FillH w (((wr.setCell ⟨g, i * 3, none⟩ (.int .i64 L[i].k)).setCell ⟨g, i * 3 + 1, none⟩ (.int .i64 L[i].a)).setCell ⟨g, i * 3 + 2, none⟩ (.int .i64 L[i].b)) g n (i + 1) L := by
  have t : ∀ c, c < 3 → ∃ u, wr.cell? ⟨g, i * 3 + c, none⟩ = some u := fun c hc => by
    obtain ⟨u, hu⟩ := h.there (i * 3 + c) (by omega)
    rw [Nat.zero_add] at hu
    exact ⟨u, hu⟩
  obtain ⟨u0, t0⟩ := t 0 (by omega)
  obtain ⟨u1, t1⟩ := t 1 (by omega)
  obtain ⟨u2, t2⟩ := t 2 (by omega)
  have hg := h.le
  refine ⟨((h.below.setCell (p := ⟨g, _, none⟩) hg _).setCell (p := ⟨g, _, none⟩) hg _).setCell (p := ⟨g, _, none⟩) hg _, by simpa using h.lt, fun j hj hk => ?_, fun c hc => ?_, fun c => by simpa using h.free c, hg⟩
  · by_cases hji : j < i
    · obtain ⟨c0, c1, c2⟩ := h.done j hj hji
      refine ⟨?_, ?_, ?_⟩ <;> (repeat rw [cell_set_other (by omega)]) <;> assumption
    · obtain rfl : j = i := by omega
      rw [Nat.zero_add]
      refine ⟨?_, ?_, ?_⟩
      · rw [cell_set_other (by omega), cell_set_other (by omega)]; exact cell_set_same t0
      · rw [cell_set_other (by omega)]; exact cell_set_same ((cell_set_other (by omega)).trans t1)
      · exact cell_set_same ((cell_set_other (by omega)).trans ((cell_set_other (by omega)).trans t2))
  · obtain ⟨u, hu⟩ := h.there c hc
    have key : ∀ (W : World) (d : Nat) (v : Value), (∃ u, W.cell? ⟨g, 0 + c, none⟩ = some u) → ∃ u, (W.setCell ⟨g, d, none⟩ v).cell? ⟨g, 0 + c, none⟩ = some u := fun W d v ⟨u, hu⟩ => by
      by_cases e : 0 + c = d
      · subst e; exact ⟨v, cell_set_same hu⟩
      · exact ⟨u, (cell_set_other e).trans hu⟩
    exact key _ _ _ (key _ _ _ (key _ _ _ ⟨u, hu⟩))

theorem fillH_new {w w1 : World} {n : Nat} {L : List Hd} {xs : List Value} (ho : w1.ownsRow w.heap.size 28 3 (.slice (some ⟨w.heap.size, 0, none⟩) n n) n xs) (hg : w.grownBy w1 none) : FillH w w1 w.heap.size n 0 L := by
  refine ⟨⟨hg.os, hg.tape, hg.output, hg.size, fun k hk => hg.block k hk (by simp)⟩, ?_, fun j _ hj => absurd hj (Nat.not_lt_zero _), fun c hc => ?_, fun c => World.ownsRow.frozenAt ho c, Nat.le_refl _⟩
  · exact (World.ownsRow.lt ho w.heap.size rfl).2
  · rw [Nat.zero_add, World.ownsRow.cellAt ho c hc]
    exact ⟨xs[c]'(by rw [ho.1]; exact hc), by simp⟩
theorem FillH.hds {w wr : World} {g n : Nat} {L : List Hd} (h : FillH w wr g n L.length L) : Hds wr w.heap.size wr.heap.size (some ⟨g, 0, none⟩) L :=
  .inr ⟨g, 0, rfl, h.le, h.lt, fun i hi => h.done i hi hi⟩

/-- A copy of hands, whose cells may be turned. -/
structure HQ (W : World) (lo hi g : Nat) (L : List Hd) : Prop where
  le : lo ≤ g
  lt : g < hi
  hs : hi ≤ W.heap.size
  hnds : ∀ j (hj : j < L.length), IsHd W g (0 + j * 3) L[j].k L[j].a L[j].b
  there : ∀ c, c < L.length * 3 → ∃ u, W.cell? ⟨g, c, none⟩ = some u
  free : ∀ c, W.frozen? ⟨g, c, none⟩ = false
theorem HQ.of {w w' : World} {g : Nat} {L : List Hd} (h : FillH w w' g L.length L.length L) : HQ w' w.heap.size w'.heap.size g L :=
  ⟨h.le, h.lt, Nat.le_refl _, fun j hj => h.done j hj hj, fun c hc => by obtain ⟨u, hu⟩ := h.there c hc; rw [Nat.zero_add] at hu; exact ⟨u, hu⟩, h.free⟩
theorem HQ.keep {W W' : World} {lo hi g B : Nat} {L : List Hd} (h : HQ W lo hi g L) (k : Below B W W') (hb : hi ≤ B) : HQ W' lo hi g L :=
  have hg := h.lt
  ⟨h.le, h.lt, Nat.le_trans h.hs k.size, fun j hj => (h.hnds j hj).keep k (by omega), fun c hc => by obtain ⟨u, hu⟩ := h.there c hc; exact ⟨u, (k.cell (p := ⟨g, c, none⟩) (by show g < B; omega)).trans hu⟩, fun c => (k.frozen (p := ⟨g, c, none⟩) (by show g < B; omega)).trans (h.free c)⟩
theorem HQ.far {W W' : World} {lo hi lo' hi' g : Nat} {L : List Hd} (h : HQ W lo hi g L) (f : Far lo' hi' W W') (hd : hi ≤ lo' ∨ hi' ≤ lo) : HQ W' lo hi g L :=
  have hg := h.lt
  have hl := h.le
  have hs := h.hs
  ⟨h.le, h.lt, Nat.le_trans h.hs f.size, fun j hj => ⟨(f.cell g _ (by omega) (by omega)).trans (h.hnds j hj).c0, (f.cell g _ (by omega) (by omega)).trans (h.hnds j hj).c1, (f.cell g _ (by omega) (by omega)).trans (h.hnds j hj).c2⟩, fun c hc => by obtain ⟨u, hu⟩ := h.there c hc; exact ⟨u, (f.cell g c (by omega) (by omega)).trans hu⟩, fun c => (f.frozen g c (by omega) (by omega)).trans (h.free c)⟩
theorem HQ.hds {W : World} {lo hi g : Nat} {L : List Hd} (h : HQ W lo hi g L) : Hds W lo hi (some ⟨g, 0, none⟩) L := .inr ⟨g, 0, rfl, h.le, h.lt, h.hnds⟩

structure MkH (w wr : World) (g n : Nat) : Prop where
  far : Far g (g + 1) w wr
  lt : g < wr.heap.size
  there : ∀ c, c < n * 3 → ∃ u, wr.cell? ⟨g, c, none⟩ = some u
  free : ∀ c, wr.frozen? ⟨g, c, none⟩ = false
theorem MkH.step {w wr : World} {g n c : Nat} (h : MkH w wr g n) (v : Value) : MkH w (wr.setCell ⟨g, c, none⟩ v) g n := by
  refine ⟨h.far.setCell (Nat.le_refl _) (Nat.lt_succ_self _) v, by simpa using h.lt, fun d hd => ?_, fun d => by simpa using h.free d⟩
  obtain ⟨u, hu⟩ := h.there d hd
  by_cases e : d = c
  · subst e; exact ⟨v, cell_set_same hu⟩
  · exact ⟨u, (cell_set_other e).trans hu⟩

end Go.Proofs.Ytoipcnpemmajaaa
