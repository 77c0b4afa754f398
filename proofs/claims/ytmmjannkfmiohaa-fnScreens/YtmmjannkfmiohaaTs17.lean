/- Panes taken out: whether one is meant, the first one, and the row behind it. Panes taken out: the library's IndexFunc and DeleteFunc. -/
import Derived.Test.YtmmjannkfmiohaaTs16
import Derived.Laws.CopyRow
import Derived.Lib.SliceRun
namespace Go.Proofs.Ytmmjannkfmiohaa
open Go.RowKit Go.Maps
set_option linter.unusedVariables false

/-- A block of so many cells of one kind. -/
def Blk (w : World) (g : Nat) (T : TypeId) (m : Nat) : Prop := ∃ cur, w.heap[g]? = some (.cells cur T (0, 0)) ∧ cur.size = m
theorem Blk.set {w : World} {g m : Nat} {T : TypeId} (h : Blk w g T m) (b o : Nat) (v : Value) : Blk (w.setCell ⟨b, o, none⟩ v) g T m := by
  obtain ⟨cur, h, hs⟩ := h
  by_cases e : b = g
  · subst e
    exact ⟨_, heap_setCell_same w b o cur T v h, by simpa using hs⟩
  · exact ⟨cur, (heap_setCell_other w ⟨b, o, none⟩ g v (by simpa using fun h => e h.symm)).trans h, hs⟩
theorem Blk.keep {w w' : World} {g m : Nat} {T : TypeId} (h : Blk w g T m) (k : Below w.heap.size w w') : Blk w' g T m := by
  obtain ⟨cur, h, hs⟩ := h
  exact ⟨cur, (k.block g (Array.getElem?_eq_some_iff.1 h).1).trans h, hs⟩
theorem Blk.lt {w : World} {g m : Nat} {T : TypeId} (h : Blk w g T m) : g < w.heap.size := by
  obtain ⟨cur, h, hs⟩ := h
  exact (Array.getElem?_eq_some_iff.1 h).1
theorem OwnV.blk {V : Wn → List Value} {T : TypeId} {w : World} {base g c : Nat} {L : List Wn} (h : OwnV V T w base (some ⟨g, 0, none⟩) c L) : Blk w g T (c * 7) ∧ L.length ≤ c ∧ c ≤ maxLen ∧ base ≤ g := by
  rcases h.2 with ⟨hv, _⟩ | ⟨g', c', cur, hv, h1, h2, h3, h4, h5, _⟩
  · cases hv
  · cases hv
    exact ⟨⟨cur, h2, h5⟩, h3, h4, h1⟩
theorem OwnV.of {V : Wn → List Value} {T : TypeId} {w : World} {base g c : Nat} {L : List Wn} (hV : ∀ v, (V v).length = 7) (hb : Blk w g T (c * 7)) (hl : L.length ≤ c) (hm : c ≤ maxLen) (hg : base ≤ g) (hc : ∀ i (h : i < L.length), Cl V w g (i * 7) L[i]) : OwnV V T w base (some ⟨g, 0, none⟩) c L := by
  obtain ⟨cur, h, hs⟩ := hb
  refine ⟨vcs_len hV L, .inr ⟨g, c, cur, rfl, hg, h, hl, hm, hs, ?_⟩⟩
  apply List.ext_getElem?
  intro j
  by_cases hj : j < L.length * 7
  · have hi : j / 7 < L.length := by omega
    have h1 := hc (j / 7) hi (j % 7) (by omega)
    have h2 := vcs_at hV L (j / 7) hi (j % 7) (by omega)
    rw [show j / 7 * 7 + j % 7 = j by omega] at h1 h2
    rw [h2, ← h1, List.getElem?_take_of_lt hj]
    simp [World.cell?, h]
  · rw [List.getElem?_eq_none (by simp; omega), List.getElem?_eq_none (by rw [vcs_len hV]; omega)]

theorem first_in {I : List Int} {id : Int} (h : id ∈ I) : ∃ A B, I = A ++ id :: B ∧ ∀ x ∈ A, x ≠ id := by
  induction I with
  | nil => simp at h
  | cons x I ih =>
    by_cases e : x = id
    · exact ⟨[], I, by rw [e]; rfl, fun x h => by simp at h⟩
    · obtain ⟨A, B, hh, hA⟩ := ih (by rcases List.mem_cons.1 h with h | h; exact absurd h.symm e; exact h)
      refine ⟨x :: A, B, by rw [hh]; rfl, fun y hy => ?_⟩
      rcases List.mem_cons.1 hy with rfl | hy
      · exact e
      · exact hA y hy

end Go.Proofs.Ytmmjannkfmiohaa

namespace Go.Proofs.Ytmmjannkfmiohaa
open Go.RowKit Go.Maps
set_option linter.unusedVariables false

/-- What is taken out is told in a box of its own. -/
structure Box1 (w : World) (bx lo hi : Nat) (io : Option Addr) (ic : Nat) (I : List Int) : Prop where
  c0 : w.cell? ⟨bx, 0, none⟩ = some (.slice io I.length ic)
  row : Row .i64 w lo hi io I
  hs : hi ≤ w.heap.size
theorem Box1.keep {w w' : World} {bx lo hi ic : Nat} {io : Option Addr} {I : List Int} (h : Box1 w bx lo hi io ic I) (k : Below w.heap.size w w') : Box1 w' bx lo hi io ic I :=
  ⟨(k.cell (p := ⟨bx, 0, none⟩) (World.block_lt_of_cell? w _ h.c0)).trans h.c0, h.row.keep k h.hs, Nat.le_trans h.hs k.size⟩
theorem Box1.far {w w' : World} {bx lo hi ic g : Nat} {io : Option Addr} {I : List Int} (h : Box1 w bx lo hi io ic I) (f : Far g (g + 1) w w') (h1 : bx ≠ g) (h2 : hi ≤ g ∨ g < lo) : Box1 w' bx lo hi io ic I :=
  ⟨(f.cell bx 0 (World.block_lt_of_cell? w _ h.c0) (by omega)).trans h.c0, h.row.far f (by omega) h.hs, Nat.le_trans h.hs f.size⟩
theorem Box1.lt {w : World} {bx lo hi ic : Nat} {io : Option Addr} {I : List Int} (h : Box1 w bx lo hi io ic I) : bx < w.heap.size := World.block_lt_of_cell? w _ h.c0

end Go.Proofs.Ytmmjannkfmiohaa
