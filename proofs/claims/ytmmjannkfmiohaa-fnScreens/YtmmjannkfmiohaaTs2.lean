/- Rows of numbers in memory: their cells, who may write them, what turns and what stays. Numbers of chapter 1: faults of labels, and bits of parts from 0 to 15. Contracts of chapter 1's small functions, and the walks of Dominates at every argument. -/
import Derived.Test.YtmmjannkfmiohaaRows
import Derived.Test.YtmmjannkfmiohaaTs0
import Derived.Test.YtmmjannkfmiohaaTs1
import Derived.WalkKit
import Derived.WalkSpells
import Derived.WalkLawsBesides
import Derived.Handy
import Derived.BigQuiet
import Derived.OwnWalk
import Derived.Laws.OwnMore
import Derived.Deep.AppendLies
namespace Go.Proofs.Ytmmjannkfmiohaa
open Go.RowKit
set_option linter.unusedVariables false

theorem hideP {p : Prop} (h : p) : Hid p := h

/-- Of the old blocks only those from lo on and ahead of hi have turned. -/
structure Far (lo hi : Nat) (w w' : World) : Prop where
  os : w'.os = w.os
  tape : w'.tape = w.tape
  output : w'.output = w.output
  size : w.heap.size ≤ w'.heap.size
  block : ∀ b, b < w.heap.size → (b < lo ∨ hi ≤ b) → w'.heap[b]? = w.heap[b]?

theorem Far.refl (lo hi : Nat) (w : World) : Far lo hi w w := ⟨rfl, rfl, rfl, Nat.le_refl _, fun _ _ _ => rfl⟩
theorem Far.trans {lo hi : Nat} {w w1 w2 : World} (h : Far lo hi w w1) (k : Far lo hi w1 w2) : Far lo hi w w2 :=
  ⟨k.os.trans h.os, k.tape.trans h.tape, k.output.trans h.output, Nat.le_trans h.size k.size, fun b hb hc => (k.block b (Nat.lt_of_lt_of_le hb h.size) hc).trans (h.block b hb hc)⟩
theorem Far.wide {lo hi lo' hi' : Nat} {w w' : World} (h : Far lo hi w w') (h1 : lo' ≤ lo) (h2 : hi ≤ hi') : Far lo' hi' w w' :=
  ⟨h.os, h.tape, h.output, h.size, fun b hb hc => h.block b hb (by omega)⟩
theorem Far.of_below {lo hi : Nat} {w w' : World} (h : Below w.heap.size w w') : Far lo hi w w' := ⟨h.os, h.tape, h.output, h.size, fun b hb _ => h.block b hb⟩
theorem Far.below {lo hi B : Nat} {w w' : World} (h : Far lo hi w w') (h1 : B ≤ lo) (h2 : B ≤ w.heap.size) : Below B w w' :=
  ⟨h.os, h.tape, h.output, h.size, fun b hb => h.block b (by omega) (by omega)⟩
theorem Far.cell {lo hi : Nat} {w w' : World} (h : Far lo hi w w') (b o : Nat) (hb : b < w.heap.size) (hc : b < lo ∨ hi ≤ b) : w'.cell? ⟨b, o, none⟩ = w.cell? ⟨b, o, none⟩ :=
  World.cell?_of_block (w := w) (a := ⟨b, o, none⟩) (h.block b hb hc)
theorem Far.frozen {lo hi : Nat} {w w' : World} (h : Far lo hi w w') (b o : Nat) (hb : b < w.heap.size) (hc : b < lo ∨ hi ≤ b) : w'.frozen? ⟨b, o, none⟩ = w.frozen? ⟨b, o, none⟩ :=
  World.frozen?_of_block (w := w) (a := ⟨b, o, none⟩) (h.block b hb hc)
theorem Far.setCell {lo hi : Nat} {w w' : World} (h : Far lo hi w w') {p : Addr} (h1 : lo ≤ p.block) (h2 : p.block < hi) (v : Value) : Far lo hi w (w'.setCell p v) :=
  ⟨h.os, h.tape, h.output, by simpa using h.size, fun b hb hc => (Below.heap_setCell w' p v b (by omega)).trans (h.block b hb hc)⟩

/-- The slice reads as a list of numbers; its block lies from lo on and ahead of hi. -/
def Row (k : IntKind) (w : World) (lo hi : Nat) (ao : Option Addr) (L : List Int) : Prop :=
  L = [] ∨ ∃ g o, ao = some ⟨g, o, none⟩ ∧ lo ≤ g ∧ g < hi ∧ ∀ i (h : i < L.length), w.cell? ⟨g, o + i, none⟩ = some (.int k L[i])

theorem Row.keep {k : IntKind} {w w' : World} {lo hi B : Nat} {ao : Option Addr} {L : List Int} (h : Row k w lo hi ao L) (kk : Below B w w') (hb : hi ≤ B) : Row k w' lo hi ao L := by
  rcases h with h | ⟨g, o, ha, h1, h2, hc⟩
  · exact .inl h
  · exact .inr ⟨g, o, ha, h1, h2, fun i hi => (kk.cell (p := ⟨g, o + i, none⟩) (by show g < B; omega)).trans (hc i hi)⟩
theorem Row.wide {k : IntKind} {w : World} {lo hi lo' hi' : Nat} {ao : Option Addr} {L : List Int} (h : Row k w lo hi ao L) (h1 : lo' ≤ lo) (h2 : hi ≤ hi') : Row k w lo' hi' ao L := by
  rcases h with h | ⟨g, o, ha, g1, g2, hc⟩
  · exact .inl h
  · exact .inr ⟨g, o, ha, by omega, by omega, hc⟩
theorem Row.far {k : IntKind} {w w' : World} {lo hi lo' hi' : Nat} {ao : Option Addr} {L : List Int} (h : Row k w lo hi ao L) (f : Far lo' hi' w w') (hd : hi ≤ lo' ∨ hi' ≤ lo) (hs : hi ≤ w.heap.size) : Row k w' lo hi ao L := by
  rcases h with h | ⟨g, o, ha, g1, g2, hc⟩
  · exact .inl h
  · exact .inr ⟨g, o, ha, g1, g2, fun i hi => (f.cell g _ (by omega) (by omega)).trans (hc i hi)⟩

/-- .. and may be written. -/
def Wrt (k : IntKind) (w : World) (lo hi : Nat) (ao : Option Addr) (L : List Int) : Prop :=
  L = [] ∨ ∃ g o, ao = some ⟨g, o, none⟩ ∧ lo ≤ g ∧ g < hi ∧ (∀ i (h : i < L.length), w.cell? ⟨g, o + i, none⟩ = some (.int k L[i])) ∧ ∀ c, w.frozen? ⟨g, c, none⟩ = false

theorem Wrt.row {k : IntKind} {w : World} {lo hi : Nat} {ao : Option Addr} {L : List Int} (h : Wrt k w lo hi ao L) : Row k w lo hi ao L := by
  rcases h with h | ⟨g, o, ha, h1, h2, hc, _⟩
  · exact .inl h
  · exact .inr ⟨g, o, ha, h1, h2, hc⟩
theorem Wrt.keep {k : IntKind} {w w' : World} {lo hi B : Nat} {ao : Option Addr} {L : List Int} (h : Wrt k w lo hi ao L) (kk : Below B w w') (hb : hi ≤ B) : Wrt k w' lo hi ao L := by
  rcases h with h | ⟨g, o, ha, h1, h2, hc, hf⟩
  · exact .inl h
  · exact .inr ⟨g, o, ha, h1, h2, fun i hi => (kk.cell (p := ⟨g, o + i, none⟩) (by show g < B; omega)).trans (hc i hi), fun c => (kk.frozen (p := ⟨g, c, none⟩) (by show g < B; omega)).trans (hf c)⟩
theorem Wrt.wide {k : IntKind} {w : World} {lo hi lo' hi' : Nat} {ao : Option Addr} {L : List Int} (h : Wrt k w lo hi ao L) (h1 : lo' ≤ lo) (h2 : hi ≤ hi') : Wrt k w lo' hi' ao L := by
  rcases h with h | ⟨g, o, ha, g1, g2, hc⟩
  · exact .inl h
  · exact .inr ⟨g, o, ha, by omega, by omega, hc⟩
theorem Wrt.far {k : IntKind} {w w' : World} {lo hi lo' hi' : Nat} {ao : Option Addr} {L : List Int} (h : Wrt k w lo hi ao L) (f : Far lo' hi' w w') (hd : hi ≤ lo' ∨ hi' ≤ lo) (hs : hi ≤ w.heap.size) : Wrt k w' lo hi ao L := by
  rcases h with h | ⟨g, o, ha, g1, g2, hc, hf⟩
  · exact .inl h
  · exact .inr ⟨g, o, ha, g1, g2, fun i hi => (f.cell g _ (by omega) (by omega)).trans (hc i hi), fun c => (f.frozen g _ (by omega) (by omega)).trans (hf c)⟩

theorem cell_set_same {w : World} {g c : Nat} {u v : Value} (h : w.cell? ⟨g, c, none⟩ = some u) : (w.setCell ⟨g, c, none⟩ v).cell? ⟨g, c, none⟩ = some v := World.cell?_setCell_same _ _ _ h
theorem cell_set_other {w : World} {g c d : Nat} {v : Value} (h : d ≠ c) : (w.setCell ⟨g, c, none⟩ v).cell? ⟨g, d, none⟩ = w.cell? ⟨g, d, none⟩ := World.cell?_setCell_other _ _ _ _ (by intro e; cases e; exact h rfl)

theorem Row.set {k : IntKind} {w : World} {lo hi : Nat} {ao : Option Addr} {L : List Int} (h : Row k w lo hi ao L) (p : Addr) (v : Value) (hd : p.block < lo ∨ hi ≤ p.block) : Row k (w.setCell p v) lo hi ao L := by
  rcases h with h | ⟨g, o, ha, g1, g2, hc⟩
  · exact .inl h
  · exact .inr ⟨g, o, ha, g1, g2, fun i hi => (World.cell?_setCell_other _ _ _ _ (by intro e; rw [e] at hd; simp at hd; omega)).trans (hc i hi)⟩
theorem Wrt.set {k : IntKind} {w : World} {lo hi : Nat} {ao : Option Addr} {L : List Int} (h : Wrt k w lo hi ao L) (p : Addr) (v : Value) (hd : p.block < lo ∨ hi ≤ p.block) : Wrt k (w.setCell p v) lo hi ao L := by
  rcases h with h | ⟨g, o, ha, g1, g2, hc, hf⟩
  · exact .inl h
  · exact .inr ⟨g, o, ha, g1, g2, fun i hi => (World.cell?_setCell_other _ _ _ _ (by intro e; rw [e] at hd; simp at hd; omega)).trans (hc i hi), fun c => by simpa using hf c⟩

/-- A row of n cells from ⟨g, o⟩ on is being written: its first i cells hold what F says; w was ahead of it, and but for blocks from lo on and ahead of hi nothing has turned. -/
structure Fil (k : IntKind) (w wr : World) (lo hi g o n i : Nat) (F : Nat → Int) : Prop where
  far : Far lo hi w wr
  lt : g < wr.heap.size
  done : ∀ j, j < i → wr.cell? ⟨g, o + j, none⟩ = some (.int k (F j))
  there : ∀ c, c < n → ∃ u, wr.cell? ⟨g, o + c, none⟩ = some u
  free : ∀ c, wr.frozen? ⟨g, c, none⟩ = false
  lo_le : lo ≤ g
  lt_hi : g < hi

theorem Fil.step {k : IntKind} {w wr : World} {lo hi g o n i : Nat} {F : Nat → Int} (h : Fil k w wr lo hi g o n i F) (hi' : i < n) : Fil k w (wr.setCell ⟨g, o + i, none⟩ (.int k (F i))) lo hi g o n (i + 1) F := by
  obtain ⟨u, hu⟩ := h.there i hi'
  refine ⟨h.far.setCell h.lo_le h.lt_hi _, by simpa using h.lt, fun j hj => ?_, fun c hc => ?_, fun c => by simpa using h.free c, h.lo_le, h.lt_hi⟩
  · by_cases e : j = i
    · subst e; exact cell_set_same hu
    · rw [cell_set_other (by omega)]; exact h.done j (by omega)
  · by_cases e : c = i
    · subst e; exact ⟨_, cell_set_same hu⟩
    · rw [cell_set_other (by omega)]; exact h.there c hc

/-- What F says of the first n places. -/
def rowOf (F : Nat → Int) (n : Nat) : List Int := (List.range n).map F
theorem rowOf_len (F : Nat → Int) (n : Nat) : (rowOf F n).length = n := by simp [rowOf]
theorem rowOf_at (F : Nat → Int) (n i : Nat) (h : i < (rowOf F n).length) : (rowOf F n)[i] = F i := by simp [rowOf]
theorem rowOf_get (L : List Int) : rowOf (fun i => L.getD i 0) L.length = L := by
  apply List.ext_getElem
  · simp [rowOf]
  · intro i h1 h2
    simp [rowOf, List.getD, h2]
theorem Fil.wrt {k : IntKind} {w wr : World} {lo hi g o n : Nat} {F : Nat → Int} (h : Fil k w wr lo hi g o n n F) : Wrt k wr lo hi (some ⟨g, o, none⟩) (rowOf F n) :=
  .inr ⟨g, o, rfl, h.lo_le, h.lt_hi, fun i hi => by rw [rowOf_at]; exact h.done i (by rw [rowOf_len] at hi; exact hi), h.free⟩
theorem Wrt.fil {k : IntKind} {w : World} {lo hi g o : Nat} {L : List Int} {F : Nat → Int} (hs : hi ≤ w.heap.size) (h : lo ≤ g ∧ g < hi ∧ (∀ i (h : i < L.length), w.cell? ⟨g, o + i, none⟩ = some (.int k L[i])) ∧ ∀ c, w.frozen? ⟨g, c, none⟩ = false) : Fil k w w lo hi g o L.length 0 F :=
  ⟨Far.refl _ _ _, by omega, fun j hj => absurd hj (Nat.not_lt_zero _), fun c hc => ⟨_, h.2.2.1 c hc⟩, h.2.2.2, h.1, h.2.1⟩

/-- The slice owns its row, in a block from base on. -/
def OwnR (k : IntKind) (T : TypeId) (w : World) (base : Nat) (ao : Option Addr) (cap : Nat) (L : List Int) : Prop := w.ownsRow base T 1 (.slice ao L.length cap) L.length (L.map (Value.int k))

theorem ownR_form {k : IntKind} {T : TypeId} {w : World} {base n : Nat} {v : Value} {L : List Int} (h : w.ownsRow base T 1 v n (L.map (Value.int k))) : ∃ ao cap, v = .slice ao L.length cap ∧ OwnR k T w base ao cap L := by
  have hn : n = L.length := by have := h.1; simp at this; omega
  subst hn
  have h' := h
  rcases h.2 with ⟨rfl, h0⟩ | ⟨g, cap, cur, rfl, _⟩
  · exact ⟨none, 0, by rw [h0], by unfold OwnR; rw [h0]; rw [h0] at h'; exact h'⟩
  · exact ⟨_, cap, rfl, h'⟩

theorem OwnR.wrt {k : IntKind} {T : TypeId} {w : World} {base : Nat} {ao : Option Addr} {cap : Nat} {L : List Int} (h : OwnR k T w base ao cap L) : Wrt k w base w.heap.size ao L := by
  by_cases hn : L = []
  · exact .inl hn
  · have hpos : 0 < L.length := List.length_pos_iff.2 hn
    obtain ⟨g, cap', hv, hb, hlt⟩ := World.ownsRow.form h hpos
    cases hv
    refine .inr ⟨g, 0, rfl, hb, hlt, fun i hi => ?_, fun c => World.ownsRow.frozenAt h c⟩
    rw [Nat.zero_add, World.ownsRow.cellAt h i (by omega)]
    simp [hi]

/-- What the walk is told of a row of numbers that was made anew. -/
theorem made_fil {k : IntKind} {T : TypeId} {w w1 : World} {n : Nat} {F : Nat → Int} {xs : List Value} (ho : w1.ownsRow w.heap.size T 1 (.slice (some ⟨w.heap.size, 0, none⟩) n n) n xs) (hg : w.grownBy w1 none) : Fil k w w1 w.heap.size (w.heap.size + 1) w.heap.size 0 n 0 F := by
  refine ⟨⟨hg.os, hg.tape, hg.output, hg.size, fun b hb _ => hg.block b hb (by simp)⟩, ?_, fun j hj => absurd hj (Nat.not_lt_zero _), fun c hc => ?_, fun c => World.ownsRow.frozenAt ho c, Nat.le_refl _, by omega⟩
  · exact (World.ownsRow.lt ho w.heap.size rfl).2
  · rw [Nat.zero_add, World.ownsRow.cellAt ho c (by omega)]
    exact ⟨xs[c]'(by rw [ho.1]; omega), by simp⟩

/-- A result's box of two cells. -/
structure Rb (w : World) (b : Nat) (v0 v1 : Value) : Prop where
  c0 : w.cell? ⟨b, 0, none⟩ = some v0
  c1 : w.cell? ⟨b, 1, none⟩ = some v1
  f0 : w.frozen? ⟨b, 0, none⟩ = false
  f1 : w.frozen? ⟨b, 1, none⟩ = false
  lt : b < w.heap.size
theorem Rb.keep {w w' : World} {b B : Nat} {v0 v1 : Value} (h : Rb w b v0 v1) (k : Below B w w') (hb : b < B) : Rb w' b v0 v1 :=
  ⟨(k.cell (p := ⟨b, 0, none⟩) hb).trans h.c0, (k.cell (p := ⟨b, 1, none⟩) hb).trans h.c1, (k.frozen (p := ⟨b, 0, none⟩) hb).trans h.f0, (k.frozen (p := ⟨b, 1, none⟩) hb).trans h.f1, Nat.lt_of_lt_of_le h.lt k.size⟩
theorem Rb.far {w w' : World} {b lo hi : Nat} {v0 v1 : Value} (h : Rb w b v0 v1) (f : Far lo hi w w') (hd : b < lo ∨ hi ≤ b) : Rb w' b v0 v1 :=
  ⟨(f.cell b 0 h.lt hd).trans h.c0, (f.cell b 1 h.lt hd).trans h.c1, (f.frozen b 0 h.lt hd).trans h.f0, (f.frozen b 1 h.lt hd).trans h.f1, Nat.lt_of_lt_of_le h.lt f.size⟩

end Go.Proofs.Ytmmjannkfmiohaa

namespace Go.Proofs.Ytmmjannkfmiohaa

def fltB (l p : Int) : Bool := decide (l < 0 ∨ 3 < l ∨ p < 0 ∨ 15 < p)
theorem fltB_no {l p : Int} (h : fltB l p = false) : 0 ≤ l ∧ l ≤ 3 ∧ 0 ≤ p ∧ p ≤ 15 := by
  unfold fltB at h; simp at h; omega
theorem fltB_yes {l p : Int} (h : fltB l p = true) : l < 0 ∨ (0 ≤ l ∧ 3 < l) ∨ (0 ≤ l ∧ l ≤ 3 ∧ p < 0) ∨ (0 ≤ l ∧ l ≤ 3 ∧ 0 ≤ p ∧ 15 < p) := by
  unfold fltB at h; simp at h; omega

theorem fin16 (P : Int → Int → Prop) (h : ∀ a b : Fin 16, P (a.val : Int) (b.val : Int)) (a b : Int) (h1 : 0 ≤ a) (h2 : a ≤ 15) (h3 : 0 ≤ b) (h4 : b ≤ 15) : P a b := by
  have := h ⟨a.toNat, by omega⟩ ⟨b.toNat, by omega⟩
  simpa [Int.toNat_of_nonneg h1, Int.toNat_of_nonneg h3] using this

theorem sub16_dec : ∀ a b : Fin 16, (bits .andNot .u8 (b.val : Int) (a.val : Int) == 0) = (bits .and .i64 (a.val : Int) (b.val : Int) == (b.val : Int)) := by decide +kernel
theorem or16_dec : ∀ a b : Fin 16, bits .or .u8 (a.val : Int) (b.val : Int) = bits .or .i64 (a.val : Int) (b.val : Int) ∧ 0 ≤ bits .or .i64 (a.val : Int) (b.val : Int) ∧ bits .or .i64 (a.val : Int) (b.val : Int) ≤ 15 := by decide +kernel
theorem and16_dec : ∀ a b : Fin 16, bits .and .u8 (a.val : Int) (b.val : Int) = bits .and .i64 (a.val : Int) (b.val : Int) ∧ 0 ≤ bits .and .i64 (a.val : Int) (b.val : Int) ∧ bits .and .i64 (a.val : Int) (b.val : Int) ≤ 15 := by decide +kernel

theorem sub16 (a b : Int) (h1 : 0 ≤ a) (h2 : a ≤ 15) (h3 : 0 ≤ b) (h4 : b ≤ 15) : (bits .andNot .u8 b a == 0) = (bits .and .i64 a b == b) :=
  fin16 (fun a b => (bits .andNot .u8 b a == 0) = (bits .and .i64 a b == b)) sub16_dec a b h1 h2 h3 h4
theorem or16 (a b : Int) (h1 : 0 ≤ a) (h2 : a ≤ 15) (h3 : 0 ≤ b) (h4 : b ≤ 15) : bits .or .u8 a b = bits .or .i64 a b ∧ 0 ≤ bits .or .i64 a b ∧ bits .or .i64 a b ≤ 15 :=
  fin16 (fun a b => bits .or .u8 a b = bits .or .i64 a b ∧ 0 ≤ bits .or .i64 a b ∧ bits .or .i64 a b ≤ 15) or16_dec a b h1 h2 h3 h4
theorem and16 (a b : Int) (h1 : 0 ≤ a) (h2 : a ≤ 15) (h3 : 0 ≤ b) (h4 : b ≤ 15) : bits .and .u8 a b = bits .and .i64 a b ∧ 0 ≤ bits .and .i64 a b ∧ bits .and .i64 a b ≤ 15 :=
  fin16 (fun a b => bits .and .u8 a b = bits .and .i64 a b ∧ 0 ≤ bits .and .i64 a b ∧ bits .and .i64 a b ≤ 15) and16_dec a b h1 h2 h3 h4
end Go.Proofs.Ytmmjannkfmiohaa

namespace Go.Proofs.Ytmmjannkfmiohaa
open Go.RowKit
set_option linter.unusedVariables false

def fltOf (b : Bool) : Int := if b then 3 else 0

set_option maxHeartbeats 400000 in
theorem lf_ok (l p : Int) (w : World) (h : fltB l p = false) :
    Calls Try.prog 31 #[.agg #[.int .i64 l, .int .i64 p]] w fun e w' => e = .returned (.int .i64 0) ∧ Below w.heap.size w w' := by
  obtain ⟨h1, h2, h3, h4⟩ := fltB_no h
  clear h
  go_enter Try.func31, Try.ntmps31
  go_wp2
  go_returns
  exact ⟨rfl, by go_grown⟩

set_option maxHeartbeats 400000 in
theorem lf_no (l p : Int) (w : World) (h : fltB l p = true) :
    Calls Try.prog 31 #[.agg #[.int .i64 l, .int .i64 p]] w fun e w' => e = .returned (.int .i64 3) ∧ Below w.heap.size w w' := by
  rcases fltB_yes h with h | ⟨h1, h2⟩ | ⟨h1, h2, h3⟩ | ⟨h1, h2, h3, h4⟩
  all_goals
    go_enter Try.func31, Try.ntmps31
    go_wp2
    go_returns
    exact ⟨rfl, by go_grown⟩

set_option maxHeartbeats 400000 in
theorem sf_ok (l p : Int) (w : World) (h : fltB l p = false) :
    Calls Try.prog 34 #[.agg #[.int .i64 l, .int .i64 p]] w fun e w' => e = .returned (.int .i64 0) ∧ Below w.heap.size w w' := by
  obtain ⟨h1, h2, h3, h4⟩ := fltB_no h
  clear h
  go_enter Try.func34, Try.ntmps34
  go_wp2
  go_returns
  exact ⟨rfl, by go_grown⟩

set_option maxHeartbeats 400000 in
theorem sf_no (l p : Int) (w : World) (h : fltB l p = true) :
    Calls Try.prog 34 #[.agg #[.int .i64 l, .int .i64 p]] w fun e w' => e = .returned (.int .i64 3) ∧ Below w.heap.size w w' := by
  rcases fltB_yes h with h1 | ⟨h1, h2⟩ | ⟨h1, h2, h3⟩ | ⟨h1, h2, h3, h4⟩
  · clear h
    go_enter Try.func34, Try.ntmps34
    go_wp2
    go_returns
    exact ⟨rfl, by go_grown⟩
  · have b1 : decide (l ≤ 3) = false := by simp; omega
    clear h
    go_enter Try.func34, Try.ntmps34
    go_wp2
    go_returns
    exact ⟨rfl, by go_grown⟩
  · clear h
    go_enter Try.func34, Try.ntmps34
    go_wp2
    go_returns
    exact ⟨rfl, by go_grown⟩
  · have b1 : decide (p ≤ 15) = false := by simp; omega
    clear h
    go_enter Try.func34, Try.ntmps34
    go_wp2
    go_returns
    exact ⟨rfl, by go_grown⟩

theorem sf_any (l p : Int) (w : World) :
    Calls Try.prog 34 #[.agg #[.int .i64 l, .int .i64 p]] w fun e w' => e = .returned (.int .i64 (fltOf (fltB l p))) ∧ Below w.heap.size w w' := by
  cases h : fltB l p
  · exact sf_ok l p w h
  · exact sf_no l p w h

theorem lf_any (l p : Int) (w : World) :
    Calls Try.prog 31 #[.agg #[.int .i64 l, .int .i64 p]] w fun e w' => e = .returned (.int .i64 (fltOf (fltB l p))) ∧ Below w.heap.size w w' := by
  cases h : fltB l p
  · exact lf_ok l p w h
  · exact lf_no l p w h

end Go.Proofs.Ytmmjannkfmiohaa
