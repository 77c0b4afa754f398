/- Slices of bytes cut: where the rest lies, under a name; what it reads as. -/
import Derived.Test.YtgjbjafodkiilaaTj11
import Derived.Test.YtgjbjafodkiilaaTj4
namespace Go.Proofs.Ytgjbjafodkiilaa
open Go.RowKit
set_option linter.unusedVariables false

/-- Bytes. -/
def byts (L : List Int) : Prop := ∀ i (h : i < L.length), 0 ≤ L[i] ∧ L[i] ≤ 255
theorem byts_of {L : List Int} (h : ∀ n ∈ L, (Lit.int .u8 n).wf = true) : byts L := fun i hi => bounds_u8 (h _ (List.getElem_mem _))
theorem byts_drop {L : List Int} (h : byts L) (n : Nat) : byts (L.drop n) := fun i hi => by
  rw [List.getElem_drop]; exact h _ _
theorem byts_take {L : List Int} (h : byts L) (n : Nat) : byts (L.take n) := fun i hi => by
  rw [List.getElem_take]; exact h _ _

/-- Where 's[i:]' lies, of a slice from o on with so much room. -/
def sOff (o cap i : Nat) : Nat := if cap = i then o else o + i

theorem Row.from {k : IntKind} {w : World} {lo hi g o cap : Nat} {L : List Int} (h : Row k w lo hi (some ⟨g, o, none⟩) L) (i : Nat) (hc : L.length ≤ cap) : Row k w lo hi (some ⟨g, sOff o cap i, none⟩) (L.drop i) := by
  by_cases e : L.length ≤ i
  · exact .inl (by simpa using e)
  · rcases h with rfl | ⟨g', o', ha, h1, h2, hcl⟩
    · simp at e
    · cases ha
      refine .inr ⟨g, _, rfl, h1, h2, fun j hj => ?_⟩
      have hs : sOff o cap i = o + i := by unfold sOff; rw [if_neg (by omega)]
      rw [hs, Nat.add_assoc, hcl (i + j) (by simp at hj; omega), List.getElem_drop]
theorem Row.upto {k : IntKind} {w : World} {lo hi g o : Nat} {L : List Int} (h : Row k w lo hi (some ⟨g, o, none⟩) L) (i : Nat) : Row k w lo hi (some ⟨g, o, none⟩) (L.take i) := by
  rcases h with rfl | ⟨g', o', ha, h1, h2, hcl⟩
  · exact .inl (by simp)
  · cases ha
    exact .inr ⟨g, _, rfl, h1, h2, fun j hj => by rw [List.getElem_take]; exact hcl j (by simp at hj; omega)⟩

theorem Try.sizeB (w : World) : (sizeOf 5).run Try.prog w = .ok 1 w := by
  obtain ⟨i0, hi0, hz0, hz1, hz2⟩ := info_parts Try.infoB
  simp [sizeOf, typeInfo, hi0, hz1]

set_option maxRecDepth 100000 in
theorem sl_from (g o len cap : Nat) (kl : IntKind) (l : Int) (h0 : 0 ≤ l) (h1 : l ≤ len) (w : World) :
    (Instr.slice 22 (.slice (some ⟨g, o, none⟩) len cap) (some (.int kl l)) none none).run Try.prog w = .ok (.slice (some ⟨g, sOff o cap l.toNat, none⟩) (len - l.toNat) (cap - l.toNat)) w := by
  rw [run_slice_l w 22 _ len cap Try.underlying22 kl l h0 h1]
  have e : Try.prog.elem 22 = 5 := by kernel_rfl
  rw [e, Try.sizeB]
  simp only [Result.andThen_ok]
  unfold sliced sOff
  by_cases hc : cap = l.toNat
  · simp [hc]
  · simp [hc, add_none]

set_option maxRecDepth 100000 in
theorem sl_upto (g o len cap : Nat) (kh : IntKind) (h : Int) (h0 : 0 ≤ h) (h1 : h ≤ cap) (w : World) :
    (Instr.slice 22 (.slice (some ⟨g, o, none⟩) len cap) none (some (.int kh h)) none).run Try.prog w = .ok (.slice (some ⟨g, o, none⟩) h.toNat cap) w := by
  rw [run_slice_h w 22 _ len cap Try.underlying22 kh h h0 h1]
  have e : Try.prog.elem 22 = 5 := by kernel_rfl
  rw [e, Try.sizeB]
  simp only [Result.andThen_ok]
  unfold sliced
  by_cases hc : cap = 0
  · simp [hc]
  · simp [hc, add_none]

/-- A result's box of four cells. -/
structure R4 (w : World) (b : Nat) (v0 v1 v2 v3 : Value) : Prop where
  c0 : w.cell? ⟨b, 0, none⟩ = some v0
  c1 : w.cell? ⟨b, 1, none⟩ = some v1
  c2 : w.cell? ⟨b, 2, none⟩ = some v2
  c3 : w.cell? ⟨b, 3, none⟩ = some v3
  f0 : w.frozen? ⟨b, 0, none⟩ = false
  f1 : w.frozen? ⟨b, 1, none⟩ = false
  f2 : w.frozen? ⟨b, 2, none⟩ = false
  f3 : w.frozen? ⟨b, 3, none⟩ = false
  lt : b < w.heap.size
theorem R4.keep {w w' : World} {b B : Nat} {v0 v1 v2 v3 : Value} (h : R4 w b v0 v1 v2 v3) (k : Below B w w') (hb : b < B) : R4 w' b v0 v1 v2 v3 :=
  ⟨(k.cell (p := ⟨b, 0, none⟩) hb).trans h.c0, (k.cell (p := ⟨b, 1, none⟩) hb).trans h.c1, (k.cell (p := ⟨b, 2, none⟩) hb).trans h.c2, (k.cell (p := ⟨b, 3, none⟩) hb).trans h.c3,
    (k.frozen (p := ⟨b, 0, none⟩) hb).trans h.f0, (k.frozen (p := ⟨b, 1, none⟩) hb).trans h.f1, (k.frozen (p := ⟨b, 2, none⟩) hb).trans h.f2, (k.frozen (p := ⟨b, 3, none⟩) hb).trans h.f3, Nat.lt_of_lt_of_le h.lt k.size⟩
theorem R4.far {w w' : World} {b lo hi : Nat} {v0 v1 v2 v3 : Value} (h : R4 w b v0 v1 v2 v3) (f : Far lo hi w w') (hd : b < lo ∨ hi ≤ b) : R4 w' b v0 v1 v2 v3 :=
  ⟨(f.cell b 0 h.lt hd).trans h.c0, (f.cell b 1 h.lt hd).trans h.c1, (f.cell b 2 h.lt hd).trans h.c2, (f.cell b 3 h.lt hd).trans h.c3,
    (f.frozen b 0 h.lt hd).trans h.f0, (f.frozen b 1 h.lt hd).trans h.f1, (f.frozen b 2 h.lt hd).trans h.f2, (f.frozen b 3 h.lt hd).trans h.f3, Nat.lt_of_lt_of_le h.lt f.size⟩
/-- A box of three cells that may be written. -/
structure R3 (w : World) (b : Nat) (v0 v1 v2 : Value) : Prop where
  c0 : w.cell? ⟨b, 0, none⟩ = some v0
  c1 : w.cell? ⟨b, 1, none⟩ = some v1
  c2 : w.cell? ⟨b, 2, none⟩ = some v2
  f0 : w.frozen? ⟨b, 0, none⟩ = false
  f1 : w.frozen? ⟨b, 1, none⟩ = false
  f2 : w.frozen? ⟨b, 2, none⟩ = false
  lt : b < w.heap.size
theorem R3.keep {w w' : World} {b B : Nat} {v0 v1 v2 : Value} (h : R3 w b v0 v1 v2) (k : Below B w w') (hb : b < B) : R3 w' b v0 v1 v2 :=
  ⟨(k.cell (p := ⟨b, 0, none⟩) hb).trans h.c0, (k.cell (p := ⟨b, 1, none⟩) hb).trans h.c1, (k.cell (p := ⟨b, 2, none⟩) hb).trans h.c2,
    (k.frozen (p := ⟨b, 0, none⟩) hb).trans h.f0, (k.frozen (p := ⟨b, 1, none⟩) hb).trans h.f1, (k.frozen (p := ⟨b, 2, none⟩) hb).trans h.f2, Nat.lt_of_lt_of_le h.lt k.size⟩
theorem R3.put1 {w : World} {b : Nat} {v0 v1 v2 : Value} (h : R3 w b v0 v1 v2) (u : Value) : R3 (w.setCell ⟨b, 1, none⟩ u) b v0 u v2 :=
  ⟨(cell_set_other (by omega)).trans h.c0, cell_set_same h.c1, (cell_set_other (by omega)).trans h.c2, by simpa using h.f0, by simpa using h.f1, by simpa using h.f2, by simpa using h.lt⟩
theorem R3.put2 {w : World} {b : Nat} {v0 v1 v2 : Value} (h : R3 w b v0 v1 v2) (u : Value) : R3 (w.setCell ⟨b, 2, none⟩ u) b v0 v1 u :=
  ⟨(cell_set_other (by omega)).trans h.c0, (cell_set_other (by omega)).trans h.c1, cell_set_same h.c2, by simpa using h.f0, by simpa using h.f1, by simpa using h.f2, by simpa using h.lt⟩

end Go.Proofs.Ytgjbjafodkiilaa
