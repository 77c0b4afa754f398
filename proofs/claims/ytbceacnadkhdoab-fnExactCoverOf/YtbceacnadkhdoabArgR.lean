/- A list of rectangles that came in, read as data: its rectangles. -/
import Derived.Test.YtbceacnadkhdoabLst1
import Derived.ProofKit
import Derived.Lib.SmallJoins
import Derived.Deep.Slices
namespace Go.Proofs.Ytbceacnadkhdoab
open Go.ChangeShapes Go.WideShapes Go.ChangeAt Go.RowKit Go.Joins
set_option linter.unusedVariables false

instance rcInh : Inhabited Rc := ⟨⟨0, 0, 0, 0⟩⟩
theorem cellsLR : Try.prog.cellsOf 23 = 4 := by kernel_rfl
theorem cellsI6 : Try.prog.cellsOf 2 = 1 := by kernel_rfl

theorem open_rects {H : Type} {enc : TypeId × Value → H} {w : World} {base : Nat} {spare : Nat → Bool} {held : Bool} {fuel : Nat} {cs : List Value} {x : DataW H × List MemPlace} (h : DataW.trod enc Try.prog w base spare held fuel 33 cs = some x) :
    ∃ (ao : Option Addr) (len cap : Nat) (L : List Rc), cs = [.slice ao len cap] ∧ L.length = len ∧ len ≤ maxLen ∧ Lst w 0 w.heap.size ao L := by
  rcases Go.Deep.open_slice Try.underlying33 h with ⟨rfl, _⟩ | ⟨a, len, cap, m, n, D, Pl, rfl, hb, hl, hm, hmm, rfl, hx⟩
  · exact ⟨none, 0, 0, [], rfl, rfl, Nat.zero_le _, .inl rfl⟩
  · have hlm : len ≤ m := by rw [hmm]; split <;> omega
    have each : ∀ i, i < len → ∃ r : Rc, w.cell? (a.add (i * 4)) = some (.int .i64 r.x) ∧ w.cell? (a.add (i * 4 + 1)) = some (.int .i64 r.y) ∧ w.cell? (a.add (i * 4 + 2)) = some (.int .i64 r.w) ∧ w.cell? (a.add (i * 4 + 3)) = some (.int .i64 r.h) := by
      intro i hi
      obtain ⟨cs', h1, h2⟩ := hx i (by omega)
      rw [cellsLR] at h1
      obtain ⟨_, hlen, hcell⟩ := World.cells?_some h1
      obtain ⟨y0, y1, y2, y3, n', _, _, g0, g1, g2, g3⟩ := trod_struct4 Try.underlying23 h2
      simp only [cellsI6] at g0 g1 g2 g3
      match cs', hlen with
      | [v0, v1, v2, v3], _ =>
        simp at g0 g1 g2 g3
        obtain ⟨b0, e0, _, _⟩ := DataW.trod_int Try.underlying2 g0
        obtain ⟨b1, e1, _, _⟩ := DataW.trod_int Try.underlying2 g1
        obtain ⟨b2, e2, _, _⟩ := DataW.trod_int Try.underlying2 g2
        obtain ⟨b3, e3, _, _⟩ := DataW.trod_int Try.underlying2 g3
        simp at e0 e1 e2 e3
        subst e0 e1 e2 e3
        have k0 := hcell 0 (by omega)
        have k1 := hcell 1 (by omega)
        have k2 := hcell 2 (by omega)
        have k3 := hcell 3 (by omega)
        rw [Go.Deep.add_add] at k0 k1 k2 k3
        exact ⟨⟨b0, b1, b2, b3⟩, by simpa using k0, by simpa using k1, by simpa using k2, by simpa using k3⟩
    obtain ⟨f, hf⟩ := Go.Deep.choose_lt each
    refine ⟨some a, len, cap, (List.range len).map f, rfl, by simp, by omega, ?_⟩
    by_cases h0 : len = 0
    · subst h0; exact .inl rfl
    · obtain ⟨g, o, sp⟩ := a
      have hc := (hf 0 (by omega)).1
      have hs : sp = none := by simpa [Addr.add] using World.cell?_spot hc
      subst hs
      have hadd : ∀ j, (⟨g, o, none⟩ : Addr).add j = ⟨g, o + j, none⟩ := fun j => by unfold Addr.add; split <;> simp_all
      refine .inr ⟨g, o, rfl, Nat.zero_le _, ?_, fun i hi => ?_⟩
      · rw [hadd] at hc; exact World.block_lt_of_cell? w _ hc
      · have hi' : i < len := by simpa using hi
        obtain ⟨q0, q1, q2, q3⟩ := hf i hi'
        rw [hadd] at q0 q1 q2 q3
        simp only [List.getElem_map, List.getElem_range]
        exact ⟨q0, q1, q2, q3⟩

end Go.Proofs.Ytbceacnadkhdoab
