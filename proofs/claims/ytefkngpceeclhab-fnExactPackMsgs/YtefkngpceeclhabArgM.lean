/- A list of messages that came in, read as data: its messages. -/
import Derived.Test.YtefkngpceeclhabMs0
import Derived.Test.YtefkngpceeclhabArgQ
import Derived.Deep.Strs
namespace Go.Proofs.Ytefkngpceeclhab
open Go.ChangeShapes Go.WideShapes Go.ChangeAt Go.RowKit Go.Joins
set_option linter.unusedVariables false

theorem cellsLM : Try.prog.cellsOf 46 = 2 := by kernel_rfl
theorem cellsI7 : Try.prog.cellsOf 2 = 1 := by kernel_rfl
theorem cellsB7 : Try.prog.cellsOf 24 = 1 := by kernel_rfl

instance mgInh : Inhabited Mg := ⟨⟨0, none, 0, 0, []⟩⟩

theorem open_msgs {H : Type} {enc : TypeId × Value → H} {w : World} {base : Nat} {spare : Nat → Bool} {held : Bool} {fuel : Nat} {cs : List Value} {x : DataW H × List MemPlace} (h : DataW.trod enc Try.prog w base spare held fuel 22 cs = some x) :
    ∃ (ao : Option Addr) (len cap : Nat) (L : List Mg), cs = [.slice ao len cap] ∧ L.length = len ∧ len ≤ maxLen ∧ Ms w 0 w.heap.size ao L ∧ ∀ r ∈ L, r.b.L.length ≤ maxLen := by
  rcases Go.Deep.open_slice Try.underlying22 h with ⟨rfl, _⟩ | ⟨a, len, cap, m, n, D, Pl, rfl, hb, hl, hm, hmm, rfl, hx⟩
  · exact ⟨none, 0, 0, [], rfl, rfl, Nat.zero_le _, .inl rfl, fun r hr => by simp at hr⟩
  · have hlm : len ≤ m := by rw [hmm]; split <;> omega
    have each : ∀ i, i < len → ∃ r : Mg, w.cell? (a.add (i * 2)) = some (.int .i64 r.k) ∧ w.cell? (a.add (i * 2 + 1)) = some (.slice r.b.ao r.b.L.length r.b.cap) ∧ r.on w 0 w.heap.size ∧ r.b.L.length ≤ maxLen := by
      intro i hi
      obtain ⟨cs', h1, h2⟩ := hx i (by omega)
      rw [cellsLM] at h1
      obtain ⟨_, hlen, hcell⟩ := World.cells?_some h1
      obtain ⟨y0, y1, n', _, _, g0, g1⟩ := trod_struct2 Try.underlying46 h2
      simp only [cellsI7, cellsB7] at g0 g1
      match cs', hlen with
      | [v0, v1], _ =>
        simp at g0 g1
        obtain ⟨b0, e0, _, _⟩ := DataW.trod_int Try.underlying2 g0
        obtain ⟨bo, bl, bc, B, e1, lb, mb, rb, _⟩ := open_nums Try.underlying24 Try.underlying5 (by kernel_rfl) g1
        simp at e0 e1
        subst e0 e1 lb
        have k0 := hcell 0 (by omega)
        have k1 := hcell 1 (by omega)
        rw [Go.Deep.add_add] at k0 k1
        exact ⟨⟨b0, bo, bc, 0, B⟩, by simpa using k0, by simpa using k1, rb, mb⟩
    obtain ⟨f, hf⟩ := Go.Deep.choose_lt each
    refine ⟨some a, len, cap, (List.range len).map f, rfl, by simp, by omega, ?_, fun r hr => ?_⟩
    · by_cases h0 : len = 0
      · subst h0; exact .inl rfl
      · obtain ⟨g, o, sp⟩ := a
        have hc := (hf 0 (by omega)).1
        have hs : sp = none := by simpa [Addr.add] using World.cell?_spot hc
        subst hs
        have hadd : ∀ j, (⟨g, o, none⟩ : Addr).add j = ⟨g, o + j, none⟩ := fun j => by unfold Addr.add; split <;> simp_all
        refine .inr ⟨g, o, rfl, Nat.zero_le _, ?_, fun i hi => ?_⟩
        · rw [hadd] at hc; exact World.block_lt_of_cell? w _ hc
        · have hi' : i < len := by simpa using hi
          obtain ⟨q0, q1, q3, _⟩ := hf i hi'
          rw [hadd] at q0 q1
          simp only [List.getElem_map, List.getElem_range]
          exact ⟨⟨q0, q1⟩, q3⟩
    · obtain ⟨i, hi, rfl⟩ := List.mem_map.1 hr
      have := hf i (by simpa using hi)
      exact this.2.2.2
end Go.Proofs.Ytefkngpceeclhab
