/- A list of requests that came in, read as data: its requests. -/
import Derived.Test.YtbceacnadkhdoacJo0
import Derived.Test.YtbceacnadkhdoacArgQ
import Derived.Deep.Strs
namespace Go.Proofs.Ytbceacnadkhdoac
open Go.ChangeShapes Go.WideShapes Go.ChangeAt Go.RowKit Go.Joins
set_option linter.unusedVariables false

theorem cellsLQ : Try.prog.cellsOf 38 = 3 := by kernel_rfl
theorem cellsI7 : Try.prog.cellsOf 2 = 1 := by kernel_rfl
theorem cellsA7 : Try.prog.cellsOf 36 = 1 := by kernel_rfl
theorem cellsB7 : Try.prog.cellsOf 24 = 1 := by kernel_rfl

instance rqInh : Inhabited Rq := ⟨⟨0, none, 0, [], none, 0, []⟩⟩

theorem open_reqs {H : Type} {enc : TypeId × Value → H} {w : World} {base : Nat} {spare : Nat → Bool} {held : Bool} {fuel : Nat} {cs : List Value} {x : DataW H × List MemPlace} (h : DataW.trod enc Try.prog w base spare held fuel 22 cs = some x) :
    ∃ (ao : Option Addr) (len cap : Nat) (L : List Rq), cs = [.slice ao len cap] ∧ L.length = len ∧ len ≤ maxLen ∧ Rqs w 0 w.heap.size ao L ∧ ∀ r ∈ L, r.A.length ≤ maxLen ∧ r.D.length ≤ maxLen := by
  rcases Go.Deep.open_slice Try.underlying22 h with ⟨rfl, _⟩ | ⟨a, len, cap, m, n, D, Pl, rfl, hb, hl, hm, hmm, rfl, hx⟩
  · exact ⟨none, 0, 0, [], rfl, rfl, Nat.zero_le _, .inl rfl, fun r hr => by simp at hr⟩
  · have hlm : len ≤ m := by rw [hmm]; split <;> omega
    have each : ∀ i, i < len → ∃ r : Rq, w.cell? (a.add (i * 3)) = some (.int .i64 r.k) ∧ w.cell? (a.add (i * 3 + 1)) = some (.slice r.ao r.A.length r.ca) ∧ w.cell? (a.add (i * 3 + 2)) = some (.slice r.bo r.D.length r.cb) ∧ r.on w 0 w.heap.size ∧ r.A.length ≤ maxLen ∧ r.D.length ≤ maxLen := by
      intro i hi
      obtain ⟨cs', h1, h2⟩ := hx i (by omega)
      rw [cellsLQ] at h1
      obtain ⟨_, hlen, hcell⟩ := World.cells?_some h1
      obtain ⟨y0, y1, y2, n', _, _, g0, g1, g2⟩ := Go.Deep.trod_struct3 Try.underlying38 h2
      simp only [cellsI7, cellsA7, cellsB7] at g0 g1 g2
      match cs', hlen with
      | [v0, v1, v2], _ =>
        simp at g0 g1 g2
        obtain ⟨b0, e0, _, _⟩ := DataW.trod_int Try.underlying2 g0
        obtain ⟨ao, al, ac, A, e1, la, ma, ra, _⟩ := open_nums Try.underlying36 Try.underlying2 (by kernel_rfl) g1
        obtain ⟨bo, bl, bc, B, e2, lb, mb, rb, _⟩ := open_nums Try.underlying24 Try.underlying5 (by kernel_rfl) g2
        simp at e0 e1 e2
        subst e0 e1 e2 la lb
        have k0 := hcell 0 (by omega)
        have k1 := hcell 1 (by omega)
        have k2 := hcell 2 (by omega)
        rw [Go.Deep.add_add] at k0 k1 k2
        exact ⟨⟨b0, ao, ac, A, bo, bc, B⟩, by simpa using k0, by simpa using k1, by simpa using k2, ⟨ra, rb⟩, ma, mb⟩
    obtain ⟨f, hf⟩ := Go.Deep.choose_lt each
    refine ⟨some a, len, cap, (List.range len).map f, rfl, by simp, by omega, ?_, fun r hr => ?_⟩
    · by_cases h0 : len = 0
      · subst h0; exact .inl rfl
      · obtain ⟨g, o, sp⟩ := a
        have hc := (hf 0 (by omega)).1
        have hs : sp = none := by simpa [Addr.add] using World.cell?_spot hc
        subst hs
        have hadd : ∀ j, (⟨g, o, none⟩ : Addr).add j = ⟨g, o + j, none⟩ := fun j => by unfold Addr.add; split <;> simp_all
        refine .inr ⟨g, o, rfl, Nat.zero_le _, ?_, fun i hi => ?_⟩
        · rw [hadd] at hc; exact World.block_lt_of_cell? w _ hc
        · have hi' : i < len := by simpa using hi
          obtain ⟨q0, q1, q2, q3, _⟩ := hf i hi'
          rw [hadd] at q0 q1 q2
          simp only [List.getElem_map, List.getElem_range]
          exact ⟨⟨q0, q1, q2⟩, q3⟩
    · obtain ⟨i, hi, rfl⟩ := List.mem_map.1 hr
      have := hf i (by simpa using hi)
      exact this.2.2.2.2
end Go.Proofs.Ytbceacnadkhdoac
