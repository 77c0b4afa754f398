/- A list of windows that came in, read as data: its windows. Sizes of slices, told by the laws' own functions. -/
import Derived.Test.YtoipcnpemmajaaaRr6
import Derived.Test.YtoipcnpemmajaaaRr7
import Derived.Deep.Strs
import Derived.Lib.SmallJoins
import Derived.Test.YtoipcnpemmajaaaRr3
namespace Go.Proofs.Ytoipcnpemmajaaa
open Go.ChangeShapes Go.WideShapes Go.ChangeAt Go.RowKit Go.Joins
set_option linter.unusedVariables false

theorem cellsLW : Try.prog.cellsOf 96 = 7 := by kernel_rfl
theorem cellsLRW : Try.prog.cellsOf 94 = 4 := by kernel_rfl
theorem cellsIW : Try.prog.cellsOf 2 = 1 := by kernel_rfl
theorem cellsBW : Try.prog.cellsOf 4 = 1 := by kernel_rfl
theorem cellsSW : Try.prog.cellsOf 48 = 1 := by kernel_rfl

instance wnInh : Inhabited Wn := ⟨⟨0, 0, 0, 0, 0, false, ⟨none, 0, 0, []⟩⟩⟩

set_option maxHeartbeats 1000000 in
theorem open_wins {H : Type} {enc : TypeId × Value → H} {w : World} {base : Nat} {spare : Nat → Bool} {held : Bool} {fuel : Nat} {cs : List Value} {x : DataW H × List MemPlace} (h : DataW.trod enc Try.prog w base spare held fuel 56 cs = some x) :
    ∃ (ao : Option Addr) (len cap : Nat) (L : List Wn), cs = [.slice ao len cap] ∧ L.length = len ∧ len ≤ maxLen ∧ Ws w 0 w.heap.size ao L ∧ ∀ r ∈ L, r.b.L.length ≤ maxLen := by
  rcases Go.Deep.open_slice Try.underlying56 h with ⟨rfl, _⟩ | ⟨a, len, cap, m, n, D, Pl, rfl, hb, hl, hm, hmm, rfl, hx⟩
  · exact ⟨none, 0, 0, [], rfl, rfl, Nat.zero_le _, .inl rfl, fun r hr => by simp at hr⟩
  · have hlm : len ≤ m := by rw [hmm]; split <;> omega
    have each : ∀ i, i < len → ∃ r : Wn, (∀ j, j < 7 → w.cell? (a.add (i * 7 + j)) = (Wn.vals r)[j]?) ∧ Row .i64 w 0 w.heap.size r.b.ao r.b.L ∧ r.b.L.length ≤ maxLen := by
      intro i hi
      obtain ⟨cs', h1, h2⟩ := hx i (by omega)
      rw [cellsLW] at h1
      obtain ⟨_, hlen, hcell⟩ := World.cells?_some h1
      obtain ⟨y0, y1, y2, y3, n', _, _, g0, g1, g2, g3⟩ := trod_struct4 Try.underlying96 h2
      simp only [cellsIW, cellsLRW, cellsBW, cellsSW] at g0 g1 g2 g3
      match cs', hlen with
      | [v0, v1, v2, v3, v4, v5, v6], _ =>
        simp at g0 g1 g2 g3
        obtain ⟨b0, e0, _, _⟩ := DataW.trod_int Try.underlying2 g0
        obtain ⟨z0, z1, z2, z3, n'', _, _, q0, q1, q2, q3⟩ := trod_struct4 Try.underlying94 g1
        simp only [cellsIW] at q0 q1 q2 q3
        simp at q0 q1 q2 q3
        obtain ⟨b1, e1, _, _⟩ := DataW.trod_int Try.underlying2 q0
        obtain ⟨b2, e2, _, _⟩ := DataW.trod_int Try.underlying2 q1
        obtain ⟨b3, e3, _, _⟩ := DataW.trod_int Try.underlying2 q2
        obtain ⟨b4, e4, _, _⟩ := DataW.trod_int Try.underlying2 q3
        obtain ⟨b5, e5, _⟩ := DataW.trod_bool Try.underlying4 g2
        obtain ⟨ao, al, ac, A, e6, la, ma, ra, _⟩ := open_nums Try.underlying48 Try.underlying2 (by kernel_rfl) g3
        simp at e0 e1 e2 e3 e4 e5 e6
        subst e0 e1 e2 e3 e4 e5 e6 la
        refine ⟨⟨b0, b1, b2, b3, b4, b5, ⟨ao, ac, 0, A⟩⟩, fun j hj => ?_, ra, ma⟩
        have kj := hcell j (by omega)
        rw [Go.Deep.add_add] at kj
        rw [kj]
        match j, hj with
        | 0, _ | 1, _ | 2, _ | 3, _ | 4, _ | 5, _ | 6, _ => rfl
    obtain ⟨f, hf⟩ := Go.Deep.choose_lt each
    refine ⟨some a, len, cap, (List.range len).map f, rfl, by simp, by omega, ?_, fun r hr => ?_⟩
    · by_cases h0 : len = 0
      · subst h0; exact .inl rfl
      · obtain ⟨g, o, sp⟩ := a
        have hc := (hf 0 (by omega)).1 0 (by omega)
        have hs : sp = none := by simpa [Addr.add] using World.cell?_spot hc
        subst hs
        have hadd : ∀ j, (⟨g, o, none⟩ : Addr).add j = ⟨g, o + j, none⟩ := fun j => by unfold Addr.add; split <;> simp_all
        refine .inr ⟨g, o, rfl, Nat.zero_le _, ?_, fun i hi => ?_⟩
        · rw [hadd] at hc; exact World.block_lt_of_cell? w _ hc
        · have hi' : i < len := by simpa using hi
          obtain ⟨q0, q3, _⟩ := hf i hi'
          simp only [List.getElem_map, List.getElem_range]
          refine ⟨fun j hj => ?_, q3⟩
          have := q0 j hj
          rw [hadd, ← Nat.add_assoc] at this
          exact this
    · obtain ⟨i, hi, rfl⟩ := List.mem_map.1 hr
      have := hf i (by simpa using hi)
      exact this.2.2
end Go.Proofs.Ytoipcnpemmajaaa

namespace Go.Proofs.Ytoipcnpemmajaaa
open Go.RowKit
set_option linter.unusedVariables false

/-- What is left of a size. -/
def szV (l : Int) (n : Nat) : Int := if (n : Int) ≤ l then l - n else -1
theorem szV_yes {l : Int} {n : Nat} (h : (n : Int) ≤ l) : szV l n = l - n := by unfold szV; rw [if_pos h]
theorem szV_no {l : Int} {n : Nat} (h : l < (n : Int)) : szV l n = -1 := by unfold szV; rw [if_neg (by omega)]

set_option maxHeartbeats 400000 in
theorem szI_any (ao : Option Addr) (n ca : Nat) (l : Int) (w : World) (hn : n ≤ maxLen) (h0 : 0 ≤ l) (h1 : l ≤ 1048576) :
    Calls Try.prog 85 #[.slice ao n ca, .int .i64 l] w fun e w' => e = .returned (.int .i64 (szV l n)) ∧ w' = w := by
  unfold maxLen at hn
  by_cases h : (n : Int) ≤ l
  · rw [szV_yes h]
    go_enter Try.func85, Try.ntmps85
    go_wp2
    go_returns
    exact ⟨rfl, rfl⟩
  · have h' : l < (n : Int) := by omega
    have h2 : (n : Int) ≤ 9223372036854775807 := by omega
    rw [szV_no h']
    go_enter Try.func85, Try.ntmps85
    go_wp2
    go_returns
    exact ⟨rfl, rfl⟩

end Go.Proofs.Ytoipcnpemmajaaa
