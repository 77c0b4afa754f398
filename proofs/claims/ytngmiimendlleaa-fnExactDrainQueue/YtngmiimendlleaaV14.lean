/- A list of messages that came in, read as data: its messages. Sizes of slices, told by the laws' own functions. -/
import Derived.Test.YtngmiimendlleaaV12
import Derived.Test.YtngmiimendlleaaV13
import Derived.Deep.Strs
import Derived.Test.YtngmiimendlleaaV3
namespace Go.Proofs.Ytngmiimendlleaa
open Go.ChangeShapes Go.WideShapes Go.ChangeAt Go.RowKit Go.Joins
set_option linter.unusedVariables false

theorem cellsLM : Try.prog.cellsOf 57 = 2 := by kernel_rfl
theorem cellsI7 : Try.prog.cellsOf 2 = 1 := by kernel_rfl
theorem cellsB7 : Try.prog.cellsOf 50 = 1 := by kernel_rfl

instance mgInh : Inhabited Mg := ⟨⟨0, none, 0, 0, []⟩⟩

theorem open_msgs {H : Type} {enc : TypeId × Value → H} {w : World} {base : Nat} {spare : Nat → Bool} {held : Bool} {fuel : Nat} {cs : List Value} {x : DataW H × List MemPlace} (h : DataW.trod enc Try.prog w base spare held fuel 22 cs = some x) :
    ∃ (ao : Option Addr) (len cap : Nat) (L : List Mg), cs = [.slice ao len cap] ∧ L.length = len ∧ len ≤ maxLen ∧ Ms w 0 w.heap.size ao L ∧ ∀ r ∈ L, r.b.L.length ≤ maxLen := by
  rcases Go.Deep.open_slice Try.underlying22 h with ⟨rfl, _⟩ | ⟨a, len, cap, m, n, D, Pl, rfl, hb, hl, hm, hmm, rfl, hx⟩
  · exact ⟨none, 0, 0, [], rfl, rfl, Nat.zero_le _, .inl rfl, fun r hr => by simp at hr⟩
  · have hlm : len ≤ m := by rw [hmm]; split <;> omega
    have each : ∀ i, i < len → ∃ r : Mg, w.cell? (a.add (i * 2)) = some (.int .i64 r.k) ∧ w.cell? (a.add (i * 2 + 1)) = some (.slice r.b.ao r.b.L.length r.b.cap) ∧ r.on w 0 w.heap.size ∧ r.b.L.length ≤ maxLen := by
      intro i hi
      obtain ⟨cs', h1, h2⟩ := hx i (by omega)
      rw [cellsLM] at h1
      obtain ⟨_, hlen, hcell⟩ := World.cells?_some h1
      obtain ⟨y0, y1, n', _, _, g0, g1⟩ := trod_struct2 Try.underlying57 h2
      simp only [cellsI7, cellsB7] at g0 g1
      match cs', hlen with
      | [v0, v1], _ =>
        simp at g0 g1
        obtain ⟨b0, e0, _, _⟩ := DataW.trod_int Try.underlying2 g0
        obtain ⟨bo, bl, bc, B, e1, lb, mb, rb, _⟩ := open_nums Try.underlying50 Try.underlying5 (by kernel_rfl) g1
        simp at e0 e1
        subst e0 e1 lb
        have k0 := hcell 0 (by omega)
        have k1 := hcell 1 (by omega)
        rw [Go.Deep.add_add] at k0 k1
        exact ⟨⟨b0, bo, bc, 0, B⟩, by simpa using k0, by simpa using k1, rb, mb⟩
    obtain ⟨f, hf⟩ := Go.Deep.choose_lt each
    refine ⟨some a, len, cap, (List.range len).map f, rfl, by simp, by omega, ?_, fun r hr => ?_⟩
    · by_cases h0 : len = 0
      · subst h0; exact .inl rfl
      · obtain ⟨g, o, sp⟩ := a
        have hc := (hf 0 (by omega)).1
        have hs : sp = none := by simpa [Addr.add] using World.cell?_spot hc
        subst hs
        have hadd : ∀ j, (⟨g, o, none⟩ : Addr).add j = ⟨g, o + j, none⟩ := fun j => by unfold Addr.add; split <;> simp_all
        refine .inr ⟨g, o, rfl, Nat.zero_le _, ?_, fun i hi => ?_⟩
        · rw [hadd] at hc; exact World.block_lt_of_cell? w _ hc
        · have hi' : i < len := by simpa using hi
          obtain ⟨q0, q1, q3, _⟩ := hf i hi'
          rw [hadd] at q0 q1
          simp only [List.getElem_map, List.getElem_range]
          exact ⟨⟨q0, q1⟩, q3⟩
    · obtain ⟨i, hi, rfl⟩ := List.mem_map.1 hr
      have := hf i (by simpa using hi)
      exact this.2.2.2
end Go.Proofs.Ytngmiimendlleaa

namespace Go.Proofs.Ytngmiimendlleaa
open Go.RowKit
set_option linter.unusedVariables false

/-- What is left of a size. -/
def szV (l : Int) (n : Nat) : Int := if (n : Int) ≤ l then l - n else -1
theorem szV_yes {l : Int} {n : Nat} (h : (n : Int) ≤ l) : szV l n = l - n := by unfold szV; rw [if_pos h]
theorem szV_no {l : Int} {n : Nat} (h : l < (n : Int)) : szV l n = -1 := by unfold szV; rw [if_neg (by omega)]

set_option maxHeartbeats 400000 in
theorem szB_any (ao : Option Addr) (n ca : Nat) (l : Int) (w : World) (hn : n ≤ maxLen) (h0 : 0 ≤ l) (h1 : l ≤ 1048576) :
    Calls Try.prog 38 #[.slice ao n ca, .int .i64 l] w fun e w' => e = .returned (.int .i64 (szV l n)) ∧ w' = w := by
  unfold maxLen at hn
  by_cases h : (n : Int) ≤ l
  · rw [szV_yes h]
    go_enter Try.func38, Try.ntmps38
    go_wp2
    go_returns
    exact ⟨rfl, rfl⟩
  · have h' : l < (n : Int) := by omega
    have h2 : (n : Int) ≤ 9223372036854775807 := by omega
    rw [szV_no h']
    go_enter Try.func38, Try.ntmps38
    go_wp2
    go_returns
    exact ⟨rfl, rfl⟩

end Go.Proofs.Ytngmiimendlleaa
