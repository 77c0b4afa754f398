/- A window that came in by value, read as data. -/
import Derived.Test.YtclfobpmafkgfaaArgW
namespace Go.Proofs.Ytclfobpmafkgfaa
open Go.ChangeShapes Go.WideShapes Go.ChangeAt Go.RowKit Go.Joins
set_option linter.unusedVariables false

theorem array7 {α : Type} {cs : Array α} (h : cs.size = 7) : ∃ c0 c1 c2 c3 c4 c5 c6, cs = #[c0, c1, c2, c3, c4, c5, c6] := by
  obtain ⟨l⟩ := cs
  match l, h with
  | [c0, c1, c2, c3, c4, c5, c6], _ => exact ⟨c0, c1, c2, c3, c4, c5, c6, rfl⟩

set_option maxRecDepth 100000 in
set_option maxHeartbeats 1000000 in
theorem open_win {H : Type} {enc : TypeId × Value → H} {w : World} {base b0 : Nat} {spare : Nat → Bool} {held : Bool} {r : Reach} {v : Value} {d : DataW H} {p : List MemPlace} (hv : Value.okWide Try.prog w r b0 62 v) (h : DataW.Trod enc Try.prog w base spare held 62 v d p) :
    ∃ (i x y p h : Int) (m : Bool) (ao : Option Addr) (ca : Nat) (D : List Int), v = .agg #[.int .i64 i, .int .i64 x, .int .i64 y, .int .i64 p, .int .i64 h, .bool m, .slice ao D.length ca] ∧ D.length ≤ maxLen ∧ Row .i64 w 0 w.heap.size ao D := by
  obtain ⟨cs, rfl, hsz⟩ := okWide_struct Try.underlying62 hv
  obtain ⟨v0, v1, v2, v3, v4, v5, v6, rfl⟩ := array7 (hsz.trans cellsLW)
  obtain ⟨fuel, h2⟩ := h
  obtain ⟨y0, y1, y2, y3, n', _, _, g0, g1, g2, g3⟩ := trod_struct4 Try.underlying62 h2
  simp only [cellsIW, cellsLRW, cellsBW, cellsSW] at g0 g1 g2 g3
  simp [Value.cells] at g0 g1 g2 g3
  obtain ⟨b0, e0, _, _⟩ := DataW.trod_int Try.underlying2 g0
  obtain ⟨z0, z1, z2, z3, n'', _, _, q0, q1, q2, q3⟩ := trod_struct4 Try.underlying49 g1
  simp only [cellsIW] at q0 q1 q2 q3
  simp at q0 q1 q2 q3
  obtain ⟨b1, e1, _, _⟩ := DataW.trod_int Try.underlying2 q0
  obtain ⟨b2, e2, _, _⟩ := DataW.trod_int Try.underlying2 q1
  obtain ⟨b3, e3, _, _⟩ := DataW.trod_int Try.underlying2 q2
  obtain ⟨b4, e4, _, _⟩ := DataW.trod_int Try.underlying2 q3
  obtain ⟨b5, e5, _⟩ := DataW.trod_bool Try.underlying4 g2
  obtain ⟨ao, al, ac, A, e6, la, ma, ra, _⟩ := open_nums Try.underlying37 Try.underlying2 (by kernel_rfl) g3
  simp at e0 e1 e2 e3 e4 e5 e6
  subst e0 e1 e2 e3 e4 e5 e6 la
  exact ⟨b0, b1, b2, b3, b4, b5, ao, ac, A, rfl, ma, ra⟩
end Go.Proofs.Ytclfobpmafkgfaa
