/- The pushes' laws: what they carry along. -/
import Derived.Test.YtngmiimendlleaaV41
import Derived.Test.YtngmiimendlleaaV24
import Derived.Test.YtngmiimendlleaaV42
import Derived.Test.YtngmiimendlleaaV43
namespace Go.Proofs.Ytngmiimendlleaa
open Go.RowKit
set_option linter.unusedVariables false

/-- The law's own two boxes. -/
structure In2 (w W : World) (u0 u1 v0 v1 : Value) : Prop where
  K : Below w.heap.size w W
  A : Rb W w.heap.size u0 u1
  D : Rb W (w.heap.size + 1) v0 v1
theorem In2.keep {w W W' : World} {u0 u1 v0 v1 : Value} {B : Nat} (h : In2 w W u0 u1 v0 v1) (k : Below B W W') (hb : w.heap.size + 2 ≤ B) : In2 w W' u0 u1 v0 v1 :=
  ⟨h.K.trans (k.mono (by omega)), h.A.keep k (by omega), h.D.keep k (by omega)⟩
theorem In2.far {w W W' : World} {u0 u1 v0 v1 : Value} {lo hi : Nat} (h : In2 w W u0 u1 v0 v1) (f : Far lo hi W W') (hb : w.heap.size + 2 ≤ lo) : In2 w W' u0 u1 v0 v1 :=
  ⟨h.K.trans (f.below (by omega) (by have := h.D.lt; omega)), h.A.far f (by omega), h.D.far f (by omega)⟩
/-- A queue of one's own, in its box. -/
structure XQ (W : World) (b lo hi : Nat) (s : Option Addr) (M : List Mg) (n : Nat) (v : Bool) : Prop where
  box : Rb W b (.slice s n n) (.bool v)
  qm : QM W lo hi none [] s M
theorem XQ.keep {W W' : World} {b lo hi B n : Nat} {s : Option Addr} {M : List Mg} {v : Bool} (h : XQ W b lo hi s M n v) (k : Below B W W') (hb : b < B) (hh : hi ≤ B) : XQ W' b lo hi s M n v := ⟨h.box.keep k hb, h.qm.keep k hh⟩
theorem XQ.far {W W' : World} {b lo hi lo' hi' n : Nat} {s : Option Addr} {M : List Mg} {v : Bool} (h : XQ W b lo hi s M n v) (f : Far lo' hi' W W') (hb : b < lo' ∨ hi' ≤ b) (hd : hi ≤ lo' ∨ hi' ≤ lo) : XQ W' b lo hi s M n v := ⟨h.box.far f hb, h.qm.far f hd⟩
/-- A message of one's own, in its box. -/
structure XM (W : World) (b lo hi : Nat) (k : Int) (m : Mg) (D : List Int) (n : Nat) : Prop where
  box : Rb W b (.int .i64 k) (.slice m.b.ao n m.b.cap)
  bods : Bods W lo hi [m.b]
  hs : hi ≤ W.heap.size
  le : m.b.L = D
theorem XM.keep {W W' : World} {b lo hi B n : Nat} {k : Int} {m : Mg} {D : List Int} (h : XM W b lo hi k m D n) (kk : Below B W W') (hb : b < B) (hh : hi ≤ B) : XM W' b lo hi k m D n := ⟨h.box.keep kk hb, h.bods.keep kk hh, Nat.le_trans h.hs kk.size, h.le⟩
theorem XM.far {W W' : World} {b lo hi lo' hi' n : Nat} {k : Int} {m : Mg} {D : List Int} (h : XM W b lo hi k m D n) (f : Far lo' hi' W W') (hb : b < lo' ∨ hi' ≤ b) (hd : hi ≤ lo' ∨ hi' ≤ lo) : XM W' b lo hi k m D n := ⟨h.box.far f hb, h.bods.far f hd, Nat.le_trans h.hs f.size, h.le⟩
theorem XM.row {W : World} {b lo hi n : Nat} {k : Int} {m : Mg} {D : List Int} (h : XM W b lo hi k m D n) : Row .u8 W lo hi m.b.ao D := by have := h.bods.row (b := m.b) (by simp); rwa [h.le] at this
theorem NewM.bods {w w' : World} {k : Int} {D : List Int} {m : Mg} (h : NewM w w' k D m) : Bods w' w.heap.size w'.heap.size [m.b] :=
  ⟨fun b hb => by simp at hb; subst hb; exact h.on, fun b hb e => by simp at hb; subst hb; exact h.inn e, List.pairwise_singleton _ _⟩
theorem NewM.row {w w' : World} {k : Int} {D : List Int} {m : Mg} (h : NewM w w' k D m) : Row .u8 w' w.heap.size w'.heap.size m.b.ao D := by have := h.bods.row (b := m.b) (by simp); rwa [h.le] at this
theorem r4_at {w : World} {B : Nat} {v0 v1 v2 v3 : Value} {T : TypeId} (h : w.heap[B]? = some (.cells #[v0, v1, v2, v3] T)) : R4 w B v0 v1 v2 v3 := by
  have hB : B < w.heap.size := (Array.getElem?_eq_some_iff.1 h).1
  exact ⟨by simp [World.cell?, h], by simp [World.cell?, h], by simp [World.cell?, h], by simp [World.cell?, h], by simp [World.frozen?, h], by simp [World.frozen?, h], by simp [World.frozen?, h], by simp [World.frozen?, h], hB⟩
/-- Four cells written, one after the other. -/
theorem R4.put {w : World} {b : Nat} {v0 v1 v2 v3 : Value} (h : R4 w b v0 v1 v2 v3) (u0 u1 u2 u3 : Value) : R4 ((((w.setCell ⟨b, 0, none⟩ u0).setCell ⟨b, 1, none⟩ u1).setCell ⟨b, 2, none⟩ u2).setCell ⟨b, 3, none⟩ u3) b u0 u1 u2 u3 := by
  have a0 : (w.setCell ⟨b, 0, none⟩ u0).cell? ⟨b, 1, none⟩ = some v1 := (cell_set_other (by omega)).trans h.c1
  have a1 : ((w.setCell ⟨b, 0, none⟩ u0).setCell ⟨b, 1, none⟩ u1).cell? ⟨b, 2, none⟩ = some v2 := (cell_set_other (by omega)).trans ((cell_set_other (by omega)).trans h.c2)
  have a2 : (((w.setCell ⟨b, 0, none⟩ u0).setCell ⟨b, 1, none⟩ u1).setCell ⟨b, 2, none⟩ u2).cell? ⟨b, 3, none⟩ = some v3 := (cell_set_other (by omega)).trans ((cell_set_other (by omega)).trans ((cell_set_other (by omega)).trans h.c3))
  refine ⟨?_, ?_, ?_, ?_, by simpa using h.f0, by simpa using h.f1, by simpa using h.f2, by simpa using h.f3, by simpa using h.lt⟩
  · exact (cell_set_other (by omega)).trans ((cell_set_other (by omega)).trans ((cell_set_other (by omega)).trans (cell_set_same h.c0)))
  · exact (cell_set_other (by omega)).trans ((cell_set_other (by omega)).trans (cell_set_same a0))
  · exact (cell_set_other (by omega)).trans (cell_set_same a1)
  · exact cell_set_same a2
theorem far_put4 {w : World} {b : Nat} (u0 u1 u2 u3 : Value) : Far b (b + 1) w ((((w.setCell ⟨b, 0, none⟩ u0).setCell ⟨b, 1, none⟩ u1).setCell ⟨b, 2, none⟩ u2).setCell ⟨b, 3, none⟩ u3) :=
  ((((Far.refl b (b + 1) w).setCell (p := ⟨b, 0, none⟩) (Nat.le_refl _) (Nat.lt_succ_self _) u0).setCell (p := ⟨b, 1, none⟩) (Nat.le_refl _) (Nat.lt_succ_self _) u1).setCell (p := ⟨b, 2, none⟩) (Nat.le_refl _) (Nat.lt_succ_self _) u2).setCell (p := ⟨b, 3, none⟩) (Nat.le_refl _) (Nat.lt_succ_self _) u3

/-- An answer of a queue's function, with two lists. -/
def QAns (z : Int) (P1 P2 : List (Int × List Int)) (n1 n2 : Nat) (v : Bool) (w : World) (e : Ending) (w' : World) : Prop :=
  ∃ (s1 s2 : Option Addr) (c1 c2 : Nat) (L1 L2 : List Mg), e = .returned (.agg #[.int .i64 z, .slice s1 n1 c1, .slice s2 n2 c2, .bool v]) ∧ L1.map Mg.ct = P1 ∧ L2.map Mg.ct = P2 ∧ L1.length = n1 ∧ L2.length = n2 ∧ QM w' w.heap.size w'.heap.size s1 L1 s2 L2 ∧ Below w.heap.size w w'
theorem qans_put {C : List (Int × List Int)} {t : Int × List Int} {rep v : Bool} {w w' : World} {e : Ending} (h : PutA C t rep v w e w') : QAns (puC C t rep) [] (puL C t rep) 0 (puL C t rep).length (puV C t rep v) w e w' := by
  obtain ⟨s, c, N, he, hN, hl, hb⟩ := h
  have hlen : N.length = (puL C t rep).length := by rw [← hN]; simp
  exact ⟨none, s, 0, c, [], N, by rw [← hlen]; exact he, rfl, hN, rfl, hlen, hl.qm hb.size |> fun q => q, hb⟩

end Go.Proofs.Ytngmiimendlleaa
