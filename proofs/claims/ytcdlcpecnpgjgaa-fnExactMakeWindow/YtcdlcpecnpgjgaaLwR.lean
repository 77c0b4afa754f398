/- The laws' rectangle: a box that is read again and again. -/
import Derived.Test.YtcdlcpecnpgjgaaWiC
import Derived.Test.YtcdlcpecnpgjgaaWi4
import Derived.Test.YtcdlcpecnpgjgaaBoxK
namespace Go.Proofs.Ytcdlcpecnpgjgaa
open Go.RowKit Go.Maps
set_option linter.unusedVariables false

/-- A box with a rectangle. -/
structure Qr (w : World) (b : Nat) (x y p h : Int) : Prop where
  c0 : w.cell? ⟨b, 0, none⟩ = some (.int .i64 x)
  c1 : w.cell? ⟨b, 1, none⟩ = some (.int .i64 y)
  c2 : w.cell? ⟨b, 2, none⟩ = some (.int .i64 p)
  c3 : w.cell? ⟨b, 3, none⟩ = some (.int .i64 h)
  lt : b < w.heap.size
section
variable {w w' : World} {b B lo hi : Nat} {x y p h : Int}
theorem Qr.keep (q : Qr w b x y p h) (k : Below B w w') (hb : b < B) : Qr w' b x y p h :=
  ⟨(k.cell (p := ⟨b, 0, none⟩) hb).trans q.c0, (k.cell (p := ⟨b, 1, none⟩) hb).trans q.c1, (k.cell (p := ⟨b, 2, none⟩) hb).trans q.c2, (k.cell (p := ⟨b, 3, none⟩) hb).trans q.c3, Nat.lt_of_lt_of_le q.lt k.size⟩
theorem Qr.far (q : Qr w b x y p h) (f : Far lo hi w w') (hd : b < lo ∨ hi ≤ b) : Qr w' b x y p h :=
  ⟨(f.cell b 0 q.lt hd).trans q.c0, (f.cell b 1 q.lt hd).trans q.c1, (f.cell b 2 q.lt hd).trans q.c2, (f.cell b 3 q.lt hd).trans q.c3, Nat.lt_of_lt_of_le q.lt f.size⟩
end
theorem qr_new (w : World) (x y p h : Int) (T : TypeId) : Qr (w.alloc (.cells #[.int .i64 x, .int .i64 y, .int .i64 p, .int .i64 h] T)) w.heap.size x y p h := ⟨by simp, by simp, by simp, by simp, by simp⟩
theorem r3_at {w : World} {B : Nat} {v0 v1 v2 : Value} {T : TypeId} (h : w.heap[B]? = some (.cells #[v0, v1, v2] T)) : R3 w B v0 v1 v2 := by
  have hB : B < w.heap.size := (Array.getElem?_eq_some_iff.1 h).1
  exact ⟨by simp [World.cell?, h], by simp [World.cell?, h], by simp [World.cell?, h], fun c => by simp [World.frozen?, h], hB⟩
theorem R3.put {w : World} {b : Nat} {v0 v1 v2 : Value} (h : R3 w b v0 v1 v2) (u0 u1 u2 : Value) : R3 (((w.setCell ⟨b, 0, none⟩ u0).setCell ⟨b, 1, none⟩ u1).setCell ⟨b, 2, none⟩ u2) b u0 u1 u2 := by
  refine ⟨?_, ?_, ?_, fun c => by simpa using h.fr c, by simpa using h.lt⟩
  · rw [cell_set_other (by omega), cell_set_other (by omega)]; exact cell_set_same h.c0
  · rw [cell_set_other (by omega)]; exact cell_set_same ((cell_set_other (by omega)).trans h.c1)
  · exact cell_set_same ((cell_set_other (by omega)).trans ((cell_set_other (by omega)).trans h.c2))
theorem far_put3 {w : World} {b : Nat} (u0 u1 u2 : Value) : Far b (b + 1) w (((w.setCell ⟨b, 0, none⟩ u0).setCell ⟨b, 1, none⟩ u1).setCell ⟨b, 2, none⟩ u2) :=
  (((Far.refl b (b + 1) w).setCell (p := ⟨b, 0, none⟩) (Nat.le_refl _) (Nat.lt_succ_self _) u0).setCell (p := ⟨b, 1, none⟩) (Nat.le_refl _) (Nat.lt_succ_self _) u1).setCell (p := ⟨b, 2, none⟩) (Nat.le_refl _) (Nat.lt_succ_self _) u2
end Go.Proofs.Ytcdlcpecnpgjgaa
