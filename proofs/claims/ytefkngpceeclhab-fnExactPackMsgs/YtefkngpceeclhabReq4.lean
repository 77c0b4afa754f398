/- RequestFault of the model. -/
import Derived.Test.YtefkngpceeclhabReq2
namespace Go.Proofs.Ytefkngpceeclhab
open Go.RowKit
set_option linter.unusedVariables false

/-- A request's three cells. -/
structure IsReq (w : World) (b o : Nat) (k : Int) (va vd : Value) : Prop where
  c0 : w.cell? ⟨b, o, none⟩ = some (.int .i64 k)
  c1 : w.cell? ⟨b, o + 1, none⟩ = some va
  c2 : w.cell? ⟨b, o + 2, none⟩ = some vd
theorem IsReq.keep {w w' : World} {b o B : Nat} {k : Int} {va vd : Value} (h : IsReq w b o k va vd) (kk : Below B w w') (hb : b < B) : IsReq w' b o k va vd :=
  ⟨(kk.cell (p := ⟨b, o, none⟩) hb).trans h.c0, (kk.cell (p := ⟨b, o + 1, none⟩) hb).trans h.c1, (kk.cell (p := ⟨b, o + 2, none⟩) hb).trans h.c2⟩

/-- A request's box. -/
structure Bx (w : World) (b : Nat) (k : Int) (va vd : Value) : Prop where
  c0 : w.cell? ⟨b, 0, none⟩ = some (.int .i64 k)
  c1 : w.cell? ⟨b, 1, none⟩ = some va
  c2 : w.cell? ⟨b, 2, none⟩ = some vd
theorem Bx.keep {w w' : World} {b B : Nat} {k : Int} {va vd : Value} (h : Bx w b k va vd) (kk : Below B w w') (hb : b < B) : Bx w' b k va vd :=
  ⟨(kk.cell (p := ⟨b, 0, none⟩) hb).trans h.c0, (kk.cell (p := ⟨b, 1, none⟩) hb).trans h.c1, (kk.cell (p := ⟨b, 2, none⟩) hb).trans h.c2⟩
theorem Bx.far {w w' : World} {b lo hi : Nat} {k : Int} {va vd : Value} (h : Bx w b k va vd) (f : Far lo hi w w') (hb : b < w.heap.size) (hd : b < lo ∨ hi ≤ b) : Bx w' b k va vd :=
  ⟨(f.cell b 0 hb hd).trans h.c0, (f.cell b 1 hb hd).trans h.c1, (f.cell b 2 hb hd).trans h.c2⟩

end Go.Proofs.Ytefkngpceeclhab
