/- Frames cut by the program: the machine. -/
import Derived.Test.YtgjbjafodkiilaaTj20
namespace Go.Proofs.Ytgjbjafodkiilaa
open Go.RowKit
set_option linter.unusedVariables false

theorem R3.put0 {w : World} {b : Nat} {v0 v1 v2 : Value} (h : R3 w b v0 v1 v2) (u : Value) : R3 (w.setCell ⟨b, 0, none⟩ u) b u v1 v2 :=
  ⟨cell_set_same h.c0, (cell_set_other (by omega)).trans h.c1, (cell_set_other (by omega)).trans h.c2, by simpa using h.f0, by simpa using h.f1, by simpa using h.f2, by simpa using h.lt⟩
theorem R3.far {w w' : World} {b lo hi : Nat} {v0 v1 v2 : Value} (h : R3 w b v0 v1 v2) (f : Far lo hi w w') (hd : b < lo ∨ hi ≤ b) : R3 w' b v0 v1 v2 :=
  ⟨(f.cell b 0 h.lt hd).trans h.c0, (f.cell b 1 h.lt hd).trans h.c1, (f.cell b 2 h.lt hd).trans h.c2, (f.frozen b 0 h.lt hd).trans h.f0, (f.frozen b 1 h.lt hd).trans h.f1, (f.frozen b 2 h.lt hd).trans h.f2, Nat.lt_of_lt_of_le h.lt f.size⟩
theorem far_set (w : World) (p : Addr) (v : Value) : Far p.block (p.block + 1) w (w.setCell p v) := (Far.refl _ _ w).setCell (Nat.le_refl _) (Nat.lt_succ_self _) v
theorem Bods.set {w : World} {lo hi : Nat} {bs : List Bd} (h : Bods w lo hi bs) (p : Addr) (v : Value) (hp : p.block < lo) : Bods (w.setCell p v) lo hi bs := h.far (far_set w p v) (.inr hp)

theorem kalF (w : World) (o : Obj) : Below w.heap.size w (w.alloc o) := (Below.refl _ _).alloc (Nat.le_refl _) o
theorem new_cell (w : World) (v : Value) (T : TypeId) (b : Nat) (hb : b = w.heap.size) : (w.alloc (.cells #[v] T)).cell? ⟨b, 0, none⟩ = some v := by subst hb; rw [World.cell?_alloc_new]; rfl

set_option maxRecDepth 100000 in
theorem sl_both (g o len cap : Nat) (kl kh : IntKind) (l h : Int) (h0 : 0 ≤ l) (h1 : l ≤ h) (h2 : h ≤ cap) (w : World) :
    (Instr.slice 22 (.slice (some ⟨g, o, none⟩) len cap) (some (.int kl l)) (some (.int kh h)) none).run Try.prog w = .ok (.slice (some ⟨g, sOff o cap l.toNat, none⟩) (h.toNat - l.toNat) (cap - l.toNat)) w := by
  rw [run_slice_lh w 22 _ len cap Try.underlying22 kl kh l h h0 h1 h2]
  have e : Try.prog.elem 22 = 5 := by kernel_rfl
  rw [e, Try.sizeB]
  simp only [Result.andThen_ok]
  unfold sliced sOff
  by_cases hc : cap = l.toNat
  · simp [hc]
  · simp [hc, add_none]

theorem sl_frame (g o len cap n : Nat) (kl kh : IntKind) (h2 : n + 1 ≤ cap) (w : World) :
    (Instr.slice 22 (.slice (some ⟨g, o, none⟩) len cap) (some (.int kl 1)) (some (.int kh (1 + (n : Int)))) none).run Try.prog w = .ok (.slice (some ⟨g, sOff o cap 1, none⟩) n (cap - 1)) w := by
  rw [sl_both g o len cap kl kh 1 (1 + (n : Int)) (by omega) (by omega) (by omega)]
  have e : (1 + (n : Int)).toNat - (1 : Int).toNat = n := by omega
  rw [e]
  rfl
theorem sl_tail (g o len cap n : Nat) (kl : IntKind) (h2 : n + 1 ≤ len) (w : World) :
    (Instr.slice 22 (.slice (some ⟨g, o, none⟩) len cap) (some (.int kl (1 + (n : Int)))) none none).run Try.prog w = .ok (.slice (some ⟨g, sOff o cap (n + 1), none⟩) (len - (n + 1)) (cap - (n + 1))) w := by
  rw [sl_from g o len cap kl (1 + (n : Int)) (by omega) (by omega)]
  have e : (1 + (n : Int)).toNat = n + 1 := by omega
  rw [e]

/-- Where the machine stands: bs cut off, S still to be cut. -/
structure FS (w w' : World) (lo hi : Nat) (A S : List Int) (g o cap : Nat) (so : Option Addr) (sc : Nat) (bs : List Bd) : Prop where
  keep : Below w.heap.size w w'
  res : R3 w' w.heap.size (.slice none 0 0) (.int .i64 0) (.slice none 0 0)
  box : R3 w' (w.heap.size + 1) (.slice so bs.length sc) (.int .i64 (nW (bs.map Bd.L))) (.slice none 0 0)
  row : Row .u8 w' lo hi (some ⟨g, o, none⟩) S
  cap : S.length ≤ cap
  by_ : byts S
  own : OwnB w' (w.heap.size + 1 + 1) so sc bs
  bods : Bods w' (w.heap.size + 1 + 1) w'.heap.size bs
  mid : Mid A (bs.map Bd.L) S
  len : bs.length + S.length ≤ A.length

/-- The machine's frame. -/
def Fm (a : Act) (S : List Int) (g o cap b0 b1 : Nat) : Prop := ∃ u4 u5 u6 u7 u8 u9 u10 u11 u12 u13 u14 u15 u16 u17 u18 u19 u20 u21 u22 u23 u24 u25 u26 u27 u28 u29 u30 u31 u32 u33 u34 u35 u36 u37 u38 u39 u40 u41 u42 u43 u44 u45 u46 : Value, a = { tmps := #[.slice (some ⟨g, o, none⟩) S.length cap, undef, .pointer (some ⟨b0, 0, none⟩), .pointer (some ⟨b1, 0, none⟩), u4, u5, u6, u7, u8, u9, u10, u11, u12, u13, u14, u15, u16, u17, u18, u19, u20, u21, u22, u23, u24, u25, u26, u27, u28, u29, u30, u31, u32, u33, u34, u35, u36, u37, u38, u39, u40, u41, u42, u43, u44, u45, u46], defers := [] }

def FJ (w : World) (lo hi : Nat) (A : List Int) (l : Nat) (a : Act) (w' : World) : Prop :=
  ∃ S g o cap so sc bs, Fm a S g o cap w.heap.size (w.heap.size + 1) ∧ FS w w' lo hi A S g o cap so sc bs ∧ (l = 0 ∨ (l = 1 ∧ ∃ x T, S = x :: T ∧ isW x = true) ∨ (l = 2 ∧ ∃ x T, S = x :: T ∧ isW x = false ∧ ¬ (T.length : Int) < x))
def lenSl : Value → Nat
  | .slice _ n _ => n
  | _ => 0
def Fmu (l : Nat) (a : Act) (_ : World) : Nat := 3 * lenSl (a.tmps.getD 0 undef) - (if l = 0 then 0 else 1)

/-- What is told of frames that were cut. -/
def CutAns (w : World) (A : List Int) (e : Ending) (w' : World) : Prop :=
  ∃ so sc bs r, e = .returned (.agg #[.slice so bs.length sc, .int .i64 (nW (bs.map Bd.L)), .slice r.ao r.L.length r.cap]) ∧ Below w.heap.size w w' ∧ cut A = (bs.map Bd.L, r.L) ∧ Frm w' w.heap.size w'.heap.size so bs r

/-- Put into the result's box. -/
theorem fin3 {w w' : World} {so : Option Addr} {sc : Nat} {bs : List Bd} {r : Bd} (k : Below w.heap.size w w') (hz : w.heap.size + 1 + 1 ≤ w'.heap.size) (own : OwnB w' (w.heap.size + 1 + 1) so sc bs) (hB : Bods w' (w.heap.size + 1 + 1) w'.heap.size (bs ++ [r])) (v0 v1 v2 : Value) :
    Below w.heap.size w (((w'.setCell ⟨w.heap.size, 0, none⟩ v0).setCell ⟨w.heap.size, 1, none⟩ v1).setCell ⟨w.heap.size, 2, none⟩ v2) ∧
    Frm (((w'.setCell ⟨w.heap.size, 0, none⟩ v0).setCell ⟨w.heap.size, 1, none⟩ v1).setCell ⟨w.heap.size, 2, none⟩ v2) w.heap.size (((w'.setCell ⟨w.heap.size, 0, none⟩ v0).setCell ⟨w.heap.size, 1, none⟩ v1).setCell ⟨w.heap.size, 2, none⟩ v2).heap.size so bs r := by
  refine ⟨((k.setCell (Nat.le_refl _) _).setCell (Nat.le_refl _) _).setCell (Nat.le_refl _) _, ?_⟩
  have o3 : OwnB (((w'.setCell ⟨w.heap.size, 0, none⟩ v0).setCell ⟨w.heap.size, 1, none⟩ v1).setCell ⟨w.heap.size, 2, none⟩ v2) (w.heap.size + 1 + 1) so sc bs :=
    ((own.set _ _ (by show w.heap.size < _; omega)).set _ _ (by show w.heap.size < _; omega)).set _ _ (by show w.heap.size < _; omega)
  have b3 := ((hB.set ⟨w.heap.size, 0, none⟩ v0 (by show w.heap.size < _; omega)).set ⟨w.heap.size, 1, none⟩ v1 (by show w.heap.size < _; omega)).set ⟨w.heap.size, 2, none⟩ v2 (by show w.heap.size < _; omega)
  exact ⟨by simp; omega, Nat.le_refl _, b3.wide (by omega) (by simp), o3.spn.wide (by omega) (Nat.le_refl _)⟩

/-- The same, what was built lying further up. -/
theorem fin3' {w w' : World} {B : Nat} {so : Option Addr} {sc : Nat} {bs : List Bd} {r : Bd} (k : Below w.heap.size w w') (hB1 : w.heap.size < B) (hz : B ≤ w'.heap.size) (own : OwnB w' B so sc bs) (hB : Bods w' B w'.heap.size (bs ++ [r])) (v0 v1 v2 : Value) :
    Below w.heap.size w (((w'.setCell ⟨w.heap.size, 0, none⟩ v0).setCell ⟨w.heap.size, 1, none⟩ v1).setCell ⟨w.heap.size, 2, none⟩ v2) ∧
    Frm (((w'.setCell ⟨w.heap.size, 0, none⟩ v0).setCell ⟨w.heap.size, 1, none⟩ v1).setCell ⟨w.heap.size, 2, none⟩ v2) w.heap.size (((w'.setCell ⟨w.heap.size, 0, none⟩ v0).setCell ⟨w.heap.size, 1, none⟩ v1).setCell ⟨w.heap.size, 2, none⟩ v2).heap.size so bs r := by
  refine ⟨((k.setCell (Nat.le_refl _) _).setCell (Nat.le_refl _) _).setCell (Nat.le_refl _) _, ?_⟩
  have o3 : OwnB (((w'.setCell ⟨w.heap.size, 0, none⟩ v0).setCell ⟨w.heap.size, 1, none⟩ v1).setCell ⟨w.heap.size, 2, none⟩ v2) B so sc bs :=
    ((own.set _ _ (by show w.heap.size < _; omega)).set _ _ (by show w.heap.size < _; omega)).set _ _ (by show w.heap.size < _; omega)
  have b3 := ((hB.set ⟨w.heap.size, 0, none⟩ v0 (by show w.heap.size < _; omega)).set ⟨w.heap.size, 1, none⟩ v1 (by show w.heap.size < _; omega)).set ⟨w.heap.size, 2, none⟩ v2 (by show w.heap.size < _; omega)
  exact ⟨by simp; omega, Nat.le_refl _, b3.wide (by omega) (by simp), o3.spn.wide (by omega) (Nat.le_refl _)⟩

end Go.Proofs.Ytgjbjafodkiilaa
