/- CutRects: the law's walk. Whose each point of the screen is, as the program puts it down: window by window. -/
import Derived.Test.YtmmjannkfmiohaaTs39
import Derived.Deep.Cut
import Derived.Test.YtmmjannkfmiohaaTs38
import Derived.Test.YtmmjannkfmiohaaTs36
import Derived.Test.YtmmjannkfmiohaaTs34
namespace Go.Proofs.Ytmmjannkfmiohaa
open Go.RowKit
set_option linter.unusedVariables false
attribute [local go_sem] growUpon growAt madeUpon madeAt

theorem cut_any_i (a b : Rc) (w : World) :
    Calls Try.prog 47 #[.agg #[.int .i64 a.x, .int .i64 a.y, .int .i64 a.w, .int .i64 a.h], .agg #[.int .i64 b.x, .int .i64 b.y, .int .i64 b.w, .int .i64 b.h]] w fun e w' => ∃ v, e = .returned v ∧ Below w.heap.size w w' ∧ Res (rfOf (a.flt || b.flt)) (cutR a b) w v w' := by
  cases h : (a.flt || b.flt)
  · have e : cutR a b = cutL a b := by unfold cutR; rw [h]; rfl
    rw [e]; exact iCut_ok a b w h
  · have e : cutR a b = [] := by unfold cutR; rw [h]; rfl
    rw [e]; exact iCut_no a b w h

/-- A result's box. -/
structure Box (W : World) (B : Nat) (c : Int) (s : Value) : Prop where
  lt : B < W.heap.size
  c0 : W.cell? ⟨B, 0, none⟩ = some (.int .i64 c)
  c1 : W.cell? ⟨B, 1, none⟩ = some s
theorem Box.keep {W W' : World} {B n : Nat} {c : Int} {s : Value} (h : Box W B c s) (k : Below n W W') (hn : B < n) : Box W' B c s :=
  ⟨Nat.lt_of_lt_of_le h.lt k.size, (k.cell (p := ⟨B, 0, none⟩) hn).trans h.c0, (k.cell (p := ⟨B, 1, none⟩) hn).trans h.c1⟩

/-- Behind a region that called for a result and stored it into a local's box: w was ahead of it, W is behind it. -/
structure Got (w W : World) (B lo hi : Nat) (c : Int) (ao : Option Addr) (cap : Nat) (L : List Rc) : Prop where
  below : Below w.heap.size w W
  box : Box W B c (.slice ao L.length cap)
  le : w.heap.size ≤ B
  own : Own W lo ao cap L
  lst : Lst W lo hi ao L
  lo_ : w.heap.size ≤ lo
  lohi : lo ≤ hi
  hi_ : hi ≤ W.heap.size
  off : B < lo ∨ hi ≤ B
  blk : ∀ g, Value.ownBlock (.slice ao L.length cap) = some g → lo ≤ g ∧ g < hi

theorem own_off {w : World} {lo hi b o : Nat} {v : Value} {ao : Option Addr} {cap : Nat} {L : List Rc} (h : Own w lo ao cap L) (hl : ∀ g, Value.ownBlock (.slice ao L.length cap) = some g → g ≠ b) : Own (w.setCell ⟨b, o, none⟩ v) lo ao cap L :=
  World.ownsRow.kept (row := some b) h ⟨rfl, rfl, rfl, by simp, fun i hi hne => Below.heap_setCell _ ⟨b, o, none⟩ _ _ (fun e => hne (by rw [e]))⟩ (by
    cases e : Value.ownBlock (.slice ao L.length cap) with
    | none => exact .inl rfl
    | some g => right; intro h'; simp at h'; exact hl g e h')

theorem got_of {w w3 : World} {B : Nat} {c : Int} {L : List Rc} {v : Value} (h : Called w (.cells #[.int .i64 0, .slice none 0 0] 87) (Res c L) v B w3) :
    ∃ ao cap lo hi, v = .agg #[.int .i64 c, .slice ao L.length cap] ∧ B < w3.heap.size ∧ w3.cell? ⟨B, 0, none⟩ = some (.int .i64 0) ∧ w3.cell? ⟨B, 1, none⟩ = some (.slice none 0 0) ∧ w3.frozen? ⟨B, 0, none⟩ = false ∧ w3.frozen? ⟨B, 1, none⟩ = false ∧
      Got w ((w3.setCell ⟨B, 0, none⟩ (.int .i64 c)).setCell ⟨B, 1, none⟩ (.slice ao L.length cap)) B lo hi c ao cap L := by
  obtain ⟨w1, w2, k1, k2, ⟨ao, cap, rfl, O⟩, k3, hB1, hB2, hB3, hB4⟩ := h
  have c0 : w3.cell? ⟨B, 0, none⟩ = some (.int .i64 0) := by rw [cell_of_row w3 B 0 _ _ _ hB3]; rfl
  have c1 : w3.cell? ⟨B, 1, none⟩ = some (.slice none 0 0) := by rw [cell_of_row w3 B 1 _ _ _ hB3]; rfl
  have f0 : w3.frozen? ⟨B, 0, none⟩ = false := frozen_of_row w3 B 0 _ _ hB3
  have f1 : w3.frozen? ⟨B, 1, none⟩ = false := frozen_of_row w3 B 1 _ _ hB3
  have hlt : ∀ g, Value.ownBlock (.slice ao L.length cap) = some g → w1.heap.size ≤ g ∧ g < w2.heap.size := fun g e => World.ownsRow.lt O g e
  have O3 := O.keep k3
  have l3 := k3.le
  have hoff : ∀ g, Value.ownBlock (.slice ao L.length cap) = some g → g ≠ B := fun g e => by have := hlt g e; omega
  have O4 : Own ((w3.setCell ⟨B, 0, none⟩ (.int .i64 c)).setCell ⟨B, 1, none⟩ (.slice ao L.length cap)) w1.heap.size ao cap L := own_off (lo := w1.heap.size) (hi := 0) (own_off (lo := w1.heap.size) (hi := 0) O3 hoff) hoff
  refine ⟨ao, cap, w1.heap.size, w2.heap.size, rfl, hB2, c0, c1, f0, f1, ⟨?_, ⟨by simpa using hB2, ?_, ?_⟩, hB1, O4, ?_, k1.le, k2.le, by simpa using l3, hB4, hlt⟩⟩
  · exact (Below.setCell (Below.setCell ((k1.trans k2).trans k3) hB1 _) hB1 _)
  · rw [cell_set_other (by omega)]; exact cell_set_same c0
  · exact cell_set_same ((cell_set_other (by omega)).trans c1)
  · rcases O4.lst with e | ⟨g, o, rfl, h1, h2, h3⟩
    · exact .inl e
    · exact .inr ⟨g, o, rfl, h1, (hlt g rfl).2, h3⟩

/-- What lies where, between two calls of a law: the arguments' boxes, two results' boxes, their lists. -/
structure Sit (w X : World) (a b : Rc) (N B5 B6 lo5 hi5 lo6 hi6 : Nat) (C : Int) (ao5 : Option Addr) (cap5 : Nat) (ao6 : Option Addr) (cap6 : Nat) (L M : List Rc) : Prop where
  kb : Below w.heap.size w X
  sz : N ≤ X.heap.size
  ra : IsRect X w.heap.size 0 a.x a.y a.w a.h
  rb : IsRect X (w.heap.size + 1) 0 b.x b.y b.w b.h
  x5 : Box X B5 C (.slice ao5 L.length cap5)
  x6 : Box X B6 C (.slice ao6 L.length cap6)
  l5 : Lst X lo5 hi5 ao5 L
  l6 : Lst X lo6 hi6 ao6 M
  n : w.heap.size + 1 < N ∧ B5 < N ∧ B6 < N ∧ hi5 ≤ N ∧ hi6 ≤ N

theorem Sit.keep {w X X' : World} {a b : Rc} {N B5 B6 lo5 hi5 lo6 hi6 : Nat} {C : Int} {ao5 : Option Addr} {cap5 : Nat} {ao6 : Option Addr} {cap6 : Nat} {L M : List Rc} (h : Sit w X a b N B5 B6 lo5 hi5 lo6 hi6 C ao5 cap5 ao6 cap6 L M) (k : Below X.heap.size X X') :
    Sit w X' a b N B5 B6 lo5 hi5 lo6 hi6 C ao5 cap5 ao6 cap6 L M := by
  obtain ⟨kb, sz, ra, rb, x5, x6, l5, l6, n1, n2, n3, n4, n5⟩ := h
  exact ⟨kb.trans (k.mono kb.size), Nat.le_trans sz k.size, ra.keep k (by omega), rb.keep k (by omega), x5.keep k (by omega), x6.keep k (by omega), l5.keep k (by omega), l6.keep k (by omega), n1, n2, n3, n4, n5⟩

theorem Sit.mark {w X X' : World} {a b : Rc} {N B5 B6 lo5 hi5 lo6 hi6 : Nat} {C : Int} {ao5 : Option Addr} {cap5 : Nat} {ao6 : Option Addr} {cap6 : Nat} {L M : List Rc} {k : Int} (h : Sit w X a b N B5 B6 lo5 hi5 lo6 hi6 C ao5 cap5 ao6 cap6 L M)
    (m : Marked X X' lo6 hi6 ao6 L.length k) (h1 : w.heap.size + 1 < lo6 ∧ B5 < lo6 ∧ hi5 ≤ lo6) (h2 : B6 < lo6 ∨ hi6 ≤ B6) (h3 : lo6 ≤ X.heap.size) : Sit w X' a b N B5 B6 lo5 hi5 lo6 hi6 C ao5 cap5 ao6 cap6 L (mrk L.length k) := by
  obtain ⟨kb, sz, ra, rb, x5, x6, l5, l6, n1, n2, n3, n4, n5⟩ := h
  have k := m.turn lo6 (Nat.le_refl _) h3
  have e6 := m.far B6 x6.lt (.inr h2)
  refine ⟨kb.trans (k.mono (by omega)), Nat.le_trans sz m.size, ra.keep k (by omega), rb.keep k (by omega), x5.keep k (by omega), ⟨Nat.lt_of_lt_of_le x6.lt m.size, ?_, ?_⟩, l5.keep k (by omega), m.lst, n1, n2, n3, n4, n5⟩
  · exact (World.cell?_of_block (a := ⟨B6, 0, none⟩) e6).trans x6.c0
  · exact (World.cell?_of_block (a := ⟨B6, 1, none⟩) e6).trans x6.c1

theorem cutR_len (a b : Rc) : (cutR a b).length ≤ 1 := by
  unfold cutR
  split
  · simp
  · exact putR_len _ _ _ _ _

end Go.Proofs.Ytmmjannkfmiohaa

namespace Go.Proofs.Ytmmjannkfmiohaa
open Go.RowKit Go.Maps
set_option linter.unusedVariables false

def subB (x y : Int) : Bool := decide ((0 ≤ x ∧ x < 12) ∧ 1 ≤ y ∧ y < 8)
def stripR : Rc := ⟨0, 1, 12, 7⟩
def putP (f : Int → Int → Option Int) (pts : List (Int × Int)) (v : Int) : Int → Int → Option Int := fun p q => if (p, q) ∈ pts then some v else f p q
theorem putP_nil (f : Int → Int → Option Int) (v x y : Int) : f x y = putP f [] v x y := by simp [putP]
theorem putP_snoc (f : Int → Int → Option Int) (pre : List (Int × Int)) (z : Int × Int) (v x y : Int) : putO (putP f pre v) z.1 z.2 v x y = putP f (pre ++ [z]) v x y := by
  unfold putO putP
  by_cases e : x = z.1 ∧ y = z.2
  · have : (x, y) ∈ pre ++ [z] := by rw [e.1, e.2]; simp
    rw [if_pos e, if_pos this]
  · have h : (x, y) ∈ pre ++ [z] ↔ (x, y) ∈ pre := by
      simp only [List.mem_append, List.mem_singleton, or_iff_left_iff_imp]
      intro h
      exact absurd ⟨congrArg Prod.fst h, congrArg Prod.snd h⟩ e
    rw [if_neg e]
    by_cases hp : (x, y) ∈ pre
    · rw [if_pos hp, if_pos (h.2 hp)]
    · rw [if_neg hp, if_neg (fun hh => hp (h.1 hh))]

/-- The points below the strip that a rectangle has. -/
theorem cut_strip (r : Rc) (h : rfB r.x r.y r.w r.h = false) : (cutR r stripR = [] ∧ ∀ p q, (inB r.x r.y r.w r.h p q && subB p q) = false) ∨
    ∃ s, cutR r stripR = [s] ∧ rfB s.x s.y s.w s.h = false ∧ ∀ p q, ((p, q) ∈ ptsOf s ↔ (inB r.x r.y r.w r.h p q && subB p q) = true) := by
  obtain ⟨h1, h2, h3, h4⟩ := rfB_no h
  have hf : (r.flt || stripR.flt) = false := by
    have : stripR.flt = false := by decide
    rw [this, Bool.or_false]; exact h
  have e : cutR r stripR = cutL r stripR := by unfold cutR; rw [hf]; rfl
  rw [e]
  have m1 := mxI_eq r.x stripR.x
  have m2 := mxI_eq r.y stripR.y
  have m3 := mnI_eq (r.x + r.w) (stripR.x + stripR.w)
  have m4 := mnI_eq (r.y + r.h) (stripR.y + stripR.h)
  unfold cutL
  obtain ⟨X, hX⟩ : ∃ X, mxI r.x stripR.x = X := ⟨_, rfl⟩
  obtain ⟨Y, hY⟩ : ∃ Y, mxI r.y stripR.y = Y := ⟨_, rfl⟩
  obtain ⟨R, hR⟩ : ∃ R, mnI (r.x + r.w) (stripR.x + stripR.w) = R := ⟨_, rfl⟩
  obtain ⟨B, hB⟩ : ∃ B, mnI (r.y + r.h) (stripR.y + stripR.h) = B := ⟨_, rfl⟩
  rw [hX] at m1 ⊢
  rw [hY] at m2 ⊢
  rw [hR] at m3 ⊢
  rw [hB] at m4 ⊢
  simp only [stripR] at m1 m2 m3 m4
  by_cases g : R ≤ X ∨ B ≤ Y
  · refine .inl ⟨putR_no g, fun p q => ?_⟩
    simp only [inB, subB, Bool.and_eq_false_iff, decide_eq_false_iff_not]
    omega
  · refine .inr ⟨⟨X, Y, R - X, B - Y⟩, by rw [putR_yes (by omega) (by omega)]; rfl, ?_, fun p q => ?_⟩
    · unfold rfB; simp; omega
    · unfold ptsOf
      rw [mem_rowsPts]
      simp only [inB, subB, Bool.and_eq_true, decide_eq_true_eq]
      omega

/-- .. the first k windows put down. -/
def ownF (C : List Wc) : Nat → Int → Int → Option Int
  | 0 => fun _ _ => none
  | k + 1 => fun x y => if ((C[k]?).any (hitC x y) && subB x y) = true then some (k : Int) else ownF C k x y
theorem ownF_off {C : List Wc} {k : Nat} {c : Wc} (h : C[k]? = some c) (hm : ∀ x y, (hitC x y c && subB x y) = false) (x y : Int) : ownF C k x y = ownF C (k + 1) x y := by
  have := hm x y
  show _ = if ((C[k]?).any (hitC x y) && subB x y) = true then some (k : Int) else ownF C k x y
  rw [h, Option.any_some, this]
  rfl
theorem ownF_on {C : List Wc} {k : Nat} {c : Wc} {pts : List (Int × Int)} (h : C[k]? = some c) (hm : ∀ x y, ((x, y) ∈ pts ↔ (hitC x y c && subB x y) = true)) (x y : Int) : putP (ownF C k) pts (k : Int) x y = ownF C (k + 1) x y := by
  show _ = if ((C[k]?).any (hitC x y) && subB x y) = true then some (k : Int) else ownF C k x y
  unfold putP
  rw [h, Option.any_some]
  by_cases e : (x, y) ∈ pts
  · rw [if_pos e, if_pos ((hm x y).1 e)]
  · rw [if_neg e, if_neg (fun hh => e ((hm x y).2 hh))]

theorem ownF_none {L : List Wn} {x y : Int} (h : ∀ v ∈ L, hitW x y v = false) (k : Nat) : ownF (L.map Wn.ct) k x y = none := by
  induction k with
  | zero => rfl
  | succ k ih =>
    show (if (((L.map Wn.ct)[k]?).any (hitC x y) && subB x y) = true then some (k : Int) else ownF (L.map Wn.ct) k x y) = none
    have e : ((L.map Wn.ct)[k]?).any (hitC x y) = false := by
      by_cases hk : k < L.length
      · rw [List.getElem?_eq_getElem (by simpa using hk), Option.any_some, List.getElem_map]
        exact h _ (List.getElem_mem hk)
      · rw [List.getElem?_eq_none (by simpa using hk)]; rfl
    rw [e, ih]
    rfl
theorem ownF_some {L A B : List Wn} {r : Wn} {x y : Int} (h : Top x y L A r B) (hs : subB x y = true) : ∀ j, j ≤ B.length → ownF (L.map Wn.ct) (A.length + 1 + j) x y = some (A.length : Int) := by
  intro j
  have hy : hitC x y r.ct = true := h.yes
  have e0 : (L.map Wn.ct)[A.length]? = some r.ct := by rw [h.eq]; simp
  induction j with
  | zero =>
    intro _
    show (if (((L.map Wn.ct)[A.length]?).any (hitC x y) && subB x y) = true then some (A.length : Int) else ownF (L.map Wn.ct) A.length x y) = _
    rw [e0, Option.any_some, hy, hs]
    rfl
  | succ j ih =>
    intro hj
    show (if (((L.map Wn.ct)[A.length + 1 + j]?).any (hitC x y) && subB x y) = true then some ((A.length + 1 + j : Nat) : Int) else ownF (L.map Wn.ct) (A.length + 1 + j) x y) = _
    have e : ((L.map Wn.ct)[A.length + 1 + j]?).any (hitC x y) = false := by
      have hb : j < B.length := by omega
      have e1 : (L.map Wn.ct)[A.length + 1 + j]? = some B[j].ct := by
        rw [h.eq, List.map_append, List.map_cons, List.getElem?_append_right (by simp; omega)]
        have : A.length + 1 + j - (A.map Wn.ct).length = j + 1 := by simp; omega
        rw [this, List.getElem?_cons_succ, List.getElem?_eq_getElem (by simpa using hb), List.getElem_map]
      rw [e1, Option.any_some]
      exact h.no _ (List.getElem_mem hb)
    rw [e, ih (by omega)]
    rfl
theorem ownF_top {L A B : List Wn} {r : Wn} {x y : Int} (h : Top x y L A r B) (hs : subB x y = true) : ownF (L.map Wn.ct) L.length x y = some (A.length : Int) := by
  have := ownF_some h hs B.length (Nat.le_refl _)
  have e : L.length = A.length + 1 + B.length := by rw [h.eq]; simp; omega
  rw [e]; exact this
theorem mem_sub {x y : Int} : (x, y) ∈ ptsOf stripR ↔ subB x y = true := by
  unfold ptsOf
  rw [mem_rowsPts]
  simp only [stripR, subB, decide_eq_true_eq]
  omega

theorem own_obj {α : Type} (b B : Nat) (w0 : World) (hB : w0.heap.size ≤ B) (hb : b < w0.heap.size) (F : List α → Obj → Prop) : OwnFrom B (fun (pre : List α) W => ∃ o, F pre o ∧ W.heap[b]? = some o ∧ Turn b w0 W) := fun s A W' row hs hg hr => by
  obtain ⟨o, hf, ho, ht⟩ := hs
  refine ⟨o, hf, (hg.block b (Nat.lt_of_lt_of_le hb ht.size) (fun e => by have := (hr b e.symm).1; omega)).trans ho, ?_⟩
  exact ⟨hg.os.trans ht.os, hg.tape.trans ht.tape, hg.output.trans ht.output, Nat.le_trans ht.size hg.size, fun k hk hb' => (hg.block k (Nat.lt_of_lt_of_le hk ht.size) (fun e => by have := (hr k e.symm).1; omega)).trans (ht.block k hk hb')⟩
theorem keepsFrom_belowO {B : Nat} {W W' : World} (k : Below W.heap.size W W') : KeepsFrom B W W' := ⟨k.size, fun i o _ hi _ => (k.block i (Array.getElem?_eq_some_iff.1 hi).1).trans hi⟩
theorem keepsFrom_turnO {B b : Nat} {W W' : World} (t : Turn b W W') (hb : b < B) : KeepsFrom B W W' := ⟨t.size, fun i o hB hi _ => (t.block i (Array.getElem?_eq_some_iff.1 hi).1 (by omega)).trans hi⟩
theorem Turn.of_grown {b : Nat} {W W' : World} (g : W.grownBy W' (some b)) : Turn b W W' := ⟨g.os, g.tape, g.output, g.size, fun k hk hb => g.block k hk (fun e => hb (by cases e; rfl))⟩
end Go.Proofs.Ytmmjannkfmiohaa
