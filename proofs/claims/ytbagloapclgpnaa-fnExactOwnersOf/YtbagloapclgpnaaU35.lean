/- Whose each point of the screen is, as the program puts it down: window by window. -/
import Derived.Test.YtbagloapclgpnaaU21
import Derived.Test.YtbagloapclgpnaaU16
import Derived.Test.YtbagloapclgpnaaU31
import Derived.Test.YtbagloapclgpnaaU34
namespace Go.Proofs.Ytbagloapclgpnaa
open Go.RowKit Go.Maps
set_option linter.unusedVariables false

def subB (x y : Int) : Bool := decide ((0 ≤ x ∧ x < 12) ∧ 1 ≤ y ∧ y < 8)
def stripR : Rc := ⟨0, 1, 12, 7⟩
def putP (f : Int → Int → Option Int) (pts : List (Int × Int)) (v : Int) : Int → Int → Option Int := fun p q => if (p, q) ∈ pts then some v else f p q
theorem putP_nil (f : Int → Int → Option Int) (v x y : Int) : f x y = putP f [] v x y := by simp [putP]
theorem putP_snoc (f : Int → Int → Option Int) (pre : List (Int × Int)) (z : Int × Int) (v x y : Int) : putO (putP f pre v) z.1 z.2 v x y = putP f (pre ++ [z]) v x y := by
  unfold putO putP
  by_cases e : x = z.1 ∧ y = z.2
  · have : (x, y) ∈ pre ++ [z] := by rw [e.1, e.2]; simp
    rw [if_pos e, if_pos this]
  · have h : (x, y) ∈ pre ++ [z] ↔ (x, y) ∈ pre := by
      simp only [List.mem_append, List.mem_singleton, or_iff_left_iff_imp]
      intro h
      exact absurd ⟨congrArg Prod.fst h, congrArg Prod.snd h⟩ e
    rw [if_neg e]
    by_cases hp : (x, y) ∈ pre
    · rw [if_pos hp, if_pos (h.2 hp)]
    · rw [if_neg hp, if_neg (fun hh => hp (h.1 hh))]

/-- The points below the strip that a rectangle has. -/
theorem cut_strip (r : Rc) (h : rfB r.x r.y r.w r.h = false) : (cutR r stripR = [] ∧ ∀ p q, (inB r.x r.y r.w r.h p q && subB p q) = false) ∨
    ∃ s, cutR r stripR = [s] ∧ rfB s.x s.y s.w s.h = false ∧ ∀ p q, ((p, q) ∈ ptsOf s ↔ (inB r.x r.y r.w r.h p q && subB p q) = true) := by
  obtain ⟨h1, h2, h3, h4⟩ := rfB_no h
  have hf : (r.flt || stripR.flt) = false := by
    have : stripR.flt = false := by decide
    rw [this, Bool.or_false]; exact h
  have e : cutR r stripR = cutL r stripR := by unfold cutR; rw [hf]; rfl
  rw [e]
  have m1 := mxI_eq r.x stripR.x
  have m2 := mxI_eq r.y stripR.y
  have m3 := mnI_eq (r.x + r.w) (stripR.x + stripR.w)
  have m4 := mnI_eq (r.y + r.h) (stripR.y + stripR.h)
  unfold cutL
  obtain ⟨X, hX⟩ : ∃ X, mxI r.x stripR.x = X := ⟨_, rfl⟩
  obtain ⟨Y, hY⟩ : ∃ Y, mxI r.y stripR.y = Y := ⟨_, rfl⟩
  obtain ⟨R, hR⟩ : ∃ R, mnI (r.x + r.w) (stripR.x + stripR.w) = R := ⟨_, rfl⟩
  obtain ⟨B, hB⟩ : ∃ B, mnI (r.y + r.h) (stripR.y + stripR.h) = B := ⟨_, rfl⟩
  rw [hX] at m1 ⊢
  rw [hY] at m2 ⊢
  rw [hR] at m3 ⊢
  rw [hB] at m4 ⊢
  simp only [stripR] at m1 m2 m3 m4
  by_cases g : R ≤ X ∨ B ≤ Y
  · refine .inl ⟨putR_no g, fun p q => ?_⟩
    simp only [inB, subB, Bool.and_eq_false_iff, decide_eq_false_iff_not]
    omega
  · refine .inr ⟨⟨X, Y, R - X, B - Y⟩, by rw [putR_yes (by omega) (by omega)]; rfl, ?_, fun p q => ?_⟩
    · unfold rfB; simp; omega
    · unfold ptsOf
      rw [mem_rowsPts]
      simp only [inB, subB, Bool.and_eq_true, decide_eq_true_eq]
      omega

/-- .. the first k windows put down. -/
def ownF (C : List Wc) : Nat → Int → Int → Option Int
  | 0 => fun _ _ => none
  | k + 1 => fun x y => if ((C[k]?).any (hitC x y) && subB x y) = true then some (k : Int) else ownF C k x y
theorem ownF_off {C : List Wc} {k : Nat} {c : Wc} (h : C[k]? = some c) (hm : ∀ x y, (hitC x y c && subB x y) = false) (x y : Int) : ownF C k x y = ownF C (k + 1) x y := by
  have := hm x y
  show _ = if ((C[k]?).any (hitC x y) && subB x y) = true then some (k : Int) else ownF C k x y
  rw [h, Option.any_some, this]
  rfl
theorem ownF_on {C : List Wc} {k : Nat} {c : Wc} {pts : List (Int × Int)} (h : C[k]? = some c) (hm : ∀ x y, ((x, y) ∈ pts ↔ (hitC x y c && subB x y) = true)) (x y : Int) : putP (ownF C k) pts (k : Int) x y = ownF C (k + 1) x y := by
  show _ = if ((C[k]?).any (hitC x y) && subB x y) = true then some (k : Int) else ownF C k x y
  unfold putP
  rw [h, Option.any_some]
  by_cases e : (x, y) ∈ pts
  · rw [if_pos e, if_pos ((hm x y).1 e)]
  · rw [if_neg e, if_neg (fun hh => e ((hm x y).2 hh))]

theorem ownF_none {L : List Wn} {x y : Int} (h : ∀ v ∈ L, hitW x y v = false) (k : Nat) : ownF (L.map Wn.ct) k x y = none := by
  induction k with
  | zero => rfl
  | succ k ih =>
    show (if (((L.map Wn.ct)[k]?).any (hitC x y) && subB x y) = true then some (k : Int) else ownF (L.map Wn.ct) k x y) = none
    have e : ((L.map Wn.ct)[k]?).any (hitC x y) = false := by
      by_cases hk : k < L.length
      · rw [List.getElem?_eq_getElem (by simpa using hk), Option.any_some, List.getElem_map]
        exact h _ (List.getElem_mem hk)
      · rw [List.getElem?_eq_none (by simpa using hk)]; rfl
    rw [e, ih]
    rfl
theorem ownF_some {L A B : List Wn} {r : Wn} {x y : Int} (h : Top x y L A r B) (hs : subB x y = true) : ∀ j, j ≤ B.length → ownF (L.map Wn.ct) (A.length + 1 + j) x y = some (A.length : Int) := by
  intro j
  have hy : hitC x y r.ct = true := h.yes
  have e0 : (L.map Wn.ct)[A.length]? = some r.ct := by rw [h.eq]; simp
  induction j with
  | zero =>
    intro _
    show (if (((L.map Wn.ct)[A.length]?).any (hitC x y) && subB x y) = true then some (A.length : Int) else ownF (L.map Wn.ct) A.length x y) = _
    rw [e0, Option.any_some, hy, hs]
    rfl
  | succ j ih =>
    intro hj
    show (if (((L.map Wn.ct)[A.length + 1 + j]?).any (hitC x y) && subB x y) = true then some ((A.length + 1 + j : Nat) : Int) else ownF (L.map Wn.ct) (A.length + 1 + j) x y) = _
    have e : ((L.map Wn.ct)[A.length + 1 + j]?).any (hitC x y) = false := by
      have hb : j < B.length := by omega
      have e1 : (L.map Wn.ct)[A.length + 1 + j]? = some B[j].ct := by
        rw [h.eq, List.map_append, List.map_cons, List.getElem?_append_right (by simp; omega)]
        have : A.length + 1 + j - (A.map Wn.ct).length = j + 1 := by simp; omega
        rw [this, List.getElem?_cons_succ, List.getElem?_eq_getElem (by simpa using hb), List.getElem_map]
      rw [e1, Option.any_some]
      exact h.no _ (List.getElem_mem hb)
    rw [e, ih (by omega)]
    rfl
theorem ownF_top {L A B : List Wn} {r : Wn} {x y : Int} (h : Top x y L A r B) (hs : subB x y = true) : ownF (L.map Wn.ct) L.length x y = some (A.length : Int) := by
  have := ownF_some h hs B.length (Nat.le_refl _)
  have e : L.length = A.length + 1 + B.length := by rw [h.eq]; simp; omega
  rw [e]; exact this
theorem mem_sub {x y : Int} : (x, y) ∈ ptsOf stripR ↔ subB x y = true := by
  unfold ptsOf
  rw [mem_rowsPts]
  simp only [stripR, subB, decide_eq_true_eq]
  omega

theorem own_obj {α : Type} (b B : Nat) (w0 : World) (hB : w0.heap.size ≤ B) (hb : b < w0.heap.size) (F : List α → Obj → Prop) : OwnFrom B (fun (pre : List α) W => ∃ o, F pre o ∧ W.heap[b]? = some o ∧ Turn b w0 W) := fun s A W' row hs hg hr => by
  obtain ⟨o, hf, ho, ht⟩ := hs
  refine ⟨o, hf, (hg.block b (Nat.lt_of_lt_of_le hb ht.size) (fun e => by have := (hr b e.symm).1; omega)).trans ho, ?_⟩
  exact ⟨hg.os.trans ht.os, hg.tape.trans ht.tape, hg.output.trans ht.output, Nat.le_trans ht.size hg.size, fun k hk hb' => (hg.block k (Nat.lt_of_lt_of_le hk ht.size) (fun e => by have := (hr k e.symm).1; omega)).trans (ht.block k hk hb')⟩
theorem keepsFrom_belowO {B : Nat} {W W' : World} (k : Below W.heap.size W W') : KeepsFrom B W W' := ⟨k.size, fun i o _ hi _ => (k.block i (Array.getElem?_eq_some_iff.1 hi).1).trans hi⟩
theorem keepsFrom_turnO {B b : Nat} {W W' : World} (t : Turn b W W') (hb : b < B) : KeepsFrom B W W' := ⟨t.size, fun i o hB hi _ => (t.block i (Array.getElem?_eq_some_iff.1 hi).1 (by omega)).trans hi⟩
theorem Turn.of_grown {b : Nat} {W W' : World} (g : W.grownBy W' (some b)) : Turn b W W' := ⟨g.os, g.tape, g.output, g.size, fun k hk hb => g.block k hk (fun e => hb (by cases e; rfl))⟩
end Go.Proofs.Ytbagloapclgpnaa
