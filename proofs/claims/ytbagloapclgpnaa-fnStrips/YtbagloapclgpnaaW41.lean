/- TopAt by the specification. Results with a list of rectangles: held against each other, marked, held. CutRects: the model's and the program's. CutRects: the model's and the program's, at every two rectangles. -/
import Derived.Test.YtbagloapclgpnaaW40
import Derived.Test.YtbagloapclgpnaaW29
import Derived.Test.YtbagloapclgpnaaW37
import Derived.Test.YtbagloapclgpnaaW15
namespace Go.Proofs.Ytbagloapclgpnaa
open Go.RowKit Go.Maps
set_option linter.unusedVariables false

def hitC (p q : Int) (c : Wc) : Bool := c.m && inB c.x c.y c.w c.h p q
/-- The id of the topmost one that is hit. -/
def topR (p q : Int) : List Wc → Option Int
  | [] => none
  | c :: C => match topR p q C with
    | some i => some i
    | none => if hitC p q c then some c.i else none
theorem topR_none {p q : Int} {L : List Wn} (h : ∀ v ∈ L, hitW p q v = false) : topR p q (L.map Wn.ct) = none := by
  induction L with
  | nil => rfl
  | cons v L ih =>
    have h1 : hitC p q v.ct = false := h v (by simp)
    simp only [List.map_cons, topR, ih fun u hu => h u (by simp [hu]), h1]
    rfl
theorem topR_some {p q : Int} {L A B : List Wn} {r : Wn} (h : Top p q L A r B) : topR p q (L.map Wn.ct) = some r.i := by
  rw [h.eq]
  have hy := h.yes
  have hn := topR_none h.no
  clear h
  induction A with
  | nil =>
    have h1 : hitC p q r.ct = true := hy
    simp only [List.nil_append, List.map_cons, topR, hn, h1, if_true]
    rfl
  | cons v A ih => simp only [List.cons_append, List.map_cons, topR, ih]
def topZ (C : List Wc) (p q : Int) : Int := if stF C = 0 then (if (topR p q C).isSome then 0 else 4) else stF C
def topV (C : List Wc) (p q : Int) : Int := if stF C = 0 then (topR p q C).getD 0 else 0
theorem top_bad {C : List Wc} {p q : Int} (h : ¬ stF C = 0) : topZ C p q = stF C ∧ topV C p q = 0 := by unfold topZ topV; rw [if_neg h, if_neg h]; exact ⟨rfl, rfl⟩
theorem top_none {L : List Wn} {p q : Int} (h : stF (L.map Wn.ct) = 0) (hn : ∀ v ∈ L, hitW p q v = false) : topZ (L.map Wn.ct) p q = 4 ∧ topV (L.map Wn.ct) p q = 0 := by
  unfold topZ topV; rw [if_pos h, if_pos h, topR_none hn]; exact ⟨rfl, rfl⟩
theorem top_some {L A B : List Wn} {r : Wn} {p q : Int} (h : stF (L.map Wn.ct) = 0) (ht : Top p q L A r B) : topZ (L.map Wn.ct) p q = 0 ∧ topV (L.map Wn.ct) p q = r.i := by
  unfold topZ topV; rw [if_pos h, if_pos h, topR_some ht]; exact ⟨rfl, rfl⟩
/-- No window of a right stack has a wrong rectangle. -/
theorem st_rect {L : List Wn} (h : stF (L.map Wn.ct) = 0) : ∀ v ∈ L, rfB v.x v.y v.w v.h = false := by
  intro v hv
  have h1 := wsF_mem (stF_ok h).2 v.ct (List.mem_map_of_mem hv)
  exact (wrB_no (winF_no h1).1).2.2.2.2

end Go.Proofs.Ytbagloapclgpnaa

namespace Go.Proofs.Ytbagloapclgpnaa
open Go.RowKit
set_option linter.unusedVariables false

theorem Mk.lst {w wr : World} {g o n : Nat} {k : Int} (h : Mk w wr g o n n k) (lo hi : Nat) (h1 : lo ≤ g) (h2 : g < hi) : Lst wr lo hi (some ⟨g, o, none⟩) (mrk n k) :=
  .inr ⟨g, o, rfl, h1, h2, fun i hi => by rw [mrk_at]; exact h.done i (by rw [mrk_len] at hi; exact hi)⟩

theorem Own.mk {w w' : World} {base : Nat} {ao : Option Addr} {cap : Nat} {L : List Rc} (h : Own w base ao cap L) (hn : 0 < L.length) (k : Int) (kw : Below w.heap.size w w') : ∃ g, ao = some ⟨g, 0, none⟩ ∧ base ≤ g ∧ g < w.heap.size ∧ Mk w' w' g 0 L.length 0 k := by
  obtain ⟨g, cap', hv, hb, hlt⟩ := World.ownsRow.form h hn
  cases hv
  have hs := kw.size
  refine ⟨g, rfl, hb, hlt, ⟨TurnO.refl _ _, by omega, fun j hj => absurd hj (Nat.not_lt_zero _), fun c hc => ?_, fun c => ?_⟩⟩
  · rw [kw.cell (p := ⟨g, 0 + c, none⟩) hlt, Nat.zero_add, World.ownsRow.cellAt h c hc]
    exact ⟨(rcs L)[c]'(by rw [rcs_len]; exact hc), by simp⟩
  · rw [kw.frozen (p := ⟨g, c, none⟩) hlt]
    exact World.ownsRow.frozenAt h c

/-- What marking a result leaves: its list marked from k on; all other old memory as it was. -/
structure Marked (w w' : World) (base hi : Nat) (ao : Option Addr) (n : Nat) (k : Int) : Prop where
  lst : Lst w' base hi ao (mrk n k)
  size : w.heap.size ≤ w'.heap.size
  turn : ∀ B, B ≤ base → B ≤ w.heap.size → Below B w w'
  far : ∀ b, b < w.heap.size → (n = 0 ∨ b < base ∨ hi ≤ b) → w'.heap[b]? = w.heap[b]?

end Go.Proofs.Ytbagloapclgpnaa

namespace Go.Proofs.Ytbagloapclgpnaa
open Go.RowKit
set_option linter.unusedVariables false

def mxI (a b : Int) : Int := if b > a then b else a
def mnI (a b : Int) : Int := if b < a then b else a
theorem mxI_eq (a b : Int) : (mxI a b = a ∧ b ≤ a) ∨ (mxI a b = b ∧ a ≤ b) := by unfold mxI; split <;> omega
theorem mnI_eq (a b : Int) : (mnI a b = a ∧ a ≤ b) ∨ (mnI a b = b ∧ b ≤ a) := by unfold mnI; split <;> omega
theorem run_max_mx {P : Program} {w : World} (ts : Array TypeId) (t : TypeId) (k k' : IntKind) (x y : Int) : (Builtin.max_ ts t #[.int k x, .int k' y]).run P w = .ok (.int k (mxI x y)) w := run_max_int2 w ts t k k' x y
theorem run_min_mn {P : Program} {w : World} (ts : Array TypeId) (t : TypeId) (k k' : IntKind) (x y : Int) : (Builtin.min_ ts t #[.int k x, .int k' y]).run P w = .ok (.int k (mnI x y)) w := run_min_int2 w ts t k k' x y

def cutL (a b : Rc) : List Rc := putR [] (mxI a.x b.x) (mxI a.y b.y) (mnI (a.x + a.w) (b.x + b.w)) (mnI (a.y + a.h) (b.y + b.h))
def cutR (a b : Rc) : List Rc := if a.flt || b.flt then [] else cutL a b

/-- A result with a list: its code, its list, which lies among the blocks that were made since w1. -/
def Res (c : Int) (L : List Rc) (w1 : World) (v : Value) (w2 : World) : Prop := ∃ ao cap, v = .agg #[.int .i64 c, .slice ao L.length cap] ∧ Own w2 w1.heap.size ao cap L

theorem rfB_of {a b : Rc} (h : (a.flt || b.flt) = false) : rfB a.x a.y a.w a.h = false ∧ rfB b.x b.y b.w b.h = false := by
  simpa [Rc.flt] using h

end Go.Proofs.Ytbagloapclgpnaa

namespace Go.Proofs.Ytbagloapclgpnaa
open Go.RowKit
set_option linter.unusedVariables false

theorem own_new (W : World) (n : Nat) (h : n = W.heap.size) : Own (W.alloc (.cells #[] 45)) n (some ⟨n, 0, none⟩) 0 [] := by
  subst h
  exact World.ownsRow_lit W #[] 0 (Nat.le_refl _) (by unfold maxLen; omega) rfl
theorem own_nil (W : World) (n : Nat) : Own W n none 0 [] := World.ownsRow_nil _ _ _ _
theorem Own.base {w : World} {B B' : Nat} {ao : Option Addr} {cap : Nat} {L : List Rc} (h : Own w B ao cap L) (hb : B' ≤ B) : Own w B' ao cap L := by
  refine ⟨h.1, ?_⟩
  rcases h.2 with h0 | ⟨g, cap', cur, hv, h1, h2⟩
  · exact .inl h0
  · exact .inr ⟨g, cap', cur, hv, by omega, h2⟩
theorem Own.keep {w w' : World} {B : Nat} {ao : Option Addr} {cap : Nat} {L : List Rc} (h : Own w B ao cap L) (k : Below w.heap.size w w') : Own w' B ao cap L :=
  World.ownsRow.kept (row := none) h ⟨k.os, k.tape, k.output, k.size, fun i hi _ => k.block i hi⟩ (by cases Value.ownBlock (.slice ao L.length cap) <;> simp)
theorem Own.set {w : World} {B : Nat} {ao : Option Addr} {cap : Nat} {L : List Rc} (h : Own w B ao cap L) (b o : Nat) (v : Value) (hb : b < B) : Own (w.setCell ⟨b, o, none⟩ v) B ao cap L :=
  World.ownsRow.kept (row := some b) h ⟨rfl, rfl, rfl, by simp, fun i hi hne => Below.heap_setCell _ ⟨b, o, none⟩ _ _ (fun e => hne (by rw [e]))⟩ (by
    cases e : Value.ownBlock (.slice ao L.length cap) with
    | none => exact .inl rfl
    | some g => right; have := (World.ownsRow.lt h g e).1; intro h'; simp at h'; omega)

end Go.Proofs.Ytbagloapclgpnaa
