/- A map from points to places. Results with a list of rectangles: held against each other, marked, held. CutRects: the model's and the program's. CutRects: the model's and the program's, at every two rectangles. -/
import Derived.Test.YtmmjannkfmiohaaTs13
import Derived.Maps.OwnSet
import Derived.Maps.OwnIn
import Derived.DeepKeys4
import Derived.Test.YtmmjannkfmiohaaTs24
import Derived.Test.YtmmjannkfmiohaaTs33
import Derived.Test.YtmmjannkfmiohaaTs9
namespace Go.Proofs.Ytmmjannkfmiohaa
open Go.RowKit Go.Maps
set_option linter.unusedVariables false

theorem Try.laidP : laidOutB Try.prog = true := by kernel_rfl
theorem Try.rowPt : (68 : TypeId) < Try.prog.types.size := of_decide_eq_true (by kernel_rfl)
theorem Try.widePt : (match Try.prog.underlying 68 with | some (.array _ _) | some (.struct _) => true | _ => false) = true := by rw [Try.underlying68]
set_option maxRecDepth 100000 in
theorem Try.keyPt : Keyed Try.prog 68 := Keyed.of_law (deep_law_laid Try.laidP (m := 2) (by omega) Try.rowPt (by kernel_rfl) Try.widePt)
theorem Try.sizeTy : ∃ n, Try.prog.types.size + 1 = n + 2 := ⟨Try.prog.types.size - 1, by have : 0 < Try.prog.types.size := of_decide_eq_true (by kernel_rfl); omega⟩
theorem Try.cellsPt : Try.prog.cellsOf 68 = 2 := by kernel_rfl
theorem Try.cells64 : Try.prog.cellsOf 2 = 1 := by kernel_rfl

theorem key_pt (x y : Int) (hx : (Lit.int .i64 x).wf = true) (hy : (Lit.int .i64 y).wf = true) : ∃ kl, keyOf Try.prog 68 (.agg #[.int .i64 x, .int .i64 y]) = some kl := by
  obtain ⟨n, hn⟩ := Try.sizeTy
  have hk : Try.prog.keyType 68 = true := by kernel_rfl
  have hf : (Value.agg #[.int .i64 x, .int .i64 y]).formed Try.prog 68 = true := by simp [Value.formed, Try.underlying68, Try.cellsPt]
  have h2 : Try.prog.keyLits (n + 2) 68 [.int .i64 x, .int .i64 y] = some [.int .i64 x, .int .i64 y] := by
    simp [Program.keyLits, Try.underlying68, Try.underlying2, Try.cellsPt, Try.cells64, hx, hy]
  refine ⟨.string (keyBytes [.int .i64 x, .int .i64 y]), ?_⟩
  unfold keyOf
  rw [Try.underlying68]
  have e : (Value.agg #[.int .i64 x, .int .i64 y]).cells.toList = [.int .i64 x, .int .i64 y] := by rfl
  simp only [hk, hf, Bool.and_self, if_true, e]
  rw [hn, h2]
  rfl

/-- Block b is a map of at most n points; f says which and where they lead. -/
def Omp (w : World) (b n : Nat) (f : Int → Int → Option Int) : Prop :=
  ∃ D : DataW Unit, w.ownsMap Try.prog 68 (plainElem Try.prog 3) b n D ∧ ∀ x y kl, (Lit.int .i64 x).wf = true → (Lit.int .i64 y).wf = true → keyOf Try.prog 68 (.agg #[.int .i64 x, .int .i64 y]) = some kl →
    Maps.has D kl = (f x y).isSome ∧ D.atKey kl (.lit (.int .i64 0)) = .lit (.int .i64 ((f x y).getD 0))

theorem Omp.keep {w w' : World} {b n B : Nat} {f : Int → Int → Option Int} (h : Omp w b n f) (k : Below B w w') (hb : b < B) : Omp w' b n f := by
  obtain ⟨D, ⟨es, clock, hbk, r⟩, hf⟩ := h
  exact ⟨D, ⟨es, clock, (k.block b hb).trans hbk, r⟩, hf⟩
theorem Omp.same {w w' : World} {b n : Nat} {f : Int → Int → Option Int} (h : Omp w b n f) (e : w'.heap[b]? = w.heap[b]?) : Omp w' b n f := by
  obtain ⟨D, ⟨es, clock, hbk, r⟩, hf⟩ := h
  exact ⟨D, ⟨es, clock, e.trans hbk, r⟩, hf⟩
theorem Omp.lt {w : World} {b n : Nat} {f : Int → Int → Option Int} (h : Omp w b n f) : b < w.heap.size := by
  obtain ⟨D, ⟨es, clock, hbk, r⟩, hf⟩ := h
  exact (Array.getElem?_eq_some_iff.1 hbk).1
theorem Omp.as {w : World} {b n : Nat} {f g : Int → Int → Option Int} (h : Omp w b n f) (e : ∀ x y, f x y = g x y) : Omp w b n g := by
  have : f = g := funext fun x => funext fun y => e x y
  rw [← this]; exact h
theorem Omp.mono {w : World} {b n m : Nat} {f : Int → Int → Option Int} (h : Omp w b n f) (hm : n ≤ m) : Omp w b m f := by
  obtain ⟨D, h1, h2⟩ := h
  exact ⟨D, h1.mono hm, h2⟩

def putO (f : Int → Int → Option Int) (x y v : Int) : Int → Int → Option Int := fun p q => if p = x ∧ q = y then some v else f p q

theorem point_inj {x y p q : Int} {kl : Lit} (h : keyOf Try.prog 68 (.agg #[.int .i64 x, .int .i64 y]) = some kl) (h2 : keyOf Try.prog 68 (.agg #[.int .i64 p, .int .i64 q]) = some kl) : p = x ∧ q = y := by
  have e := Try.keyPt.inj h2 h
  injection e with e
  have e2 := congrArg Array.toList e
  simp at e2
  exact e2

/-- One point more. -/
theorem omp_put {w' : World} {b n : Nat} {f : Int → Int → Option Int} {D : DataW Unit} {x y v : Int} {kl : Lit} (hx : (Lit.int .i64 x).wf = true) (hy : (Lit.int .i64 y).wf = true) (hk : keyOf Try.prog 68 (.agg #[.int .i64 x, .int .i64 y]) = some kl) (hm : IsMap D)
    (hf : ∀ x y kl, (Lit.int .i64 x).wf = true → (Lit.int .i64 y).wf = true → keyOf Try.prog 68 (.agg #[.int .i64 x, .int .i64 y]) = some kl → Maps.has D kl = (f x y).isSome ∧ D.atKey kl (.lit (.int .i64 0)) = .lit (.int .i64 ((f x y).getD 0)))
    (ho : w'.ownsMap Try.prog 68 (plainElem Try.prog 3) b (n + 1) (D.put kl (.lit (.int .i64 v)))) : Omp w' b (n + 1) (putO f x y v) := by
  refine ⟨_, ho, fun p q kl2 hp hq hk2 => ?_⟩
  unfold putO
  by_cases e : p = x ∧ q = y
  · obtain ⟨rfl, rfl⟩ := e
    rw [hk] at hk2
    cases hk2
    rw [if_pos ⟨rfl, rfl⟩, has_put_same hm (Try.keyPt.key hk), atKey_put_same hm (Try.keyPt.key hk)]
    exact ⟨rfl, rfl⟩
  · rw [if_neg e]
    have hne : kl2 ≠ kl := fun h => e (point_inj hk (by rw [← h]; exact hk2))
    rw [has_put_other hne, atKey_put_other hne]
    exact hf p q kl2 hp hq hk2

theorem omp_made (w : World) : Omp (w.alloc (.map #[] 0)) w.heap.size 0 (fun _ _ => none) := ⟨.map [], World.ownsMap_made _ _ _ _, fun _ _ _ _ _ _ => ⟨rfl, rfl⟩⟩

theorem Try.zeroO (w : World) : (zeroValue 3).run Try.prog w = .ok (.int .i64 0) w := by kernel_rfl

section
variable {w : World} {ops : Array Oper} {rest : List Oper} {o : Oper} {a : Act} {Q : Exit → Act → World → Prop}
theorem wpListIn_ownPut {F : Fence} {nF : Nat} (hg : o.guard = none) (m x v : Operand) (hop : o.op = Op.mapUpdate 59 m x v) (b n : Nat) (f : Int → Int → Option Int)
    (hm : a.eval m = .map (some b)) (hN : Omp w b n f) (hn : n < maxLen) (p q z : Int) (hx : a.eval x = .agg #[.int .i64 p, .int .i64 q]) (hv : a.eval v = .int .i64 z) (hp : (Lit.int .i64 p).wf = true) (hq : (Lit.int .i64 q).wf = true) (hz : (Lit.int .i64 z).wf = true)
    (hK : ∀ w', Omp w' b (n + 1) (putO f p q z) → w.grownBy w' (some b) → wpListIn F nF Try.prog ops Q rest (a.put o.dst undef) w') : wpListIn F nF Try.prog ops Q (o :: rest) a w := by
  obtain ⟨D, hown, hf⟩ := hN
  obtain ⟨kl, hkl⟩ := key_pt p q hp hq
  refine wpListIn_mapUpdate_in w hg m x v 59 hop 68 3 Try.keyPt Try.underlying59 (plainElem Try.prog 3) b n D hm hown hn _ _ _ hx hv hkl (.lit (.int .i64 z)) [] (plainElem_int Try.underlying3 hz) fun w' h1 h2 => ?_
  exact hK w' (omp_put hp hq hkl hown.isMap hf h1) h2.grown
theorem wpListIn_ownAsk {F : Fence} {nF : Nat} (hg : o.guard = none) (m x : Operand) (hop : o.op = Op.lookup 59 m x true) (b n : Nat) (f : Int → Int → Option Int)
    (hm : a.eval m = .map (some b)) (hN : Omp w b n f) (p q : Int) (hx : a.eval x = .agg #[.int .i64 p, .int .i64 q]) (hp : (Lit.int .i64 p).wf = true) (hq : (Lit.int .i64 q).wf = true)
    (hK : wpListIn F nF Try.prog ops Q rest (a.put o.dst (.tuple #[.int .i64 ((f p q).getD 0), .bool (f p q).isSome])) w) : wpListIn F nF Try.prog ops Q (o :: rest) a w := by
  obtain ⟨D, hown, hf⟩ := hN
  obtain ⟨kl, hkl⟩ := key_pt p q hp hq
  obtain ⟨h1, h2⟩ := hf p q kl hp hq hkl
  refine wpListIn_lookup_own_ok_int w hg m x 59 hop 68 3 .i64 Try.keyPt Try.underlying59 Try.underlying3 (Try.zeroO w) b n D hm hown _ kl hx hkl fun c hc hw => ?_
  rw [h2] at hc
  injection hc with hc
  injection hc with hc1 hc
  rw [h1, ← hc]
  exact hK
end
end Go.Proofs.Ytmmjannkfmiohaa

namespace Go.Proofs.Ytmmjannkfmiohaa
open Go.RowKit
set_option linter.unusedVariables false

theorem Mk.lst {w wr : World} {g o n : Nat} {k : Int} (h : Mk w wr g o n n k) (lo hi : Nat) (h1 : lo ≤ g) (h2 : g < hi) : Lst wr lo hi (some ⟨g, o, none⟩) (mrk n k) :=
  .inr ⟨g, o, rfl, h1, h2, fun i hi => by rw [mrk_at]; exact h.done i (by rw [mrk_len] at hi; exact hi)⟩

theorem Own.mk {w w' : World} {base : Nat} {ao : Option Addr} {cap : Nat} {L : List Rc} (h : Own w base ao cap L) (hn : 0 < L.length) (k : Int) (kw : Below w.heap.size w w') : ∃ g, ao = some ⟨g, 0, none⟩ ∧ base ≤ g ∧ g < w.heap.size ∧ Mk w' w' g 0 L.length 0 k := by
  obtain ⟨g, cap', hv, hb, hlt⟩ := World.ownsRow.form h hn
  cases hv
  have hs := kw.size
  refine ⟨g, rfl, hb, hlt, ⟨TurnO.refl _ _, by omega, fun j hj => absurd hj (Nat.not_lt_zero _), fun c hc => ?_, fun c => ?_⟩⟩
  · rw [kw.cell (p := ⟨g, 0 + c, none⟩) hlt, Nat.zero_add, World.ownsRow.cellAt h c hc]
    exact ⟨(rcs L)[c]'(by rw [rcs_len]; exact hc), by simp⟩
  · rw [kw.frozen (p := ⟨g, c, none⟩) hlt]
    exact World.ownsRow.frozenAt h c

/-- What marking a result leaves: its list marked from k on; all other old memory as it was. -/
structure Marked (w w' : World) (base hi : Nat) (ao : Option Addr) (n : Nat) (k : Int) : Prop where
  lst : Lst w' base hi ao (mrk n k)
  size : w.heap.size ≤ w'.heap.size
  turn : ∀ B, B ≤ base → B ≤ w.heap.size → Below B w w'
  far : ∀ b, b < w.heap.size → (n = 0 ∨ b < base ∨ hi ≤ b) → w'.heap[b]? = w.heap[b]?

end Go.Proofs.Ytmmjannkfmiohaa

namespace Go.Proofs.Ytmmjannkfmiohaa
open Go.RowKit
set_option linter.unusedVariables false

def mxI (a b : Int) : Int := if b > a then b else a
def mnI (a b : Int) : Int := if b < a then b else a
theorem mxI_eq (a b : Int) : (mxI a b = a ∧ b ≤ a) ∨ (mxI a b = b ∧ a ≤ b) := by unfold mxI; split <;> omega
theorem mnI_eq (a b : Int) : (mnI a b = a ∧ a ≤ b) ∨ (mnI a b = b ∧ b ≤ a) := by unfold mnI; split <;> omega
theorem run_max_mx {P : Program} {w : World} (ts : Array TypeId) (t : TypeId) (k k' : IntKind) (x y : Int) : (Builtin.max_ ts t #[.int k x, .int k' y]).run P w = .ok (.int k (mxI x y)) w := run_max_int2 w ts t k k' x y
theorem run_min_mn {P : Program} {w : World} (ts : Array TypeId) (t : TypeId) (k k' : IntKind) (x y : Int) : (Builtin.min_ ts t #[.int k x, .int k' y]).run P w = .ok (.int k (mnI x y)) w := run_min_int2 w ts t k k' x y

def cutL (a b : Rc) : List Rc := putR [] (mxI a.x b.x) (mxI a.y b.y) (mnI (a.x + a.w) (b.x + b.w)) (mnI (a.y + a.h) (b.y + b.h))
def cutR (a b : Rc) : List Rc := if a.flt || b.flt then [] else cutL a b

/-- A result with a list: its code, its list, which lies among the blocks that were made since w1. -/
def Res (c : Int) (L : List Rc) (w1 : World) (v : Value) (w2 : World) : Prop := ∃ ao cap, v = .agg #[.int .i64 c, .slice ao L.length cap] ∧ Own w2 w1.heap.size ao cap L

theorem rfB_of {a b : Rc} (h : (a.flt || b.flt) = false) : rfB a.x a.y a.w a.h = false ∧ rfB b.x b.y b.w b.h = false := by
  simpa [Rc.flt] using h

end Go.Proofs.Ytmmjannkfmiohaa

namespace Go.Proofs.Ytmmjannkfmiohaa
open Go.RowKit
set_option linter.unusedVariables false

theorem own_new (W : World) (n : Nat) (h : n = W.heap.size) : Own (W.alloc (.cells #[] 45)) n (some ⟨n, 0, none⟩) 0 [] := by
  subst h
  exact World.ownsRow_lit W #[] 0 (Nat.le_refl _) (by unfold maxLen; omega) rfl
theorem own_nil (W : World) (n : Nat) : Own W n none 0 [] := World.ownsRow_nil _ _ _ _
theorem Own.base {w : World} {B B' : Nat} {ao : Option Addr} {cap : Nat} {L : List Rc} (h : Own w B ao cap L) (hb : B' ≤ B) : Own w B' ao cap L := by
  refine ⟨h.1, ?_⟩
  rcases h.2 with h0 | ⟨g, cap', cur, hv, h1, h2⟩
  · exact .inl h0
  · exact .inr ⟨g, cap', cur, hv, by omega, h2⟩
theorem Own.keep {w w' : World} {B : Nat} {ao : Option Addr} {cap : Nat} {L : List Rc} (h : Own w B ao cap L) (k : Below w.heap.size w w') : Own w' B ao cap L :=
  World.ownsRow.kept (row := none) h ⟨k.os, k.tape, k.output, k.size, fun i hi _ => k.block i hi⟩ (by cases Value.ownBlock (.slice ao L.length cap) <;> simp)
theorem Own.set {w : World} {B : Nat} {ao : Option Addr} {cap : Nat} {L : List Rc} (h : Own w B ao cap L) (b o : Nat) (v : Value) (hb : b < B) : Own (w.setCell ⟨b, o, none⟩ v) B ao cap L :=
  World.ownsRow.kept (row := some b) h ⟨rfl, rfl, rfl, by simp, fun i hi hne => Below.heap_setCell _ ⟨b, o, none⟩ _ _ (fun e => hne (by rw [e]))⟩ (by
    cases e : Value.ownBlock (.slice ao L.length cap) with
    | none => exact .inl rfl
    | some g => right; have := (World.ownsRow.lt h g e).1; intro h'; simp at h'; omega)

end Go.Proofs.Ytmmjannkfmiohaa
