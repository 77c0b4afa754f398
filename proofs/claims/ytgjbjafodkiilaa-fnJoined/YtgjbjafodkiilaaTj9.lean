/- Requests: how great, whether two are the same; RequestFault of the model, and the law's walk. Regions whose order is open, with a call that makes memory and answers what hangs on where it lies, and beside it a local's box that may come ahead of the call or behind it: two ways. No conditions on the program. -/
import Derived.Test.YtgjbjafodkiilaaTj4
import Derived.Test.YtgjbjafodkiilaaTj7
import Derived.Test.YtgjbjafodkiilaaTj8
import Derived.Test.YtgjbjafodkiilaaTj1
namespace Go.Proofs.Ytgjbjafodkiilaa
open Go.RowKit
set_option linter.unusedVariables false

end Go.Proofs.Ytgjbjafodkiilaa

namespace Go.Proofs.Ytgjbjafodkiilaa
open Go.RowKit

section
variable {P : Program} {md : Region.Mode}

/-- n operations in the text's order, then G. -/
def lexTo (md : Region.Mode) (ops : Array Oper) (G : Nat → Array Bool → Bool) : Nat → Nat → Array Bool → Bool
  | 0, k, s => G k s
  | f + 1, k, s => (Region.ready md ops s).contains k && Region.free md ops s k && lexTo md ops G f (k + 1) (s.setIfInBounds k true)

/-- Are two operations apart, both ways? -/
def apartB (ops : Array Oper) (i j : Nat) : Bool :=
  match ops[i]?, ops[j]? with
  | some a, some b => a.apart ops b && b.apart ops a
  | _, _ => false

def calledG (md : Region.Mode) (ops : Array Oper) (g : Nat) (k : Nat) (s : Array Bool) : Bool :=
  decide (Region.ready md ops s = [k, k + 1]) && decide (Region.ready md ops (s.setIfInBounds k true) = [k + 1]) && decide (Region.ready md ops (s.setIfInBounds (k + 1) true) = [k]) &&
  Region.seqB md ops g (k + 2) ((s.setIfInBounds k true).setIfInBounds (k + 1) true)

/-- Closed facts of a region: n operations in the text's order, a call, a local's box that may come at any time, the rest. -/
def calledB (md : Region.Mode) (ops : Array Oper) (n : Nat) : Bool :=
  Region.noSelect ops && waitsB md ops (n + 2) && decide (n + 2 ≤ ops.size) && apartB ops n (n + 1) && lexTo md ops (calledG md ops (ops.size - (n + 2))) n 0 (Array.replicate ops.size false)

/-- What is known behind the call and the box: the call was made in w1 and left w2; the box lies in block B. -/
def Called (w : World) (o : Obj) (Φ : World → Value → World → Prop) (v : Value) (B : Nat) (w3 : World) : Prop :=
  ∃ w1 w2, Kept w w1 ∧ Kept w1 w2 ∧ Φ w1 v w2 ∧ Kept w2 w3 ∧ w.heap.size ≤ B ∧ B < w3.heap.size ∧ w3.heap[B]? = some o ∧ (B < w1.heap.size ∨ w2.heap.size ≤ B)

theorem kept_alloc (w : World) (o : Obj) : Kept w (w.alloc o) := (Below.refl _ _).alloc (Nat.le_refl _) _
theorem Kept.le {w w' : World} (h : Kept w w') : w.heap.size ≤ w'.heap.size := Below.size h
theorem Kept.blk {w w' : World} (h : Kept w w') {b : Nat} (hb : b < w.heap.size) : w'.heap[b]? = w.heap[b]? := Below.block h b hb

theorem called_late {w w1 w2 w2' w3 : World} {o : Obj} {Φ : World → Value → World → Prop} {v : Value} (h1 : Kept w w1) (h2 : Kept w1 w2) (hp : Φ w1 v w2) (h3 : Kept w2 w2') (h4 : Kept (w2'.alloc o) w3) : Called w o Φ v w2'.heap.size w3 := by
  refine ⟨w1, w2, h1, h2, hp, (h3.trans (kept_alloc _ _)).trans h4, ?_, ?_, ?_, .inr h3.le⟩
  · exact Nat.le_trans ((h1.trans h2).trans h3).le (Nat.le_refl _)
  · have := h4.le; simp at this; omega
  · rw [h4.blk (by simp)]; exact heap_alloc_new w2' _
theorem called_soon {w w0 w1 w2 w3 : World} {o : Obj} {Φ : World → Value → World → Prop} {v : Value} (h0 : Kept w w0) (h1 : Kept (w0.alloc o) w1) (h2 : Kept w1 w2) (hp : Φ w1 v w2) (h3 : Kept w2 w3) : Called w o Φ v w0.heap.size w3 := by
  have e1 := h1.le
  simp at e1
  refine ⟨w1, w2, (h0.trans (kept_alloc _ _)).trans h1, h2, hp, h3, h0.le, ?_, ?_, .inl (by omega)⟩
  · have := (h2.trans h3).le; omega
  · rw [((h1.trans h2).trans h3).blk (by simp)]; exact heap_alloc_new w0 _

theorem wp_region_called {id : Nat} {Q : Exit → Act → World → Prop} {a : Act} {w : World} {l : List Oper} (n : Nat) {c m : Oper} (hc : l[n]? = some c) (hmm : l[n + 1]? = some m) (Φ : World → Value → World → Prop) (o : Obj)
    (hm : P.follows .mixedOrders = true) (hB : calledB .any l.toArray n = true)
    (h : wpGrow P l.toArray w (fun a' => Region.wanted c (yielded l.toArray a'.tmps) = true ∧ Region.wanted m (yielded l.toArray a'.tmps) = true ∧ (∀ w1, Kept w w1 → madeAt P c a' w1 fun w2 v => Φ w1 v w2) ∧
      (∀ w1, (execOp a'.eval m).run P w1 = .ok (.value (.pointer (some ⟨w1.heap.size, 0, none⟩))) (w1.alloc o)) ∧
      ∀ v B w3, Called w o Φ v B w3 → wpList P l.toArray Q (l.drop (n + 2)) ((a'.put c.dst v).put m.dst (.pointer (some ⟨B, 0, none⟩))) w3) (l.take n) a) : (Code.region id l.toArray true).wp P Q a w := by
  simp only [calledB, Bool.and_eq_true, decide_eq_true_eq] at hB
  obtain ⟨⟨⟨⟨hsel, hw⟩, hn⟩, hap⟩, hlex⟩ := hB
  have hn' : n + 2 ≤ l.length := by simpa using hn
  have e1 : (l.take n).length = n := by simp; omega
  have e2 : (l.drop (n + 2)).length = l.toArray.size - (n + 2) := by simp
  have hc' : l.toArray[n]? = some c := by simpa using hc
  have hm' : l.toArray[n + 1]? = some m := by simpa using hmm
  simp only [apartB, hc', hm', Bool.and_eq_true] at hap
  obtain ⟨p1, p2, p3⟩ := Oper.apart_spec hap.1
  have hsc := fun cs b => Region.noSelect_spec hsel n c cs b hc'
  have hsm := fun cs b => Region.noSelect_spec hsel (n + 1) m cs b hm'
  have inv : HeadInv .any l.toArray (n + 2) (Array.replicate l.toArray.size false) :=
    ⟨by simp, fun j oj _ hl => (by rw [getD_replicate_false] at hl; cases hl), fun t _ ht => getD_in (by simpa using ht) (getD_replicate_false _ _)⟩
  let Z : World → Array Bool → Act → Prop := fun W s a => Region.seqB .any l.toArray (l.toArray.size - (n + 2)) (n + 2) s = true ∧ ∀ w3, Kept W w3 → wpList P l.toArray Q (l.drop (n + 2)) a w3
  have H := opens_lex (P := P) (md := .any) (ops := l.toArray) (N := n + 2) (n := n) (m := 2) (Z := Z) (W := w) (G := calledG .any l.toArray (l.toArray.size - (n + 2)))
    (L := lexTo .any l.toArray (calledG .any l.toArray (l.toArray.size - (n + 2)))) hsel hw (by omega) (fun W s a hz => seqB_ready hz.1) (fun s a' _ hG hE => by
      simp only [calledG, Bool.and_eq_true, decide_eq_true_eq] at hG
      obtain ⟨⟨⟨g1, g2⟩, g3⟩, g4⟩ := hG
      obtain ⟨wc, wm, hcall, hbox, hend⟩ := hE
      have g4' : Region.seqB .any l.toArray (l.toArray.size - (n + 2)) (n + 2) ((s.setIfInBounds (n + 1) true).setIfInBounds n true) = true := by
        rw [Array.setIfInBounds_comm _ _ (by omega)]; exact g4
      refine ⟨by rw [g1]; simp, fun i hi => ?_⟩
      rw [g1] at hi
      simp only [List.mem_cons, List.not_mem_nil, or_false] at hi
      rcases hi with rfl | rfl
      · refine ⟨by omega, fun oi hoi => ?_⟩
        obtain rfl : oi = c := Option.some.inj (hoi.symm.trans hc')
        refine .inr ⟨wc, fun w1 k1 => madeUpon_mono (fun w2 v hb hp => ?_) (hcall w1 k1)⟩
        refine ⟨by rw [g2]; simp, fun i2 hi2 => ?_⟩
        rw [g2] at hi2
        obtain rfl : i2 = i + 1 := by simpa using hi2
        refine ⟨by omega, fun oj hoj => ?_⟩
        obtain rfl : oj = m := Option.some.inj (hoj.symm.trans hm')
        refine .inr ⟨by rw [wanted_put oj a' oi.dst v p1]; exact wm, fun w2' k2 => ?_⟩
        unfold madeAt
        rw [execOp_put oj hsm a' oi.dst v p1, hbox w2']
        exact ⟨kept_alloc _ _, g4, fun w3 k3 => hend v _ w3 (called_late k1 hb hp k2 k3)⟩
      · refine ⟨by omega, fun oj hoj => ?_⟩
        obtain rfl : oj = m := Option.some.inj (hoj.symm.trans hm')
        refine .inr ⟨wm, fun w0 k0 => ?_⟩
        unfold madeAt
        rw [hbox w0]
        refine ⟨kept_alloc _ _, by rw [g3]; simp, fun i2 hi2 => ?_⟩
        rw [g3] at hi2
        obtain rfl : i2 = n := by simpa using hi2
        refine ⟨by omega, fun oi hoi => ?_⟩
        obtain rfl : oi = c := Option.some.inj (hoi.symm.trans hc')
        refine .inr ⟨by rw [wanted_put oi a' oj.dst _ p3]; exact wc, fun w1 k1 => ?_⟩
        have hcl := hcall w1 ((k0.trans (kept_alloc _ _)).trans k1)
        unfold madeAt at hcl ⊢
        rw [execOp_put oi hsc a' oj.dst _ p3]
        refine madeUpon_mono (fun w2 v hb hp => ?_) hcl
        refine ⟨g4', fun w3 k3 => ?_⟩
        have hd := hend v _ w3 (called_soon k0 k1 hb hp k3)
        rwa [Act.put_comm a' v _ p2] at hd) (fun k s => rfl) (fun f k s => rfl) (l.take n) 0 _ a (fun j hj => by
      rw [e1] at hj
      simp [hj]) (by simpa using e1) inv (by rw [e1]; exact hlex) h
  refine wp_region_any hm ?_
  have A := opens_any (Q := Q) (g := l.toArray.size - (n + 2)) (fun W s a' w' hk hz => by
    have B := wpAny_of_seq (md := .any) (Q' := Q) (l.drop (n + 2)) (n + 2) s a' w' (fun j => by simp [List.getElem?_drop]) (by rw [e2]; exact hz.1) (hz.2 w' hk)
    rwa [e2] at B) _ _ _ _ _ (show Kept w w.drew from (Below.refl _ _).drew) H
  have e4 : n + 2 + (l.toArray.size - (n + 2)) = l.toArray.size := by omega
  rw [e1, e4] at A
  exact A
end
end Go.Proofs.Ytgjbjafodkiilaa
