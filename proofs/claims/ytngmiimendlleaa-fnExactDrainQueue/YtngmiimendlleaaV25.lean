/- Regions whose order is open: what only reads, then two that make memory, one behind the other, then the rest. No conditions on the program. -/
import Derived.Test.YtngmiimendlleaaV1
namespace Go.Proofs.Ytngmiimendlleaa
open Go.RowKit
set_option linter.unusedVariables false

section
variable {P : Program} {ops : Array Oper} {md : Region.Mode}

def made2B (md : Region.Mode) (ops : Array Oper) (n : Nat) : Bool :=
  Region.noSelect ops && waitsB md ops (n + 2) && decide (n + 1 < ops.size) && Region.lexHead md ops (ops.size - n) n 0 (Array.replicate ops.size false)

theorem wp_region_made2 {id : Nat} {Q : Exit → Act → World → Prop} {a : Act} {w : World} {l : List Oper} (n : Nat) (hm : P.follows .mixedOrders = true) (hB : made2B .any l.toArray n = true)
    (h : wpGrow P l.toArray w (fun a' => ∀ o o2, l[n]? = some o → l[n + 1]? = some o2 → Region.wanted o (yielded l.toArray a'.tmps) = true ∧ ∀ w1, Kept w w1 →
      madeAt P o a' w1 fun w2 v => Region.wanted o2 (yielded l.toArray (a'.put o.dst v).tmps) = true ∧ ∀ w3, Kept w2 w3 → madeAt P o2 (a'.put o.dst v) w3 fun w4 u => ∀ w5, Kept w4 w5 → wpList P l.toArray Q (l.drop (n + 2)) ((a'.put o.dst v).put o2.dst u) w5) (l.take n) a) : (Code.region id l.toArray true).wp P Q a w := by
  simp only [made2B, Bool.and_eq_true, decide_eq_true_eq] at hB
  obtain ⟨⟨⟨hsel, hw⟩, hn⟩, hlex⟩ := hB
  have hn' : n + 1 < l.length := by simpa using hn
  have e1 : (l.take n).length = n := by simp; omega
  have e2 : (l.drop (n + 2)).length = l.toArray.size - (n + 2) := by simp
  have inv : HeadInv .any l.toArray (n + 2) (Array.replicate l.toArray.size false) :=
    ⟨by simp, fun j oj _ hl => (by rw [getD_replicate_false] at hl; cases hl), fun t _ ht => getD_in (by simpa using ht) (getD_replicate_false _ _)⟩
  let Z : World → Array Bool → Act → Prop := fun W s a => Region.seqB .any l.toArray (l.toArray.size - (n + 2)) (n + 2) s = true ∧ ∀ w3, Kept W w3 → wpList P l.toArray Q (l.drop (n + 2)) a w3
  have ho2 : l.toArray[n + 1]? = some l[n + 1] := by simp [hn']
  have H := opens_lex (P := P) (md := .any) (ops := l.toArray) (N := n + 2) (n := n) (m := 2) (Z := Z) (W := w) (G := fun k s => Region.seqB .any l.toArray (l.toArray.size - n) k s)
    (L := fun f k s => Region.lexHead .any l.toArray (l.toArray.size - n) f k s) hsel hw (by omega) (fun W s a hz => seqB_ready hz.1) (fun s a' _ hG hE => by
      have e3 : l.toArray.size - n = (l.toArray.size - (n + 2)) + 1 + 1 := by omega
      simp only [e3, Region.seqB, Bool.and_eq_true, decide_eq_true_eq] at hG
      refine ⟨by rw [hG.1]; simp, fun i hi => ?_⟩
      rw [hG.1] at hi
      have hin : i = n := by simpa using hi
      subst hin
      refine ⟨by omega, fun o hoi => ?_⟩
      obtain ⟨hwt, hmk⟩ := hE o l[i + 1] (by simpa using hoi) (by simp [hn'])
      refine .inr ⟨hwt, fun w1 k1 => ?_⟩
      refine madeUpon_mono (fun w2 v _ hz => ?_) (hmk w1 k1)
      refine ⟨by rw [hG.2.1]; simp, fun j hj => ?_⟩
      rw [hG.2.1] at hj
      obtain rfl : j = i + 1 := by simpa using hj
      refine ⟨by omega, fun oj hoj => ?_⟩
      obtain rfl : oj = l[i + 1] := Option.some.inj (hoj.symm.trans ho2)
      refine .inr ⟨hz.1, fun w3 k3 => ?_⟩
      refine madeUpon_mono (fun w4 u _ hz' => ?_) (hz.2 w3 k3)
      exact ⟨hG.2.2, hz'⟩) (fun k s => rfl) (fun f k s => rfl) (l.take n) 0 _ a (fun j hj => by
      rw [e1] at hj
      simp [hj]) (by simpa using e1) inv (by rw [e1]; exact hlex) h
  refine wp_region_any hm ?_
  have A := opens_any (Q := Q) (g := l.toArray.size - (n + 2)) (fun W s a' w' hk hz => by
    have B := wpAny_of_seq (md := .any) (Q' := Q) (l.drop (n + 2)) (n + 2) s a' w' (fun j => by simp [List.getElem?_drop]) (by rw [e2]; exact hz.1) (hz.2 w' hk)
    rwa [e2] at B) _ _ _ _ _ (show Kept w w.drew from (Below.refl _ _).drew) H
  have e4 : n + 2 + (l.toArray.size - (n + 2)) = l.toArray.size := by omega
  rw [e1, e4] at A
  exact A
end
end Go.Proofs.Ytngmiimendlleaa
