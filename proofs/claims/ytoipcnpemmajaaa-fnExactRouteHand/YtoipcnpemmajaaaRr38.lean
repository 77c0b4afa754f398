/- Regions whose order is open: what only reads is taken first, in an order of one's own; then calls, one behind the other, then the rest. No conditions on the program. -/
import Derived.Test.YtoipcnpemmajaaaRr37
namespace Go.Proofs.Ytoipcnpemmajaaa
open Go.RowKit

section
variable {P : Program} {ops : Array Oper} {md : Region.Mode}

/-- Closed facts of a region. -/
def takesB (md : Region.Mode) (ops : Array Oper) (N : Nat) (ks cs : List Nat) : Bool :=
  Region.noSelect ops && waitsB md ops N && decide (N ≤ ops.size) && decide (ks.length + cs.length = N) && ks.all (decide <| · < N) && cs.all (decide <| · < N) && takeB md ops (seqL md ops N cs) ks (Array.replicate ops.size false)

theorem opens_seqs {N : Nat} {E : World → Act → Prop} {Z : World → Array Bool → Act → Prop} (hZ : ∀ W s a, Region.seqB md ops (ops.size - N) N s = true → E W a → Z W s a) (cs : List Nat) :
    ∀ (q : List Oper) (W : World) (s : Array Bool) (a : Act), cs.map (fun c => ops[c]?) = q.map some → (∀ c ∈ cs, c < N) → seqL md ops N cs s = true → wpMades P ops E q W a → opens P md ops N Z cs.length W s a := by
  induction cs with
  | nil =>
    intro q W s a hq _ hs h
    have : q = [] := by simpa using hq.symm
    subst this
    exact hZ W s a hs h
  | cons c cs ih =>
    intro q W s a hq hc hs h
    cases q with
    | nil => simp at hq
    | cons o q =>
      simp only [List.map_cons, List.cons.injEq] at hq
      obtain ⟨ho, hq⟩ := hq
      simp only [seqL, Bool.and_eq_true, decide_eq_true_eq] at hs
      refine ⟨by rw [hs.1]; simp, fun i hi => ?_⟩
      rw [hs.1] at hi
      obtain rfl : i = c := by simpa using hi
      refine ⟨hc i (by simp), fun o' ho' => ?_⟩
      obtain rfl : o' = o := Option.some.inj (ho'.symm.trans ho)
      refine .inr ⟨h.1, fun w1 k1 => madeUpon_mono (fun w2 v _ hp => ?_) (h.2 w1 k1)⟩
      exact ih q w2 _ _ hq (fun c' hc' => hc c' (by simp [hc'])) hs.2 hp

theorem wp_region_takes {id : Nat} {Q : Exit → Act → World → Prop} {a : Act} {w : World} {l : List Oper} (N : Nat) (ks cs : List Nat)
    (hm : P.follows .mixedOrders = true) (hB : takesB .any l.toArray N ks cs = true)
    (h : wpGrow P l.toArray w (fun a' => wpMades P l.toArray (fun W a'' => ∀ w3, Kept W w3 → wpList P l.toArray Q (l.drop N) a'' w3) (sel l cs) w a') (sel l ks) a) : (Code.region id l.toArray true).wp P Q a w := by
  simp only [takesB, Bool.and_eq_true, decide_eq_true_eq, List.all_eq_true] at hB
  obtain ⟨⟨⟨⟨⟨⟨hsel, hw⟩, hN⟩, hlen⟩, hks⟩, hcs⟩, htake⟩ := hB
  have hN' : N ≤ l.length := by simpa using hN
  have e2 : (l.drop N).length = l.toArray.size - N := by simp
  have inv : HeadInv .any l.toArray N (Array.replicate l.toArray.size false) :=
    ⟨by simp, fun j oj _ hl => (by rw [getD_replicate_false] at hl; cases hl), fun t _ ht => getD_in (by simpa using ht) (getD_replicate_false _ _)⟩
  let E : World → Act → Prop := fun W a => ∀ w3, Kept W w3 → wpList P l.toArray Q (l.drop N) a w3
  let Z : World → Array Bool → Act → Prop := fun W s a => Region.seqB .any l.toArray (l.toArray.size - N) N s = true ∧ E W a
  have H := opens_take (P := P) (md := .any) (ops := l.toArray) (N := N) (m := cs.length) (Z := Z) (W := w) hsel hw (fun W s a hz => seqB_ready hz.1) (G := seqL .any l.toArray N cs) (fun s a' hG hE =>
      opens_seqs (E := E) (fun W s a h1 h2 => ⟨h1, h2⟩) cs (sel l cs) w s a' (sel_some fun c hc => by have := hcs c hc; omega) hcs hG hE) ks (sel l ks) _ a (sel_some fun k hk => by have := hks k hk; omega) hks inv htake h
  refine wp_region_any hm ?_
  have A := opens_any (Q := Q) (g := l.toArray.size - N) (fun W s a' w' hk hz => by
    have B := wpAny_of_seq (md := .any) (Q' := Q) (l.drop N) N s a' w' (fun j => by simp [List.getElem?_drop]) (by rw [e2]; exact hz.1) (hz.2 w' hk)
    rwa [e2] at B) _ _ _ _ _ (show Kept w w.drew from (Below.refl _ _).drew) H
  have e4 : ks.length + cs.length + (l.toArray.size - N) = l.toArray.size := by omega
  rw [e4] at A
  exact A
end
end Go.Proofs.Ytoipcnpemmajaaa
