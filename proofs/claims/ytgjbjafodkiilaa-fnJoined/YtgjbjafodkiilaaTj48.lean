/- Regions whose order is open: what only reads is taken first, in an order of one's own; then calls, one behind the other, then the rest. No conditions on the program. Regions whose order is open, over two classes of worlds: what only reads, then so many that make memory or turn what nobody reads, one behind the other, then the rest. No conditions on the program. -/
import Derived.Test.YtgjbjafodkiilaaTj47
import Derived.Test.YtgjbjafodkiilaaTj37
import Derived.Test.YtgjbjafodkiilaaTj46
namespace Go.Proofs.Ytgjbjafodkiilaa
open Go.RowKit

section
variable {P : Program} {ops : Array Oper} {md : Region.Mode}

/-- Closed facts of a region. -/
def takesB (md : Region.Mode) (ops : Array Oper) (N : Nat) (ks cs : List Nat) : Bool :=
  Region.noSelect ops && waitsB md ops N && decide (N ≤ ops.size) && decide (ks.length + cs.length = N) && ks.all (decide <| · < N) && cs.all (decide <| · < N) && takeB md ops (seqL md ops N cs) ks (Array.replicate ops.size false)

theorem opens_seqs {N : Nat} {E : World → Act → Prop} {Z : World → Array Bool → Act → Prop} (hZ : ∀ W s a, Region.seqB md ops (ops.size - N) N s = true → E W a → Z W s a) (cs : List Nat) :
    ∀ (q : List Oper) (W : World) (s : Array Bool) (a : Act), cs.map (fun c => ops[c]?) = q.map some → (∀ c ∈ cs, c < N) → seqL md ops N cs s = true → wpMades P ops E q W a → opens P md ops N Z cs.length W s a := by
  induction cs with
  | nil =>
    intro q W s a hq _ hs h
    have : q = [] := by simpa using hq.symm
    subst this
    exact hZ W s a hs h
  | cons c cs ih =>
    intro q W s a hq hc hs h
    cases q with
    | nil => simp at hq
    | cons o q =>
      simp only [List.map_cons, List.cons.injEq] at hq
      obtain ⟨ho, hq⟩ := hq
      simp only [seqL, Bool.and_eq_true, decide_eq_true_eq] at hs
      refine ⟨by rw [hs.1]; simp, fun i hi => ?_⟩
      rw [hs.1] at hi
      obtain rfl : i = c := by simpa using hi
      refine ⟨hc i (by simp), fun o' ho' => ?_⟩
      obtain rfl : o' = o := Option.some.inj (ho'.symm.trans ho)
      refine .inr ⟨h.1, fun w1 k1 => madeUpon_mono (fun w2 v _ hp => ?_) (h.2 w1 k1)⟩
      exact ih q w2 _ _ hq (fun c' hc' => hc c' (by simp [hc'])) hs.2 hp

theorem wp_region_takes {id : Nat} {Q : Exit → Act → World → Prop} {a : Act} {w : World} {l : List Oper} (N : Nat) (ks cs : List Nat)
    (hm : P.follows .mixedOrders = true) (hB : takesB .any l.toArray N ks cs = true)
    (h : wpGrow P l.toArray w (fun a' => wpMades P l.toArray (fun W a'' => ∀ w3, Kept W w3 → wpList P l.toArray Q (l.drop N) a'' w3) (sel l cs) w a') (sel l ks) a) : (Code.region id l.toArray true).wp P Q a w := by
  simp only [takesB, Bool.and_eq_true, decide_eq_true_eq, List.all_eq_true] at hB
  obtain ⟨⟨⟨⟨⟨⟨hsel, hw⟩, hN⟩, hlen⟩, hks⟩, hcs⟩, htake⟩ := hB
  have hN' : N ≤ l.length := by simpa using hN
  have e2 : (l.drop N).length = l.toArray.size - N := by simp
  have inv : HeadInv .any l.toArray N (Array.replicate l.toArray.size false) :=
    ⟨by simp, fun j oj _ hl => (by rw [getD_replicate_false] at hl; cases hl), fun t _ ht => getD_in (by simpa using ht) (getD_replicate_false _ _)⟩
  let E : World → Act → Prop := fun W a => ∀ w3, Kept W w3 → wpList P l.toArray Q (l.drop N) a w3
  let Z : World → Array Bool → Act → Prop := fun W s a => Region.seqB .any l.toArray (l.toArray.size - N) N s = true ∧ E W a
  have H := opens_take (P := P) (md := .any) (ops := l.toArray) (N := N) (m := cs.length) (Z := Z) (W := w) hsel hw (fun W s a hz => seqB_ready hz.1) (G := seqL .any l.toArray N cs) (fun s a' hG hE =>
      opens_seqs (E := E) (fun W s a h1 h2 => ⟨h1, h2⟩) cs (sel l cs) w s a' (sel_some fun c hc => by have := hcs c hc; omega) hcs hG hE) ks (sel l ks) _ a (sel_some fun k hk => by have := hks k hk; omega) hks inv htake h
  refine wp_region_any hm ?_
  have A := opens_any (Q := Q) (g := l.toArray.size - N) (fun W s a' w' hk hz => by
    have B := wpAny_of_seq (md := .any) (Q' := Q) (l.drop N) N s a' w' (fun j => by simp [List.getElem?_drop]) (by rw [e2]; exact hz.1) (hz.2 w' hk)
    rwa [e2] at B) _ _ _ _ _ (show Kept w w.drew from (Below.refl _ _).drew) H
  have e4 : ks.length + cs.length + (l.toArray.size - N) = l.toArray.size := by omega
  rw [e4] at A
  exact A
end
end Go.Proofs.Ytgjbjafodkiilaa

namespace Go.Proofs.Ytgjbjafodkiilaa
open Go.RowKit
set_option linter.unusedVariables false

section
variable {P : Program} {ops : Array Oper} {md : Region.Mode} {R G : World → World → Prop}

def wpMadesR (R G : World → World → Prop) (P : Program) (ops : Array Oper) (E : World → Act → Prop) : List Oper → World → Act → Prop
  | [], W, a => E W a
  | o :: rest, W, a => Region.wanted o (yielded ops a.tmps) = true ∧ ∀ w1, G W w1 → madeAtR R P o a w1 fun w2 v => wpMadesR R G P ops E rest w2 (a.put o.dst v)
theorem mades_stepR {E : World → Act → Prop} {W : World} {a : Act} {o : Oper} {rest : List Oper} (hw : Region.wanted o (yielded ops a.tmps) = true)
    (h : ∀ w1, G W w1 → madeAtR R P o a w1 fun w2 v => ∀ K : Act → Prop, (∀ a', wpMadesR R G P ops E rest w2 a' → K a') → K (a.put o.dst v)) : wpMadesR R G P ops E (o :: rest) W a :=
  ⟨hw, fun w1 k1 => madeUponR_mono (fun _ _ _ hk => hk _ fun _ h => h) (h w1 k1)⟩
theorem mades_nilR {E : World → Act → Prop} {W : World} {a : Act} (h : E W a) : wpMadesR R G P ops E [] W a := h
theorem made_valueR (hR : Rel R) {o : Oper} {a : Act} {w1 : World} {K : World → Value → Prop} {v : Value} (h : (execOp a.eval o).run P w1 = .ok (.value v) w1) (hk : K w1 v) : madeAtR R P o a w1 K := by
  unfold madeAtR
  rw [h]
  exact ⟨hR.refl _, hk⟩
theorem made_toR {o : Oper} {a : Act} {w1 w2 : World} {K : World → Value → Prop} {v : Value} (h : (execOp a.eval o).run P w1 = .ok (.value v) w2) (hr : R w1 w2) (hk : K w2 v) : madeAtR R P o a w1 K := by
  unfold madeAtR
  rw [h]
  exact ⟨hr, hk⟩
theorem made_callsR {o : Oper} {a : Act} {w : World} {K : World → Value → Prop} {f : FuncId} {args : Array Value} (h : (execOp a.eval o).run P w = .ok (.enter f args) w)
    (hc : Calls P f args w fun e w'' => ∃ v, e = .returned v ∧ R w w'' ∧ K w'' v) : madeAtR R P o a w K := by
  unfold madeAtR
  rw [h]
  exact ⟨rfl, hc⟩

theorem opens_madesR {N : Nat} {E : World → Act → Prop} {Z' : World → Array Bool → Act → Prop} (hZ : ∀ W s a, Region.seqB md ops (ops.size - N) N s = true → E W a → Z' W s a) (hN : N ≤ ops.size) (mid : List Oper) :
    ∀ (k : Nat) (W : World) (s : Array Bool) (a : Act), (∀ j, j < mid.length → mid[j]? = ops[k + j]?) → k + mid.length = N → Region.seqB md ops (ops.size - k) k s = true → wpMadesR R G P ops E mid W a → opensR R G P md ops N Z' mid.length W s a := by
  induction mid with
  | nil =>
    intro k W s a _ hk hs h
    have hkn : k = N := by simpa using hk
    subst hkn
    exact hZ W s a hs h
  | cons o mid ih =>
    intro k W s a hl hk hs h
    simp only [List.length_cons] at hk
    have e3 : ops.size - k = (ops.size - (k + 1)) + 1 := by omega
    simp only [e3, Region.seqB, Bool.and_eq_true, decide_eq_true_eq] at hs
    have h0 : ops[k]? = some o := by simpa using (hl 0 (by simp)).symm
    refine ⟨by rw [hs.1]; simp, fun i hi => ?_⟩
    rw [hs.1] at hi
    obtain rfl : i = k := by simpa using hi
    refine ⟨by omega, fun o' ho' => ?_⟩
    obtain rfl : o' = o := Option.some.inj (ho'.symm.trans h0)
    refine .inr ⟨h.1, fun w1 k1 => madeUponR_mono (fun w2 v _ hk' => ?_) (h.2 w1 k1)⟩
    refine ih (i + 1) w2 _ _ (fun j hj => ?_) (by omega) hs.2 hk'
    have h1 := hl (j + 1) (by simp; omega)
    have e2 : i + (j + 1) = i + 1 + j := by omega
    rw [e2] at h1
    simpa using h1

theorem wp_region_madesR (hR : Rel R) (hG : Rel G) (sub : ∀ {w w' : World}, G w w' → R w w') {id : Nat} {Q : Exit → Act → World → Prop} {a : Act} {w : World} {l : List Oper} (n m : Nat) (hm : P.follows .mixedOrders = true) (hB : madesB .any l.toArray n m = true)
    (h : wpGrowR R G P l.toArray w (fun a' => wpMadesR R G P l.toArray (fun W a'' => ∀ w3, G W w3 → wpList P l.toArray Q (l.drop (n + m)) a'' w3) ((l.drop n).take m) w a') (l.take n) a) : (Code.region id l.toArray true).wp P Q a w := by
  simp only [madesB, Bool.and_eq_true, decide_eq_true_eq] at hB
  obtain ⟨⟨⟨hsel, hw⟩, hn⟩, hlex⟩ := hB
  have hn' : n + m ≤ l.length := by simpa using hn
  have e1 : (l.take n).length = n := by simp; omega
  have e2 : (l.drop (n + m)).length = l.toArray.size - (n + m) := by simp
  have e5 : ((l.drop n).take m).length = m := by simp; omega
  have inv : HeadInv .any l.toArray (n + m) (Array.replicate l.toArray.size false) :=
    ⟨by simp, fun j oj _ hl => (by rw [getD_replicate_false] at hl; cases hl), fun t _ ht => getD_in (by simpa using ht) (getD_replicate_false _ _)⟩
  let E : World → Act → Prop := fun W a => ∀ w3, G W w3 → wpList P l.toArray Q (l.drop (n + m)) a w3
  let Z : World → Array Bool → Act → Prop := fun W s a => Region.seqB .any l.toArray (l.toArray.size - (n + m)) (n + m) s = true ∧ E W a
  have H := opens_lexR hR sub (P := P) (md := .any) (ops := l.toArray) (N := n + m) (n := n) (m := m) (Z := Z) (W := w) (Gb := fun k s => Region.seqB .any l.toArray (l.toArray.size - n) k s)
    (L := fun f k s => Region.lexHead .any l.toArray (l.toArray.size - n) f k s) hsel hw (by omega) (fun W s a hz => seqB_ready hz.1) (fun s a' _ hG hE => by
      have h0 := opens_madesR (R := R) (G := G) (P := P) (md := .any) (ops := l.toArray) (N := n + m) (Z' := Z) (E := E) (fun W s a h1 h2 => ⟨h1, h2⟩) (by simpa using hn') ((l.drop n).take m) n w s a' (fun j hj => by
        rw [e5] at hj
        simp [hj]) (by rw [e5]) hG hE
      rwa [e5] at h0) (fun k s => rfl) (fun f k s => rfl) (l.take n) 0 _ a (fun j hj => by
      rw [e1] at hj
      simp [hj]) (by simpa using e1) inv (by rw [e1]; exact hlex) h
  refine wp_region_any hm ?_
  have A := opens_anyR hG sub (Q := Q) (g := l.toArray.size - (n + m)) (fun W s a' w' hk hz => by
    have B := wpAny_of_seq (md := .any) (Q' := Q) (l.drop (n + m)) (n + m) s a' w' (fun j => by simp [List.getElem?_drop]) (by rw [e2]; exact hz.1) (hz.2 w' hk)
    rwa [e2] at B) _ _ _ _ _ (show G w w.drew from hG.drew w) H
  have e4 : n + m + (l.toArray.size - (n + m)) = l.toArray.size := by omega
  rw [e1, e4] at A
  exact A
end

/-- The blocks in S stay as they are. -/
structure Stay (S : Nat → Prop) (w w' : World) : Prop where
  size : w.heap.size ≤ w'.heap.size
  blk : ∀ q, S q → q < w.heap.size → w'.heap[q]? = w.heap[q]?
theorem rel_stay (S : Nat → Prop) : Rel (Stay S) :=
  ⟨fun w => ⟨Nat.le_refl _, fun _ _ _ => rfl⟩, fun h k => ⟨Nat.le_trans h.size k.size, fun q hs hq => (k.blk q hs (Nat.lt_of_lt_of_le hq h.size)).trans (h.blk q hs hq)⟩,
    fun w o => ⟨by simp, fun q _ hq => (kept_alloc' w o).block q hq⟩, fun w => ⟨Nat.le_refl _, fun _ _ _ => rfl⟩⟩
where kept_alloc' (w : World) (o : Obj) : Below w.heap.size w (w.alloc o) := (Below.refl _ _).alloc (Nat.le_refl _) _
theorem Stay.of_below {S : Nat → Prop} {w w' : World} (h : Below w.heap.size w w') : Stay S w w' := ⟨h.size, fun q _ hq => h.block q hq⟩
theorem Stay.cell {S : Nat → Prop} {w w' : World} (h : Stay S w w') (q o : Nat) (hs : S q) (hq : q < w.heap.size) : w'.cell? ⟨q, o, none⟩ = w.cell? ⟨q, o, none⟩ := World.cell?_of_block (w := w) (a := ⟨q, o, none⟩) (h.blk q hs hq)
theorem Stay.frozen {S : Nat → Prop} {w w' : World} (h : Stay S w w') (q o : Nat) (hs : S q) (hq : q < w.heap.size) : w'.frozen? ⟨q, o, none⟩ = w.frozen? ⟨q, o, none⟩ := World.frozen?_of_block (w := w) (a := ⟨q, o, none⟩) (h.blk q hs hq)
theorem Stay.grown {S : Nat → Prop} {w w' : World} {r : Option Nat} (h : w.grownBy w' r) (hr : ∀ q, S q → some q ≠ r) : Stay S w w' := ⟨h.size, fun q hs hq => h.block q hq (hr q hs)⟩
theorem rel_keptA : Rel Kept := ⟨fun w => Kept.refl w, fun h k => h.trans k, fun w o => (Below.refl _ _).alloc (Nat.le_refl _) _, fun w => (Below.refl _ _).drew⟩
end Go.Proofs.Ytgjbjafodkiilaa
