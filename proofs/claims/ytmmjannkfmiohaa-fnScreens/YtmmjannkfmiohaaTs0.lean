/- Regions whose order is open: every operation but the last ones reads, reckons, or calls what leaves all old memory as it was; the last ones wait for all others. One walk in the text's order serves every order. No conditions on the program. -/
import Derived.Deep.QuietTactic
import Derived.StillTail
import Derived.Below
namespace Go.Proofs.Ytmmjannkfmiohaa
open Go.RowKit

section
variable {P : Program} {ops : Array Oper} {md : Region.Mode} {C : World → Prop}

/-- Of the first n operations f more come up, in whatever order, each quiet in C; behind them L. -/
def headQ (P : Program) (md : Region.Mode) (ops : Array Oper) (C : World → Prop) (n : Nat) (L : Array Bool → Act → Prop) : Nat → Array Bool → Act → Prop
  | 0, s, a => L s a
  | f + 1, s, a => Region.ready md ops s ≠ [] ∧ ∀ i ∈ Region.ready md ops s, i < n ∧ qOp P ops C i (headQ P md ops C n L f (s.setIfInBounds i true)) a

theorem headQ_any {n g : Nat} {L : Array Bool → Act → Prop} {Q : Exit → Act → World → Prop} (hL : ∀ s a w, C w → L s a → wpAny P md ops Q g s a w) (f : Nat) :
    ∀ (s : Array Bool) (a : Act) (w : World), C w → headQ P md ops C n L f s a → wpAny P md ops Q (f + g) s a w := by
  induction f with
  | zero => intro s a w hw h; rw [Nat.zero_add]; exact hL s a w hw h
  | succ f ih =>
    intro s a w hw h
    have e : f + 1 + g = f + g + 1 := by omega
    rw [e]
    refine ⟨fun h0 => absurd h0 h.1, fun i hi => ?_⟩
    exact wpOp_of_qOp hw (fun a' w' hw' h' => ih _ a' w' hw' h') (h.2 i hi).2

theorem headQ_first {n i : Nat} {oi : Oper} {v : Value} {L : Array Bool → Act → Prop} (hi : ops[i]? = some oi) (hsel : Region.noSelect ops = true)
    (hs : Region.sinkB md ops n = true) (hc : Region.chainB md ops n = true) (hn : n < ops.size) (hin : i < n)
    (hL : ∀ s a, L s a → ∀ j ∈ Region.ready md ops s, n ≤ j) (f : Nat) :
    ∀ (s : Array Bool) (a : Act), HeadInv md ops n s →
      (∀ j oj, ops[j]? = some oj → j ≠ i → s.getD j true = false → (∀ e ∈ oj.after, Region.binds md e = true → e.on ≠ i) → oi.apart ops oj = true) →
      i ∈ Region.ready md ops s → YieldsIn P ops C oi v a → headQ P md ops C n L f (s.setIfInBounds i true) (a.put oi.dst v) → headQ P md ops C n L (f + 1) s a := by
  have early : ∀ s, HeadInv md ops n s → i ∈ Region.ready md ops s → ∀ j ∈ Region.ready md ops s, j < n := by
    intro s inv hr j hj
    by_cases h : j < n
    · exact h
    · exact absurd hj (tail_waits hs hc hn inv _ i rfl hin (mem_ready.1 hr).1 j (by omega))
  induction f with
  | zero =>
    intro s a inv _ hr hy H
    refine ⟨fun h => (by rw [h] at hr; cases hr), fun j hj => ⟨early s inv hr j hj, ?_⟩⟩
    by_cases hji : j = i
    · rw [hji]; exact hy.qOp hi H
    · have h1 := hL _ _ H j (ready_mono hj hji)
      have h2 := early s inv hr j hj
      omega
  | succ f ih =>
    intro s a inv hfree hr hy H
    refine ⟨fun h => (by rw [h] at hr; cases hr), fun j hj => ⟨early s inv hr j hj, ?_⟩⟩
    by_cases hji : j = i
    · rw [hji]; exact hy.qOp hi H
    · obtain ⟨hju, oj, hoj, hall⟩ := mem_ready.1 hj
      have hiu := (mem_ready.1 hr).1
      have hno : ∀ e ∈ oj.after, Region.binds md e = true → e.on ≠ i := by
        intro e he hb heq
        have h3 := hall e he hb
        rw [heq, getD_both hiu] at h3
        cases h3
      have hap := hfree j oj hoj hji hju hno
      have hq := (H.2 j (ready_mono hj hji)).2
      have hq' := qOp_put hoj hap (fun cs b => Region.noSelect_spec hsel i oi cs b hi) (fun cs b => Region.noSelect_spec hsel j oj cs b hoj) hy hq
      refine qOp_mono (fun a' h3 => ?_) hq'
      refine ih (s.setIfInBounds j true) a' (inv.set hj (early s inv hr j hj)) ?_ (ready_mono hr (Ne.symm hji)) h3.1 ?_
      · intro k ok hk hki hun hno'
        refine hfree k ok hk hki ?_ hno'
        by_cases hjk : j = k
        · rw [← hjk]; exact hju
        · rwa [getD_set_ne true hjk] at hun
      · rw [Array.setIfInBounds_comm _ _ hji]; exact h3.2

theorem headQ_lex {n g : Nat} {Z : Act → Prop} (hsel : Region.noSelect ops = true) (hs : Region.sinkB md ops n = true) (hc : Region.chainB md ops n = true) (hn : n < ops.size) (l : List Oper) :
    ∀ (k : Nat) (s : Array Bool) (a : Act), (∀ j, j < l.length → l[j]? = ops[k + j]?) → k + l.length = n → HeadInv md ops n s →
    Region.lexHead md ops g l.length k s = true → wpQuiet P ops C Z l a → headQ P md ops C n (fun s' a' => Region.seqB md ops g n s' = true ∧ Z a') l.length s a := by
  induction l with
  | nil =>
    intro k s a _ hk _ hB h
    have hkn : k = n := by simpa using hk
    rw [hkn] at hB
    exact ⟨by simpa [Region.lexHead] using hB, h⟩
  | cons o l ih =>
    intro k s a hl hk inv hB h
    have h0 : ops[k]? = some o := by simpa using (hl 0 (by simp)).symm
    simp only [List.length_cons, Region.lexHead, Bool.and_eq_true] at hB
    simp only [List.length_cons] at hk
    have hr : k ∈ Region.ready md ops s := by simpa using hB.1.1
    have hkn : k < n := by omega
    have hq : qOp P ops C k (wpQuiet P ops C Z l) a := by unfold qOp; simp only [h0]; exact h
    obtain ⟨v, hy, hK⟩ := yieldsIn_of_qOp h0 hq
    refine headQ_first h0 hsel hs hc hn hkn (fun s' a' hL => seqB_ready hL.1) l.length s a inv (Region.free_spec h0 hB.1.2) hr hy ?_
    refine ih (k + 1) _ _ (fun j hj => ?_) (by omega) (inv.set hr hkn) hB.2 hK
    have h1 := hl (j + 1) (by simp; omega)
    have e : k + (j + 1) = k + 1 + j := by omega
    rw [e] at h1
    simpa using h1

/-- The first n operations quiet in C, the others behind them one by one. -/
theorem wp_region_quiet_tail {id : Nat} {Q : Exit → Act → World → Prop} {a : Act} {w : World} {l : List Oper} (n : Nat) (hm : P.follows .mixedOrders = true) (hB : Region.lexTailB .any l.toArray n = true) (hC : C w.drew)
    (h : wpQuiet P l.toArray C (fun a' => ∀ w', C w' → wpList P l.toArray Q (l.drop n) a' w') (l.take n) a) : (Code.region id l.toArray true).wp P Q a w := by
  simp only [Region.lexTailB, Bool.and_eq_true, decide_eq_true_eq] at hB
  obtain ⟨⟨⟨⟨hsel, hn⟩, hs⟩, hc⟩, hlex⟩ := hB
  have hn' : n < l.length := by simpa using hn
  have e1 : (l.take n).length = n := by simp; omega
  have e2 : (l.drop n).length = l.toArray.size - n := by simp
  have inv : HeadInv .any l.toArray n (Array.replicate l.toArray.size false) :=
    ⟨by simp, fun j oj _ hl => (by rw [getD_replicate_false] at hl; cases hl), fun t _ ht => getD_in (by simpa using ht) (getD_replicate_false _ _)⟩
  have H := headQ_lex (md := .any) (g := l.toArray.size - n) (C := C) hsel hs hc hn (l.take n) 0 _ a (fun j hj => by
    rw [e1] at hj
    simp [hj]) (by simpa using e1) inv (by rw [e1]; exact hlex) h
  refine wp_region_any hm ?_
  have A := headQ_any (Q := Q) (g := l.toArray.size - n) (fun s a' w' hw' hL => by
    have B := wpAny_of_seq (md := .any) (Q' := Q) (l.drop n) n s a' w' (fun j => by simp [List.getElem?_drop]) (by rw [e2]; exact hL.1) (hL.2 w' hw')
    rwa [e2] at B) _ _ _ _ hC H
  have e3 : n + (l.toArray.size - n) = l.toArray.size := by omega
  rw [e1, e3] at A
  exact A
end

/-- All old memory is as it was in w. -/
def Kept (w : World) : World → Prop := fun w' => Below w.heap.size w w'

theorem Kept.below {w w' : World} (h : Kept w w') : Below w.heap.size w w' := h
theorem Kept.cell {w w' : World} (h : Kept w w') (b o : Nat) (hb : b < w.heap.size) : w'.cell? ⟨b, o, none⟩ = w.cell? ⟨b, o, none⟩ := Below.cell (p := ⟨b, o, none⟩) h hb
theorem Kept.frozen {w w' : World} (h : Kept w w') (b o : Nat) (hb : b < w.heap.size) : w'.frozen? ⟨b, o, none⟩ = w.frozen? ⟨b, o, none⟩ := Below.frozen (p := ⟨b, o, none⟩) h hb

/-- Block numbers of what was made ahead of a call, held against the number of blocks behind it. -/
theorem kept_join {W w1 w2 : World} (h : Below W.heap.size W w1) (k : Below w1.heap.size w1 w2) : Below W.heap.size W w2 := h.trans (k.mono h.size)
theorem sz1 {n m : Nat} (h : n + 1 ≤ m) : n < m ∧ n ≤ m ∧ n ≤ m + 1 ∧ ¬ n = m ∧ ¬ n = m + 1 := by omega
theorem sz2 {n m : Nat} (h : n + 1 + 1 ≤ m) : n < m ∧ n ≤ m ∧ n ≤ m + 1 ∧ ¬ n = m ∧ ¬ n = m + 1 ∧ n + 1 < m ∧ n + 1 ≤ m ∧ n + 1 ≤ m + 1 ∧ ¬ n + 1 = m ∧ ¬ n + 1 = m + 1 := by omega
theorem sz3 {n m : Nat} (h : n + 1 + 1 + 1 ≤ m) : n < m ∧ n ≤ m ∧ n ≤ m + 1 ∧ ¬ n = m ∧ ¬ n = m + 1 ∧ n + 1 < m ∧ n + 1 ≤ m ∧ n + 1 ≤ m + 1 ∧ ¬ n + 1 = m ∧ ¬ n + 1 = m + 1 ∧ n + 1 + 1 < m ∧ n + 1 + 1 ≤ m ∧ n + 1 + 1 ≤ m + 1 ∧ ¬ n + 1 + 1 = m ∧ ¬ n + 1 + 1 = m + 1 := by omega
theorem sz4 {n m : Nat} (h : n + 1 + 1 + 1 + 1 ≤ m) : n < m ∧ n ≤ m ∧ n ≤ m + 1 ∧ ¬ n = m ∧ ¬ n = m + 1 ∧ n + 1 < m ∧ n + 1 ≤ m ∧ n + 1 ≤ m + 1 ∧ ¬ n + 1 = m ∧ ¬ n + 1 = m + 1 ∧ n + 1 + 1 < m ∧ n + 1 + 1 ≤ m ∧ n + 1 + 1 ≤ m + 1 ∧ ¬ n + 1 + 1 = m ∧ ¬ n + 1 + 1 = m + 1 ∧ n + 1 + 1 + 1 < m ∧ n + 1 + 1 + 1 ≤ m ∧ n + 1 + 1 + 1 ≤ m + 1 ∧ ¬ n + 1 + 1 + 1 = m ∧ ¬ n + 1 + 1 + 1 = m + 1 := by omega
theorem sz5 {n m : Nat} (h : n + 1 + 1 + 1 + 1 + 1 ≤ m) : n < m ∧ n ≤ m ∧ n ≤ m + 1 ∧ ¬ n = m ∧ ¬ n = m + 1 ∧ n + 1 < m ∧ n + 1 ≤ m ∧ n + 1 ≤ m + 1 ∧ ¬ n + 1 = m ∧ ¬ n + 1 = m + 1 ∧ n + 1 + 1 < m ∧ n + 1 + 1 ≤ m ∧ n + 1 + 1 ≤ m + 1 ∧ ¬ n + 1 + 1 = m ∧ ¬ n + 1 + 1 = m + 1 ∧ n + 1 + 1 + 1 < m ∧ n + 1 + 1 + 1 ≤ m ∧ n + 1 + 1 + 1 ≤ m + 1 ∧ ¬ n + 1 + 1 + 1 = m ∧ ¬ n + 1 + 1 + 1 = m + 1 ∧ n + 1 + 1 + 1 + 1 < m ∧ n + 1 + 1 + 1 + 1 ≤ m ∧ n + 1 + 1 + 1 + 1 ≤ m + 1 ∧ ¬ n + 1 + 1 + 1 + 1 = m ∧ ¬ n + 1 + 1 + 1 + 1 = m + 1 := by omega
theorem sz6 {n m : Nat} (h : n + 1 + 1 + 1 + 1 + 1 + 1 ≤ m) : n < m ∧ n ≤ m ∧ n ≤ m + 1 ∧ ¬ n = m ∧ ¬ n = m + 1 ∧ n + 1 < m ∧ n + 1 ≤ m ∧ n + 1 ≤ m + 1 ∧ ¬ n + 1 = m ∧ ¬ n + 1 = m + 1 ∧ n + 1 + 1 < m ∧ n + 1 + 1 ≤ m ∧ n + 1 + 1 ≤ m + 1 ∧ ¬ n + 1 + 1 = m ∧ ¬ n + 1 + 1 = m + 1 ∧ n + 1 + 1 + 1 < m ∧ n + 1 + 1 + 1 ≤ m ∧ n + 1 + 1 + 1 ≤ m + 1 ∧ ¬ n + 1 + 1 + 1 = m ∧ ¬ n + 1 + 1 + 1 = m + 1 ∧ n + 1 + 1 + 1 + 1 < m ∧ n + 1 + 1 + 1 + 1 ≤ m ∧ n + 1 + 1 + 1 + 1 ≤ m + 1 ∧ ¬ n + 1 + 1 + 1 + 1 = m ∧ ¬ n + 1 + 1 + 1 + 1 = m + 1 ∧ n + 1 + 1 + 1 + 1 + 1 < m ∧ n + 1 + 1 + 1 + 1 + 1 ≤ m ∧ n + 1 + 1 + 1 + 1 + 1 ≤ m + 1 ∧ ¬ n + 1 + 1 + 1 + 1 + 1 = m ∧ ¬ n + 1 + 1 + 1 + 1 + 1 = m + 1 := by omega
theorem sz7 {n m : Nat} (h : n + 1 + 1 + 1 + 1 + 1 + 1 + 1 ≤ m) : n < m ∧ n ≤ m ∧ n ≤ m + 1 ∧ ¬ n = m ∧ ¬ n = m + 1 ∧ n + 1 < m ∧ n + 1 ≤ m ∧ n + 1 ≤ m + 1 ∧ ¬ n + 1 = m ∧ ¬ n + 1 = m + 1 ∧ n + 1 + 1 < m ∧ n + 1 + 1 ≤ m ∧ n + 1 + 1 ≤ m + 1 ∧ ¬ n + 1 + 1 = m ∧ ¬ n + 1 + 1 = m + 1 ∧ n + 1 + 1 + 1 < m ∧ n + 1 + 1 + 1 ≤ m ∧ n + 1 + 1 + 1 ≤ m + 1 ∧ ¬ n + 1 + 1 + 1 = m ∧ ¬ n + 1 + 1 + 1 = m + 1 ∧ n + 1 + 1 + 1 + 1 < m ∧ n + 1 + 1 + 1 + 1 ≤ m ∧ n + 1 + 1 + 1 + 1 ≤ m + 1 ∧ ¬ n + 1 + 1 + 1 + 1 = m ∧ ¬ n + 1 + 1 + 1 + 1 = m + 1 ∧ n + 1 + 1 + 1 + 1 + 1 < m ∧ n + 1 + 1 + 1 + 1 + 1 ≤ m ∧ n + 1 + 1 + 1 + 1 + 1 ≤ m + 1 ∧ ¬ n + 1 + 1 + 1 + 1 + 1 = m ∧ ¬ n + 1 + 1 + 1 + 1 + 1 = m + 1 ∧ n + 1 + 1 + 1 + 1 + 1 + 1 < m ∧ n + 1 + 1 + 1 + 1 + 1 + 1 ≤ m ∧ n + 1 + 1 + 1 + 1 + 1 + 1 ≤ m + 1 ∧ ¬ n + 1 + 1 + 1 + 1 + 1 + 1 = m ∧ ¬ n + 1 + 1 + 1 + 1 + 1 + 1 = m + 1 := by omega
theorem sz8 {n m : Nat} (h : n + 1 + 1 + 1 + 1 + 1 + 1 + 1 + 1 ≤ m) : n < m ∧ n ≤ m ∧ n ≤ m + 1 ∧ ¬ n = m ∧ ¬ n = m + 1 ∧ n + 1 < m ∧ n + 1 ≤ m ∧ n + 1 ≤ m + 1 ∧ ¬ n + 1 = m ∧ ¬ n + 1 = m + 1 ∧ n + 1 + 1 < m ∧ n + 1 + 1 ≤ m ∧ n + 1 + 1 ≤ m + 1 ∧ ¬ n + 1 + 1 = m ∧ ¬ n + 1 + 1 = m + 1 ∧ n + 1 + 1 + 1 < m ∧ n + 1 + 1 + 1 ≤ m ∧ n + 1 + 1 + 1 ≤ m + 1 ∧ ¬ n + 1 + 1 + 1 = m ∧ ¬ n + 1 + 1 + 1 = m + 1 ∧ n + 1 + 1 + 1 + 1 < m ∧ n + 1 + 1 + 1 + 1 ≤ m ∧ n + 1 + 1 + 1 + 1 ≤ m + 1 ∧ ¬ n + 1 + 1 + 1 + 1 = m ∧ ¬ n + 1 + 1 + 1 + 1 = m + 1 ∧ n + 1 + 1 + 1 + 1 + 1 < m ∧ n + 1 + 1 + 1 + 1 + 1 ≤ m ∧ n + 1 + 1 + 1 + 1 + 1 ≤ m + 1 ∧ ¬ n + 1 + 1 + 1 + 1 + 1 = m ∧ ¬ n + 1 + 1 + 1 + 1 + 1 = m + 1 ∧ n + 1 + 1 + 1 + 1 + 1 + 1 < m ∧ n + 1 + 1 + 1 + 1 + 1 + 1 ≤ m ∧ n + 1 + 1 + 1 + 1 + 1 + 1 ≤ m + 1 ∧ ¬ n + 1 + 1 + 1 + 1 + 1 + 1 = m ∧ ¬ n + 1 + 1 + 1 + 1 + 1 + 1 = m + 1 ∧ n + 1 + 1 + 1 + 1 + 1 + 1 + 1 < m ∧ n + 1 + 1 + 1 + 1 + 1 + 1 + 1 ≤ m ∧ n + 1 + 1 + 1 + 1 + 1 + 1 + 1 ≤ m + 1 ∧ ¬ n + 1 + 1 + 1 + 1 + 1 + 1 + 1 = m ∧ ¬ n + 1 + 1 + 1 + 1 + 1 + 1 + 1 = m + 1 := by omega
theorem sz9 {n m : Nat} (h : n + 1 + 1 + 1 + 1 + 1 + 1 + 1 + 1 + 1 ≤ m) : n < m ∧ n ≤ m ∧ n ≤ m + 1 ∧ ¬ n = m ∧ ¬ n = m + 1 ∧ n + 1 < m ∧ n + 1 ≤ m ∧ n + 1 ≤ m + 1 ∧ ¬ n + 1 = m ∧ ¬ n + 1 = m + 1 ∧ n + 1 + 1 < m ∧ n + 1 + 1 ≤ m ∧ n + 1 + 1 ≤ m + 1 ∧ ¬ n + 1 + 1 = m ∧ ¬ n + 1 + 1 = m + 1 ∧ n + 1 + 1 + 1 < m ∧ n + 1 + 1 + 1 ≤ m ∧ n + 1 + 1 + 1 ≤ m + 1 ∧ ¬ n + 1 + 1 + 1 = m ∧ ¬ n + 1 + 1 + 1 = m + 1 ∧ n + 1 + 1 + 1 + 1 < m ∧ n + 1 + 1 + 1 + 1 ≤ m ∧ n + 1 + 1 + 1 + 1 ≤ m + 1 ∧ ¬ n + 1 + 1 + 1 + 1 = m ∧ ¬ n + 1 + 1 + 1 + 1 = m + 1 ∧ n + 1 + 1 + 1 + 1 + 1 < m ∧ n + 1 + 1 + 1 + 1 + 1 ≤ m ∧ n + 1 + 1 + 1 + 1 + 1 ≤ m + 1 ∧ ¬ n + 1 + 1 + 1 + 1 + 1 = m ∧ ¬ n + 1 + 1 + 1 + 1 + 1 = m + 1 ∧ n + 1 + 1 + 1 + 1 + 1 + 1 < m ∧ n + 1 + 1 + 1 + 1 + 1 + 1 ≤ m ∧ n + 1 + 1 + 1 + 1 + 1 + 1 ≤ m + 1 ∧ ¬ n + 1 + 1 + 1 + 1 + 1 + 1 = m ∧ ¬ n + 1 + 1 + 1 + 1 + 1 + 1 = m + 1 ∧ n + 1 + 1 + 1 + 1 + 1 + 1 + 1 < m ∧ n + 1 + 1 + 1 + 1 + 1 + 1 + 1 ≤ m ∧ n + 1 + 1 + 1 + 1 + 1 + 1 + 1 ≤ m + 1 ∧ ¬ n + 1 + 1 + 1 + 1 + 1 + 1 + 1 = m ∧ ¬ n + 1 + 1 + 1 + 1 + 1 + 1 + 1 = m + 1 ∧ n + 1 + 1 + 1 + 1 + 1 + 1 + 1 + 1 < m ∧ n + 1 + 1 + 1 + 1 + 1 + 1 + 1 + 1 ≤ m ∧ n + 1 + 1 + 1 + 1 + 1 + 1 + 1 + 1 ≤ m + 1 ∧ ¬ n + 1 + 1 + 1 + 1 + 1 + 1 + 1 + 1 = m ∧ ¬ n + 1 + 1 + 1 + 1 + 1 + 1 + 1 + 1 = m + 1 := by omega
theorem sz10 {n m : Nat} (h : n + 1 + 1 + 1 + 1 + 1 + 1 + 1 + 1 + 1 + 1 ≤ m) : n < m ∧ n ≤ m ∧ n ≤ m + 1 ∧ ¬ n = m ∧ ¬ n = m + 1 ∧ n + 1 < m ∧ n + 1 ≤ m ∧ n + 1 ≤ m + 1 ∧ ¬ n + 1 = m ∧ ¬ n + 1 = m + 1 ∧ n + 1 + 1 < m ∧ n + 1 + 1 ≤ m ∧ n + 1 + 1 ≤ m + 1 ∧ ¬ n + 1 + 1 = m ∧ ¬ n + 1 + 1 = m + 1 ∧ n + 1 + 1 + 1 < m ∧ n + 1 + 1 + 1 ≤ m ∧ n + 1 + 1 + 1 ≤ m + 1 ∧ ¬ n + 1 + 1 + 1 = m ∧ ¬ n + 1 + 1 + 1 = m + 1 ∧ n + 1 + 1 + 1 + 1 < m ∧ n + 1 + 1 + 1 + 1 ≤ m ∧ n + 1 + 1 + 1 + 1 ≤ m + 1 ∧ ¬ n + 1 + 1 + 1 + 1 = m ∧ ¬ n + 1 + 1 + 1 + 1 = m + 1 ∧ n + 1 + 1 + 1 + 1 + 1 < m ∧ n + 1 + 1 + 1 + 1 + 1 ≤ m ∧ n + 1 + 1 + 1 + 1 + 1 ≤ m + 1 ∧ ¬ n + 1 + 1 + 1 + 1 + 1 = m ∧ ¬ n + 1 + 1 + 1 + 1 + 1 = m + 1 ∧ n + 1 + 1 + 1 + 1 + 1 + 1 < m ∧ n + 1 + 1 + 1 + 1 + 1 + 1 ≤ m ∧ n + 1 + 1 + 1 + 1 + 1 + 1 ≤ m + 1 ∧ ¬ n + 1 + 1 + 1 + 1 + 1 + 1 = m ∧ ¬ n + 1 + 1 + 1 + 1 + 1 + 1 = m + 1 ∧ n + 1 + 1 + 1 + 1 + 1 + 1 + 1 < m ∧ n + 1 + 1 + 1 + 1 + 1 + 1 + 1 ≤ m ∧ n + 1 + 1 + 1 + 1 + 1 + 1 + 1 ≤ m + 1 ∧ ¬ n + 1 + 1 + 1 + 1 + 1 + 1 + 1 = m ∧ ¬ n + 1 + 1 + 1 + 1 + 1 + 1 + 1 = m + 1 ∧ n + 1 + 1 + 1 + 1 + 1 + 1 + 1 + 1 < m ∧ n + 1 + 1 + 1 + 1 + 1 + 1 + 1 + 1 ≤ m ∧ n + 1 + 1 + 1 + 1 + 1 + 1 + 1 + 1 ≤ m + 1 ∧ ¬ n + 1 + 1 + 1 + 1 + 1 + 1 + 1 + 1 = m ∧ ¬ n + 1 + 1 + 1 + 1 + 1 + 1 + 1 + 1 = m + 1 ∧ n + 1 + 1 + 1 + 1 + 1 + 1 + 1 + 1 + 1 < m ∧ n + 1 + 1 + 1 + 1 + 1 + 1 + 1 + 1 + 1 ≤ m ∧ n + 1 + 1 + 1 + 1 + 1 + 1 + 1 + 1 + 1 ≤ m + 1 ∧ ¬ n + 1 + 1 + 1 + 1 + 1 + 1 + 1 + 1 + 1 = m ∧ ¬ n + 1 + 1 + 1 + 1 + 1 + 1 + 1 + 1 + 1 = m + 1 := by omega
theorem sz11 {n m : Nat} (h : n + 1 + 1 + 1 + 1 + 1 + 1 + 1 + 1 + 1 + 1 + 1 ≤ m) : n < m ∧ n ≤ m ∧ n ≤ m + 1 ∧ ¬ n = m ∧ ¬ n = m + 1 ∧ n + 1 < m ∧ n + 1 ≤ m ∧ n + 1 ≤ m + 1 ∧ ¬ n + 1 = m ∧ ¬ n + 1 = m + 1 ∧ n + 1 + 1 < m ∧ n + 1 + 1 ≤ m ∧ n + 1 + 1 ≤ m + 1 ∧ ¬ n + 1 + 1 = m ∧ ¬ n + 1 + 1 = m + 1 ∧ n + 1 + 1 + 1 < m ∧ n + 1 + 1 + 1 ≤ m ∧ n + 1 + 1 + 1 ≤ m + 1 ∧ ¬ n + 1 + 1 + 1 = m ∧ ¬ n + 1 + 1 + 1 = m + 1 ∧ n + 1 + 1 + 1 + 1 < m ∧ n + 1 + 1 + 1 + 1 ≤ m ∧ n + 1 + 1 + 1 + 1 ≤ m + 1 ∧ ¬ n + 1 + 1 + 1 + 1 = m ∧ ¬ n + 1 + 1 + 1 + 1 = m + 1 ∧ n + 1 + 1 + 1 + 1 + 1 < m ∧ n + 1 + 1 + 1 + 1 + 1 ≤ m ∧ n + 1 + 1 + 1 + 1 + 1 ≤ m + 1 ∧ ¬ n + 1 + 1 + 1 + 1 + 1 = m ∧ ¬ n + 1 + 1 + 1 + 1 + 1 = m + 1 ∧ n + 1 + 1 + 1 + 1 + 1 + 1 < m ∧ n + 1 + 1 + 1 + 1 + 1 + 1 ≤ m ∧ n + 1 + 1 + 1 + 1 + 1 + 1 ≤ m + 1 ∧ ¬ n + 1 + 1 + 1 + 1 + 1 + 1 = m ∧ ¬ n + 1 + 1 + 1 + 1 + 1 + 1 = m + 1 ∧ n + 1 + 1 + 1 + 1 + 1 + 1 + 1 < m ∧ n + 1 + 1 + 1 + 1 + 1 + 1 + 1 ≤ m ∧ n + 1 + 1 + 1 + 1 + 1 + 1 + 1 ≤ m + 1 ∧ ¬ n + 1 + 1 + 1 + 1 + 1 + 1 + 1 = m ∧ ¬ n + 1 + 1 + 1 + 1 + 1 + 1 + 1 = m + 1 ∧ n + 1 + 1 + 1 + 1 + 1 + 1 + 1 + 1 < m ∧ n + 1 + 1 + 1 + 1 + 1 + 1 + 1 + 1 ≤ m ∧ n + 1 + 1 + 1 + 1 + 1 + 1 + 1 + 1 ≤ m + 1 ∧ ¬ n + 1 + 1 + 1 + 1 + 1 + 1 + 1 + 1 = m ∧ ¬ n + 1 + 1 + 1 + 1 + 1 + 1 + 1 + 1 = m + 1 ∧ n + 1 + 1 + 1 + 1 + 1 + 1 + 1 + 1 + 1 < m ∧ n + 1 + 1 + 1 + 1 + 1 + 1 + 1 + 1 + 1 ≤ m ∧ n + 1 + 1 + 1 + 1 + 1 + 1 + 1 + 1 + 1 ≤ m + 1 ∧ ¬ n + 1 + 1 + 1 + 1 + 1 + 1 + 1 + 1 + 1 = m ∧ ¬ n + 1 + 1 + 1 + 1 + 1 + 1 + 1 + 1 + 1 = m + 1 ∧ n + 1 + 1 + 1 + 1 + 1 + 1 + 1 + 1 + 1 + 1 < m ∧ n + 1 + 1 + 1 + 1 + 1 + 1 + 1 + 1 + 1 + 1 ≤ m ∧ n + 1 + 1 + 1 + 1 + 1 + 1 + 1 + 1 + 1 + 1 ≤ m + 1 ∧ ¬ n + 1 + 1 + 1 + 1 + 1 + 1 + 1 + 1 + 1 + 1 = m ∧ ¬ n + 1 + 1 + 1 + 1 + 1 + 1 + 1 + 1 + 1 + 1 = m + 1 := by omega
theorem sz12 {n m : Nat} (h : n + 1 + 1 + 1 + 1 + 1 + 1 + 1 + 1 + 1 + 1 + 1 + 1 ≤ m) : n < m ∧ n ≤ m ∧ n ≤ m + 1 ∧ ¬ n = m ∧ ¬ n = m + 1 ∧ n + 1 < m ∧ n + 1 ≤ m ∧ n + 1 ≤ m + 1 ∧ ¬ n + 1 = m ∧ ¬ n + 1 = m + 1 ∧ n + 1 + 1 < m ∧ n + 1 + 1 ≤ m ∧ n + 1 + 1 ≤ m + 1 ∧ ¬ n + 1 + 1 = m ∧ ¬ n + 1 + 1 = m + 1 ∧ n + 1 + 1 + 1 < m ∧ n + 1 + 1 + 1 ≤ m ∧ n + 1 + 1 + 1 ≤ m + 1 ∧ ¬ n + 1 + 1 + 1 = m ∧ ¬ n + 1 + 1 + 1 = m + 1 ∧ n + 1 + 1 + 1 + 1 < m ∧ n + 1 + 1 + 1 + 1 ≤ m ∧ n + 1 + 1 + 1 + 1 ≤ m + 1 ∧ ¬ n + 1 + 1 + 1 + 1 = m ∧ ¬ n + 1 + 1 + 1 + 1 = m + 1 ∧ n + 1 + 1 + 1 + 1 + 1 < m ∧ n + 1 + 1 + 1 + 1 + 1 ≤ m ∧ n + 1 + 1 + 1 + 1 + 1 ≤ m + 1 ∧ ¬ n + 1 + 1 + 1 + 1 + 1 = m ∧ ¬ n + 1 + 1 + 1 + 1 + 1 = m + 1 ∧ n + 1 + 1 + 1 + 1 + 1 + 1 < m ∧ n + 1 + 1 + 1 + 1 + 1 + 1 ≤ m ∧ n + 1 + 1 + 1 + 1 + 1 + 1 ≤ m + 1 ∧ ¬ n + 1 + 1 + 1 + 1 + 1 + 1 = m ∧ ¬ n + 1 + 1 + 1 + 1 + 1 + 1 = m + 1 ∧ n + 1 + 1 + 1 + 1 + 1 + 1 + 1 < m ∧ n + 1 + 1 + 1 + 1 + 1 + 1 + 1 ≤ m ∧ n + 1 + 1 + 1 + 1 + 1 + 1 + 1 ≤ m + 1 ∧ ¬ n + 1 + 1 + 1 + 1 + 1 + 1 + 1 = m ∧ ¬ n + 1 + 1 + 1 + 1 + 1 + 1 + 1 = m + 1 ∧ n + 1 + 1 + 1 + 1 + 1 + 1 + 1 + 1 < m ∧ n + 1 + 1 + 1 + 1 + 1 + 1 + 1 + 1 ≤ m ∧ n + 1 + 1 + 1 + 1 + 1 + 1 + 1 + 1 ≤ m + 1 ∧ ¬ n + 1 + 1 + 1 + 1 + 1 + 1 + 1 + 1 = m ∧ ¬ n + 1 + 1 + 1 + 1 + 1 + 1 + 1 + 1 = m + 1 ∧ n + 1 + 1 + 1 + 1 + 1 + 1 + 1 + 1 + 1 < m ∧ n + 1 + 1 + 1 + 1 + 1 + 1 + 1 + 1 + 1 ≤ m ∧ n + 1 + 1 + 1 + 1 + 1 + 1 + 1 + 1 + 1 ≤ m + 1 ∧ ¬ n + 1 + 1 + 1 + 1 + 1 + 1 + 1 + 1 + 1 = m ∧ ¬ n + 1 + 1 + 1 + 1 + 1 + 1 + 1 + 1 + 1 = m + 1 ∧ n + 1 + 1 + 1 + 1 + 1 + 1 + 1 + 1 + 1 + 1 < m ∧ n + 1 + 1 + 1 + 1 + 1 + 1 + 1 + 1 + 1 + 1 ≤ m ∧ n + 1 + 1 + 1 + 1 + 1 + 1 + 1 + 1 + 1 + 1 ≤ m + 1 ∧ ¬ n + 1 + 1 + 1 + 1 + 1 + 1 + 1 + 1 + 1 + 1 = m ∧ ¬ n + 1 + 1 + 1 + 1 + 1 + 1 + 1 + 1 + 1 + 1 = m + 1 ∧ n + 1 + 1 + 1 + 1 + 1 + 1 + 1 + 1 + 1 + 1 + 1 < m ∧ n + 1 + 1 + 1 + 1 + 1 + 1 + 1 + 1 + 1 + 1 + 1 ≤ m ∧ n + 1 + 1 + 1 + 1 + 1 + 1 + 1 + 1 + 1 + 1 + 1 ≤ m + 1 ∧ ¬ n + 1 + 1 + 1 + 1 + 1 + 1 + 1 + 1 + 1 + 1 + 1 = m ∧ ¬ n + 1 + 1 + 1 + 1 + 1 + 1 + 1 + 1 + 1 + 1 + 1 = m + 1 := by omega
theorem kept_below {B : Nat} {w W w1 : World} (h : Below B w W) (k : Below W.heap.size W w1) (hB : B ≤ W.heap.size) : Below B w w1 := h.trans (k.mono hB)

/-- A region of quiet operations alone. -/
theorem wp_region_kept {P : Program} {id : Nat} {Q : Exit → Act → World → Prop} {a : Act} {w : World} {l : List Oper} (hm : P.follows .mixedOrders = true) (hB : Region.lexB .any l.toArray = true)
    (h : wpQuiet P l.toArray (Kept w) (fun a' => ∀ w', Kept w w' → Q .normal a' w') l a) : (Code.region id l.toArray true).wp P Q a w :=
  wp_region_quiet (C := Kept w) hm hB (Below.refl _ _).drew (by simpa using h)

/-- .. and the others behind the first n. -/
theorem wp_region_kept_tail {P : Program} {id : Nat} {Q : Exit → Act → World → Prop} {a : Act} {w : World} {l : List Oper} (n : Nat) (hm : P.follows .mixedOrders = true) (hB : Region.lexTailB .any l.toArray n = true)
    (h : wpQuiet P l.toArray (Kept w) (fun a' => ∀ w', Kept w w' → wpList P l.toArray Q (l.drop n) a' w') (l.take n) a) : (Code.region id l.toArray true).wp P Q a w :=
  wp_region_quiet_tail (C := Kept w) n hm hB (Below.refl _ _).drew h

/-- One operation that comes up, its value named. -/
theorem kept_step {P : Program} {ops : Array Oper} {C : World → Prop} {Q : Act → Prop} {a : Act} {o : Oper} {rest : List Oper} (hw : Region.wanted o (yielded ops a.tmps) = true)
    (h : ∃ v, (∀ w, C w → o.quietAt P a C w v) ∧ ∀ K : Act → Prop, (∀ a', wpQuiet P ops C Q rest a' → K a') → K (a.put o.dst v)) : wpQuiet P ops C Q (o :: rest) a := by
  unfold wpQuiet
  rw [if_pos hw]
  obtain ⟨v, hv, h⟩ := h
  exact ⟨v, hv, h _ (fun _ h => h)⟩

/-- One that does not (its guard says no). -/
theorem kept_skip {P : Program} {ops : Array Oper} {C : World → Prop} {Q : Act → Prop} {a : Act} {o : Oper} {rest : List Oper} (hw : Region.wanted o (yielded ops a.tmps) = false)
    (h : ∀ K : Act → Prop, (∀ a', wpQuiet P ops C Q rest a' → K a') → K (a.put o.dst undef)) : wpQuiet P ops C Q (o :: rest) a := by
  unfold wpQuiet
  rw [if_neg (by rw [hw]; simp)]
  exact h _ (fun _ h => h)

/-- A callee's contract in a world of the class. -/
theorem kept_call {P : Program} {f : FuncId} {args : Array Value} {w w1 : World} {v : Value} (hk : Kept w w1)
    (h : Calls P f args w1 fun e w' => e = .returned v ∧ Below w1.heap.size w1 w') : Calls P f args w1 fun e w'' => e = .returned v ∧ Kept w w'' :=
  h.mono fun _ _ ⟨he, hb⟩ => ⟨he, hk.trans (hb.mono hk.size)⟩

theorem kept_call_same {P : Program} {f : FuncId} {args : Array Value} {w w1 : World} {v : Value} (hk : Kept w w1)
    (h : Calls P f args w1 fun e w' => e = .returned v ∧ w' = w1) : Calls P f args w1 fun e w'' => e = .returned v ∧ Kept w w'' :=
  h.mono fun _ _ ⟨he, hb⟩ => ⟨he, by rw [hb]; exact hk⟩
end Go.Proofs.Ytmmjannkfmiohaa
