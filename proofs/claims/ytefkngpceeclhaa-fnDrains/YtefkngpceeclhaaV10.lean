/- Bodies marked: the mathematics, and one body. Regions whose order is open, with a call that makes memory and answers what hangs on where it lies, and beside it a local's box that may come ahead of the call or behind it: two ways. No conditions on the program. -/
import Derived.Test.YtefkngpceeclhaaV9
import Derived.Test.YtefkngpceeclhaaV2
namespace Go.Proofs.Ytefkngpceeclhaa
open Go.RowKit
set_option linter.unusedVariables false

/-- How many bytes bodies have. -/
def tot : List (List Int) → Nat
  | [] => 0
  | b :: bs => b.length + tot bs
theorem tot_app (A B : List (List Int)) : tot (A ++ B) = tot A + tot B := by
  induction A with
  | nil => simp [tot]
  | cons b A ih => simp [tot, ih]; omega
theorem tot_one (b : List Int) : tot [b] = b.length := by simp [tot]
theorem tot_mem {b : List Int} {A : List (List Int)} (h : b ∈ A) : b.length ≤ tot A := by
  induction A with
  | nil => simp at h
  | cons c A ih =>
    rcases List.mem_cons.1 h with rfl | h
    · simp [tot]
    · have := ih h; simp [tot]; omega
def totB (bs : List Bd) : Nat := tot (bs.map Bd.L)
theorem totB_app (A B : List Bd) : totB (A ++ B) = totB A + totB B := by simp [totB, tot_app]
theorem totB_one (b : Bd) : totB [b] = b.L.length := by simp [totB, tot_one]
theorem totB_mem {b : Bd} {bs : List Bd} (h : b ∈ bs) : b.L.length ≤ totB bs := tot_mem (List.mem_map_of_mem h)

/-- A body marked from k on; bodies marked. -/
def mark1 (k : Int) (b : Bd) : Bd := ⟨b.ao, b.cap, b.g, rowOf (mkB k) b.L.length⟩
theorem mark1_len (k : Int) (b : Bd) : (mark1 k b).L.length = b.L.length := rowOf_len _ _
theorem mark1_val (k : Int) (b : Bd) : (mark1 k b).val = b.val := by simp [Bd.val, mark1, rowOf_len]
def mkAll : Int → List Bd → List Bd
  | _, [] => []
  | k, b :: bs => mark1 k b :: mkAll (k + b.L.length) bs
theorem mkAll_app (k : Int) (A B : List Bd) : mkAll k (A ++ B) = mkAll k A ++ mkAll (k + totB A) B := by
  induction A generalizing k with
  | nil => simp [mkAll, totB, tot]
  | cons b A ih => simp only [List.cons_append, mkAll, ih]; simp [totB, tot]; congr 1; omega
theorem mkAll_one (k : Int) (b : Bd) : mkAll k [b] = [mark1 k b] := rfl

theorem Bd.row {w : World} {b : Bd} (h : b.on w) : ∃ lo hi, Row .u8 w lo hi b.ao b.L ∧ hi ≤ w.heap.size := by
  by_cases e : b.L = []
  · exact ⟨0, 0, .inl e, Nat.zero_le _⟩
  · exact ⟨_, _, h.1.row, Bd.lt h e⟩

theorem Bods.mark {w w' : World} {lo hi : Nat} {X Y : List Bd} {b : Bd} {L' : List Int} (h : Bods w lo hi (X ++ b :: Y)) (hn : b.L ≠ []) (f : Far b.g (b.g + 1) w w') (hw : Wrt .u8 w' b.g (b.g + 1) b.ao L') : Bods w' lo hi (X ++ ⟨b.ao, b.cap, b.g, L'⟩ :: Y) := by
  have hb := h.each b (by simp)
  have hap := h.apart
  rw [List.pairwise_append, List.pairwise_cons] at hap
  obtain ⟨a1, ⟨a2, a3⟩, a4⟩ := hap
  have other : ∀ c, c ∈ X ++ b :: Y → (c.L ≠ [] → c.g ≠ b.g) → c.on w' := fun c m hc =>
    Bd.on_far (h.each c m) f (fun e => by have := hc e; have := Bd.lt (h.each c m) e; omega)
  have hX : ∀ c ∈ X, c.L ≠ [] → c.g ≠ b.g := fun c m e => a4 c m b (by simp) e hn
  have hY : ∀ c ∈ Y, c.L ≠ [] → c.g ≠ b.g := fun c m e => (a2 c m hn e).symm
  refine ⟨fun c m => ?_, fun c m e => ?_, ?_⟩
  · rcases List.mem_append.1 m with m | m
    · exact other c (by simp [m]) (hX c m)
    · rcases List.mem_cons.1 m with rfl | m
      · exact ⟨hw, fun _ => hb.2 hn⟩
      · exact other c (by simp [m]) (hY c m)
  · rcases List.mem_append.1 m with m | m
    · exact h.inn c (by simp [m]) e
    · rcases List.mem_cons.1 m with rfl | m
      · exact h.inn b (by simp) hn
      · exact h.inn c (by simp [m]) e
  · rw [List.pairwise_append, List.pairwise_cons]
    refine ⟨a1, ⟨fun c m _ e => a2 c m hn e, a3⟩, fun c m d m' e1 e2 => ?_⟩
    rcases List.mem_cons.1 m' with rfl | m'
    · exact hX c m e1
    · exact a4 c m d (by simp [m']) e1 e2
theorem Spn.far1 {w w' : World} {lo hi : Nat} {so : Option Addr} {bs : List Bd} {b : Bd} (h : Spn w lo hi so bs) (hb : b.on w) (hn : b.L ≠ []) (f : Far b.g (b.g + 1) w w') (hs : hi ≤ w.heap.size) : Spn w' lo hi so bs := by
  rcases h with h | ⟨gs, ha, h1, h2, hc⟩
  · exact .inl h
  · by_cases e : bs = []
    · exact .inl e
    · have hne : gs ≠ b.g := fun e' => by
        have h0 := hc 0 (List.length_pos_iff.2 e)
        obtain ⟨x, hx⟩ := b.cell0 hb hn
        rw [e', hx] at h0
        simp [Bd.val] at h0
      exact .inr ⟨gs, ha, h1, h2, fun i hi => (f.cell gs _ (by omega) (by omega)).trans (hc i hi)⟩

theorem mark_one (lo hi : Nat) (X Y : List Bd) (b : Bd) (k : Int) (w : World) (h : Bods w lo hi (X ++ b :: Y)) (hh : hi ≤ w.heap.size) (hl : b.L.length ≤ 1048576) (k0 : 0 ≤ k) (k1 : k ≤ 4194304) :
    Calls Try.prog 70 #[.slice b.ao b.L.length b.cap, .int .i64 k] w fun e w' => e = .returned (.int .i64 (k + b.L.length)) ∧ Far lo hi w w' ∧ Bods w' lo hi (X ++ mark1 k b :: Y) ∧ ∀ so bs, Spn w lo hi so bs → Spn w' lo hi so bs := by
  have hb := h.each b (by simp)
  by_cases e : b.L = []
  · refine (markB_any 0 0 b.ao b.cap k b.L w (.inl e) (Nat.zero_le _) hl k0 k1).mono fun en w' ⟨he, f, _⟩ => ⟨he, ⟨f.os, f.tape, f.output, f.size, fun q hq _ => f.block q hq (by omega)⟩, ?_, fun so bs s => s.far f (.inr (Nat.zero_le _)) hh⟩
    have hm : mark1 k b = b := by
      cases b with
      | mk ao cap g L =>
        simp only at e
        subst e
        rfl
    rw [hm]
    exact h.far f (.inr (Nat.zero_le _))
  · have hi1 := h.inn b (by simp) e
    refine (markB_any b.g (b.g + 1) b.ao b.cap k b.L w hb.1 (Bd.lt hb e) hl k0 k1).mono fun en w' ⟨he, f, wr⟩ => ⟨he, f.wide hi1.1 hi1.2, h.mark e f wr, fun so bs s => s.far1 hb e f hh⟩

theorem held_one_body (k : Int) (b : Bd) (w : World) (h : (mark1 k b).on w) (hl : b.L.length ≤ 1048576) (k0 : 0 ≤ k) (k1 : k ≤ 4194304) :
    Calls Try.prog 82 #[.slice b.ao b.L.length b.cap, .int .i64 k] w fun e w' => e = .returned (.int .i64 (k + b.L.length)) ∧ w' = w := by
  obtain ⟨lo, hi, hR, _⟩ := Bd.row h
  exact heldB_any lo hi b.ao b.cap b.L.length k w hR hl k0 k1

end Go.Proofs.Ytefkngpceeclhaa

namespace Go.Proofs.Ytefkngpceeclhaa
open Go.RowKit

section
variable {P : Program} {md : Region.Mode}

/-- n operations in the text's order, then G. -/
def lexTo (md : Region.Mode) (ops : Array Oper) (G : Nat → Array Bool → Bool) : Nat → Nat → Array Bool → Bool
  | 0, k, s => G k s
  | f + 1, k, s => (Region.ready md ops s).contains k && Region.free md ops s k && lexTo md ops G f (k + 1) (s.setIfInBounds k true)

/-- Are two operations apart, both ways? -/
def apartB (ops : Array Oper) (i j : Nat) : Bool :=
  match ops[i]?, ops[j]? with
  | some a, some b => a.apart ops b && b.apart ops a
  | _, _ => false

def calledG (md : Region.Mode) (ops : Array Oper) (g : Nat) (k : Nat) (s : Array Bool) : Bool :=
  decide (Region.ready md ops s = [k, k + 1]) && decide (Region.ready md ops (s.setIfInBounds k true) = [k + 1]) && decide (Region.ready md ops (s.setIfInBounds (k + 1) true) = [k]) &&
  Region.seqB md ops g (k + 2) ((s.setIfInBounds k true).setIfInBounds (k + 1) true)

/-- Closed facts of a region: n operations in the text's order, a call, a local's box that may come at any time, the rest. -/
def calledB (md : Region.Mode) (ops : Array Oper) (n : Nat) : Bool :=
  Region.noSelect ops && waitsB md ops (n + 2) && decide (n + 2 ≤ ops.size) && apartB ops n (n + 1) && lexTo md ops (calledG md ops (ops.size - (n + 2))) n 0 (Array.replicate ops.size false)

/-- What is known behind the call and the box: the call was made in w1 and left w2; the box lies in block B. -/
def Called (w : World) (o : Obj) (Φ : World → Value → World → Prop) (v : Value) (B : Nat) (w3 : World) : Prop :=
  ∃ w1 w2, Kept w w1 ∧ Kept w1 w2 ∧ Φ w1 v w2 ∧ Kept w2 w3 ∧ w.heap.size ≤ B ∧ B < w3.heap.size ∧ w3.heap[B]? = some o ∧ (B < w1.heap.size ∨ w2.heap.size ≤ B)

theorem kept_alloc (w : World) (o : Obj) : Kept w (w.alloc o) := (Below.refl _ _).alloc (Nat.le_refl _) _
theorem Kept.le {w w' : World} (h : Kept w w') : w.heap.size ≤ w'.heap.size := Below.size h
theorem Kept.blk {w w' : World} (h : Kept w w') {b : Nat} (hb : b < w.heap.size) : w'.heap[b]? = w.heap[b]? := Below.block h b hb

theorem called_late {w w1 w2 w2' w3 : World} {o : Obj} {Φ : World → Value → World → Prop} {v : Value} (h1 : Kept w w1) (h2 : Kept w1 w2) (hp : Φ w1 v w2) (h3 : Kept w2 w2') (h4 : Kept (w2'.alloc o) w3) : Called w o Φ v w2'.heap.size w3 := by
  refine ⟨w1, w2, h1, h2, hp, (h3.trans (kept_alloc _ _)).trans h4, ?_, ?_, ?_, .inr h3.le⟩
  · exact Nat.le_trans ((h1.trans h2).trans h3).le (Nat.le_refl _)
  · have := h4.le; simp at this; omega
  · rw [h4.blk (by simp)]; exact heap_alloc_new w2' _
theorem called_soon {w w0 w1 w2 w3 : World} {o : Obj} {Φ : World → Value → World → Prop} {v : Value} (h0 : Kept w w0) (h1 : Kept (w0.alloc o) w1) (h2 : Kept w1 w2) (hp : Φ w1 v w2) (h3 : Kept w2 w3) : Called w o Φ v w0.heap.size w3 := by
  have e1 := h1.le
  simp at e1
  refine ⟨w1, w2, (h0.trans (kept_alloc _ _)).trans h1, h2, hp, h3, h0.le, ?_, ?_, .inl (by omega)⟩
  · have := (h2.trans h3).le; omega
  · rw [((h1.trans h2).trans h3).blk (by simp)]; exact heap_alloc_new w0 _

theorem wp_region_called {id : Nat} {Q : Exit → Act → World → Prop} {a : Act} {w : World} {l : List Oper} (n : Nat) {c m : Oper} (hc : l[n]? = some c) (hmm : l[n + 1]? = some m) (Φ : World → Value → World → Prop) (o : Obj)
    (hm : P.follows .mixedOrders = true) (hB : calledB .any l.toArray n = true)
    (h : wpGrow P l.toArray w (fun a' => Region.wanted c (yielded l.toArray a'.tmps) = true ∧ Region.wanted m (yielded l.toArray a'.tmps) = true ∧ (∀ w1, Kept w w1 → madeAt P c a' w1 fun w2 v => Φ w1 v w2) ∧
      (∀ w1, (execOp a'.eval m).run P w1 = .ok (.value (.pointer (some ⟨w1.heap.size, 0, none⟩))) (w1.alloc o)) ∧
      ∀ v B w3, Called w o Φ v B w3 → wpList P l.toArray Q (l.drop (n + 2)) ((a'.put c.dst v).put m.dst (.pointer (some ⟨B, 0, none⟩))) w3) (l.take n) a) : (Code.region id l.toArray true).wp P Q a w := by
  simp only [calledB, Bool.and_eq_true, decide_eq_true_eq] at hB
  obtain ⟨⟨⟨⟨hsel, hw⟩, hn⟩, hap⟩, hlex⟩ := hB
  have hn' : n + 2 ≤ l.length := by simpa using hn
  have e1 : (l.take n).length = n := by simp; omega
  have e2 : (l.drop (n + 2)).length = l.toArray.size - (n + 2) := by simp
  have hc' : l.toArray[n]? = some c := by simpa using hc
  have hm' : l.toArray[n + 1]? = some m := by simpa using hmm
  simp only [apartB, hc', hm', Bool.and_eq_true] at hap
  obtain ⟨p1, p2, p3⟩ := Oper.apart_spec hap.1
  have hsc := fun cs b => Region.noSelect_spec hsel n c cs b hc'
  have hsm := fun cs b => Region.noSelect_spec hsel (n + 1) m cs b hm'
  have inv : HeadInv .any l.toArray (n + 2) (Array.replicate l.toArray.size false) :=
    ⟨by simp, fun j oj _ hl => (by rw [getD_replicate_false] at hl; cases hl), fun t _ ht => getD_in (by simpa using ht) (getD_replicate_false _ _)⟩
  let Z : World → Array Bool → Act → Prop := fun W s a => Region.seqB .any l.toArray (l.toArray.size - (n + 2)) (n + 2) s = true ∧ ∀ w3, Kept W w3 → wpList P l.toArray Q (l.drop (n + 2)) a w3
  have H := opens_lex (P := P) (md := .any) (ops := l.toArray) (N := n + 2) (n := n) (m := 2) (Z := Z) (W := w) (G := calledG .any l.toArray (l.toArray.size - (n + 2)))
    (L := lexTo .any l.toArray (calledG .any l.toArray (l.toArray.size - (n + 2)))) hsel hw (by omega) (fun W s a hz => seqB_ready hz.1) (fun s a' _ hG hE => by
      simp only [calledG, Bool.and_eq_true, decide_eq_true_eq] at hG
      obtain ⟨⟨⟨g1, g2⟩, g3⟩, g4⟩ := hG
      obtain ⟨wc, wm, hcall, hbox, hend⟩ := hE
      have g4' : Region.seqB .any l.toArray (l.toArray.size - (n + 2)) (n + 2) ((s.setIfInBounds (n + 1) true).setIfInBounds n true) = true := by
        rw [Array.setIfInBounds_comm _ _ (by omega)]; exact g4
      refine ⟨by rw [g1]; simp, fun i hi => ?_⟩
      rw [g1] at hi
      simp only [List.mem_cons, List.not_mem_nil, or_false] at hi
      rcases hi with rfl | rfl
      · refine ⟨by omega, fun oi hoi => ?_⟩
        obtain rfl : oi = c := Option.some.inj (hoi.symm.trans hc')
        refine .inr ⟨wc, fun w1 k1 => madeUpon_mono (fun w2 v hb hp => ?_) (hcall w1 k1)⟩
        refine ⟨by rw [g2]; simp, fun i2 hi2 => ?_⟩
        rw [g2] at hi2
        obtain rfl : i2 = i + 1 := by simpa using hi2
        refine ⟨by omega, fun oj hoj => ?_⟩
        obtain rfl : oj = m := Option.some.inj (hoj.symm.trans hm')
        refine .inr ⟨by rw [wanted_put oj a' oi.dst v p1]; exact wm, fun w2' k2 => ?_⟩
        unfold madeAt
        rw [execOp_put oj hsm a' oi.dst v p1, hbox w2']
        exact ⟨kept_alloc _ _, g4, fun w3 k3 => hend v _ w3 (called_late k1 hb hp k2 k3)⟩
      · refine ⟨by omega, fun oj hoj => ?_⟩
        obtain rfl : oj = m := Option.some.inj (hoj.symm.trans hm')
        refine .inr ⟨wm, fun w0 k0 => ?_⟩
        unfold madeAt
        rw [hbox w0]
        refine ⟨kept_alloc _ _, by rw [g3]; simp, fun i2 hi2 => ?_⟩
        rw [g3] at hi2
        obtain rfl : i2 = n := by simpa using hi2
        refine ⟨by omega, fun oi hoi => ?_⟩
        obtain rfl : oi = c := Option.some.inj (hoi.symm.trans hc')
        refine .inr ⟨by rw [wanted_put oi a' oj.dst _ p3]; exact wc, fun w1 k1 => ?_⟩
        have hcl := hcall w1 ((k0.trans (kept_alloc _ _)).trans k1)
        unfold madeAt at hcl ⊢
        rw [execOp_put oi hsc a' oj.dst _ p3]
        refine madeUpon_mono (fun w2 v hb hp => ?_) hcl
        refine ⟨g4', fun w3 k3 => ?_⟩
        have hd := hend v _ w3 (called_soon k0 k1 hb hp k3)
        rwa [Act.put_comm a' v _ p2] at hd) (fun k s => rfl) (fun f k s => rfl) (l.take n) 0 _ a (fun j hj => by
      rw [e1] at hj
      simp [hj]) (by simpa using e1) inv (by rw [e1]; exact hlex) h
  refine wp_region_any hm ?_
  have A := opens_any (Q := Q) (g := l.toArray.size - (n + 2)) (fun W s a' w' hk hz => by
    have B := wpAny_of_seq (md := .any) (Q' := Q) (l.drop (n + 2)) (n + 2) s a' w' (fun j => by simp [List.getElem?_drop]) (by rw [e2]; exact hz.1) (hz.2 w' hk)
    rwa [e2] at B) _ _ _ _ _ (show Kept w w.drew from (Below.refl _ _).drew) H
  have e4 : n + 2 + (l.toArray.size - (n + 2)) = l.toArray.size := by omega
  rw [e1, e4] at A
  exact A
end
end Go.Proofs.Ytefkngpceeclhaa
