/- Regions whose order is open, in which operations also make memory (a local's box, a callee's new lists): whatever order comes, all older memory stays. No conditions on the program. Regions in the text's order, long ones: what was made is told once, at their end; tests that are left open ('&&', '||') are carried along, not parted. Guarded operations in a region whose order is open: the guard's value is found first, then the operation comes up or not. The rest of the region is wrapped, so that no tactic looks into it. -/
import Derived.Test.YtmmjannkfmiohaaTs0
import Derived.Tactics
namespace Go.Proofs.Ytmmjannkfmiohaa
open Go.RowKit

section
variable {P : Program} {ops : Array Oper} {md : Region.Mode}

/-- Carried out in w it yields v, and at most makes new memory in a callee. -/
def growUpon (P : Program) (w : World) (v : Value) : Result Next → Prop
  | .ok (.value u) w' => w' = w ∧ u = v
  | .ok .skip w' => w' = w ∧ v = undef
  | .ok (.enter f args) w' => w' = w ∧ Calls P f args w (fun e w'' => e = .returned v ∧ Below w.heap.size w w'')
  | _ => False

/-- Carried out in w it makes new memory alone; K is asked of what it yields. -/
def madeUpon (P : Program) (w : World) (K : World → Value → Prop) : Result Next → Prop
  | .ok (.value u) w' => Below w.heap.size w w' ∧ K w' u
  | .ok (.enter f args) w' => w' = w ∧ Calls P f args w (fun e w'' => ∃ v, e = .returned v ∧ Below w.heap.size w w'' ∧ K w'' v)
  | _ => False

def growAt (P : Program) (o : Oper) (a : Act) (w : World) (v : Value) : Prop := growUpon P w v ((execOp a.eval o).run P w)
def madeAt (P : Program) (o : Oper) (a : Act) (w : World) (K : World → Value → Prop) : Prop := madeUpon P w K ((execOp a.eval o).run P w)

theorem madeUpon_mono {w : World} {K K' : World → Value → Prop} (h : ∀ w' v, Below w.heap.size w w' → K w' v → K' w' v) {r : Result Next} (hr : madeUpon P w K r) : madeUpon P w K' r := by
  cases r with
  | ok x w' =>
    cases x <;> simp only [madeUpon] at hr ⊢
    case value u => exact ⟨hr.1, h _ _ hr.1 hr.2⟩
    case enter f args => exact ⟨hr.1, hr.2.mono fun e w'' ⟨v, he, hb, hk⟩ => ⟨v, he, hb, h _ _ hb hk⟩⟩
  | halt x w' => simp only [madeUpon] at hr

/-- In state a, in every world that has kept W's memory, o leaves v in its slot. -/
def Grows (P : Program) (ops : Array Oper) (W : World) (o : Oper) (v : Value) (a : Act) : Prop :=
  (Region.wanted o (yielded ops a.tmps) = true ∧ ∀ w, Kept W w → growAt P o a w v) ∨ (Region.wanted o (yielded ops a.tmps) = false ∧ v = undef)

theorem Kept.trans {W w w' : World} (h : Kept W w) (k : Kept w w') : Kept W w' := Below.trans h (Below.mono k (Below.size h))
theorem Kept.refl (W : World) : Kept W W := Below.refl _ _

theorem Grows.later {W W' : World} (h : Kept W W') {o : Oper} {v : Value} {a : Act} (g : Grows P ops W o v a) : Grows P ops W' o v a := by
  rcases g with ⟨hw, hg⟩ | hn
  · exact .inl ⟨hw, fun w hk => hg w (h.trans hk)⟩
  · exact .inr hn

theorem Grows.same {W : World} {o : Oper} {v : Value} {a a' : Act} (he : execOp a'.eval o = execOp a.eval o)
    (hw : Region.wanted o (yielded ops a'.tmps) = Region.wanted o (yielded ops a.tmps)) (g : Grows P ops W o v a) : Grows P ops W o v a' := by
  unfold Grows growAt at *
  rw [he, hw]
  exact g

/-- The first N operations come up in whatever order (f are left): each either yields one value whatever has been made, or makes memory; then Z. -/
def opens (P : Program) (md : Region.Mode) (ops : Array Oper) (N : Nat) (Z : World → Array Bool → Act → Prop) : Nat → World → Array Bool → Act → Prop
  | 0, W, s, a => Z W s a
  | f + 1, W, s, a => Region.ready md ops s ≠ [] ∧ ∀ i ∈ Region.ready md ops s, i < N ∧ ∀ o, ops[i]? = some o →
      (∃ v, Grows P ops W o v a ∧ opens P md ops N Z f W (s.setIfInBounds i true) (a.put o.dst v)) ∨
      (Region.wanted o (yielded ops a.tmps) = true ∧ ∀ w, Kept W w → madeAt P o a w fun w' v => opens P md ops N Z f w' (s.setIfInBounds i true) (a.put o.dst v))

theorem wp_of_grow {o : Oper} {v : Value} {a : Act} {w : World} {K : Act → World → Prop} {Q : Exit → Act → World → Prop} (h : growAt P o a w v) (hk : ∀ w', Below w.heap.size w w' → K (a.put o.dst v) w') : o.wp P a w K Q := by
  unfold growAt at h
  unfold Oper.wp
  generalize (execOp a.eval o).run P w = r at *
  cases r with
  | ok x w' =>
    cases x <;> simp only [growUpon] at h <;> simp only [Oper.upon]
    case value u => rw [h.1, h.2]; exact hk _ (Below.refl _ _)
    case skip => rw [h.1, ← h.2]; exact hk _ (Below.refl _ _)
    case enter f args =>
      rw [h.1]
      exact h.2.mono fun e w'' ⟨he, hb⟩ => by rw [he]; exact hk _ hb
  | halt x w' => simp only [growUpon] at h

theorem wp_of_made {o : Oper} {a : Act} {w : World} {K : Act → World → Prop} {Q : Exit → Act → World → Prop} {L : World → Value → Prop} (h : madeAt P o a w L) (hk : ∀ w' v, Below w.heap.size w w' → L w' v → K (a.put o.dst v) w') : o.wp P a w K Q := by
  unfold madeAt at h
  unfold Oper.wp
  generalize (execOp a.eval o).run P w = r at *
  cases r with
  | ok x w' =>
    cases x <;> simp only [madeUpon] at h <;> simp only [Oper.upon]
    case value u => exact hk _ _ h.1 h.2
    case enter f args =>
      rw [h.1]
      exact h.2.mono fun e w'' ⟨v, he, hb, hL⟩ => by rw [he]; exact hk _ _ hb hL
  | halt x w' => simp only [madeUpon] at h

theorem opens_any {N g : Nat} {Z : World → Array Bool → Act → Prop} {Q : Exit → Act → World → Prop} (hZ : ∀ W s a w, Kept W w → Z W s a → wpAny P md ops Q g s a w) (f : Nat) :
    ∀ (W : World) (s : Array Bool) (a : Act) (w : World), Kept W w → opens P md ops N Z f W s a → wpAny P md ops Q (f + g) s a w := by
  induction f with
  | zero => intro W s a w hw h; rw [Nat.zero_add]; exact hZ W s a w hw h
  | succ f ih =>
    intro W s a w hw h
    have e : f + 1 + g = f + g + 1 := by omega
    rw [e]
    refine ⟨fun h0 => absurd h0 h.1, fun i hi => ?_⟩
    obtain ⟨_, oi, hoi, _⟩ := mem_ready.1 hi
    unfold wpOp
    simp only [hoi]
    rcases (h.2 i hi).2 oi hoi with ⟨v, hg, hn⟩ | ⟨hwt, hm⟩
    · rcases hg with ⟨hwt, hg⟩ | ⟨hwf, rfl⟩
      · rw [if_pos hwt]
        exact .inl (wp_of_grow (hg w hw) fun w' hb => ih W _ _ w' (hw.trans hb) hn)
      · rw [if_neg (by rw [hwf]; simp)]
        exact ih W _ _ w hw hn
    · rw [if_pos hwt]
      exact .inl (wp_of_made (hm w hw) fun w' v hb hn => ih w' _ _ w' (Kept.refl _) hn)

/-- What comes behind the first N waits for them. -/
def waitsB (md : Region.Mode) (ops : Array Oper) (N : Nat) : Bool := decide (N = ops.size) || (decide (N < ops.size) && Region.sinkB md ops N && Region.chainB md ops N)

theorem early {N i : Nat} {s : Array Bool} (hB : waitsB md ops N = true) (inv : HeadInv md ops N s) (hi : i < N) (hr : i ∈ Region.ready md ops s) : ∀ j ∈ Region.ready md ops s, j < N := by
  intro j hj
  simp only [waitsB, Bool.or_eq_true, Bool.and_eq_true, decide_eq_true_eq] at hB
  rcases hB with hB | ⟨⟨hn, hs⟩, hc⟩
  · obtain ⟨_, oj, hoj, _⟩ := mem_ready.1 hj
    rw [hB]
    exact (Array.getElem?_eq_some_iff.1 hoj).1
  · by_cases h : j < N
    · exact h
    · exact absurd hj (tail_waits hs hc hn inv _ i rfl hi (mem_ready.1 hr).1 j (by omega))

theorem opens_first {N i : Nat} {oi : Oper} {v : Value} {Z : World → Array Bool → Act → Prop} (hi : ops[i]? = some oi) (hsel : Region.noSelect ops = true) (hB : waitsB md ops N = true) (hin : i < N)
    (hZ : ∀ W s a, Z W s a → ∀ j ∈ Region.ready md ops s, N ≤ j) (f : Nat) :
    ∀ (W : World) (s : Array Bool) (a : Act), HeadInv md ops N s →
      (∀ j oj, ops[j]? = some oj → j ≠ i → s.getD j true = false → (∀ e ∈ oj.after, Region.binds md e = true → e.on ≠ i) → oi.apart ops oj = true) →
      i ∈ Region.ready md ops s → Grows P ops W oi v a → opens P md ops N Z f W (s.setIfInBounds i true) (a.put oi.dst v) → opens P md ops N Z (f + 1) W s a := by
  induction f with
  | zero =>
    intro W s a inv _ hr hg H
    refine ⟨fun h => (by rw [h] at hr; cases hr), fun j hj => ⟨early hB inv hin hr j hj, fun oj hoj => ?_⟩⟩
    by_cases hji : j = i
    · subst hji
      have e : oj = oi := Option.some.inj (hoj.symm.trans hi)
      subst e
      exact .inl ⟨v, hg, H⟩
    · have h1 := hZ _ _ _ H j (ready_mono hj hji)
      have h2 := early hB inv hin hr j hj
      omega
  | succ f ih =>
    intro W s a inv hfree hr hg H
    refine ⟨fun h => (by rw [h] at hr; cases hr), fun j hj => ⟨early hB inv hin hr j hj, fun oj hoj => ?_⟩⟩
    by_cases hji : j = i
    · subst hji
      have e : oj = oi := Option.some.inj (hoj.symm.trans hi)
      subst e
      exact .inl ⟨v, hg, H⟩
    · obtain ⟨hju, oj', hoj', hall⟩ := mem_ready.1 hj
      have e : oj' = oj := Option.some.inj (hoj'.symm.trans hoj)
      subst e
      have hiu := (mem_ready.1 hr).1
      have hno : ∀ e ∈ oj'.after, Region.binds md e = true → e.on ≠ i := by
        intro e he hb heq
        have h3 := hall e he hb
        rw [heq, getD_both hiu] at h3
        cases h3
      have hsi := fun cs b => Region.noSelect_spec hsel i oi cs b hi
      have hsj := fun cs b => Region.noSelect_spec hsel j oj' cs b hoj
      obtain ⟨p1, p2, p3⟩ := Oper.apart_spec (hfree j oj' hoj hji hju hno)
      have inv' := inv.set hj (early hB inv hin hr j hj)
      have hfree' : ∀ k ok, ops[k]? = some ok → k ≠ i → (s.setIfInBounds j true).getD k true = false → (∀ e ∈ ok.after, Region.binds md e = true → e.on ≠ i) → oi.apart ops ok = true := by
        intro k ok hk hki hun hno'
        refine hfree k ok hk hki ?_ hno'
        by_cases hjk : j = k
        · rw [← hjk]; exact hju
        · rwa [getD_set_ne true hjk] at hun
      have stays : ∀ (W' : World) (u : Value), Kept W W' → Grows P ops W' oi v (a.put oj'.dst u) := fun W' u hk =>
        (hg.later hk).same (execOp_put oi hsi a oj'.dst u p3) (wanted_put oi a oj'.dst u p3)
      rcases (H.2 j (ready_mono hj hji)).2 oj' hoj with ⟨u, hgu, hn⟩ | ⟨hwt, hm⟩
      · refine .inl ⟨u, hgu.same (execOp_put oj' hsj a oi.dst v p1).symm (wanted_put oj' a oi.dst v p1).symm, ?_⟩
        refine ih W _ _ inv' hfree' (ready_mono hr (Ne.symm hji)) (stays W u (Kept.refl _)) ?_
        rw [Array.setIfInBounds_comm _ _ hji, ← Act.put_comm a v u p2]
        exact hn
      · rw [wanted_put oj' a oi.dst v p1] at hwt
        refine .inr ⟨hwt, fun w hw => ?_⟩
        have hm' := hm w hw
        unfold madeAt at hm' ⊢
        rw [execOp_put oj' hsj a oi.dst v p1] at hm'
        refine madeUpon_mono (fun w' u hb hn => ?_) hm'
        refine ih w' _ _ inv' hfree' (ready_mono hr (Ne.symm hji)) (stays w' u (hw.trans hb)) ?_
        rw [Array.setIfInBounds_comm _ _ hji, ← Act.put_comm a v u p2]
        exact hn

/-- The walk in the text's order: n operations that yield one value each; then E. -/
def wpGrow (P : Program) (ops : Array Oper) (W : World) (E : Act → Prop) : List Oper → Act → Prop
  | [], a => E a
  | o :: rest, a => ∃ v, Grows P ops W o v a ∧ wpGrow P ops W E rest (a.put o.dst v)

theorem opens_lex {N n m : Nat} {Z : World → Array Bool → Act → Prop} {E : Act → Prop} {W : World} (hsel : Region.noSelect ops = true) (hB : waitsB md ops N = true) (hnN : n ≤ N) {G : Nat → Array Bool → Bool}
    (hZ : ∀ W s a, Z W s a → ∀ j ∈ Region.ready md ops s, N ≤ j) (hE : ∀ s a, HeadInv md ops N s → G n s = true → E a → opens P md ops N Z m W s a) {L : Nat → Nat → Array Bool → Bool}
    (hL0 : ∀ k s, L 0 k s = G k s) (hL : ∀ f k s, L (f + 1) k s = ((Region.ready md ops s).contains k && Region.free md ops s k && L f (k + 1) (s.setIfInBounds k true))) (l : List Oper) :
    ∀ (k : Nat) (s : Array Bool) (a : Act), (∀ j, j < l.length → l[j]? = ops[k + j]?) → k + l.length = n → HeadInv md ops N s →
    L l.length k s = true → wpGrow P ops W E l a → opens P md ops N Z (l.length + m) W s a := by
  induction l with
  | nil =>
    intro k s a _ hk inv hb h
    have hkn : k = n := by simpa using hk
    rw [hkn, List.length_nil, hL0] at hb
    simpa using hE s a inv hb h
  | cons o l ih =>
    intro k s a hl hk inv hb h
    have h0 : ops[k]? = some o := by simpa using (hl 0 (by simp)).symm
    rw [List.length_cons, hL] at hb
    simp only [Bool.and_eq_true] at hb
    simp only [List.length_cons] at hk
    have hr : k ∈ Region.ready md ops s := by simpa using hb.1.1
    have hkn : k < N := by omega
    obtain ⟨v, hg, hn⟩ := h
    have e : (o :: l).length + m = (l.length + m) + 1 := by simp; omega
    rw [e]
    refine opens_first h0 hsel hB hkn hZ _ W s a inv (Region.free_spec h0 hb.1.2) hr hg ?_
    refine ih (k + 1) _ _ (fun j hj => ?_) (by omega) (inv.set hr hkn) hb.2 hn
    have h1 := hl (j + 1) (by simp; omega)
    have e2 : k + (j + 1) = k + 1 + j := by omega
    rw [e2] at h1
    simpa using h1

/-- Closed facts of a region: n operations in the text's order, then one that makes memory and may come at any time, then the rest. -/
def madeB (md : Region.Mode) (ops : Array Oper) (n : Nat) : Bool :=
  Region.noSelect ops && waitsB md ops (n + 1) && decide (n < ops.size) && Region.lexHead md ops (ops.size - n) n 0 (Array.replicate ops.size false)

theorem wp_region_made {id : Nat} {Q : Exit → Act → World → Prop} {a : Act} {w : World} {l : List Oper} (n : Nat) (hm : P.follows .mixedOrders = true) (hB : madeB .any l.toArray n = true)
    (h : wpGrow P l.toArray w (fun a' => ∀ o, l[n]? = some o → Region.wanted o (yielded l.toArray a'.tmps) = true ∧ ∀ w1, Kept w w1 →
      madeAt P o a' w1 fun w2 v => ∀ w3, Kept w2 w3 → wpList P l.toArray Q (l.drop (n + 1)) (a'.put o.dst v) w3) (l.take n) a) : (Code.region id l.toArray true).wp P Q a w := by
  simp only [madeB, Bool.and_eq_true, decide_eq_true_eq] at hB
  obtain ⟨⟨⟨hsel, hw⟩, hn⟩, hlex⟩ := hB
  have hn' : n < l.length := by simpa using hn
  have e1 : (l.take n).length = n := by simp; omega
  have e2 : (l.drop (n + 1)).length = l.toArray.size - (n + 1) := by simp
  have inv : HeadInv .any l.toArray (n + 1) (Array.replicate l.toArray.size false) :=
    ⟨by simp, fun j oj _ hl => (by rw [getD_replicate_false] at hl; cases hl), fun t _ ht => getD_in (by simpa using ht) (getD_replicate_false _ _)⟩
  have ho : l.toArray[n]? = some l[n] := by simp [hn']
  let Z : World → Array Bool → Act → Prop := fun W s a => Region.seqB .any l.toArray (l.toArray.size - (n + 1)) (n + 1) s = true ∧ ∀ w3, Kept W w3 → wpList P l.toArray Q (l.drop (n + 1)) a w3
  have H := opens_lex (P := P) (md := .any) (ops := l.toArray) (N := n + 1) (n := n) (m := 1) (Z := Z) (W := w) (G := fun k s => Region.seqB .any l.toArray (l.toArray.size - n) k s)
    (L := fun f k s => Region.lexHead .any l.toArray (l.toArray.size - n) f k s) hsel hw (by omega) (fun W s a hz => seqB_ready hz.1) (fun s a' _ hG hE => by
      have e3 : l.toArray.size - n = (l.toArray.size - (n + 1)) + 1 := by omega
      simp only [e3, Region.seqB, Bool.and_eq_true, decide_eq_true_eq] at hG
      refine ⟨by rw [hG.1]; simp, fun i hi => ?_⟩
      rw [hG.1] at hi
      have hin : i = n := by simpa using hi
      subst hin
      refine ⟨by omega, fun o hoi => ?_⟩
      obtain ⟨hwt, hmk⟩ := hE o (by simpa using hoi)
      refine .inr ⟨hwt, fun w1 k1 => ?_⟩
      refine madeUpon_mono (fun w2 v _ hz => ?_) (hmk w1 k1)
      exact ⟨hG.2, hz⟩) (fun k s => rfl) (fun f k s => rfl) (l.take n) 0 _ a (fun j hj => by
      rw [e1] at hj
      simp [hj]) (by simpa using e1) inv (by rw [e1]; exact hlex) h
  refine wp_region_any hm ?_
  have A := opens_any (Q := Q) (g := l.toArray.size - (n + 1)) (fun W s a' w' hk hz => by
    have B := wpAny_of_seq (md := .any) (Q' := Q) (l.drop (n + 1)) (n + 1) s a' w' (fun j => by simp [List.getElem?_drop]) (by rw [e2]; exact hz.1) (hz.2 w' hk)
    rwa [e2] at B) _ _ _ _ _ (show Kept w w.drew from (Below.refl _ _).drew) H
  have e4 : n + 1 + (l.toArray.size - (n + 1)) = l.toArray.size := by omega
  rw [e1, e4] at A
  exact A

/-- Steps of that walk. -/
theorem grow_step {W : World} {E : Act → Prop} {a : Act} {o : Oper} {rest : List Oper} (hw : Region.wanted o (yielded ops a.tmps) = true)
    (h : ∃ v, (∀ w, Kept W w → growAt P o a w v) ∧ ∀ K : Act → Prop, (∀ a', wpGrow P ops W E rest a' → K a') → K (a.put o.dst v)) : wpGrow P ops W E (o :: rest) a := by
  obtain ⟨v, hv, h⟩ := h
  exact ⟨v, .inl ⟨hw, hv⟩, h _ (fun _ h => h)⟩
theorem grow_skip {W : World} {E : Act → Prop} {a : Act} {o : Oper} {rest : List Oper} (hw : Region.wanted o (yielded ops a.tmps) = false)
    (h : ∀ K : Act → Prop, (∀ a', wpGrow P ops W E rest a' → K a') → K (a.put o.dst undef)) : wpGrow P ops W E (o :: rest) a :=
  ⟨undef, .inr ⟨hw, rfl⟩, h _ (fun _ h => h)⟩
theorem grow_nil {W : World} {E : Act → Prop} {a : Act} (h : E a) : wpGrow P ops W E [] a := h
/-- The local's box: where it lies, and that it lies there behind whatever else is made. -/
theorem made_alloc {o : Oper} {a : Act} {w1 : World} {K : World → Value → Prop} {p : Value} {b : Obj} (h : (execOp a.eval o).run P w1 = .ok (.value p) (w1.alloc b)) (hk : K (w1.alloc b) p) : madeAt P o a w1 K := by
  unfold madeAt
  rw [h]
  exact ⟨(Below.refl _ _).alloc (Nat.le_refl _) _, hk⟩
end
end Go.Proofs.Ytmmjannkfmiohaa

namespace Go.Proofs.Ytmmjannkfmiohaa
open Go.RowKit

section
variable {P : Program} {ops : Array Oper}

theorem wpList_of_grow {W : World} {E : Act → Prop} {Q : Exit → Act → World → Prop} {l2 : List Oper} (h2 : ∀ a w, Kept W w → E a → wpList P ops Q l2 a w) (l1 : List Oper) :
    ∀ (a : Act) (w : World), Kept W w → wpGrow P ops W E l1 a → wpList P ops Q (l1 ++ l2) a w := by
  induction l1 with
  | nil => intro a w hw h; exact h2 a w hw h
  | cons o l1 ih =>
    intro a w hw ⟨v, hg, hn⟩
    rw [List.cons_append]
    unfold wpList
    rcases hg with ⟨hwt, hg⟩ | ⟨hwf, rfl⟩
    · rw [if_pos hwt]
      exact .inl (wp_of_grow (hg w hw) fun w' hb => ih _ w' (hw.trans hb) hn)
    · rw [if_neg (by rw [hwf]; simp)]
      exact ih _ w hw hn

theorem wp_region_seq {id : Nat} {Q : Exit → Act → World → Prop} {a : Act} {w : World} {l : List Oper} (n : Nat)
    (h : wpGrow P l.toArray w (fun a' => ∀ w', Kept w w' → wpList P l.toArray Q (l.drop n) a' w') (l.take n) a) : (Code.region id l.toArray false).wp P Q a w := by
  refine wp_region_lit ?_
  have e := wpList_of_grow (l2 := l.drop n) (fun a' w' hk hE => hE w' hk) (l.take n) a w (Kept.refl _) h
  rwa [List.take_append_drop] at e

/-- An operation whose guard is a test left open. -/
theorem grow_guard {W : World} {E : Act → Prop} {a : Act} {o : Oper} {rest : List Oper} (b : Bool) (hw : Region.wanted o (yielded ops a.tmps) = b)
    (h : ∃ v, (b = true → ∀ w, Kept W w → growAt P o a w v) ∧ ∀ K : Act → Prop, (∀ a', wpGrow P ops W E rest a' → K a') → K (a.put o.dst (if b then v else undef))) : wpGrow P ops W E (o :: rest) a := by
  obtain ⟨v, hv, h⟩ := h
  cases b
  · exact ⟨undef, .inr ⟨hw, rfl⟩, h _ (fun _ h => h)⟩
  · exact ⟨v, .inl ⟨hw, hv rfl⟩, h _ (fun _ h => h)⟩

theorem wanted_yes {o : Oper} {a : Act} {g : Nat} {b : Bool} (hg : o.guard = some (g, true)) (hy : yielded ops a.tmps g = some b) : Region.wanted o (yielded ops a.tmps) = b := by
  unfold Region.wanted; rw [hg]; simp only [hy]; cases b <;> rfl
theorem wanted_no {o : Oper} {a : Act} {g : Nat} {b : Bool} (hg : o.guard = some (g, false)) (hy : yielded ops a.tmps g = some b) : Region.wanted o (yielded ops a.tmps) = !b := by
  unfold Region.wanted; rw [hg]; simp only [hy]; cases b <;> rfl

theorem pick_and {p q : Prop} [Decidable p] [Decidable q] (c : Bool) (h : p → q) : (if p then (if q then Value.bool c else undef) else Value.bool false) = Value.bool (decide p && c) := by
  by_cases hp : p
  · simp [hp, h hp]
  · simp [hp]
theorem pick_or {p q : Prop} [Decidable p] [Decidable q] (c : Bool) (h : ¬ p → q) : (if p then Value.bool true else (if q then Value.bool c else undef)) = Value.bool (decide p || c) := by
  by_cases hp : p
  · simp [hp]
  · simp [hp, h hp]
end
end Go.Proofs.Ytmmjannkfmiohaa

namespace Go.Proofs.Ytmmjannkfmiohaa
open Go.RowKit

structure WQ (P : Program) (ops : Array Oper) (C : World → Prop) (Q : Act → Prop) (l : List Oper) (a : Act) : Prop where
  out : wpQuiet P ops C Q l a

theorem wanted_free {o : Oper} {y : Nat → Option Bool} (hg : o.guard = none) : Region.wanted o y = true := by
  unfold Region.wanted; rw [hg]
theorem wanted_lost {o : Oper} {y : Nat → Option Bool} {g : Nat} {p : Bool} (hg : o.guard = some (g, p)) (hy : y g = none) : Region.wanted o y = false := by
  unfold Region.wanted; rw [hg]; simp [hy]
theorem wq_up {P : Program} {ops : Array Oper} {C : World → Prop} {Q : Act → Prop} {a : Act} {o : Oper} {rest : List Oper} (b : Bool) (hw : Region.wanted o (yielded ops a.tmps) = b) (hb : b = true)
    (h : ∃ v, (∀ w, C w → o.quietAt P a C w v) ∧ ∀ K : Act → Prop, (∀ a', WQ P ops C Q rest a' → K a') → K (a.put o.dst v)) : WQ P ops C Q (o :: rest) a := by
  obtain ⟨v, h1, h2⟩ := h
  exact ⟨kept_step (hw.trans hb) ⟨v, h1, fun K hK => h2 K fun a' h => hK a' h.out⟩⟩
theorem wq_off {P : Program} {ops : Array Oper} {C : World → Prop} {Q : Act → Prop} {a : Act} {o : Oper} {rest : List Oper} (b : Bool) (hw : Region.wanted o (yielded ops a.tmps) = b) (hb : b = false)
    (h : ∀ K : Act → Prop, (∀ a', WQ P ops C Q rest a' → K a') → K (a.put o.dst undef)) : WQ P ops C Q (o :: rest) a :=
  ⟨kept_skip (hw.trans hb) fun K hK => h K fun a' h => hK a' h.out⟩
theorem wq_nil {P : Program} {ops : Array Oper} {C : World → Prop} {Q : Act → Prop} {a : Act} (h : Q a) : WQ P ops C Q [] a := ⟨wpQuiet_nil h⟩
theorem wp_region_wq {P : Program} {id : Nat} {Q : Exit → Act → World → Prop} {a : Act} {w : World} {l : List Oper} (hm : P.follows .mixedOrders = true) (hB : Region.lexB .any l.toArray = true)
    (h : WQ P l.toArray (Kept w) (fun a' => ∀ w', Kept w w' → Q .normal a' w') l a) : (Code.region id l.toArray true).wp P Q a w := wp_region_kept hm hB h.out
theorem wp_region_wq_tail {P : Program} {id : Nat} {Q : Exit → Act → World → Prop} {a : Act} {w : World} {l : List Oper} (n : Nat) (hm : P.follows .mixedOrders = true) (hB : Region.lexTailB .any l.toArray n = true)
    (h : WQ P l.toArray (Kept w) (fun a' => ∀ w', Kept w w' → wpList P l.toArray Q (l.drop n) a' w') (l.take n) a) : (Code.region id l.toArray true).wp P Q a w := wp_region_kept_tail n hm hB h.out
end Go.Proofs.Ytmmjannkfmiohaa
