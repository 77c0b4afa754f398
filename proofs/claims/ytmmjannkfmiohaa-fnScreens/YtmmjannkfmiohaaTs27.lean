/- Regions whose order is open, over two classes of worlds of one's own (what the operations that make memory may turn besides; what all others may). No conditions on the program. Regions whose order is open, over two classes of worlds: what only reads, then so many that make memory or turn what nobody reads, one behind the other, then the rest. No conditions on the program. -/
import Derived.Test.YtmmjannkfmiohaaTs1
import Derived.Test.YtmmjannkfmiohaaTs11
namespace Go.Proofs.Ytmmjannkfmiohaa
open Go.RowKit
set_option linter.unusedVariables false

/-- What may become of a world: itself, step by step, new memory, a draw. -/
structure Rel (R : World → World → Prop) : Prop where
  refl : ∀ w, R w w
  trans : ∀ {w w1 w2}, R w w1 → R w1 w2 → R w w2
  alloc : ∀ w o, R w (w.alloc o)
  drew : ∀ w, R w w.drew

section
variable {P : Program} {ops : Array Oper} {md : Region.Mode} {R G : World → World → Prop}

/-- Carried out in w it yields v, and at most makes new memory in a callee. -/
def growUponR (G : World → World → Prop) (P : Program) (w : World) (v : Value) : Result Next → Prop
  | .ok (.value u) w' => w' = w ∧ u = v
  | .ok .skip w' => w' = w ∧ v = undef
  | .ok (.enter f args) w' => w' = w ∧ Calls P f args w (fun e w'' => e = .returned v ∧ G w w'')
  | _ => False

/-- Carried out in w it makes new memory alone; K is asked of what it yields. -/
def madeUponR (R : World → World → Prop) (P : Program) (w : World) (K : World → Value → Prop) : Result Next → Prop
  | .ok (.value u) w' => R w w' ∧ K w' u
  | .ok .skip w' => R w w' ∧ K w' undef
  | .ok (.enter f args) w' => w' = w ∧ Calls P f args w (fun e w'' => ∃ v, e = .returned v ∧ R w w'' ∧ K w'' v)
  | _ => False

def growAtR (G : World → World → Prop) (P : Program) (o : Oper) (a : Act) (w : World) (v : Value) : Prop := growUponR G P w v ((execOp a.eval o).run P w)
def madeAtR (R : World → World → Prop) (P : Program) (o : Oper) (a : Act) (w : World) (K : World → Value → Prop) : Prop := madeUponR R P w K ((execOp a.eval o).run P w)

theorem madeUponR_mono {w : World} {K K' : World → Value → Prop} (h : ∀ w' v, R w w' → K w' v → K' w' v) {r : Result Next} (hr : madeUponR R P w K r) : madeUponR R P w K' r := by
  cases r with
  | ok x w' =>
    cases x <;> simp only [madeUponR] at hr ⊢
    case value u => exact ⟨hr.1, h _ _ hr.1 hr.2⟩
    case skip => exact ⟨hr.1, h _ _ hr.1 hr.2⟩
    case enter f args => exact ⟨hr.1, hr.2.mono fun e w'' ⟨v, he, hb, hk⟩ => ⟨v, he, hb, h _ _ hb hk⟩⟩
  | halt x w' => simp only [madeUponR] at hr

/-- In state a, in every world that has kept W's memory, o leaves v in its slot. -/
def GrowsR (R G : World → World → Prop) (P : Program) (ops : Array Oper) (W : World) (o : Oper) (v : Value) (a : Act) : Prop :=
  (Region.wanted o (yielded ops a.tmps) = true ∧ ∀ w, R W w → growAtR G P o a w v) ∨ (Region.wanted o (yielded ops a.tmps) = false ∧ v = undef)


theorem GrowsR.later (hR : Rel R) {W W' : World} (h : R W W') {o : Oper} {v : Value} {a : Act} (g : GrowsR R G P ops W o v a) : GrowsR R G P ops W' o v a := by
  rcases g with ⟨hw, hg⟩ | hn
  · exact .inl ⟨hw, fun w hk => hg w (hR.trans h hk)⟩
  · exact .inr hn

theorem GrowsR.same {W : World} {o : Oper} {v : Value} {a a' : Act} (he : execOp a'.eval o = execOp a.eval o)
    (hw : Region.wanted o (yielded ops a'.tmps) = Region.wanted o (yielded ops a.tmps)) (g : GrowsR R G P ops W o v a) : GrowsR R G P ops W o v a' := by
  unfold GrowsR growAtR at *
  rw [he, hw]
  exact g

/-- The first N operations come up in whatever order (f are left): each either yields one value whatever has been made, or makes memory; then Z. -/
def opensR (R G : World → World → Prop) (P : Program) (md : Region.Mode) (ops : Array Oper) (N : Nat) (Z : World → Array Bool → Act → Prop) : Nat → World → Array Bool → Act → Prop
  | 0, W, s, a => Z W s a
  | f + 1, W, s, a => Region.ready md ops s ≠ [] ∧ ∀ i ∈ Region.ready md ops s, i < N ∧ ∀ o, ops[i]? = some o →
      (∃ v, GrowsR R G P ops W o v a ∧ opensR R G P md ops N Z f W (s.setIfInBounds i true) (a.put o.dst v)) ∨
      (Region.wanted o (yielded ops a.tmps) = true ∧ ∀ w, G W w → madeAtR R P o a w fun w' v => opensR R G P md ops N Z f w' (s.setIfInBounds i true) (a.put o.dst v))

theorem wp_of_growR (hG : Rel G) {o : Oper} {v : Value} {a : Act} {w : World} {K : Act → World → Prop} {Q : Exit → Act → World → Prop} (h : growAtR G P o a w v) (hk : ∀ w', G w w' → K (a.put o.dst v) w') : o.wp P a w K Q := by
  unfold growAtR at h
  unfold Oper.wp
  generalize (execOp a.eval o).run P w = r at *
  cases r with
  | ok x w' =>
    cases x <;> simp only [growUponR] at h <;> simp only [Oper.upon]
    case value u => rw [h.1, h.2]; exact hk _ (hG.refl _)
    case skip => rw [h.1, ← h.2]; exact hk _ (hG.refl _)
    case enter f args =>
      rw [h.1]
      exact h.2.mono fun e w'' ⟨he, hb⟩ => by rw [he]; exact hk _ hb
  | halt x w' => simp only [growUponR] at h

theorem wp_of_madeR {o : Oper} {a : Act} {w : World} {K : Act → World → Prop} {Q : Exit → Act → World → Prop} {L : World → Value → Prop} (h : madeAtR R P o a w L) (hk : ∀ w' v, R w w' → L w' v → K (a.put o.dst v) w') : o.wp P a w K Q := by
  unfold madeAtR at h
  unfold Oper.wp
  generalize (execOp a.eval o).run P w = r at *
  cases r with
  | ok x w' =>
    cases x <;> simp only [madeUponR] at h <;> simp only [Oper.upon]
    case value u => exact hk _ _ h.1 h.2
    case skip => exact hk _ _ h.1 h.2
    case enter f args =>
      rw [h.1]
      exact h.2.mono fun e w'' ⟨v, he, hb, hL⟩ => by rw [he]; exact hk _ _ hb hL
  | halt x w' => simp only [madeUponR] at h

theorem opens_anyR (hG : Rel G) (sub : ∀ {w w' : World}, G w w' → R w w') {N g : Nat} {Z : World → Array Bool → Act → Prop} {Q : Exit → Act → World → Prop} (hZ : ∀ W s a w, G W w → Z W s a → wpAny P md ops Q g s a w) (f : Nat) :
    ∀ (W : World) (s : Array Bool) (a : Act) (w : World), G W w → opensR R G P md ops N Z f W s a → wpAny P md ops Q (f + g) s a w := by
  induction f with
  | zero => intro W s a w hw h; rw [Nat.zero_add]; exact hZ W s a w hw h
  | succ f ih =>
    intro W s a w hw h
    have e : f + 1 + g = f + g + 1 := by omega
    rw [e]
    refine ⟨fun h0 => absurd h0 h.1, fun i hi => ?_⟩
    obtain ⟨_, oi, hoi, _⟩ := mem_ready.1 hi
    unfold wpOp
    simp only [hoi]
    rcases (h.2 i hi).2 oi hoi with ⟨v, hg, hn⟩ | ⟨hwt, hm⟩
    · rcases hg with ⟨hwt, hg⟩ | ⟨hwf, rfl⟩
      · rw [if_pos hwt]
        exact .inl (wp_of_growR hG (hg w (sub hw)) fun w' hb => ih W _ _ w' (hG.trans hw hb) hn)
      · rw [if_neg (by rw [hwf]; simp)]
        exact ih W _ _ w hw hn
    · rw [if_pos hwt]
      exact .inl (wp_of_madeR (hm w hw) fun w' v hb hn => ih w' _ _ w' (hG.refl _) hn)

theorem opens_firstR (hR : Rel R) (sub : ∀ {w w' : World}, G w w' → R w w') {N i : Nat} {oi : Oper} {v : Value} {Z : World → Array Bool → Act → Prop} (hi : ops[i]? = some oi) (hsel : Region.noSelect ops = true) (hB : waitsB md ops N = true) (hin : i < N)
    (hZ : ∀ W s a, Z W s a → ∀ j ∈ Region.ready md ops s, N ≤ j) (f : Nat) :
    ∀ (W : World) (s : Array Bool) (a : Act), HeadInv md ops N s →
      (∀ j oj, ops[j]? = some oj → j ≠ i → s.getD j true = false → (∀ e ∈ oj.after, Region.binds md e = true → e.on ≠ i) → oi.apart ops oj = true) →
      i ∈ Region.ready md ops s → GrowsR R G P ops W oi v a → opensR R G P md ops N Z f W (s.setIfInBounds i true) (a.put oi.dst v) → opensR R G P md ops N Z (f + 1) W s a := by
  induction f with
  | zero =>
    intro W s a inv _ hr hg H
    refine ⟨fun h => (by rw [h] at hr; cases hr), fun j hj => ⟨early hB inv hin hr j hj, fun oj hoj => ?_⟩⟩
    by_cases hji : j = i
    · subst hji
      have e : oj = oi := Option.some.inj (hoj.symm.trans hi)
      subst e
      exact .inl ⟨v, hg, H⟩
    · have h1 := hZ _ _ _ H j (ready_mono hj hji)
      have h2 := early hB inv hin hr j hj
      omega
  | succ f ih =>
    intro W s a inv hfree hr hg H
    refine ⟨fun h => (by rw [h] at hr; cases hr), fun j hj => ⟨early hB inv hin hr j hj, fun oj hoj => ?_⟩⟩
    by_cases hji : j = i
    · subst hji
      have e : oj = oi := Option.some.inj (hoj.symm.trans hi)
      subst e
      exact .inl ⟨v, hg, H⟩
    · obtain ⟨hju, oj', hoj', hall⟩ := mem_ready.1 hj
      have e : oj' = oj := Option.some.inj (hoj'.symm.trans hoj)
      subst e
      have hiu := (mem_ready.1 hr).1
      have hno : ∀ e ∈ oj'.after, Region.binds md e = true → e.on ≠ i := by
        intro e he hb heq
        have h3 := hall e he hb
        rw [heq, getD_both hiu] at h3
        cases h3
      have hsi := fun cs b => Region.noSelect_spec hsel i oi cs b hi
      have hsj := fun cs b => Region.noSelect_spec hsel j oj' cs b hoj
      obtain ⟨p1, p2, p3⟩ := Oper.apart_spec (hfree j oj' hoj hji hju hno)
      have inv' := inv.set hj (early hB inv hin hr j hj)
      have hfree' : ∀ k ok, ops[k]? = some ok → k ≠ i → (s.setIfInBounds j true).getD k true = false → (∀ e ∈ ok.after, Region.binds md e = true → e.on ≠ i) → oi.apart ops ok = true := by
        intro k ok hk hki hun hno'
        refine hfree k ok hk hki ?_ hno'
        by_cases hjk : j = k
        · rw [← hjk]; exact hju
        · rwa [getD_set_ne true hjk] at hun
      have stays : ∀ (W' : World) (u : Value), R W W' → GrowsR R G P ops W' oi v (a.put oj'.dst u) := fun W' u hk =>
        (GrowsR.later hR hk hg).same (execOp_put oi hsi a oj'.dst u p3) (wanted_put oi a oj'.dst u p3)
      rcases (H.2 j (ready_mono hj hji)).2 oj' hoj with ⟨u, hgu, hn⟩ | ⟨hwt, hm⟩
      · refine .inl ⟨u, hgu.same (execOp_put oj' hsj a oi.dst v p1).symm (wanted_put oj' a oi.dst v p1).symm, ?_⟩
        refine ih W _ _ inv' hfree' (ready_mono hr (Ne.symm hji)) (stays W u (hR.refl _)) ?_
        rw [Array.setIfInBounds_comm _ _ hji, ← Act.put_comm a v u p2]
        exact hn
      · rw [wanted_put oj' a oi.dst v p1] at hwt
        refine .inr ⟨hwt, fun w hw => ?_⟩
        have hm' := hm w hw
        unfold madeAtR at hm' ⊢
        rw [execOp_put oj' hsj a oi.dst v p1] at hm'
        refine madeUponR_mono (fun w' u hb hn => ?_) hm'
        refine ih w' _ _ inv' hfree' (ready_mono hr (Ne.symm hji)) (stays w' u (hR.trans (sub hw) hb)) ?_
        rw [Array.setIfInBounds_comm _ _ hji, ← Act.put_comm a v u p2]
        exact hn

/-- The walk in the text's order: n operations that yield one value each; then E. -/
def wpGrowR (R G : World → World → Prop) (P : Program) (ops : Array Oper) (W : World) (E : Act → Prop) : List Oper → Act → Prop
  | [], a => E a
  | o :: rest, a => ∃ v, GrowsR R G P ops W o v a ∧ wpGrowR R G P ops W E rest (a.put o.dst v)

theorem opens_lexR (hR : Rel R) (sub : ∀ {w w' : World}, G w w' → R w w') {N n m : Nat} {Z : World → Array Bool → Act → Prop} {E : Act → Prop} {W : World} (hsel : Region.noSelect ops = true) (hB : waitsB md ops N = true) (hnN : n ≤ N) {Gb : Nat → Array Bool → Bool}
    (hZ : ∀ W s a, Z W s a → ∀ j ∈ Region.ready md ops s, N ≤ j) (hE : ∀ s a, HeadInv md ops N s → Gb n s = true → E a → opensR R G P md ops N Z m W s a) {L : Nat → Nat → Array Bool → Bool}
    (hL0 : ∀ k s, L 0 k s = Gb k s) (hL : ∀ f k s, L (f + 1) k s = ((Region.ready md ops s).contains k && Region.free md ops s k && L f (k + 1) (s.setIfInBounds k true))) (l : List Oper) :
    ∀ (k : Nat) (s : Array Bool) (a : Act), (∀ j, j < l.length → l[j]? = ops[k + j]?) → k + l.length = n → HeadInv md ops N s →
    L l.length k s = true → wpGrowR R G P ops W E l a → opensR R G P md ops N Z (l.length + m) W s a := by
  induction l with
  | nil =>
    intro k s a _ hk inv hb h
    have hkn : k = n := by simpa using hk
    rw [hkn, List.length_nil, hL0] at hb
    simpa using hE s a inv hb h
  | cons o l ih =>
    intro k s a hl hk inv hb h
    have h0 : ops[k]? = some o := by simpa using (hl 0 (by simp)).symm
    rw [List.length_cons, hL] at hb
    simp only [Bool.and_eq_true] at hb
    simp only [List.length_cons] at hk
    have hr : k ∈ Region.ready md ops s := by simpa using hb.1.1
    have hkn : k < N := by omega
    obtain ⟨v, hg, hn⟩ := h
    have e : (o :: l).length + m = (l.length + m) + 1 := by simp; omega
    rw [e]
    refine opens_firstR hR sub h0 hsel hB hkn hZ _ W s a inv (Region.free_spec h0 hb.1.2) hr hg ?_
    refine ih (k + 1) _ _ (fun j hj => ?_) (by omega) (inv.set hr hkn) hb.2 hn
    have h1 := hl (j + 1) (by simp; omega)
    have e2 : k + (j + 1) = k + 1 + j := by omega
    rw [e2] at h1
    simpa using h1

/-- Steps of that walk. -/
theorem grow_stepR {W : World} {E : Act → Prop} {a : Act} {o : Oper} {rest : List Oper} (hw : Region.wanted o (yielded ops a.tmps) = true)
    (h : ∃ v, (∀ w, R W w → growAtR G P o a w v) ∧ ∀ K : Act → Prop, (∀ a', wpGrowR R G P ops W E rest a' → K a') → K (a.put o.dst v)) : wpGrowR R G P ops W E (o :: rest) a := by
  obtain ⟨v, hv, h⟩ := h
  exact ⟨v, .inl ⟨hw, hv⟩, h _ (fun _ h => h)⟩
theorem grow_skipR {W : World} {E : Act → Prop} {a : Act} {o : Oper} {rest : List Oper} (hw : Region.wanted o (yielded ops a.tmps) = false)
    (h : ∀ K : Act → Prop, (∀ a', wpGrowR R G P ops W E rest a' → K a') → K (a.put o.dst undef)) : wpGrowR R G P ops W E (o :: rest) a :=
  ⟨undef, .inr ⟨hw, rfl⟩, h _ (fun _ h => h)⟩
theorem grow_nilR {W : World} {E : Act → Prop} {a : Act} (h : E a) : wpGrowR R G P ops W E [] a := h
/-- The local's box: where it lies, and that it lies there behind whatever else is made. -/
theorem made_allocR (hR : Rel R) {o : Oper} {a : Act} {w1 : World} {K : World → Value → Prop} {p : Value} {b : Obj} (h : (execOp a.eval o).run P w1 = .ok (.value p) (w1.alloc b)) (hk : K (w1.alloc b) p) : madeAtR R P o a w1 K := by
  unfold madeAtR
  rw [h]
  exact ⟨hR.alloc _ _, hk⟩

def made3B (md : Region.Mode) (ops : Array Oper) (n : Nat) : Bool :=
  Region.noSelect ops && waitsB md ops (n + 3) && decide (n + 2 < ops.size) && Region.lexHead md ops (ops.size - n) n 0 (Array.replicate ops.size false)

theorem wp_region_made3R (hR : Rel R) (hG : Rel G) (sub : ∀ {w w' : World}, G w w' → R w w') {id : Nat} {Q : Exit → Act → World → Prop} {a : Act} {w : World} {l : List Oper} (n : Nat) (hm : P.follows .mixedOrders = true) (hB : made3B .any l.toArray n = true)
    (h : wpGrowR R G P l.toArray w (fun a' => ∀ o o2 o3, l[n]? = some o → l[n + 1]? = some o2 → l[n + 2]? = some o3 → Region.wanted o (yielded l.toArray a'.tmps) = true ∧ ∀ w1, G w w1 →
      madeAtR R P o a' w1 fun w2 v => Region.wanted o2 (yielded l.toArray (a'.put o.dst v).tmps) = true ∧ ∀ w3, G w2 w3 → madeAtR R P o2 (a'.put o.dst v) w3 fun w4 u => Region.wanted o3 (yielded l.toArray ((a'.put o.dst v).put o2.dst u).tmps) = true ∧ ∀ w5, G w4 w5 → madeAtR R P o3 ((a'.put o.dst v).put o2.dst u) w5 fun w6 x => ∀ w7, G w6 w7 → wpList P l.toArray Q (l.drop (n + 3)) (((a'.put o.dst v).put o2.dst u).put o3.dst x) w7) (l.take n) a) : (Code.region id l.toArray true).wp P Q a w := by
  simp only [made3B, Bool.and_eq_true, decide_eq_true_eq] at hB
  obtain ⟨⟨⟨hsel, hw⟩, hn⟩, hlex⟩ := hB
  have hn' : n + 2 < l.length := by simpa using hn
  have e1 : (l.take n).length = n := by simp; omega
  have e2 : (l.drop (n + 3)).length = l.toArray.size - (n + 3) := by simp
  have inv : HeadInv .any l.toArray (n + 3) (Array.replicate l.toArray.size false) :=
    ⟨by simp, fun j oj _ hl => (by rw [getD_replicate_false] at hl; cases hl), fun t _ ht => getD_in (by simpa using ht) (getD_replicate_false _ _)⟩
  let Z : World → Array Bool → Act → Prop := fun W s a => Region.seqB .any l.toArray (l.toArray.size - (n + 3)) (n + 3) s = true ∧ ∀ w3, G W w3 → wpList P l.toArray Q (l.drop (n + 3)) a w3
  have ho2 : l.toArray[n + 1]? = some (l[n + 1]'(by omega)) := by simp
  have ho3 : l.toArray[n + 2]? = some l[n + 2] := by simp [hn']
  have H := opens_lexR hR sub (P := P) (md := .any) (ops := l.toArray) (N := n + 3) (n := n) (m := 3) (Z := Z) (W := w) (Gb := fun k s => Region.seqB .any l.toArray (l.toArray.size - n) k s)
    (L := fun f k s => Region.lexHead .any l.toArray (l.toArray.size - n) f k s) hsel hw (by omega) (fun W s a hz => seqB_ready hz.1) (fun s a' _ hG hE => by
      have e3 : l.toArray.size - n = (l.toArray.size - (n + 3)) + 1 + 1 + 1 := by omega
      simp only [e3, Region.seqB, Bool.and_eq_true, decide_eq_true_eq] at hG
      refine ⟨by rw [hG.1]; simp, fun i hi => ?_⟩
      rw [hG.1] at hi
      have hin : i = n := by simpa using hi
      subst hin
      refine ⟨by omega, fun o hoi => ?_⟩
      obtain ⟨hwt, hmk⟩ := hE o (l[i + 1]'(by omega)) l[i + 2] (by simpa using hoi) (by simp) (by simp [hn'])
      refine .inr ⟨hwt, fun w1 k1 => ?_⟩
      refine madeUponR_mono (fun w2 v _ hz => ?_) (hmk w1 k1)
      refine ⟨by rw [hG.2.1]; simp, fun j hj => ?_⟩
      rw [hG.2.1] at hj
      obtain rfl : j = i + 1 := by simpa using hj
      refine ⟨by omega, fun oj hoj => ?_⟩
      obtain rfl : oj = l[i + 1]'(by omega) := Option.some.inj (hoj.symm.trans ho2)
      refine .inr ⟨hz.1, fun w3 k3 => ?_⟩
      refine madeUponR_mono (fun w4 u _ hz' => ?_) (hz.2 w3 k3)
      refine ⟨by rw [hG.2.2.1]; simp, fun j' hj' => ?_⟩
      rw [hG.2.2.1] at hj'
      obtain rfl : j' = i + 2 := by simpa using hj'
      refine ⟨by omega, fun ok hok => ?_⟩
      obtain rfl : ok = l[i + 2] := Option.some.inj (hok.symm.trans ho3)
      refine .inr ⟨hz'.1, fun w5 k5 => ?_⟩
      refine madeUponR_mono (fun w6 x _ hz'' => ?_) (hz'.2 w5 k5)
      exact ⟨hG.2.2.2, hz''⟩) (fun k s => rfl) (fun f k s => rfl) (l.take n) 0 _ a (fun j hj => by
      rw [e1] at hj
      simp [hj]) (by simpa using e1) inv (by rw [e1]; exact hlex) h
  refine wp_region_any hm ?_
  have A := opens_anyR hG sub (Q := Q) (g := l.toArray.size - (n + 3)) (fun W s a' w' hk hz => by
    have B := wpAny_of_seq (md := .any) (Q' := Q) (l.drop (n + 3)) (n + 3) s a' w' (fun j => by simp [List.getElem?_drop]) (by rw [e2]; exact hz.1) (hz.2 w' hk)
    rwa [e2] at B) _ _ _ _ _ (show G w w.drew from hG.drew w) H
  have e4 : n + 3 + (l.toArray.size - (n + 3)) = l.toArray.size := by omega
  rw [e1, e4] at A
  exact A
end
end Go.Proofs.Ytmmjannkfmiohaa

namespace Go.Proofs.Ytmmjannkfmiohaa
open Go.RowKit
set_option linter.unusedVariables false

section
variable {P : Program} {ops : Array Oper} {md : Region.Mode} {R G : World → World → Prop}

def wpMadesR (R G : World → World → Prop) (P : Program) (ops : Array Oper) (E : World → Act → Prop) : List Oper → World → Act → Prop
  | [], W, a => E W a
  | o :: rest, W, a => Region.wanted o (yielded ops a.tmps) = true ∧ ∀ w1, G W w1 → madeAtR R P o a w1 fun w2 v => wpMadesR R G P ops E rest w2 (a.put o.dst v)
theorem mades_stepR {E : World → Act → Prop} {W : World} {a : Act} {o : Oper} {rest : List Oper} (hw : Region.wanted o (yielded ops a.tmps) = true)
    (h : ∀ w1, G W w1 → madeAtR R P o a w1 fun w2 v => ∀ K : Act → Prop, (∀ a', wpMadesR R G P ops E rest w2 a' → K a') → K (a.put o.dst v)) : wpMadesR R G P ops E (o :: rest) W a :=
  ⟨hw, fun w1 k1 => madeUponR_mono (fun _ _ _ hk => hk _ fun _ h => h) (h w1 k1)⟩
theorem mades_nilR {E : World → Act → Prop} {W : World} {a : Act} (h : E W a) : wpMadesR R G P ops E [] W a := h
theorem made_valueR (hR : Rel R) {o : Oper} {a : Act} {w1 : World} {K : World → Value → Prop} {v : Value} (h : (execOp a.eval o).run P w1 = .ok (.value v) w1) (hk : K w1 v) : madeAtR R P o a w1 K := by
  unfold madeAtR
  rw [h]
  exact ⟨hR.refl _, hk⟩
theorem made_toR {o : Oper} {a : Act} {w1 w2 : World} {K : World → Value → Prop} {v : Value} (h : (execOp a.eval o).run P w1 = .ok (.value v) w2) (hr : R w1 w2) (hk : K w2 v) : madeAtR R P o a w1 K := by
  unfold madeAtR
  rw [h]
  exact ⟨hr, hk⟩
theorem made_callsR {o : Oper} {a : Act} {w : World} {K : World → Value → Prop} {f : FuncId} {args : Array Value} (h : (execOp a.eval o).run P w = .ok (.enter f args) w)
    (hc : Calls P f args w fun e w'' => ∃ v, e = .returned v ∧ R w w'' ∧ K w'' v) : madeAtR R P o a w K := by
  unfold madeAtR
  rw [h]
  exact ⟨rfl, hc⟩

theorem opens_madesR {N : Nat} {E : World → Act → Prop} {Z' : World → Array Bool → Act → Prop} (hZ : ∀ W s a, Region.seqB md ops (ops.size - N) N s = true → E W a → Z' W s a) (hN : N ≤ ops.size) (mid : List Oper) :
    ∀ (k : Nat) (W : World) (s : Array Bool) (a : Act), (∀ j, j < mid.length → mid[j]? = ops[k + j]?) → k + mid.length = N → Region.seqB md ops (ops.size - k) k s = true → wpMadesR R G P ops E mid W a → opensR R G P md ops N Z' mid.length W s a := by
  induction mid with
  | nil =>
    intro k W s a _ hk hs h
    have hkn : k = N := by simpa using hk
    subst hkn
    exact hZ W s a hs h
  | cons o mid ih =>
    intro k W s a hl hk hs h
    simp only [List.length_cons] at hk
    have e3 : ops.size - k = (ops.size - (k + 1)) + 1 := by omega
    simp only [e3, Region.seqB, Bool.and_eq_true, decide_eq_true_eq] at hs
    have h0 : ops[k]? = some o := by simpa using (hl 0 (by simp)).symm
    refine ⟨by rw [hs.1]; simp, fun i hi => ?_⟩
    rw [hs.1] at hi
    obtain rfl : i = k := by simpa using hi
    refine ⟨by omega, fun o' ho' => ?_⟩
    obtain rfl : o' = o := Option.some.inj (ho'.symm.trans h0)
    refine .inr ⟨h.1, fun w1 k1 => madeUponR_mono (fun w2 v _ hk' => ?_) (h.2 w1 k1)⟩
    refine ih (i + 1) w2 _ _ (fun j hj => ?_) (by omega) hs.2 hk'
    have h1 := hl (j + 1) (by simp; omega)
    have e2 : i + (j + 1) = i + 1 + j := by omega
    rw [e2] at h1
    simpa using h1

theorem wp_region_madesR (hR : Rel R) (hG : Rel G) (sub : ∀ {w w' : World}, G w w' → R w w') {id : Nat} {Q : Exit → Act → World → Prop} {a : Act} {w : World} {l : List Oper} (n m : Nat) (hm : P.follows .mixedOrders = true) (hB : madesB .any l.toArray n m = true)
    (h : wpGrowR R G P l.toArray w (fun a' => wpMadesR R G P l.toArray (fun W a'' => ∀ w3, G W w3 → wpList P l.toArray Q (l.drop (n + m)) a'' w3) ((l.drop n).take m) w a') (l.take n) a) : (Code.region id l.toArray true).wp P Q a w := by
  simp only [madesB, Bool.and_eq_true, decide_eq_true_eq] at hB
  obtain ⟨⟨⟨hsel, hw⟩, hn⟩, hlex⟩ := hB
  have hn' : n + m ≤ l.length := by simpa using hn
  have e1 : (l.take n).length = n := by simp; omega
  have e2 : (l.drop (n + m)).length = l.toArray.size - (n + m) := by simp
  have e5 : ((l.drop n).take m).length = m := by simp; omega
  have inv : HeadInv .any l.toArray (n + m) (Array.replicate l.toArray.size false) :=
    ⟨by simp, fun j oj _ hl => (by rw [getD_replicate_false] at hl; cases hl), fun t _ ht => getD_in (by simpa using ht) (getD_replicate_false _ _)⟩
  let E : World → Act → Prop := fun W a => ∀ w3, G W w3 → wpList P l.toArray Q (l.drop (n + m)) a w3
  let Z : World → Array Bool → Act → Prop := fun W s a => Region.seqB .any l.toArray (l.toArray.size - (n + m)) (n + m) s = true ∧ E W a
  have H := opens_lexR hR sub (P := P) (md := .any) (ops := l.toArray) (N := n + m) (n := n) (m := m) (Z := Z) (W := w) (Gb := fun k s => Region.seqB .any l.toArray (l.toArray.size - n) k s)
    (L := fun f k s => Region.lexHead .any l.toArray (l.toArray.size - n) f k s) hsel hw (by omega) (fun W s a hz => seqB_ready hz.1) (fun s a' _ hG hE => by
      have h0 := opens_madesR (R := R) (G := G) (P := P) (md := .any) (ops := l.toArray) (N := n + m) (Z' := Z) (E := E) (fun W s a h1 h2 => ⟨h1, h2⟩) (by simpa using hn') ((l.drop n).take m) n w s a' (fun j hj => by
        rw [e5] at hj
        simp [hj]) (by rw [e5]) hG hE
      rwa [e5] at h0) (fun k s => rfl) (fun f k s => rfl) (l.take n) 0 _ a (fun j hj => by
      rw [e1] at hj
      simp [hj]) (by simpa using e1) inv (by rw [e1]; exact hlex) h
  refine wp_region_any hm ?_
  have A := opens_anyR hG sub (Q := Q) (g := l.toArray.size - (n + m)) (fun W s a' w' hk hz => by
    have B := wpAny_of_seq (md := .any) (Q' := Q) (l.drop (n + m)) (n + m) s a' w' (fun j => by simp [List.getElem?_drop]) (by rw [e2]; exact hz.1) (hz.2 w' hk)
    rwa [e2] at B) _ _ _ _ _ (show G w w.drew from hG.drew w) H
  have e4 : n + m + (l.toArray.size - (n + m)) = l.toArray.size := by omega
  rw [e1, e4] at A
  exact A
end

/-- The blocks in S stay as they are. -/
structure Stay (S : Nat → Prop) (w w' : World) : Prop where
  size : w.heap.size ≤ w'.heap.size
  blk : ∀ q, S q → q < w.heap.size → w'.heap[q]? = w.heap[q]?
theorem rel_stay (S : Nat → Prop) : Rel (Stay S) :=
  ⟨fun w => ⟨Nat.le_refl _, fun _ _ _ => rfl⟩, fun h k => ⟨Nat.le_trans h.size k.size, fun q hs hq => (k.blk q hs (Nat.lt_of_lt_of_le hq h.size)).trans (h.blk q hs hq)⟩,
    fun w o => ⟨by simp, fun q _ hq => (kept_alloc' w o).block q hq⟩, fun w => ⟨Nat.le_refl _, fun _ _ _ => rfl⟩⟩
where kept_alloc' (w : World) (o : Obj) : Below w.heap.size w (w.alloc o) := (Below.refl _ _).alloc (Nat.le_refl _) _
theorem Stay.of_below {S : Nat → Prop} {w w' : World} (h : Below w.heap.size w w') : Stay S w w' := ⟨h.size, fun q _ hq => h.block q hq⟩
theorem Stay.cell {S : Nat → Prop} {w w' : World} (h : Stay S w w') (q o : Nat) (hs : S q) (hq : q < w.heap.size) : w'.cell? ⟨q, o, none⟩ = w.cell? ⟨q, o, none⟩ := World.cell?_of_block (w := w) (a := ⟨q, o, none⟩) (h.blk q hs hq)
theorem Stay.frozen {S : Nat → Prop} {w w' : World} (h : Stay S w w') (q o : Nat) (hs : S q) (hq : q < w.heap.size) : w'.frozen? ⟨q, o, none⟩ = w.frozen? ⟨q, o, none⟩ := World.frozen?_of_block (w := w) (a := ⟨q, o, none⟩) (h.blk q hs hq)
theorem Stay.grown {S : Nat → Prop} {w w' : World} {r : Option Nat} (h : w.grownBy w' r) (hr : ∀ q, S q → some q ≠ r) : Stay S w w' := ⟨h.size, fun q hs hq => h.block q hq (hr q hs)⟩
theorem rel_keptA : Rel Kept := ⟨fun w => Kept.refl w, fun h k => h.trans k, fun w o => (Below.refl _ _).alloc (Nat.le_refl _) _, fun w => (Below.refl _ _).drew⟩
end Go.Proofs.Ytmmjannkfmiohaa
