/- Regions whose order is open: what only reads is taken first, in an order of one's own; then calls, one behind the other, and beside them a local's box that may come at any time. One walk over the calls; the box lies outside of all that they made. No conditions on the program. -/
import Derived.Test.YtmmjannkfmiohaaTs11
import Derived.Test.YtmmjannkfmiohaaTs9
namespace Go.Proofs.Ytmmjannkfmiohaa
open Go.RowKit

section
variable {P : Program} {ops : Array Oper} {md : Region.Mode}

/-- The operations of these numbers. -/
def sel (l : List Oper) (ks : List Nat) : List Oper := ks.filterMap fun k => l[k]?
/-- These come up one behind the other, then the rest. -/
def seqL (md : Region.Mode) (ops : Array Oper) (N : Nat) : List Nat → Array Bool → Bool
  | [], s => Region.seqB md ops (ops.size - N) N s
  | c :: cs, s => decide (Region.ready md ops s = [c]) && seqL md ops N cs (s.setIfInBounds c true)
/-- .. and the box m at any time between them. -/
def boxG (md : Region.Mode) (ops : Array Oper) (N m : Nat) : List Nat → Array Bool → Bool
  | [], s => decide (Region.ready md ops s = [m]) && seqL md ops N [] (s.setIfInBounds m true)
  | c :: cs, s => (decide (Region.ready md ops s = [c, m]) || decide (Region.ready md ops s = [m, c])) && seqL md ops N (c :: cs) (s.setIfInBounds m true) && boxG md ops N m cs (s.setIfInBounds c true)
/-- These may be taken first, in this order; then G. -/
def takeB (md : Region.Mode) (ops : Array Oper) (G : Array Bool → Bool) : List Nat → Array Bool → Bool
  | [], s => G s
  | k :: ks, s => (Region.ready md ops s).contains k && Region.free md ops s k && takeB md ops G ks (s.setIfInBounds k true)
/-- Closed facts of a region. -/
def boxB (md : Region.Mode) (ops : Array Oper) (N : Nat) (ks cs : List Nat) (m : Nat) : Bool :=
  Region.noSelect ops && waitsB md ops N && decide (N ≤ ops.size) && decide (ks.length + cs.length + 1 = N) && decide (m < N) && ks.all (decide <| · < N) && cs.all (fun c => decide (c < N) && decide (c ≠ m) && apartB ops c m) && takeB md ops (boxG md ops N m cs) ks (Array.replicate ops.size false)

/-- The calls in their order; I: where each of them made its memory. -/
def wpBoxed (P : Program) (ops : Array Oper) (lo : Nat) (b : Obj) (E : Nat → World → Act → Prop) : List Oper → List (Nat × Nat) → World → Act → Prop
  | [], I, W, a => ∀ B w3, Kept W w3 → lo ≤ B → B < w3.heap.size → w3.heap[B]? = some b → (∀ iv ∈ I, B < iv.1 ∨ iv.2 ≤ B) → E B w3 a
  | o :: rest, I, W, a => Region.wanted o (yielded ops a.tmps) = true ∧ ∀ w1, Kept W w1 → madeAt P o a w1 fun w2 v => wpBoxed P ops lo b E rest ((w1.heap.size, w2.heap.size) :: I) w2 (a.put o.dst v)
theorem boxed_step {lo : Nat} {b : Obj} {E : Nat → World → Act → Prop} {I : List (Nat × Nat)} {W : World} {a : Act} {o : Oper} {rest : List Oper} (hw : Region.wanted o (yielded ops a.tmps) = true)
    (h : ∀ w1, Kept W w1 → madeAt P o a w1 fun w2 v => ∀ K : Act → Prop, (∀ a', wpBoxed P ops lo b E rest ((w1.heap.size, w2.heap.size) :: I) w2 a' → K a') → K (a.put o.dst v)) : wpBoxed P ops lo b E (o :: rest) I W a :=
  ⟨hw, fun w1 k1 => madeUpon_mono (fun _ _ _ hk => hk _ fun _ h => h) (h w1 k1)⟩
theorem boxed_nil {lo : Nat} {b : Obj} {E : Nat → World → Act → Prop} {I : List (Nat × Nat)} {W : World} {a : Act}
    (h : ∀ B w3, Kept W w3 → lo ≤ B → B < w3.heap.size → w3.heap[B]? = some b → (∀ iv ∈ I, B < iv.1 ∨ iv.2 ≤ B) → E B w3 a) : wpBoxed P ops lo b E [] I W a := h
theorem boxed_later {lo : Nat} {b : Obj} {E : Nat → World → Act → Prop} {W W' : World} (hk : Kept W W') {cs : List Oper} {I : List (Nat × Nat)} {a : Act} (h : wpBoxed P ops lo b E cs I W a) : wpBoxed P ops lo b E cs I W' a := by
  cases cs with
  | nil => exact fun B w3 k3 h1 h2 h3 h4 => h B w3 (hk.trans k3) h1 h2 h3 h4
  | cons o rest => exact ⟨h.1, fun w1 k1 => h.2 w1 (hk.trans k1)⟩

theorem opens_seqd {N lo m : Nat} {b : Obj} {om : Oper} {E : Nat → World → Act → Prop} {Z : World → Array Bool → Act → Prop} (hsel : Region.noSelect ops = true) (hm : ops[m]? = some om) (B : Nat)
    (hZ : ∀ W s a, Region.seqB md ops (ops.size - N) N s = true → (∀ w3, Kept W w3 → E B w3 a) → Z W s (a.put om.dst (.pointer (some ⟨B, 0, none⟩)))) (hlo : lo ≤ B) (cs : List Nat) :
    ∀ (q : List Oper) (I : List (Nat × Nat)) (W : World) (s : Array Bool) (a : Act), cs.map (fun c => ops[c]?) = q.map some → (∀ c ∈ cs, c < N ∧ apartB ops c m = true) → seqL md ops N cs s = true → wpBoxed P ops lo b E q I W a →
      B < W.heap.size → W.heap[B]? = some b → (∀ iv ∈ I, B < iv.1 ∨ iv.2 ≤ B) → opens P md ops N Z cs.length W s (a.put om.dst (.pointer (some ⟨B, 0, none⟩))) := by
  induction cs with
  | nil =>
    intro q I W s a hq _ hs h hB hb hI
    have : q = [] := by simpa using hq.symm
    subst this
    exact hZ W s a hs fun w3 k3 => h B w3 k3 hlo (Nat.lt_of_lt_of_le hB k3.le) ((k3.blk hB).trans hb) hI
  | cons c cs ih =>
    intro q I W s a hq hc hs h hB hb hI
    cases q with
    | nil => simp at hq
    | cons o q =>
      simp only [List.map_cons, List.cons.injEq] at hq
      obtain ⟨ho, hq⟩ := hq
      simp only [seqL, Bool.and_eq_true, decide_eq_true_eq] at hs
      obtain ⟨hcN, hap⟩ := hc c (by simp)
      simp only [apartB, ho, hm, Bool.and_eq_true] at hap
      obtain ⟨p1, p2, p3⟩ := Oper.apart_spec hap.1
      obtain ⟨p4, p5, p6⟩ := Oper.apart_spec hap.2
      have hsc := fun x y => Region.noSelect_spec hsel c o x y ho
      refine ⟨by rw [hs.1]; simp, fun i hi => ?_⟩
      rw [hs.1] at hi
      obtain rfl : i = c := by simpa using hi
      refine ⟨hcN, fun o' ho' => ?_⟩
      obtain rfl : o' = o := Option.some.inj (ho'.symm.trans ho)
      refine .inr ⟨by rw [wanted_put o' a om.dst _ p4]; exact h.1, fun w1 k1 => ?_⟩
      have hcl := h.2 w1 k1
      unfold madeAt at hcl ⊢
      rw [execOp_put o' hsc a om.dst _ p4]
      refine madeUpon_mono (fun w2 v hb2 hp => ?_) hcl
      have kk : Kept W w2 := k1.trans hb2
      rw [← Act.put_comm a v _ p2]
      refine ih q _ w2 _ _ hq (fun c' hc' => hc c' (by simp [hc'])) hs.2 hp (Nat.lt_of_lt_of_le hB kk.le) ((kk.blk hB).trans hb) fun iv hiv => ?_
      rcases List.mem_cons.1 hiv with rfl | hiv
      · exact .inl (Nat.lt_of_lt_of_le hB k1.le)
      · exact hI iv hiv

theorem opens_boxed {N lo m : Nat} {b : Obj} {om : Oper} {E : Nat → World → Act → Prop} {Z : World → Array Bool → Act → Prop} (hsel : Region.noSelect ops = true) (hm : ops[m]? = some om) (hmN : m < N)
    (hZ : ∀ B W s a, Region.seqB md ops (ops.size - N) N s = true → (∀ w3, Kept W w3 → E B w3 a) → Z W s (a.put om.dst (.pointer (some ⟨B, 0, none⟩)))) (cs : List Nat) :
    ∀ (q : List Oper) (I : List (Nat × Nat)) (W : World) (s : Array Bool) (a : Act), cs.map (fun c => ops[c]?) = q.map some → (∀ c ∈ cs, c < N ∧ apartB ops c m = true) → boxG md ops N m cs s = true → wpBoxed P ops lo b E q I W a →
      Region.wanted om (yielded ops a.tmps) = true → (∀ w1, (execOp a.eval om).run P w1 = .ok (.value (.pointer (some ⟨w1.heap.size, 0, none⟩))) (w1.alloc b)) → lo ≤ W.heap.size → (∀ iv ∈ I, iv.2 ≤ W.heap.size) → opens P md ops N Z (cs.length + 1) W s a := by
  induction cs with
  | nil =>
    intro q I W s a hq _ hs h hw hbox hlo hI
    have : q = [] := by simpa using hq.symm
    subst this
    simp only [boxG, seqL, Bool.and_eq_true, decide_eq_true_eq] at hs
    refine ⟨by rw [hs.1]; simp, fun i hi => ?_⟩
    rw [hs.1] at hi
    obtain rfl : i = m := by simpa using hi
    refine ⟨hmN, fun o' ho' => ?_⟩
    obtain rfl : o' = om := Option.some.inj (ho'.symm.trans hm)
    refine .inr ⟨hw, fun w1 k1 => ?_⟩
    unfold madeAt
    rw [hbox w1]
    refine ⟨kept_alloc _ _, ?_⟩
    have n1 := k1.le
    exact hZ _ _ _ _ hs.2 fun w3 k3 => h _ w3 ((k1.trans (kept_alloc _ _)).trans k3) (by omega) (by have := k3.le; simp at this; omega) ((k3.blk (by simp)).trans (heap_alloc_new w1 b)) fun iv hiv => .inr (by have := hI iv hiv; omega)
  | cons c cs ih =>
    intro q I W s a hq hc hs h hw hbox hlo hI
    cases q with
    | nil => simp at hq
    | cons o q =>
      have hq0 := hq
      simp only [List.map_cons, List.cons.injEq] at hq
      obtain ⟨ho, hq⟩ := hq
      simp only [boxG, Bool.and_eq_true, Bool.or_eq_true, decide_eq_true_eq] at hs
      obtain ⟨⟨hr, hs1⟩, hs2⟩ := hs
      obtain ⟨hcN, hap⟩ := hc c (by simp)
      simp only [apartB, ho, hm, Bool.and_eq_true] at hap
      obtain ⟨p1, p2, p3⟩ := Oper.apart_spec hap.1
      have hsm := fun x y => Region.noSelect_spec hsel m om x y hm
      have hin : ∀ i ∈ Region.ready md ops s, i = c ∨ i = m := fun i hi => by
        rcases hr with hr | hr <;> rw [hr] at hi <;> simp only [List.mem_cons, List.not_mem_nil, or_false] at hi
        · exact hi
        · exact hi.symm
      refine ⟨by rcases hr with hr | hr <;> rw [hr] <;> simp, fun i hi => ?_⟩
      rcases hin i hi with rfl | rfl
      · refine ⟨hcN, fun o' ho' => ?_⟩
        obtain rfl : o' = o := Option.some.inj (ho'.symm.trans ho)
        refine .inr ⟨h.1, fun w1 k1 => madeUpon_mono (fun w2 v hb2 hp => ?_) (h.2 w1 k1)⟩
        have kk : Kept W w2 := k1.trans hb2
        refine ih q _ w2 _ _ hq (fun c' hc' => hc c' (by simp [hc'])) hs2 hp (by rw [wanted_put om a o'.dst v p1]; exact hw) (fun w3 => by rw [execOp_put om hsm a o'.dst v p1]; exact hbox w3) (Nat.le_trans hlo kk.le) fun iv hiv => ?_
        rcases List.mem_cons.1 hiv with rfl | hiv
        · exact Nat.le_refl _
        · exact Nat.le_trans (hI iv hiv) kk.le
      · refine ⟨hmN, fun o' ho' => ?_⟩
        obtain rfl : o' = om := Option.some.inj (ho'.symm.trans hm)
        refine .inr ⟨hw, fun w1 k1 => ?_⟩
        unfold madeAt
        rw [hbox w1]
        refine ⟨kept_alloc _ _, ?_⟩
        have n1 := k1.le
        exact opens_seqd hsel hm w1.heap.size (hZ w1.heap.size) (by omega) (c :: cs) (o :: q) I _ _ a hq0 hc hs1 (boxed_later (k1.trans (kept_alloc _ _)) h) (by simp) (heap_alloc_new w1 b) fun iv hiv => .inr (by have := hI iv hiv; omega)

theorem opens_take {N m : Nat} {Z : World → Array Bool → Act → Prop} {E : Act → Prop} {W : World} (hsel : Region.noSelect ops = true) (hB : waitsB md ops N = true)
    (hZ : ∀ W s a, Z W s a → ∀ j ∈ Region.ready md ops s, N ≤ j) {G : Array Bool → Bool} (hE : ∀ s a, G s = true → E a → opens P md ops N Z m W s a) (ks : List Nat) :
    ∀ (q : List Oper) (s : Array Bool) (a : Act), ks.map (fun k => ops[k]?) = q.map some → (∀ k ∈ ks, k < N) → HeadInv md ops N s → takeB md ops G ks s = true → wpGrow P ops W E q a → opens P md ops N Z (ks.length + m) W s a := by
  induction ks with
  | nil =>
    intro q s a hq _ _ hb h
    have : q = [] := by simpa using hq.symm
    subst this
    simpa using hE s a hb h
  | cons k ks ih =>
    intro q s a hq hk inv hb h
    cases q with
    | nil => simp at hq
    | cons o q =>
      simp only [List.map_cons, List.cons.injEq] at hq
      obtain ⟨ho, hq⟩ := hq
      simp only [takeB, Bool.and_eq_true] at hb
      have hr : k ∈ Region.ready md ops s := by simpa using hb.1.1
      have hkn : k < N := hk k (by simp)
      obtain ⟨v, hg, hn⟩ := h
      have e : (k :: ks).length + m = (ks.length + m) + 1 := by simp; omega
      rw [e]
      refine opens_first ho hsel hB hkn hZ _ W s a inv (Region.free_spec ho hb.1.2) hr hg ?_
      exact ih q _ _ hq (fun k' hk' => hk k' (by simp [hk'])) (inv.set hr hkn) hb.2 hn

theorem sel_some {l : List Oper} : ∀ {ks : List Nat}, (∀ k ∈ ks, k < l.length) → ks.map (fun k => l.toArray[k]?) = (sel l ks).map some
  | [], _ => rfl
  | k :: ks, h => by
    have hk := h k (by simp)
    have ih := sel_some (l := l) (ks := ks) fun k' hk' => h k' (by simp [hk'])
    simp only [List.map_cons, sel, List.filterMap_cons] at ih ⊢
    rw [List.getElem?_eq_getElem hk]
    simp only [List.map_cons, List.cons.injEq]
    exact ⟨by simp [hk], ih⟩

theorem wp_region_boxed {id : Nat} {Q : Exit → Act → World → Prop} {a : Act} {w : World} {l : List Oper} (N : Nat) (ks cs : List Nat) (m : Nat) (b : Obj) {om : Oper} (hmm : l[m]? = some om)
    (hm : P.follows .mixedOrders = true) (hB : boxB .any l.toArray N ks cs m = true)
    (h : wpGrow P l.toArray w (fun a' => Region.wanted om (yielded l.toArray a'.tmps) = true ∧ (∀ w1, (execOp a'.eval om).run P w1 = .ok (.value (.pointer (some ⟨w1.heap.size, 0, none⟩))) (w1.alloc b)) ∧
      wpBoxed P l.toArray w.heap.size b (fun B w3 a'' => wpList P l.toArray Q (l.drop N) (a''.put om.dst (.pointer (some ⟨B, 0, none⟩))) w3) (sel l cs) [] w a') (sel l ks) a) : (Code.region id l.toArray true).wp P Q a w := by
  simp only [boxB, Bool.and_eq_true, decide_eq_true_eq, List.all_eq_true] at hB
  obtain ⟨⟨⟨⟨⟨⟨⟨hsel, hw⟩, hN⟩, hlen⟩, hmN⟩, hks⟩, hcs⟩, htake⟩ := hB
  have hN' : N ≤ l.length := by simpa using hN
  have hm' : l.toArray[m]? = some om := by simpa using hmm
  have e2 : (l.drop N).length = l.toArray.size - N := by simp
  have inv : HeadInv .any l.toArray N (Array.replicate l.toArray.size false) :=
    ⟨by simp, fun j oj _ hl => (by rw [getD_replicate_false] at hl; cases hl), fun t _ ht => getD_in (by simpa using ht) (getD_replicate_false _ _)⟩
  let Z : World → Array Bool → Act → Prop := fun W s a => Region.seqB .any l.toArray (l.toArray.size - N) N s = true ∧ ∀ w3, Kept W w3 → wpList P l.toArray Q (l.drop N) a w3
  have H := opens_take (P := P) (md := .any) (ops := l.toArray) (N := N) (m := cs.length + 1) (Z := Z) (W := w) hsel hw (fun W s a hz => seqB_ready hz.1) (G := boxG .any l.toArray N m cs) (fun s a' hG hE => by
      obtain ⟨h1, h2, h3⟩ := hE
      exact opens_boxed (lo := w.heap.size) (b := b) hsel hm' hmN (fun B W s a h1 h2 => ⟨h1, fun w3 k3 => h2 w3 k3⟩) cs (sel l cs) [] w s a' (sel_some fun c hc => by have := hcs c hc; omega) (fun c hc => ⟨(hcs c hc).1.1, (hcs c hc).2⟩) hG h3 h1 h2 (Nat.le_refl _) (by simp)) ks (sel l ks) _ a (sel_some fun k hk => by have := hks k hk; omega) hks inv htake h
  refine wp_region_any hm ?_
  have A := opens_any (Q := Q) (g := l.toArray.size - N) (fun W s a' w' hk hz => by
    have B := wpAny_of_seq (md := .any) (Q' := Q) (l.drop N) N s a' w' (fun j => by simp [List.getElem?_drop]) (by rw [e2]; exact hz.1) (hz.2 w' hk)
    rwa [e2] at B) _ _ _ _ _ (show Kept w w.drew from (Below.refl _ _).drew) H
  have e4 : ks.length + (cs.length + 1) + (l.toArray.size - N) = l.toArray.size := by omega
  rw [e4] at A
  exact A
end
end Go.Proofs.Ytmmjannkfmiohaa
