/- A region whose order is open, inside a round of a range over a function: all its operations quiet, none of them a defer. Regions whose order is open: what only reads is taken first, in an order of one's own; then calls, one behind the other, then the rest. No conditions on the program. Regions whose order is open, over two classes of worlds: what only reads is taken first, in an order of one's own; then what makes memory or turns what nobody reads, one behind the other, then the rest. No conditions on the program. Regions whose order is open, over two classes of worlds, by a plan of one's own: some operations only read and are taken as soon as they may come up, the others come up alone, one behind the other. No conditions on the program. -/
import Derived.Test.YtmmjannkfmiohaaTs0
import Derived.Sort.QuietThIn
import Derived.RangeFuncCalls
import Derived.OwnWalkIn
import Derived.Test.YtmmjannkfmiohaaTs21
import Derived.Test.YtmmjannkfmiohaaTs27
namespace Go.Proofs.Ytmmjannkfmiohaa
open Go.RowKit
set_option linter.unusedVariables false

section
variable {F : Fence} {n : Nat} {P : Program} {ops : Array Oper} {md : Region.Mode} {C : World → Prop}
/-- No operation defers. -/
def noDefer (ops : Array Oper) : Bool := ops.all fun o => match o.op with | .defer _ => false | _ => true
theorem noDefer_at (h : noDefer ops = true) {j : Nat} {o : Oper} (hj : ops[j]? = some o) : ∀ c, o.op ≠ .defer c := by
  intro c e
  obtain ⟨hlt, rfl⟩ := Array.getElem?_eq_some_iff.1 hj
  have := (Array.all_eq_true.1 h) j hlt
  rw [e] at this
  cases this

theorem wpIn_of_quietR {o : Oper} {a : Act} {K : Act → Prop} {K' : Act → World → Prop} {Q' : Exit → Act → World → Prop} {w : World} (hnd : ∀ c, o.op ≠ .defer c) (hw : C w) (h : ∀ a w', C w' → K a → K' a w')
    (ha : o.askedIn F P a C) (hh : o.quietIn F n P a C K) : o.wpIn F n P a w K' Q' := by
  obtain ⟨v, h1, h2⟩ := hh
  have h3 := h1 w hw
  unfold Oper.quietAtIn at h3
  unfold Oper.wpIn
  refine ⟨ha w hw, ?_⟩
  rw [Oper.semAt_eq _ _ _ hnd]
  generalize (execOp a.eval o).run P w = r at *
  cases r with
  | ok x w' =>
    cases x <;> simp only [Oper.quietUponIn] at h3 <;> simp only [Oper.uponIn]
    case value u =>
      obtain ⟨e1, e2⟩ := h3
      rw [e1, e2]
      exact h _ _ hw h2
    case skip =>
      obtain ⟨e1, e2⟩ := h3
      rw [e1, ← e2]
      exact h _ _ hw h2
    case enter f args =>
      obtain ⟨e1, hd, hc⟩ := h3
      rw [e1]
      exact ⟨hd, hc.mono fun e w'' ⟨he, hw''⟩ => by subst he; exact h _ _ hw'' h2⟩
  | halt x w' => simp only [Oper.quietUponIn] at h3

theorem wpOpIn_of_qOpInR {i : Nat} {a : Act} {K : Act → Prop} {K' : Act → World → Prop} {Q' : Exit → Act → World → Prop} {w : World} (hnd : noDefer ops = true) (hC : C w) (h : ∀ a w', C w' → K a → K' a w')
    (hh : qOpIn F n P ops C i K a) : wpOpIn F n P ops Q' i K' a w := by
  unfold qOpIn at hh
  unfold wpOpIn
  split
  · rename_i ho; simp only [ho] at hh; exact h _ _ hC hh
  · rename_i o ho
    simp only [ho] at hh
    obtain ⟨ha, hh⟩ := hh
    split
    · rename_i hw; simp only [hw, if_true] at hh; exact wpIn_of_quietR (noDefer_at hnd ho) hC h ha hh
    · rename_i hw; simp only [hw] at hh; exact ⟨ha w hC, h _ _ hC hh⟩

theorem wpAnyIn_of_quietR {Q : Act → Prop} {Q' : Exit → Act → World → Prop} (hnd : noDefer ops = true) (hQ : ∀ a w, C w → Q a → Q' .normal a w) : ∀ (fuel : Nat) (listed : Array Bool) (a : Act) (w : World), C w →
    wpAnyQIn F n P md ops C Q fuel listed a → wpAnyIn F n P md ops Q' fuel listed a w
  | 0, _, _, _, hw, h => ⟨h.1, hQ _ _ hw h.2⟩
  | fuel + 1, _, _, _, hw, h => ⟨fun h0 => hQ _ _ hw (h.1 h0), fun i hi => wpOpIn_of_qOpInR hnd hw (fun a' w' hw' => wpAnyIn_of_quietR hnd hQ fuel _ a' w' hw') (h.2 i hi)⟩

theorem wpIn_region_keptR {id : Nat} {Q : Exit → Act → World → Prop} {a : Act} {w : World} {l : List Oper} (hnd : noDefer l.toArray = true) (hm : P.follows .mixedOrders = true) (hB : Region.lexB .any l.toArray = true)
    (h : wpQuietIn F n P l.toArray (Kept w) (fun a' => ∀ w', Kept w w' → Q .normal a' w') l a) : (Code.region id l.toArray true).wpIn F n P Q a w := by
  simp only [Region.lexB, Bool.and_eq_true] at hB
  refine wpIn_region_any hm (wpAnyIn_of_quietR (C := Kept w) (Q := fun a' => ∀ w', Kept w w' → Q .normal a' w') hnd (fun _ w' hw' h => h w' hw') _ _ _ _ (show Kept w w.drew from (Below.refl _ _).drew) ?_)
  have := wpAnyQIn_lex (F := F) (n := n) (C := Kept w) (md := .any) hB.1 l.toArray.toList 0 (Array.replicate l.toArray.size false) a (by simp) (by simpa using hB.2) (by simpa using h)
  simpa using this

theorem keptIn_step {W : World} {Q : Act → Prop} {a : Act} {o : Oper} {rest : List Oper} (hg : o.guard = none) (ha : ∀ f, F.fn f)
    (h : ∃ v, (∀ w1, Kept W w1 → o.quietAtIn F n P a (Kept W) w1 v) ∧ ∀ K : Act → Prop, (∀ a', wpQuietIn F n P ops (Kept W) Q rest a' → K a') → K (a.put o.dst v)) : wpQuietIn F n P ops (Kept W) Q (o :: rest) a := by
  obtain ⟨v, h1, h2⟩ := h
  refine ⟨fun _ _ f _ => ha f, ?_⟩
  have hw : Region.wanted o (yielded ops a.tmps) = true := by simp [Region.wanted, hg]
  rw [if_pos hw]
  exact ⟨v, h1, h2 _ fun _ h => h⟩
end
end Go.Proofs.Ytmmjannkfmiohaa

namespace Go.Proofs.Ytmmjannkfmiohaa
open Go.RowKit

section
variable {P : Program} {ops : Array Oper} {md : Region.Mode}

/-- Closed facts of a region. -/
def takesB (md : Region.Mode) (ops : Array Oper) (N : Nat) (ks cs : List Nat) : Bool :=
  Region.noSelect ops && waitsB md ops N && decide (N ≤ ops.size) && decide (ks.length + cs.length = N) && ks.all (decide <| · < N) && cs.all (decide <| · < N) && takeB md ops (seqL md ops N cs) ks (Array.replicate ops.size false)

theorem opens_seqs {N : Nat} {E : World → Act → Prop} {Z : World → Array Bool → Act → Prop} (hZ : ∀ W s a, Region.seqB md ops (ops.size - N) N s = true → E W a → Z W s a) (cs : List Nat) :
    ∀ (q : List Oper) (W : World) (s : Array Bool) (a : Act), cs.map (fun c => ops[c]?) = q.map some → (∀ c ∈ cs, c < N) → seqL md ops N cs s = true → wpMades P ops E q W a → opens P md ops N Z cs.length W s a := by
  induction cs with
  | nil =>
    intro q W s a hq _ hs h
    have : q = [] := by simpa using hq.symm
    subst this
    exact hZ W s a hs h
  | cons c cs ih =>
    intro q W s a hq hc hs h
    cases q with
    | nil => simp at hq
    | cons o q =>
      simp only [List.map_cons, List.cons.injEq] at hq
      obtain ⟨ho, hq⟩ := hq
      simp only [seqL, Bool.and_eq_true, decide_eq_true_eq] at hs
      refine ⟨by rw [hs.1]; simp, fun i hi => ?_⟩
      rw [hs.1] at hi
      obtain rfl : i = c := by simpa using hi
      refine ⟨hc i (by simp), fun o' ho' => ?_⟩
      obtain rfl : o' = o := Option.some.inj (ho'.symm.trans ho)
      refine .inr ⟨h.1, fun w1 k1 => madeUpon_mono (fun w2 v _ hp => ?_) (h.2 w1 k1)⟩
      exact ih q w2 _ _ hq (fun c' hc' => hc c' (by simp [hc'])) hs.2 hp

theorem wp_region_takes {id : Nat} {Q : Exit → Act → World → Prop} {a : Act} {w : World} {l : List Oper} (N : Nat) (ks cs : List Nat)
    (hm : P.follows .mixedOrders = true) (hB : takesB .any l.toArray N ks cs = true)
    (h : wpGrow P l.toArray w (fun a' => wpMades P l.toArray (fun W a'' => ∀ w3, Kept W w3 → wpList P l.toArray Q (l.drop N) a'' w3) (sel l cs) w a') (sel l ks) a) : (Code.region id l.toArray true).wp P Q a w := by
  simp only [takesB, Bool.and_eq_true, decide_eq_true_eq, List.all_eq_true] at hB
  obtain ⟨⟨⟨⟨⟨⟨hsel, hw⟩, hN⟩, hlen⟩, hks⟩, hcs⟩, htake⟩ := hB
  have hN' : N ≤ l.length := by simpa using hN
  have e2 : (l.drop N).length = l.toArray.size - N := by simp
  have inv : HeadInv .any l.toArray N (Array.replicate l.toArray.size false) :=
    ⟨by simp, fun j oj _ hl => (by rw [getD_replicate_false] at hl; cases hl), fun t _ ht => getD_in (by simpa using ht) (getD_replicate_false _ _)⟩
  let E : World → Act → Prop := fun W a => ∀ w3, Kept W w3 → wpList P l.toArray Q (l.drop N) a w3
  let Z : World → Array Bool → Act → Prop := fun W s a => Region.seqB .any l.toArray (l.toArray.size - N) N s = true ∧ E W a
  have H := opens_take (P := P) (md := .any) (ops := l.toArray) (N := N) (m := cs.length) (Z := Z) (W := w) hsel hw (fun W s a hz => seqB_ready hz.1) (G := seqL .any l.toArray N cs) (fun s a' hG hE =>
      opens_seqs (E := E) (fun W s a h1 h2 => ⟨h1, h2⟩) cs (sel l cs) w s a' (sel_some fun c hc => by have := hcs c hc; omega) hcs hG hE) ks (sel l ks) _ a (sel_some fun k hk => by have := hks k hk; omega) hks inv htake h
  refine wp_region_any hm ?_
  have A := opens_any (Q := Q) (g := l.toArray.size - N) (fun W s a' w' hk hz => by
    have B := wpAny_of_seq (md := .any) (Q' := Q) (l.drop N) N s a' w' (fun j => by simp [List.getElem?_drop]) (by rw [e2]; exact hz.1) (hz.2 w' hk)
    rwa [e2] at B) _ _ _ _ _ (show Kept w w.drew from (Below.refl _ _).drew) H
  have e4 : ks.length + cs.length + (l.toArray.size - N) = l.toArray.size := by omega
  rw [e4] at A
  exact A
end
end Go.Proofs.Ytmmjannkfmiohaa

namespace Go.Proofs.Ytmmjannkfmiohaa
open Go.RowKit
set_option linter.unusedVariables false

section
variable {P : Program} {ops : Array Oper} {md : Region.Mode} {R G : World → World → Prop}

theorem opens_takeR (hR : Rel R) (sub : ∀ {w w' : World}, G w w' → R w w') {N m : Nat} {Z : World → Array Bool → Act → Prop} {E : Act → Prop} {W : World} (hsel : Region.noSelect ops = true) (hB : waitsB md ops N = true)
    (hZ : ∀ W s a, Z W s a → ∀ j ∈ Region.ready md ops s, N ≤ j) {Gb : Array Bool → Bool} (hE : ∀ s a, Gb s = true → E a → opensR R G P md ops N Z m W s a) (ks : List Nat) :
    ∀ (q : List Oper) (s : Array Bool) (a : Act), ks.map (fun k => ops[k]?) = q.map some → (∀ k ∈ ks, k < N) → HeadInv md ops N s → takeB md ops Gb ks s = true → wpGrowR R G P ops W E q a → opensR R G P md ops N Z (ks.length + m) W s a := by
  induction ks with
  | nil =>
    intro q s a hq _ _ hb h
    have : q = [] := by simpa using hq.symm
    subst this
    simpa using hE s a hb h
  | cons k ks ih =>
    intro q s a hq hk inv hb h
    cases q with
    | nil => simp at hq
    | cons o q =>
      simp only [List.map_cons, List.cons.injEq] at hq
      obtain ⟨ho, hq⟩ := hq
      simp only [takeB, Bool.and_eq_true] at hb
      have hr : k ∈ Region.ready md ops s := by simpa using hb.1.1
      have hkn : k < N := hk k (by simp)
      obtain ⟨v, hg, hn⟩ := h
      have e : (k :: ks).length + m = (ks.length + m) + 1 := by simp; omega
      rw [e]
      refine opens_firstR hR sub ho hsel hB hkn hZ _ W s a inv (Region.free_spec ho hb.1.2) hr hg ?_
      exact ih q _ _ hq (fun k' hk' => hk k' (by simp [hk'])) (inv.set hr hkn) hb.2 hn

theorem opens_seqsR {N : Nat} {E : World → Act → Prop} {Z : World → Array Bool → Act → Prop} (hZ : ∀ W s a, Region.seqB md ops (ops.size - N) N s = true → E W a → Z W s a) (cs : List Nat) :
    ∀ (q : List Oper) (W : World) (s : Array Bool) (a : Act), cs.map (fun c => ops[c]?) = q.map some → (∀ c ∈ cs, c < N) → seqL md ops N cs s = true → wpMadesR R G P ops E q W a → opensR R G P md ops N Z cs.length W s a := by
  induction cs with
  | nil =>
    intro q W s a hq _ hs h
    have : q = [] := by simpa using hq.symm
    subst this
    exact hZ W s a hs h
  | cons c cs ih =>
    intro q W s a hq hc hs h
    cases q with
    | nil => simp at hq
    | cons o q =>
      simp only [List.map_cons, List.cons.injEq] at hq
      obtain ⟨ho, hq⟩ := hq
      simp only [seqL, Bool.and_eq_true, decide_eq_true_eq] at hs
      refine ⟨by rw [hs.1]; simp, fun i hi => ?_⟩
      rw [hs.1] at hi
      obtain rfl : i = c := by simpa using hi
      refine ⟨hc i (by simp), fun o' ho' => ?_⟩
      obtain rfl : o' = o := Option.some.inj (ho'.symm.trans ho)
      refine .inr ⟨h.1, fun w1 k1 => madeUponR_mono (fun w2 v _ hp => ?_) (h.2 w1 k1)⟩
      exact ih q w2 _ _ hq (fun c' hc' => hc c' (by simp [hc'])) hs.2 hp

theorem wp_region_takesR (hR : Rel R) (hG : Rel G) (sub : ∀ {w w' : World}, G w w' → R w w') {id : Nat} {Q : Exit → Act → World → Prop} {a : Act} {w : World} {l : List Oper} (N : Nat) (ks cs : List Nat)
    (hm : P.follows .mixedOrders = true) (hB : takesB .any l.toArray N ks cs = true)
    (h : wpGrowR R G P l.toArray w (fun a' => wpMadesR R G P l.toArray (fun W a'' => ∀ w3, G W w3 → wpList P l.toArray Q (l.drop N) a'' w3) (sel l cs) w a') (sel l ks) a) : (Code.region id l.toArray true).wp P Q a w := by
  simp only [takesB, Bool.and_eq_true, decide_eq_true_eq, List.all_eq_true] at hB
  obtain ⟨⟨⟨⟨⟨⟨hsel, hw⟩, hN⟩, hlen⟩, hks⟩, hcs⟩, htake⟩ := hB
  have hN' : N ≤ l.length := by simpa using hN
  have e2 : (l.drop N).length = l.toArray.size - N := by simp
  have inv : HeadInv .any l.toArray N (Array.replicate l.toArray.size false) :=
    ⟨by simp, fun j oj _ hl => (by rw [getD_replicate_false] at hl; cases hl), fun t _ ht => getD_in (by simpa using ht) (getD_replicate_false _ _)⟩
  let E : World → Act → Prop := fun W a => ∀ w3, G W w3 → wpList P l.toArray Q (l.drop N) a w3
  let Z : World → Array Bool → Act → Prop := fun W s a => Region.seqB .any l.toArray (l.toArray.size - N) N s = true ∧ E W a
  have H := opens_takeR hR sub (P := P) (md := .any) (ops := l.toArray) (N := N) (m := cs.length) (Z := Z) (W := w) hsel hw (fun W s a hz => seqB_ready hz.1) (Gb := seqL .any l.toArray N cs) (fun s a' hGb hE =>
      opens_seqsR (R := R) (G := G) (E := E) (fun W s a h1 h2 => ⟨h1, h2⟩) cs (sel l cs) w s a' (sel_some fun c hc => by have := hcs c hc; omega) hcs hGb hE) ks (sel l ks) _ a (sel_some fun k hk => by have := hks k hk; omega) hks inv htake h
  refine wp_region_any hm ?_
  have A := opens_anyR hG sub (Q := Q) (g := l.toArray.size - N) (fun W s a' w' hk hz => by
    have B := wpAny_of_seq (md := .any) (Q' := Q) (l.drop N) N s a' w' (fun j => by simp [List.getElem?_drop]) (by rw [e2]; exact hz.1) (hz.2 w' hk)
    rwa [e2] at B) _ _ _ _ _ (show G w w.drew from hG.drew w) H
  have e4 : ks.length + cs.length + (l.toArray.size - N) = l.toArray.size := by omega
  rw [e4] at A
  exact A
end
end Go.Proofs.Ytmmjannkfmiohaa

namespace Go.Proofs.Ytmmjannkfmiohaa
open Go.RowKit
set_option linter.unusedVariables false

section
variable {P : Program} {ops : Array Oper} {md : Region.Mode} {R G : World → World → Prop}

/-- The plan may be followed; then the rest in its order. -/
def planB (md : Region.Mode) (ops : Array Oper) (N : Nat) : List (Bool × Nat) → Array Bool → Bool
  | [], s => Region.seqB md ops (ops.size - N) N s
  | (true, k) :: rest, s => (Region.ready md ops s).contains k && Region.free md ops s k && planB md ops N rest (s.setIfInBounds k true)
  | (false, k) :: rest, s => decide (Region.ready md ops s = [k]) && planB md ops N rest (s.setIfInBounds k true)
def plansB (md : Region.Mode) (ops : Array Oper) (N : Nat) (ps : List (Bool × Nat)) : Bool :=
  Region.noSelect ops && waitsB md ops N && decide (N ≤ ops.size) && decide (ps.length = N) && ps.all (fun p => decide (p.2 < N)) && planB md ops N ps (Array.replicate ops.size false)
def selP (l : List Oper) (ps : List (Bool × Nat)) : List (Bool × Oper) := ps.filterMap fun p => (l[p.2]?).map fun o => (p.1, o)
def wpPlan (R G : World → World → Prop) (P : Program) (ops : Array Oper) (E : World → Act → Prop) : List (Bool × Oper) → World → Act → Prop
  | [], W, a => E W a
  | (true, o) :: rest, W, a => ∃ v, GrowsR R G P ops W o v a ∧ wpPlan R G P ops E rest W (a.put o.dst v)
  | (false, o) :: rest, W, a => Region.wanted o (yielded ops a.tmps) = true ∧ ∀ w1, G W w1 → madeAtR R P o a w1 fun w2 v => wpPlan R G P ops E rest w2 (a.put o.dst v)
theorem plan_take {E : World → Act → Prop} {W : World} {a : Act} {o : Oper} {rest : List (Bool × Oper)} (b : Bool) (hw : Region.wanted o (yielded ops a.tmps) = b) (hb : b = true)
    (h : ∃ v, (∀ w, R W w → growAtR G P o a w v) ∧ ∀ K : Act → Prop, (∀ a', wpPlan R G P ops E rest W a' → K a') → K (a.put o.dst v)) : wpPlan R G P ops E ((true, o) :: rest) W a := by
  obtain ⟨v, hv, h⟩ := h
  exact ⟨v, .inl ⟨hw.trans hb, hv⟩, h _ fun _ h => h⟩
theorem plan_off {E : World → Act → Prop} {W : World} {a : Act} {o : Oper} {rest : List (Bool × Oper)} (b : Bool) (hw : Region.wanted o (yielded ops a.tmps) = b) (hb : b = false)
    (h : ∀ K : Act → Prop, (∀ a', wpPlan R G P ops E rest W a' → K a') → K (a.put o.dst undef)) : wpPlan R G P ops E ((true, o) :: rest) W a :=
  ⟨undef, .inr ⟨hw.trans hb, rfl⟩, h _ fun _ h => h⟩
theorem plan_made {E : World → Act → Prop} {W : World} {a : Act} {o : Oper} {rest : List (Bool × Oper)} (b : Bool) (hw : Region.wanted o (yielded ops a.tmps) = b) (hb : b = true)
    (h : ∀ w1, G W w1 → madeAtR R P o a w1 fun w2 v => ∀ K : Act → Prop, (∀ a', wpPlan R G P ops E rest w2 a' → K a') → K (a.put o.dst v)) : wpPlan R G P ops E ((false, o) :: rest) W a :=
  ⟨hw.trans hb, fun w1 k1 => madeUponR_mono (fun _ _ _ hk => hk _ fun _ h => h) (h w1 k1)⟩
theorem plan_nil {E : World → Act → Prop} {W : World} {a : Act} (h : E W a) : wpPlan R G P ops E [] W a := h

theorem made_skipR {o : Oper} {a : Act} {w1 w2 : World} {K : World → Value → Prop} (h : (execOp a.eval o).run P w1 = .ok .skip w2) (hr : R w1 w2) (hk : K w2 undef) : madeAtR R P o a w1 K := by
  unfold madeAtR
  rw [h]
  exact ⟨hr, hk⟩

theorem opens_plan (hR : Rel R) (sub : ∀ {w w' : World}, G w w' → R w w') {N : Nat} {Z : World → Array Bool → Act → Prop} {E : World → Act → Prop} (hsel : Region.noSelect ops = true) (hB : waitsB md ops N = true)
    (hZr : ∀ W s a, Z W s a → ∀ j ∈ Region.ready md ops s, N ≤ j) (hZ : ∀ W s a, Region.seqB md ops (ops.size - N) N s = true → E W a → Z W s a) (ps : List (Bool × Nat)) :
    ∀ (q : List (Bool × Oper)) (W : World) (s : Array Bool) (a : Act), ps.map (fun p => (ops[p.2]?).map fun o => (p.1, o)) = q.map some → (∀ p ∈ ps, p.2 < N) → HeadInv md ops N s → planB md ops N ps s = true → wpPlan R G P ops E q W a → opensR R G P md ops N Z ps.length W s a := by
  induction ps with
  | nil =>
    intro q W s a hq _ _ hs h
    have : q = [] := by simpa using hq.symm
    subst this
    exact hZ W s a hs h
  | cons p ps ih =>
    intro q W s a hq hp inv hs h
    cases q with
    | nil => simp at hq
    | cons y q =>
      simp only [List.map_cons, List.cons.injEq] at hq
      obtain ⟨ho, hq⟩ := hq
      obtain ⟨fl, k⟩ := p
      have hkN : k < N := hp (fl, k) (by simp)
      simp only at ho
      obtain ⟨o, hok, he⟩ := Option.map_eq_some_iff.1 ho
      subst he
      cases fl with
      | true =>
        simp only [planB, Bool.and_eq_true] at hs
        have hr : k ∈ Region.ready md ops s := by simpa using hs.1.1
        obtain ⟨v, hg, hn⟩ := h
        rw [List.length_cons]
        refine opens_firstR hR sub hok hsel hB hkN hZr _ W s a inv (Region.free_spec hok hs.1.2) hr hg ?_
        exact ih q W _ _ hq (fun p' hp' => hp p' (by simp [hp'])) (inv.set hr hkN) hs.2 hn
      | false =>
        simp only [planB, Bool.and_eq_true, decide_eq_true_eq] at hs
        have hr : k ∈ Region.ready md ops s := by rw [hs.1]; simp
        refine ⟨by rw [hs.1]; simp, fun i hi => ?_⟩
        rw [hs.1] at hi
        obtain rfl : i = k := by simpa using hi
        refine ⟨hkN, fun o' ho' => ?_⟩
        obtain rfl : o' = o := Option.some.inj (ho'.symm.trans hok)
        refine .inr ⟨h.1, fun w1 k1 => madeUponR_mono (fun w2 v _ hp' => ?_) (h.2 w1 k1)⟩
        exact ih q w2 _ _ hq (fun p' hp' => hp p' (by simp [hp'])) (inv.set hr hkN) hs.2 hp'

theorem selP_some {l : List Oper} : ∀ {ps : List (Bool × Nat)}, (∀ p ∈ ps, p.2 < l.length) → ps.map (fun p => (l.toArray[p.2]?).map fun o => (p.1, o)) = (selP l ps).map some
  | [], _ => rfl
  | p :: ps, h => by
    have hk := h p (by simp)
    have ih := selP_some (l := l) (ps := ps) fun k' hk' => h k' (by simp [hk'])
    simp only [List.map_cons, selP, List.filterMap_cons] at ih ⊢
    rw [List.getElem?_eq_getElem hk]
    simp only [Option.map_some, List.map_cons, List.cons.injEq]
    exact ⟨by simp [hk], ih⟩

theorem wp_region_plan (hR : Rel R) (hG : Rel G) (sub : ∀ {w w' : World}, G w w' → R w w') {id : Nat} {Q : Exit → Act → World → Prop} {a : Act} {w : World} {l : List Oper} (N : Nat) (ps : List (Bool × Nat))
    (hm : P.follows .mixedOrders = true) (hB : plansB .any l.toArray N ps = true)
    (h : wpPlan R G P l.toArray (fun W a'' => ∀ w3, G W w3 → wpList P l.toArray Q (l.drop N) a'' w3) (selP l ps) w a) : (Code.region id l.toArray true).wp P Q a w := by
  simp only [plansB, Bool.and_eq_true, decide_eq_true_eq, List.all_eq_true] at hB
  obtain ⟨⟨⟨⟨⟨hsel, hw⟩, hN⟩, hlen⟩, hps⟩, hplan⟩ := hB
  have hN' : N ≤ l.length := by simpa using hN
  have e2 : (l.drop N).length = l.toArray.size - N := by simp
  have inv : HeadInv .any l.toArray N (Array.replicate l.toArray.size false) :=
    ⟨by simp, fun j oj _ hl => (by rw [getD_replicate_false] at hl; cases hl), fun t _ ht => getD_in (by simpa using ht) (getD_replicate_false _ _)⟩
  let E : World → Act → Prop := fun W a => ∀ w3, G W w3 → wpList P l.toArray Q (l.drop N) a w3
  let Z : World → Array Bool → Act → Prop := fun W s a => Region.seqB .any l.toArray (l.toArray.size - N) N s = true ∧ E W a
  have H := opens_plan (P := P) (G := G) hR sub (md := .any) (ops := l.toArray) (N := N) (Z := Z) (E := E) hsel hw (fun W s a hz => seqB_ready hz.1) (fun W s a h1 h2 => ⟨h1, h2⟩) ps (selP l ps) w _ a (selP_some fun p hp => by have := hps p hp; omega) hps inv hplan h
  refine wp_region_any hm ?_
  have A := opens_anyR hG sub (Q := Q) (g := l.toArray.size - N) (fun W s a' w' hk hz => by
    have B := wpAny_of_seq (md := .any) (Q' := Q) (l.drop N) N s a' w' (fun j => by simp [List.getElem?_drop]) (by rw [e2]; exact hz.1) (hz.2 w' hk)
    rwa [e2] at B) _ _ _ _ _ (show G w w.drew from hG.drew w) H
  have e4 : ps.length + (l.toArray.size - N) = l.toArray.size := by omega
  rw [e4] at A
  exact A
end
end Go.Proofs.Ytmmjannkfmiohaa
