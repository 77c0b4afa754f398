/- Copies of stacks, in whatever later world. The laws' rectangle: a box that is read again and again. Regions whose order is open: what only reads is taken first, in an order of one's own; then calls, one behind the other, then the rest. No conditions on the program. Regions whose order is open, over two classes of worlds: what only reads is taken first, in an order of one's own; then what makes memory or turns what nobody reads, one behind the other, then the rest. No conditions on the program. -/
import Derived.Test.YtejgcheddloffaaTr19
import Derived.Test.YtejgcheddloffaaTr35
import Derived.Test.YtejgcheddloffaaTr42
namespace Go.Proofs.Ytejgcheddloffaa
open Go.RowKit
set_option linter.unusedVariables false

end Go.Proofs.Ytejgcheddloffaa

namespace Go.Proofs.Ytejgcheddloffaa
open Go.RowKit Go.Maps
set_option linter.unusedVariables false

/-- A box with a rectangle. -/
structure Qr (w : World) (b : Nat) (x y p h : Int) : Prop where
  c0 : w.cell? ⟨b, 0, none⟩ = some (.int .i64 x)
  c1 : w.cell? ⟨b, 1, none⟩ = some (.int .i64 y)
  c2 : w.cell? ⟨b, 2, none⟩ = some (.int .i64 p)
  c3 : w.cell? ⟨b, 3, none⟩ = some (.int .i64 h)
  lt : b < w.heap.size
section
variable {w w' : World} {b B lo hi : Nat} {x y p h : Int}
theorem Qr.keep (q : Qr w b x y p h) (k : Below B w w') (hb : b < B) : Qr w' b x y p h :=
  ⟨(k.cell (p := ⟨b, 0, none⟩) hb).trans q.c0, (k.cell (p := ⟨b, 1, none⟩) hb).trans q.c1, (k.cell (p := ⟨b, 2, none⟩) hb).trans q.c2, (k.cell (p := ⟨b, 3, none⟩) hb).trans q.c3, Nat.lt_of_lt_of_le q.lt k.size⟩
theorem Qr.far (q : Qr w b x y p h) (f : Far lo hi w w') (hd : b < lo ∨ hi ≤ b) : Qr w' b x y p h :=
  ⟨(f.cell b 0 q.lt hd).trans q.c0, (f.cell b 1 q.lt hd).trans q.c1, (f.cell b 2 q.lt hd).trans q.c2, (f.cell b 3 q.lt hd).trans q.c3, Nat.lt_of_lt_of_le q.lt f.size⟩
end
theorem qr_new (w : World) (x y p h : Int) (T : TypeId) : Qr (w.alloc (.cells #[.int .i64 x, .int .i64 y, .int .i64 p, .int .i64 h] T)) w.heap.size x y p h := ⟨by simp, by simp, by simp, by simp, by simp⟩
theorem r3_at {w : World} {B : Nat} {v0 v1 v2 : Value} {T : TypeId} (h : w.heap[B]? = some (.cells #[v0, v1, v2] T)) : R3 w B v0 v1 v2 := by
  have hB : B < w.heap.size := (Array.getElem?_eq_some_iff.1 h).1
  exact ⟨by simp [World.cell?, h], by simp [World.cell?, h], by simp [World.cell?, h], fun c => by simp [World.frozen?, h], hB⟩
theorem R3.put {w : World} {b : Nat} {v0 v1 v2 : Value} (h : R3 w b v0 v1 v2) (u0 u1 u2 : Value) : R3 (((w.setCell ⟨b, 0, none⟩ u0).setCell ⟨b, 1, none⟩ u1).setCell ⟨b, 2, none⟩ u2) b u0 u1 u2 := by
  refine ⟨?_, ?_, ?_, fun c => by simpa using h.fr c, by simpa using h.lt⟩
  · rw [cell_set_other (by omega), cell_set_other (by omega)]; exact cell_set_same h.c0
  · rw [cell_set_other (by omega)]; exact cell_set_same ((cell_set_other (by omega)).trans h.c1)
  · exact cell_set_same ((cell_set_other (by omega)).trans ((cell_set_other (by omega)).trans h.c2))
theorem far_put3 {w : World} {b : Nat} (u0 u1 u2 : Value) : Far b (b + 1) w (((w.setCell ⟨b, 0, none⟩ u0).setCell ⟨b, 1, none⟩ u1).setCell ⟨b, 2, none⟩ u2) :=
  (((Far.refl b (b + 1) w).setCell (p := ⟨b, 0, none⟩) (Nat.le_refl _) (Nat.lt_succ_self _) u0).setCell (p := ⟨b, 1, none⟩) (Nat.le_refl _) (Nat.lt_succ_self _) u1).setCell (p := ⟨b, 2, none⟩) (Nat.le_refl _) (Nat.lt_succ_self _) u2
end Go.Proofs.Ytejgcheddloffaa

namespace Go.Proofs.Ytejgcheddloffaa
open Go.RowKit

section
variable {P : Program} {ops : Array Oper} {md : Region.Mode}

/-- Closed facts of a region. -/
def takesB (md : Region.Mode) (ops : Array Oper) (N : Nat) (ks cs : List Nat) : Bool :=
  Region.noSelect ops && waitsB md ops N && decide (N ≤ ops.size) && decide (ks.length + cs.length = N) && ks.all (decide <| · < N) && cs.all (decide <| · < N) && takeB md ops (seqL md ops N cs) ks (Array.replicate ops.size false)

theorem opens_seqs {N : Nat} {E : World → Act → Prop} {Z : World → Array Bool → Act → Prop} (hZ : ∀ W s a, Region.seqB md ops (ops.size - N) N s = true → E W a → Z W s a) (cs : List Nat) :
    ∀ (q : List Oper) (W : World) (s : Array Bool) (a : Act), cs.map (fun c => ops[c]?) = q.map some → (∀ c ∈ cs, c < N) → seqL md ops N cs s = true → wpMades P ops E q W a → opens P md ops N Z cs.length W s a := by
  induction cs with
  | nil =>
    intro q W s a hq _ hs h
    have : q = [] := by simpa using hq.symm
    subst this
    exact hZ W s a hs h
  | cons c cs ih =>
    intro q W s a hq hc hs h
    cases q with
    | nil => simp at hq
    | cons o q =>
      simp only [List.map_cons, List.cons.injEq] at hq
      obtain ⟨ho, hq⟩ := hq
      simp only [seqL, Bool.and_eq_true, decide_eq_true_eq] at hs
      refine ⟨by rw [hs.1]; simp, fun i hi => ?_⟩
      rw [hs.1] at hi
      obtain rfl : i = c := by simpa using hi
      refine ⟨hc i (by simp), fun o' ho' => ?_⟩
      obtain rfl : o' = o := Option.some.inj (ho'.symm.trans ho)
      refine .inr ⟨h.1, fun w1 k1 => madeUpon_mono (fun w2 v _ hp => ?_) (h.2 w1 k1)⟩
      exact ih q w2 _ _ hq (fun c' hc' => hc c' (by simp [hc'])) hs.2 hp

theorem wp_region_takes {id : Nat} {Q : Exit → Act → World → Prop} {a : Act} {w : World} {l : List Oper} (N : Nat) (ks cs : List Nat)
    (hm : P.follows .mixedOrders = true) (hB : takesB .any l.toArray N ks cs = true)
    (h : wpGrow P l.toArray w (fun a' => wpMades P l.toArray (fun W a'' => ∀ w3, Kept W w3 → wpList P l.toArray Q (l.drop N) a'' w3) (sel l cs) w a') (sel l ks) a) : (Code.region id l.toArray true).wp P Q a w := by
  simp only [takesB, Bool.and_eq_true, decide_eq_true_eq, List.all_eq_true] at hB
  obtain ⟨⟨⟨⟨⟨⟨hsel, hw⟩, hN⟩, hlen⟩, hks⟩, hcs⟩, htake⟩ := hB
  have hN' : N ≤ l.length := by simpa using hN
  have e2 : (l.drop N).length = l.toArray.size - N := by simp
  have inv : HeadInv .any l.toArray N (Array.replicate l.toArray.size false) :=
    ⟨by simp, fun j oj _ hl => (by rw [getD_replicate_false] at hl; cases hl), fun t _ ht => getD_in (by simpa using ht) (getD_replicate_false _ _)⟩
  let E : World → Act → Prop := fun W a => ∀ w3, Kept W w3 → wpList P l.toArray Q (l.drop N) a w3
  let Z : World → Array Bool → Act → Prop := fun W s a => Region.seqB .any l.toArray (l.toArray.size - N) N s = true ∧ E W a
  have H := opens_take (P := P) (md := .any) (ops := l.toArray) (N := N) (m := cs.length) (Z := Z) (W := w) hsel hw (fun W s a hz => seqB_ready hz.1) (G := seqL .any l.toArray N cs) (fun s a' hG hE =>
      opens_seqs (E := E) (fun W s a h1 h2 => ⟨h1, h2⟩) cs (sel l cs) w s a' (sel_some fun c hc => by have := hcs c hc; omega) hcs hG hE) ks (sel l ks) _ a (sel_some fun k hk => by have := hks k hk; omega) hks inv htake h
  refine wp_region_any hm ?_
  have A := opens_any (Q := Q) (g := l.toArray.size - N) (fun W s a' w' hk hz => by
    have B := wpAny_of_seq (md := .any) (Q' := Q) (l.drop N) N s a' w' (fun j => by simp [List.getElem?_drop]) (by rw [e2]; exact hz.1) (hz.2 w' hk)
    rwa [e2] at B) _ _ _ _ _ (show Kept w w.drew from (Below.refl _ _).drew) H
  have e4 : ks.length + cs.length + (l.toArray.size - N) = l.toArray.size := by omega
  rw [e4] at A
  exact A
end
end Go.Proofs.Ytejgcheddloffaa

namespace Go.Proofs.Ytejgcheddloffaa
open Go.RowKit
set_option linter.unusedVariables false

section
variable {P : Program} {ops : Array Oper} {md : Region.Mode} {R G : World → World → Prop}

theorem opens_takeR (hR : Rel R) (sub : ∀ {w w' : World}, G w w' → R w w') {N m : Nat} {Z : World → Array Bool → Act → Prop} {E : Act → Prop} {W : World} (hsel : Region.noSelect ops = true) (hB : waitsB md ops N = true)
    (hZ : ∀ W s a, Z W s a → ∀ j ∈ Region.ready md ops s, N ≤ j) {Gb : Array Bool → Bool} (hE : ∀ s a, Gb s = true → E a → opensR R G P md ops N Z m W s a) (ks : List Nat) :
    ∀ (q : List Oper) (s : Array Bool) (a : Act), ks.map (fun k => ops[k]?) = q.map some → (∀ k ∈ ks, k < N) → HeadInv md ops N s → takeB md ops Gb ks s = true → wpGrowR R G P ops W E q a → opensR R G P md ops N Z (ks.length + m) W s a := by
  induction ks with
  | nil =>
    intro q s a hq _ _ hb h
    have : q = [] := by simpa using hq.symm
    subst this
    simpa using hE s a hb h
  | cons k ks ih =>
    intro q s a hq hk inv hb h
    cases q with
    | nil => simp at hq
    | cons o q =>
      simp only [List.map_cons, List.cons.injEq] at hq
      obtain ⟨ho, hq⟩ := hq
      simp only [takeB, Bool.and_eq_true] at hb
      have hr : k ∈ Region.ready md ops s := by simpa using hb.1.1
      have hkn : k < N := hk k (by simp)
      obtain ⟨v, hg, hn⟩ := h
      have e : (k :: ks).length + m = (ks.length + m) + 1 := by simp; omega
      rw [e]
      refine opens_firstR hR sub ho hsel hB hkn hZ _ W s a inv (Region.free_spec ho hb.1.2) hr hg ?_
      exact ih q _ _ hq (fun k' hk' => hk k' (by simp [hk'])) (inv.set hr hkn) hb.2 hn

theorem opens_seqsR {N : Nat} {E : World → Act → Prop} {Z : World → Array Bool → Act → Prop} (hZ : ∀ W s a, Region.seqB md ops (ops.size - N) N s = true → E W a → Z W s a) (cs : List Nat) :
    ∀ (q : List Oper) (W : World) (s : Array Bool) (a : Act), cs.map (fun c => ops[c]?) = q.map some → (∀ c ∈ cs, c < N) → seqL md ops N cs s = true → wpMadesR R G P ops E q W a → opensR R G P md ops N Z cs.length W s a := by
  induction cs with
  | nil =>
    intro q W s a hq _ hs h
    have : q = [] := by simpa using hq.symm
    subst this
    exact hZ W s a hs h
  | cons c cs ih =>
    intro q W s a hq hc hs h
    cases q with
    | nil => simp at hq
    | cons o q =>
      simp only [List.map_cons, List.cons.injEq] at hq
      obtain ⟨ho, hq⟩ := hq
      simp only [seqL, Bool.and_eq_true, decide_eq_true_eq] at hs
      refine ⟨by rw [hs.1]; simp, fun i hi => ?_⟩
      rw [hs.1] at hi
      obtain rfl : i = c := by simpa using hi
      refine ⟨hc i (by simp), fun o' ho' => ?_⟩
      obtain rfl : o' = o := Option.some.inj (ho'.symm.trans ho)
      refine .inr ⟨h.1, fun w1 k1 => madeUponR_mono (fun w2 v _ hp => ?_) (h.2 w1 k1)⟩
      exact ih q w2 _ _ hq (fun c' hc' => hc c' (by simp [hc'])) hs.2 hp

theorem wp_region_takesR (hR : Rel R) (hG : Rel G) (sub : ∀ {w w' : World}, G w w' → R w w') {id : Nat} {Q : Exit → Act → World → Prop} {a : Act} {w : World} {l : List Oper} (N : Nat) (ks cs : List Nat)
    (hm : P.follows .mixedOrders = true) (hB : takesB .any l.toArray N ks cs = true)
    (h : wpGrowR R G P l.toArray w (fun a' => wpMadesR R G P l.toArray (fun W a'' => ∀ w3, G W w3 → wpList P l.toArray Q (l.drop N) a'' w3) (sel l cs) w a') (sel l ks) a) : (Code.region id l.toArray true).wp P Q a w := by
  simp only [takesB, Bool.and_eq_true, decide_eq_true_eq, List.all_eq_true] at hB
  obtain ⟨⟨⟨⟨⟨⟨hsel, hw⟩, hN⟩, hlen⟩, hks⟩, hcs⟩, htake⟩ := hB
  have hN' : N ≤ l.length := by simpa using hN
  have e2 : (l.drop N).length = l.toArray.size - N := by simp
  have inv : HeadInv .any l.toArray N (Array.replicate l.toArray.size false) :=
    ⟨by simp, fun j oj _ hl => (by rw [getD_replicate_false] at hl; cases hl), fun t _ ht => getD_in (by simpa using ht) (getD_replicate_false _ _)⟩
  let E : World → Act → Prop := fun W a => ∀ w3, G W w3 → wpList P l.toArray Q (l.drop N) a w3
  let Z : World → Array Bool → Act → Prop := fun W s a => Region.seqB .any l.toArray (l.toArray.size - N) N s = true ∧ E W a
  have H := opens_takeR hR sub (P := P) (md := .any) (ops := l.toArray) (N := N) (m := cs.length) (Z := Z) (W := w) hsel hw (fun W s a hz => seqB_ready hz.1) (Gb := seqL .any l.toArray N cs) (fun s a' hGb hE =>
      opens_seqsR (R := R) (G := G) (E := E) (fun W s a h1 h2 => ⟨h1, h2⟩) cs (sel l cs) w s a' (sel_some fun c hc => by have := hcs c hc; omega) hcs hGb hE) ks (sel l ks) _ a (sel_some fun k hk => by have := hks k hk; omega) hks inv htake h
  refine wp_region_any hm ?_
  have A := opens_anyR hG sub (Q := Q) (g := l.toArray.size - N) (fun W s a' w' hk hz => by
    have B := wpAny_of_seq (md := .any) (Q' := Q) (l.drop N) N s a' w' (fun j => by simp [List.getElem?_drop]) (by rw [e2]; exact hz.1) (hz.2 w' hk)
    rwa [e2] at B) _ _ _ _ _ (show G w w.drew from hG.drew w) H
  have e4 : ks.length + cs.length + (l.toArray.size - N) = l.toArray.size := by omega
  rw [e4] at A
  exact A
end
end Go.Proofs.Ytejgcheddloffaa
