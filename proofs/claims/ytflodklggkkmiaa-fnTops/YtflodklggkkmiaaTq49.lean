/- FnTops: what a raised window is; what its walk carries along. Regions whose order is open: what only reads is taken first, in an order of one's own; then calls, one behind the other, then the rest. No conditions on the program. Regions whose order is open, over two classes of worlds: what only reads is taken first, in an order of one's own; then what makes memory or turns what nobody reads, one behind the other, then the rest. No conditions on the program. Regions whose order is open, over two classes of worlds, by a plan of one's own: some operations only read and are taken as soon as they may come up, the others come up alone, one behind the other. No conditions on the program. -/
import Derived.Test.YtflodklggkkmiaaTq22
import Derived.Test.YtflodklggkkmiaaTq24
import Derived.Test.YtflodklggkkmiaaTq25
import Derived.Test.YtflodklggkkmiaaTq31
import Derived.Test.YtflodklggkkmiaaTq33
import Derived.Test.YtflodklggkkmiaaTq48
import Derived.Test.YtflodklggkkmiaaTq38
import Derived.Test.YtflodklggkkmiaaTq45
namespace Go.Proofs.Ytflodklggkkmiaa
open Go.RowKit Go.Maps
set_option linter.unusedVariables false

theorem raise_top {L M : List Wn} {id : Int} (h : askW (L.map Wn.ct) id = 0) (e : M.map Wn.ct = raiseP (L.map Wn.ct) id) : ∃ (A : List Wn) (t : Wn), M = A ++ [t] ∧ t.i = id ∧ M.length = L.length ∧ stF (M.map Wn.ct) = 0 ∧ (t.m = true → topV (M.map Wn.ct) t.x t.y = id) := by
  have hs : stF (L.map Wn.ct) = 0 := Classical.byContradiction fun hb => absurd h (askW_ne (.inl hb))
  obtain ⟨X, r, Y, hf⟩ : ∃ X r Y, Fst id L X r Y := (fst_or id L).resolve_left fun hb => absurd h (askW_ne (.inr hb))
  rw [raiseP_yes hs hf] at e
  have hl : M.length = L.length := by
    have := congrArg List.length e
    simp at this
    rw [hf.eq]
    simp
    omega
  rcases List.eq_nil_or_concat M with hM | ⟨A, t, hM⟩
  · subst hM
    simp at e
  · rw [List.concat_eq_append] at hM
    subst hM
    have e2 : A.map Wn.ct = X.map Wn.ct ++ Y.map Wn.ct ∧ t.ct = r.ct := by
      simp only [List.map_append, List.map_cons, List.map_nil] at e
      have := List.append_inj' e rfl
      exact ⟨this.1, by simpa using this.2⟩
    have hst : stF ((A ++ [t]).map Wn.ct) = 0 := by
      rw [e]
      obtain ⟨i1, i2⟩ := stF_ok hs
      have hperm : (X.map Wn.ct ++ Y.map Wn.ct ++ [r.ct]).Perm (L.map Wn.ct) := by
        rw [hf.eq]
        simp only [List.map_append, List.map_cons, List.append_assoc]
        exact List.Perm.append_left _ (List.perm_append_singleton _ _)
      have hI := hperm.map Wc.i
      obtain ⟨a, b⟩ := idsF_ok i1
      rw [stF_ws (idsF_mk (by rw [hI.length_eq]; exact idsF_len i1) (fun x hx => a x (hI.mem_iff.1 hx)) (hI.nodup_iff.2 b))]
      exact wsF_all fun c hc => wsF_mem i2 c (hperm.mem_iff.1 hc)
    have hti : t.i = id := by
      have : t.ct.i = r.ct.i := by rw [e2.2]
      exact this.trans hf.at'
    refine ⟨A, t, rfl, hti, hl, hst, fun hm => ?_⟩
    obtain ⟨-, -, w1, w2⟩ := rfB_no (st_rect hst t (by simp))
    have T : Top t.x t.y (A ++ [t]) A t [] := ⟨rfl, by unfold hitW inB; rw [hm]; simp; omega, fun v h => by cases h⟩
    rw [(top_some hst T).2, hti]

theorem ansT {z v : Int} {P : List Wc} {n : Nat} {w w' : World} {e : Ending} (h : SAns z v P n w e w') : ∃ (s : Option Addr) (c : Nat) (M : List Wn), e = .returned (.agg #[.int .i64 z, .int .i64 v, .slice s M.length c]) ∧ M.map Wn.ct = P ∧ Ws w' 0 w'.heap.size s M ∧ Below w.heap.size w w' := by
  obtain ⟨s, c, M, he, h1, h2, h3, h4⟩ := h
  exact ⟨s, c, M, by rw [he, h2], h1, h3.ws.wide (Nat.zero_le _) (Nat.le_refl _), h4⟩
theorem Bytes.upT {w w' : World} {a : Option Addr} {len : Nat} {f : Nat → Int} (h : Bytes w w.heap.size a len f) (k : Below w.heap.size w w') : Bytes w' w'.heap.size a len f := by
  have h2 := h.stay (Nat.le_refl _) (Turn.of_below (b := w.heap.size) k) (Nat.le_refl _)
  rcases h2 with h | ⟨xb, xo, ha, hx, hc⟩
  · exact .inl h
  · exact .inr ⟨xb, xo, ha, Nat.lt_of_lt_of_le hx k.size, hc⟩
theorem Ws.up {w w' : World} {so : Option Addr} {L : List Wn} (h : Ws w 0 w.heap.size so L) (k : Below w.heap.size w w') : Ws w' 0 w'.heap.size so L := (h.keep k (Nat.le_refl _)).wide (Nat.le_refl _) k.size
theorem rbT_new (w : World) (v0 v1 : Value) (T : TypeId) : Rb (w.alloc (.cells #[v0, v1] T)) w.heap.size v0 v1 := ⟨by simp, by simp, by simp, by simp, by simp⟩

set_option maxHeartbeats 400000 in
theorem bigT (w : World) (a : Option Addr) (len cap : Nat) (hl : len ≤ maxLen) :
    Calls Try.prog 5 #[.slice a len cap] w fun e w' => e = .returned (.bool (decide ((1048576 : Int) < (len : Int)))) ∧ w' = w := by
  go_enter Try.func5, Try.ntmps5
  go_wp2
  go_returns
  exact ⟨rfl, rfl⟩
theorem fV0 (c v : Int) (w : World) : Sem.run Try.prog (Instr.field 41 (.agg #[.int .i64 c, .int .i64 v]) 0) w = .ok (.int .i64 c) w := by kernel_rfl
theorem fV1 (c v : Int) (w : World) : Sem.run Try.prog (Instr.field 41 (.agg #[.int .i64 c, .int .i64 v]) 1) w = .ok (.int .i64 v) w := by kernel_rfl
theorem fV2 (c v : Int) (s : Value) (w : World) : Sem.run Try.prog (Instr.field 30 (.agg #[.int .i64 c, .int .i64 v, s]) 0) w = .ok (.int .i64 c) w := by kernel_rfl
theorem fV3 (c v : Int) (s : Value) (w : World) : Sem.run Try.prog (Instr.field 30 (.agg #[.int .i64 c, .int .i64 v, s]) 2) w = .ok s w := by kernel_rfl

set_option maxHeartbeats 1000000 in
theorem drawRaise_any (w : World) (a : Option Addr) (len cap : Nat) (f : Nat → Int) (hB : Bytes w w.heap.size a len f) (hl : len ≤ 1048576) :
    Calls Try.prog 21 #[.slice a len cap] w (DrawW w (fun vs => ∃ v1 : Int, vs = #[.int .i64 v1])) := by
  have D := hideP (drawDrop_any w a len cap f hB hl)
  clear hB
  go_enter Try.func21, Try.ntmps21
  go_wp2_with fail
  refine Calls.mono D.out ?_
  rintro e w1 ⟨so, sc, M, vs, rfl, ⟨v1, rfl⟩, hM, hz, k, W⟩
  simp only [List.append_toArray, List.singleton_append]
  have K := hideP k
  have HW := hideP W
  clear k W D
  go_wp2
  go_returns
  exact ⟨so, sc, M, #[.int .i64 v1], rfl, ⟨_, rfl⟩, hM, hz, K.out, HW.out⟩

/-- What the walk carries along: four stacks that were drawn, the four answers. -/
structure US (w W : World) (s1 : Option Addr) (L1 : List Wn) (s2 : Option Addr) (L2 : List Wn) (s3 : Option Addr) (L3 : List Wn) (s4 : Option Addr) (L4 : List Wn) (b1 : Nat) (z1 v1 : Int) (b2 : Nat) (z2 : Int) (q2 : Option Addr) (d2 : Nat) (M2 : List Wn) (b3 : Nat) (z3 : Int) (q3 : Option Addr) (d3 : Nat) (M3 : List Wn) (b4 : Nat) (z4 : Int) (q4 : Option Addr) (d4 : Nat) (M4 : List Wn) : Prop where
  k : Below w.heap.size w W
  l1 : Ws W 0 W.heap.size s1 L1
  l2 : Ws W 0 W.heap.size s2 L2
  l3 : Ws W 0 W.heap.size s3 L3
  l4 : Ws W 0 W.heap.size s4 L4
  m2 : Ws W 0 W.heap.size q2 M2
  m3 : Ws W 0 W.heap.size q3 M3
  m4 : Ws W 0 W.heap.size q4 M4
  r1 : Rb W b1 (.int .i64 z1) (.int .i64 v1)
  r2 : R3 W b2 (.int .i64 z2) (.int .i64 0) (.slice q2 M2.length d2)
  r3 : R3 W b3 (.int .i64 z3) (.int .i64 0) (.slice q3 M3.length d3)
  r4 : R3 W b4 (.int .i64 z4) (.int .i64 0) (.slice q4 M4.length d4)
theorem US.keep {w W W' : World} {s1 s2 s3 s4 q2 q3 q4 : Option Addr} {L1 L2 L3 L4 M2 M3 M4 : List Wn} {b1 b2 b3 b4 d2 d3 d4 : Nat} {z1 v1 z2 z3 z4 : Int} (h : US w W s1 L1 s2 L2 s3 L3 s4 L4 b1 z1 v1 b2 z2 q2 d2 M2 b3 z3 q3 d3 M3 b4 z4 q4 d4 M4) (k : Below W.heap.size W W') : US w W' s1 L1 s2 L2 s3 L3 s4 L4 b1 z1 v1 b2 z2 q2 d2 M2 b3 z3 q3 d3 M3 b4 z4 q4 d4 M4 :=
  ⟨h.k.trans (k.mono h.k.size), h.l1.up k, h.l2.up k, h.l3.up k, h.l4.up k, h.m2.up k, h.m3.up k, h.m4.up k, h.r1.keep k h.r1.lt, h.r2.keep k h.r2.lt, h.r3.keep k h.r3.lt, h.r4.keep k h.r4.lt⟩
end Go.Proofs.Ytflodklggkkmiaa

namespace Go.Proofs.Ytflodklggkkmiaa
open Go.RowKit

section
variable {P : Program} {ops : Array Oper} {md : Region.Mode}

/-- Closed facts of a region. -/
def takesB (md : Region.Mode) (ops : Array Oper) (N : Nat) (ks cs : List Nat) : Bool :=
  Region.noSelect ops && waitsB md ops N && decide (N ≤ ops.size) && decide (ks.length + cs.length = N) && ks.all (decide <| · < N) && cs.all (decide <| · < N) && takeB md ops (seqL md ops N cs) ks (Array.replicate ops.size false)

theorem opens_seqs {N : Nat} {E : World → Act → Prop} {Z : World → Array Bool → Act → Prop} (hZ : ∀ W s a, Region.seqB md ops (ops.size - N) N s = true → E W a → Z W s a) (cs : List Nat) :
    ∀ (q : List Oper) (W : World) (s : Array Bool) (a : Act), cs.map (fun c => ops[c]?) = q.map some → (∀ c ∈ cs, c < N) → seqL md ops N cs s = true → wpMades P ops E q W a → opens P md ops N Z cs.length W s a := by
  induction cs with
  | nil =>
    intro q W s a hq _ hs h
    have : q = [] := by simpa using hq.symm
    subst this
    exact hZ W s a hs h
  | cons c cs ih =>
    intro q W s a hq hc hs h
    cases q with
    | nil => simp at hq
    | cons o q =>
      simp only [List.map_cons, List.cons.injEq] at hq
      obtain ⟨ho, hq⟩ := hq
      simp only [seqL, Bool.and_eq_true, decide_eq_true_eq] at hs
      refine ⟨by rw [hs.1]; simp, fun i hi => ?_⟩
      rw [hs.1] at hi
      obtain rfl : i = c := by simpa using hi
      refine ⟨hc i (by simp), fun o' ho' => ?_⟩
      obtain rfl : o' = o := Option.some.inj (ho'.symm.trans ho)
      refine .inr ⟨h.1, fun w1 k1 => madeUpon_mono (fun w2 v _ hp => ?_) (h.2 w1 k1)⟩
      exact ih q w2 _ _ hq (fun c' hc' => hc c' (by simp [hc'])) hs.2 hp

theorem wp_region_takes {id : Nat} {Q : Exit → Act → World → Prop} {a : Act} {w : World} {l : List Oper} (N : Nat) (ks cs : List Nat)
    (hm : P.follows .mixedOrders = true) (hB : takesB .any l.toArray N ks cs = true)
    (h : wpGrow P l.toArray w (fun a' => wpMades P l.toArray (fun W a'' => ∀ w3, Kept W w3 → wpList P l.toArray Q (l.drop N) a'' w3) (sel l cs) w a') (sel l ks) a) : (Code.region id l.toArray true).wp P Q a w := by
  simp only [takesB, Bool.and_eq_true, decide_eq_true_eq, List.all_eq_true] at hB
  obtain ⟨⟨⟨⟨⟨⟨hsel, hw⟩, hN⟩, hlen⟩, hks⟩, hcs⟩, htake⟩ := hB
  have hN' : N ≤ l.length := by simpa using hN
  have e2 : (l.drop N).length = l.toArray.size - N := by simp
  have inv : HeadInv .any l.toArray N (Array.replicate l.toArray.size false) :=
    ⟨by simp, fun j oj _ hl => (by rw [getD_replicate_false] at hl; cases hl), fun t _ ht => getD_in (by simpa using ht) (getD_replicate_false _ _)⟩
  let E : World → Act → Prop := fun W a => ∀ w3, Kept W w3 → wpList P l.toArray Q (l.drop N) a w3
  let Z : World → Array Bool → Act → Prop := fun W s a => Region.seqB .any l.toArray (l.toArray.size - N) N s = true ∧ E W a
  have H := opens_take (P := P) (md := .any) (ops := l.toArray) (N := N) (m := cs.length) (Z := Z) (W := w) hsel hw (fun W s a hz => seqB_ready hz.1) (G := seqL .any l.toArray N cs) (fun s a' hG hE =>
      opens_seqs (E := E) (fun W s a h1 h2 => ⟨h1, h2⟩) cs (sel l cs) w s a' (sel_some fun c hc => by have := hcs c hc; omega) hcs hG hE) ks (sel l ks) _ a (sel_some fun k hk => by have := hks k hk; omega) hks inv htake h
  refine wp_region_any hm ?_
  have A := opens_any (Q := Q) (g := l.toArray.size - N) (fun W s a' w' hk hz => by
    have B := wpAny_of_seq (md := .any) (Q' := Q) (l.drop N) N s a' w' (fun j => by simp [List.getElem?_drop]) (by rw [e2]; exact hz.1) (hz.2 w' hk)
    rwa [e2] at B) _ _ _ _ _ (show Kept w w.drew from (Below.refl _ _).drew) H
  have e4 : ks.length + cs.length + (l.toArray.size - N) = l.toArray.size := by omega
  rw [e4] at A
  exact A
end
end Go.Proofs.Ytflodklggkkmiaa

namespace Go.Proofs.Ytflodklggkkmiaa
open Go.RowKit
set_option linter.unusedVariables false

section
variable {P : Program} {ops : Array Oper} {md : Region.Mode} {R G : World → World → Prop}

theorem opens_takeR (hR : Rel R) (sub : ∀ {w w' : World}, G w w' → R w w') {N m : Nat} {Z : World → Array Bool → Act → Prop} {E : Act → Prop} {W : World} (hsel : Region.noSelect ops = true) (hB : waitsB md ops N = true)
    (hZ : ∀ W s a, Z W s a → ∀ j ∈ Region.ready md ops s, N ≤ j) {Gb : Array Bool → Bool} (hE : ∀ s a, Gb s = true → E a → opensR R G P md ops N Z m W s a) (ks : List Nat) :
    ∀ (q : List Oper) (s : Array Bool) (a : Act), ks.map (fun k => ops[k]?) = q.map some → (∀ k ∈ ks, k < N) → HeadInv md ops N s → takeB md ops Gb ks s = true → wpGrowR R G P ops W E q a → opensR R G P md ops N Z (ks.length + m) W s a := by
  induction ks with
  | nil =>
    intro q s a hq _ _ hb h
    have : q = [] := by simpa using hq.symm
    subst this
    simpa using hE s a hb h
  | cons k ks ih =>
    intro q s a hq hk inv hb h
    cases q with
    | nil => simp at hq
    | cons o q =>
      simp only [List.map_cons, List.cons.injEq] at hq
      obtain ⟨ho, hq⟩ := hq
      simp only [takeB, Bool.and_eq_true] at hb
      have hr : k ∈ Region.ready md ops s := by simpa using hb.1.1
      have hkn : k < N := hk k (by simp)
      obtain ⟨v, hg, hn⟩ := h
      have e : (k :: ks).length + m = (ks.length + m) + 1 := by simp; omega
      rw [e]
      refine opens_firstR hR sub ho hsel hB hkn hZ _ W s a inv (Region.free_spec ho hb.1.2) hr hg ?_
      exact ih q _ _ hq (fun k' hk' => hk k' (by simp [hk'])) (inv.set hr hkn) hb.2 hn

theorem opens_seqsR {N : Nat} {E : World → Act → Prop} {Z : World → Array Bool → Act → Prop} (hZ : ∀ W s a, Region.seqB md ops (ops.size - N) N s = true → E W a → Z W s a) (cs : List Nat) :
    ∀ (q : List Oper) (W : World) (s : Array Bool) (a : Act), cs.map (fun c => ops[c]?) = q.map some → (∀ c ∈ cs, c < N) → seqL md ops N cs s = true → wpMadesR R G P ops E q W a → opensR R G P md ops N Z cs.length W s a := by
  induction cs with
  | nil =>
    intro q W s a hq _ hs h
    have : q = [] := by simpa using hq.symm
    subst this
    exact hZ W s a hs h
  | cons c cs ih =>
    intro q W s a hq hc hs h
    cases q with
    | nil => simp at hq
    | cons o q =>
      simp only [List.map_cons, List.cons.injEq] at hq
      obtain ⟨ho, hq⟩ := hq
      simp only [seqL, Bool.and_eq_true, decide_eq_true_eq] at hs
      refine ⟨by rw [hs.1]; simp, fun i hi => ?_⟩
      rw [hs.1] at hi
      obtain rfl : i = c := by simpa using hi
      refine ⟨hc i (by simp), fun o' ho' => ?_⟩
      obtain rfl : o' = o := Option.some.inj (ho'.symm.trans ho)
      refine .inr ⟨h.1, fun w1 k1 => madeUponR_mono (fun w2 v _ hp => ?_) (h.2 w1 k1)⟩
      exact ih q w2 _ _ hq (fun c' hc' => hc c' (by simp [hc'])) hs.2 hp

theorem wp_region_takesR (hR : Rel R) (hG : Rel G) (sub : ∀ {w w' : World}, G w w' → R w w') {id : Nat} {Q : Exit → Act → World → Prop} {a : Act} {w : World} {l : List Oper} (N : Nat) (ks cs : List Nat)
    (hm : P.follows .mixedOrders = true) (hB : takesB .any l.toArray N ks cs = true)
    (h : wpGrowR R G P l.toArray w (fun a' => wpMadesR R G P l.toArray (fun W a'' => ∀ w3, G W w3 → wpList P l.toArray Q (l.drop N) a'' w3) (sel l cs) w a') (sel l ks) a) : (Code.region id l.toArray true).wp P Q a w := by
  simp only [takesB, Bool.and_eq_true, decide_eq_true_eq, List.all_eq_true] at hB
  obtain ⟨⟨⟨⟨⟨⟨hsel, hw⟩, hN⟩, hlen⟩, hks⟩, hcs⟩, htake⟩ := hB
  have hN' : N ≤ l.length := by simpa using hN
  have e2 : (l.drop N).length = l.toArray.size - N := by simp
  have inv : HeadInv .any l.toArray N (Array.replicate l.toArray.size false) :=
    ⟨by simp, fun j oj _ hl => (by rw [getD_replicate_false] at hl; cases hl), fun t _ ht => getD_in (by simpa using ht) (getD_replicate_false _ _)⟩
  let E : World → Act → Prop := fun W a => ∀ w3, G W w3 → wpList P l.toArray Q (l.drop N) a w3
  let Z : World → Array Bool → Act → Prop := fun W s a => Region.seqB .any l.toArray (l.toArray.size - N) N s = true ∧ E W a
  have H := opens_takeR hR sub (P := P) (md := .any) (ops := l.toArray) (N := N) (m := cs.length) (Z := Z) (W := w) hsel hw (fun W s a hz => seqB_ready hz.1) (Gb := seqL .any l.toArray N cs) (fun s a' hGb hE =>
      opens_seqsR (R := R) (G := G) (E := E) (fun W s a h1 h2 => ⟨h1, h2⟩) cs (sel l cs) w s a' (sel_some fun c hc => by have := hcs c hc; omega) hcs hGb hE) ks (sel l ks) _ a (sel_some fun k hk => by have := hks k hk; omega) hks inv htake h
  refine wp_region_any hm ?_
  have A := opens_anyR hG sub (Q := Q) (g := l.toArray.size - N) (fun W s a' w' hk hz => by
    have B := wpAny_of_seq (md := .any) (Q' := Q) (l.drop N) N s a' w' (fun j => by simp [List.getElem?_drop]) (by rw [e2]; exact hz.1) (hz.2 w' hk)
    rwa [e2] at B) _ _ _ _ _ (show G w w.drew from hG.drew w) H
  have e4 : ks.length + cs.length + (l.toArray.size - N) = l.toArray.size := by omega
  rw [e4] at A
  exact A
end
end Go.Proofs.Ytflodklggkkmiaa

namespace Go.Proofs.Ytflodklggkkmiaa
open Go.RowKit
set_option linter.unusedVariables false

section
variable {P : Program} {ops : Array Oper} {md : Region.Mode} {R G : World → World → Prop}

/-- The plan may be followed; then the rest in its order. -/
def planB (md : Region.Mode) (ops : Array Oper) (N : Nat) : List (Bool × Nat) → Array Bool → Bool
  | [], s => Region.seqB md ops (ops.size - N) N s
  | (true, k) :: rest, s => (Region.ready md ops s).contains k && Region.free md ops s k && planB md ops N rest (s.setIfInBounds k true)
  | (false, k) :: rest, s => decide (Region.ready md ops s = [k]) && planB md ops N rest (s.setIfInBounds k true)
def plansB (md : Region.Mode) (ops : Array Oper) (N : Nat) (ps : List (Bool × Nat)) : Bool :=
  Region.noSelect ops && waitsB md ops N && decide (N ≤ ops.size) && decide (ps.length = N) && ps.all (fun p => decide (p.2 < N)) && planB md ops N ps (Array.replicate ops.size false)
def selP (l : List Oper) (ps : List (Bool × Nat)) : List (Bool × Oper) := ps.filterMap fun p => (l[p.2]?).map fun o => (p.1, o)
def wpPlan (R G : World → World → Prop) (P : Program) (ops : Array Oper) (E : World → Act → Prop) : List (Bool × Oper) → World → Act → Prop
  | [], W, a => E W a
  | (true, o) :: rest, W, a => ∃ v, GrowsR R G P ops W o v a ∧ wpPlan R G P ops E rest W (a.put o.dst v)
  | (false, o) :: rest, W, a => Region.wanted o (yielded ops a.tmps) = true ∧ ∀ w1, G W w1 → madeAtR R P o a w1 fun w2 v => wpPlan R G P ops E rest w2 (a.put o.dst v)
theorem plan_take {E : World → Act → Prop} {W : World} {a : Act} {o : Oper} {rest : List (Bool × Oper)} (b : Bool) (hw : Region.wanted o (yielded ops a.tmps) = b) (hb : b = true)
    (h : ∃ v, (∀ w, R W w → growAtR G P o a w v) ∧ ∀ K : Act → Prop, (∀ a', wpPlan R G P ops E rest W a' → K a') → K (a.put o.dst v)) : wpPlan R G P ops E ((true, o) :: rest) W a := by
  obtain ⟨v, hv, h⟩ := h
  exact ⟨v, .inl ⟨hw.trans hb, hv⟩, h _ fun _ h => h⟩
theorem plan_off {E : World → Act → Prop} {W : World} {a : Act} {o : Oper} {rest : List (Bool × Oper)} (b : Bool) (hw : Region.wanted o (yielded ops a.tmps) = b) (hb : b = false)
    (h : ∀ K : Act → Prop, (∀ a', wpPlan R G P ops E rest W a' → K a') → K (a.put o.dst undef)) : wpPlan R G P ops E ((true, o) :: rest) W a :=
  ⟨undef, .inr ⟨hw.trans hb, rfl⟩, h _ fun _ h => h⟩
theorem plan_made {E : World → Act → Prop} {W : World} {a : Act} {o : Oper} {rest : List (Bool × Oper)} (b : Bool) (hw : Region.wanted o (yielded ops a.tmps) = b) (hb : b = true)
    (h : ∀ w1, G W w1 → madeAtR R P o a w1 fun w2 v => ∀ K : Act → Prop, (∀ a', wpPlan R G P ops E rest w2 a' → K a') → K (a.put o.dst v)) : wpPlan R G P ops E ((false, o) :: rest) W a :=
  ⟨hw.trans hb, fun w1 k1 => madeUponR_mono (fun _ _ _ hk => hk _ fun _ h => h) (h w1 k1)⟩
theorem plan_nil {E : World → Act → Prop} {W : World} {a : Act} (h : E W a) : wpPlan R G P ops E [] W a := h

theorem made_skipR {o : Oper} {a : Act} {w1 w2 : World} {K : World → Value → Prop} (h : (execOp a.eval o).run P w1 = .ok .skip w2) (hr : R w1 w2) (hk : K w2 undef) : madeAtR R P o a w1 K := by
  unfold madeAtR
  rw [h]
  exact ⟨hr, hk⟩

theorem opens_plan (hR : Rel R) (sub : ∀ {w w' : World}, G w w' → R w w') {N : Nat} {Z : World → Array Bool → Act → Prop} {E : World → Act → Prop} (hsel : Region.noSelect ops = true) (hB : waitsB md ops N = true)
    (hZr : ∀ W s a, Z W s a → ∀ j ∈ Region.ready md ops s, N ≤ j) (hZ : ∀ W s a, Region.seqB md ops (ops.size - N) N s = true → E W a → Z W s a) (ps : List (Bool × Nat)) :
    ∀ (q : List (Bool × Oper)) (W : World) (s : Array Bool) (a : Act), ps.map (fun p => (ops[p.2]?).map fun o => (p.1, o)) = q.map some → (∀ p ∈ ps, p.2 < N) → HeadInv md ops N s → planB md ops N ps s = true → wpPlan R G P ops E q W a → opensR R G P md ops N Z ps.length W s a := by
  induction ps with
  | nil =>
    intro q W s a hq _ _ hs h
    have : q = [] := by simpa using hq.symm
    subst this
    exact hZ W s a hs h
  | cons p ps ih =>
    intro q W s a hq hp inv hs h
    cases q with
    | nil => simp at hq
    | cons y q =>
      simp only [List.map_cons, List.cons.injEq] at hq
      obtain ⟨ho, hq⟩ := hq
      obtain ⟨fl, k⟩ := p
      have hkN : k < N := hp (fl, k) (by simp)
      simp only at ho
      obtain ⟨o, hok, he⟩ := Option.map_eq_some_iff.1 ho
      subst he
      cases fl with
      | true =>
        simp only [planB, Bool.and_eq_true] at hs
        have hr : k ∈ Region.ready md ops s := by simpa using hs.1.1
        obtain ⟨v, hg, hn⟩ := h
        rw [List.length_cons]
        refine opens_firstR hR sub hok hsel hB hkN hZr _ W s a inv (Region.free_spec hok hs.1.2) hr hg ?_
        exact ih q W _ _ hq (fun p' hp' => hp p' (by simp [hp'])) (inv.set hr hkN) hs.2 hn
      | false =>
        simp only [planB, Bool.and_eq_true, decide_eq_true_eq] at hs
        have hr : k ∈ Region.ready md ops s := by rw [hs.1]; simp
        refine ⟨by rw [hs.1]; simp, fun i hi => ?_⟩
        rw [hs.1] at hi
        obtain rfl : i = k := by simpa using hi
        refine ⟨hkN, fun o' ho' => ?_⟩
        obtain rfl : o' = o := Option.some.inj (ho'.symm.trans hok)
        refine .inr ⟨h.1, fun w1 k1 => madeUponR_mono (fun w2 v _ hp' => ?_) (h.2 w1 k1)⟩
        exact ih q w2 _ _ hq (fun p' hp' => hp p' (by simp [hp'])) (inv.set hr hkN) hs.2 hp'

theorem selP_some {l : List Oper} : ∀ {ps : List (Bool × Nat)}, (∀ p ∈ ps, p.2 < l.length) → ps.map (fun p => (l.toArray[p.2]?).map fun o => (p.1, o)) = (selP l ps).map some
  | [], _ => rfl
  | p :: ps, h => by
    have hk := h p (by simp)
    have ih := selP_some (l := l) (ps := ps) fun k' hk' => h k' (by simp [hk'])
    simp only [List.map_cons, selP, List.filterMap_cons] at ih ⊢
    rw [List.getElem?_eq_getElem hk]
    simp only [Option.map_some, List.map_cons, List.cons.injEq]
    exact ⟨by simp [hk], ih⟩

theorem wp_region_plan (hR : Rel R) (hG : Rel G) (sub : ∀ {w w' : World}, G w w' → R w w') {id : Nat} {Q : Exit → Act → World → Prop} {a : Act} {w : World} {l : List Oper} (N : Nat) (ps : List (Bool × Nat))
    (hm : P.follows .mixedOrders = true) (hB : plansB .any l.toArray N ps = true)
    (h : wpPlan R G P l.toArray (fun W a'' => ∀ w3, G W w3 → wpList P l.toArray Q (l.drop N) a'' w3) (selP l ps) w a) : (Code.region id l.toArray true).wp P Q a w := by
  simp only [plansB, Bool.and_eq_true, decide_eq_true_eq, List.all_eq_true] at hB
  obtain ⟨⟨⟨⟨⟨hsel, hw⟩, hN⟩, hlen⟩, hps⟩, hplan⟩ := hB
  have hN' : N ≤ l.length := by simpa using hN
  have e2 : (l.drop N).length = l.toArray.size - N := by simp
  have inv : HeadInv .any l.toArray N (Array.replicate l.toArray.size false) :=
    ⟨by simp, fun j oj _ hl => (by rw [getD_replicate_false] at hl; cases hl), fun t _ ht => getD_in (by simpa using ht) (getD_replicate_false _ _)⟩
  let E : World → Act → Prop := fun W a => ∀ w3, G W w3 → wpList P l.toArray Q (l.drop N) a w3
  let Z : World → Array Bool → Act → Prop := fun W s a => Region.seqB .any l.toArray (l.toArray.size - N) N s = true ∧ E W a
  have H := opens_plan (P := P) (G := G) hR sub (md := .any) (ops := l.toArray) (N := N) (Z := Z) (E := E) hsel hw (fun W s a hz => seqB_ready hz.1) (fun W s a h1 h2 => ⟨h1, h2⟩) ps (selP l ps) w _ a (selP_some fun p hp => by have := hps p hp; omega) hps inv hplan h
  refine wp_region_any hm ?_
  have A := opens_anyR hG sub (Q := Q) (g := l.toArray.size - N) (fun W s a' w' hk hz => by
    have B := wpAny_of_seq (md := .any) (Q' := Q) (l.drop N) N s a' w' (fun j => by simp [List.getElem?_drop]) (by rw [e2]; exact hz.1) (hz.2 w' hk)
    rwa [e2] at B) _ _ _ _ _ (show G w w.drew from hG.drew w) H
  have e4 : ps.length + (l.toArray.size - N) = l.toArray.size := by omega
  rw [e4] at A
  exact A
end
end Go.Proofs.Ytflodklggkkmiaa
