/- Regions whose order is open: what only reads is taken first, the rest comes up one at a time. No conditions on the program. Stacks copied: the model's copy, the program's panes, and back. Regions whose order is open: what only reads, then so many that make memory or reckon, one behind the other, then the rest. No conditions on the program. Stacks as the program works on them: panes of its own, and back. -/
import Derived.Test.YtoipcnpemmajaaaTh8
import Derived.OrdersHeld
import Derived.Test.YtoipcnpemmajaaaTh1
namespace Go.Proofs.Ytoipcnpemmajaaa
open Go.RowKit
set_option linter.unusedVariables false

section
variable {P : Program} {md : Region.Mode} {ops : Array Oper} {Q : Exit → Act → World → Prop} {S : World → Prop}

theorem held_take {i : Nat} {oi : Oper} {fuel : Nat} {listed : Array Bool} {a : Act} {w : World} (hi : ops[i]? = some oi)
    (hs : Region.noSelect ops = true) (hf : Region.free md ops listed i = true) (hr : (Region.ready md ops listed).contains i = true)
    (hQ : ∀ c a d v w, Q (.panic c) (Act.put a d v) w → Q (.panic c) a w) (hS : S w) (hw : Region.wanted oi (yielded ops a.tmps) = true)
    (h : ∃ v, (∀ w, S w → (execOp a.eval oi).run P w = .ok (.value v) w) ∧ ∀ K : Act → Prop, (∀ a', wpAnyH P md ops Q S fuel (listed.setIfInBounds i true) a' w → K a') → K (a.put oi.dst v)) : wpAnyH P md ops Q S (fuel + 1) listed a w := by
  obtain ⟨v, hv, hk⟩ := h
  exact wpAnyH_take hi hs hf hr (fun c a w => hQ c a _ _ w) (.inl ⟨hw, hv⟩) hS (hk _ fun _ h => h)

theorem held_one {i : Nat} {oi : Oper} {fuel : Nat} {listed : Array Bool} {a : Act} {w : World} (hi : ops[i]? = some oi) (hr : Region.ready md ops listed = [i]) (hw : Region.wanted oi (yielded ops a.tmps) = true)
    (h : oi.wp P a w (fun a' w' => S w' ∧ wpAnyH P md ops Q S fuel (listed.setIfInBounds i true) a' w') Q) : wpAnyH P md ops Q S (fuel + 1) listed a w :=
  wpAnyH_all hr (by simp) (fun j hj => by
    obtain rfl : j = i := by simpa using hj
    unfold wpOp
    simp only [hi]
    rw [if_pos hw]
    exact .inl h)

theorem wp_of_run {o : Oper} {a : Act} {w w' : World} {v : Value} {K : Act → World → Prop} (h : (execOp a.eval o).run P w = .ok (.value v) w') (hk : K (a.put o.dst v) w') : o.wp P a w K Q := by
  unfold Oper.wp
  rw [h]
  exact hk
end

theorem made_call {P : Program} {o : Oper} {a : Act} {w : World} {K : World → Value → Prop} {f : FuncId} {args : Array Value} (h : (execOp a.eval o).run P w = .ok (.enter f args) w)
    (hc : Calls P f args w fun e w'' => ∃ v, e = .returned v ∧ Below w.heap.size w w'' ∧ K w'' v) : madeAt P o a w K := by
  unfold madeAt
  rw [h]
  exact ⟨rfl, hc⟩

theorem norm_act {P : Program} {md : Region.Mode} {ops : Array Oper} {Q : Exit → Act → World → Prop} {S : World → Prop} {fuel : Nat} {listed : Array Bool} {a : Act} {w : World} (h : ∀ K : Act → Prop, (∀ a', wpAnyH P md ops Q S fuel listed a' w → K a') → K a) : wpAnyH P md ops Q S fuel listed a w := h _ fun _ h => h

end Go.Proofs.Ytoipcnpemmajaaa

namespace Go.Proofs.Ytoipcnpemmajaaa
open Go.RowKit
set_option linter.unusedVariables false
attribute [local go_sem] growUpon growAt

theorem Try.infoI6 : (Try.prog.info? 2).map (fun i => (i.zero, i.size, i.bytes)) = some (some (.int .i64 0), 1, 8) := by kernel_rfl

theorem vals1 (v : Wn) : ∀ u ∈ Wn.vals v, u.oneCell' = true := by
  intro u hu
  simp only [Wn.vals, List.mem_cons, List.not_mem_nil, or_false] at hu
  rcases hu with rfl | rfl | rfl | rfl | rfl | rfl | rfl <;> rfl

theorem pals1 (v : Wn) : ∀ u ∈ Wn.pals v, u.oneCell' = true := by
  intro u hu
  simp only [Wn.pals, List.mem_cons, List.not_mem_nil, or_false] at hu
  rcases hu with rfl | rfl | rfl | rfl | rfl | rfl | rfl <;> rfl

theorem kalC (w : World) (o : Obj) : Below w.heap.size w (w.alloc o) := (Below.refl _ _).alloc (Nat.le_refl _) o

theorem winNe : (81 : TypeId) ≠ 2 := by decide

/-- .. one window's numbers more there. -/
theorem LinV.more2 {V : Wn → List Value} {T : TypeId} {w w3 : World} {base : Nat} {so : Option Addr} {sc : Nat} {L : List Wn} {v : Wn} (h : LinV V T w base so sc L) (k : Below w.heap.size w w3) (hb : base ≤ w.heap.size) (on : v.b.on w3) (ty : v.b.ty w3) (inn : v.b.L ≠ [] → w.heap.size ≤ v.b.g ∧ v.b.g < w3.heap.size) : OwnV V T w3 base so sc L ∧ Cis w3 base w3.heap.size ((L ++ [v]).map Wn.b) ∧ ∀ b ∈ (L ++ [v]).map Wn.b, b.ty w3 := by
  have h1 := h.keep k
  refine ⟨h1.own, ?_, fun b m => ?_⟩
  · rw [List.map_append]
    exact (h.cis.keep k (Nat.le_refl _)).snoc (b := v.b) on (fun e => by have := inn e; omega) k.size
  · rw [List.map_append, List.mem_append] at m
    rcases m with m | m
    · exact h1.ty b m
    · obtain rfl : b = v.b := by simpa using m
      exact ty

set_option maxRecDepth 100000 in
set_option maxHeartbeats 400000 in
theorem sInts_any (lo hi : Nat) (ao : Option Addr) (ca : Nat) (L : List Int) (w : World) (hR : Row .i64 w lo hi ao L) (hs : hi ≤ w.heap.size) (hl : L.length ≤ 2097152) :
    Calls Try.prog 113 #[.slice ao L.length ca] w fun e w' => ∃ b : Ci, e = .returned (.slice b.ao L.length b.cap) ∧ NewC w w' L b ∧ Below w.heap.size w w' := by
  have HR := hideP hR
  clear hR
  go_enter Try.func113, Try.ntmps113
  go_wp2_with (first | (at_builtin; refine wpList_app (k := .i64) (T := 2) (S := 48) (bytes := 8) Try.underlying48 Try.infoI6 (by omega) rfl _ _ rfl w.heap.size (some ⟨w.heap.size, 0, none⟩) 0 [] rfl (OwnR.lit .i64 2 w w.heap.size [] _ rfl (Nat.le_refl _) (by unfold maxLen; simp)) ao ca L rfl (HR.out.keep (B := w.heap.size) ((Below.refl _ _).alloc (Nat.le_refl _) _) hs).src (by simp; omega) (by simp) ?_; intro ao2 cap2 w2 O2 K2; refine Hid.out ?_) | go_in)
  have HO2 : Hid (OwnR .i64 2 w2 w.heap.size ao2 cap2 L) := hideP O2
  have HK2 : Hid (Below w.heap.size w w2) := hideP (Below.trans (by go_grown) K2)
  clear O2 K2
  refine hideP ?_
  go_wp2
  go_returns
  obtain ⟨g, N⟩ := NewC.of_own HO2.out
  exact ⟨⟨ao2, cap2, g, L⟩, rfl, N, HK2.out⟩

set_option maxRecDepth 100000 in
set_option maxHeartbeats 2000000 in
theorem l7Copy_any (lo hi : Nat) (so : Option Addr) (sc : Nat) (L : List Wn) (w : World) (hL : Ws w lo hi so L) (hs : hi ≤ w.heap.size) (hn : L.length + wzs L ≤ 1048576) :
    Calls Try.prog 112 #[.slice so L.length sc] w fun e w' => ∃ (s : Option Addr) (c : Nat) (M : List Wn), e = .returned (.slice s M.length c) ∧ M.map Wn.ct = L.map Wn.ct ∧ LinV Wn.vals 81 w' w.heap.size s c M ∧ Below w.heap.size w w' := by
  have hn' : (L.length : Int) ≤ 1048576 := by omega
  have HL := hideP hL
  clear hL
  go_enter Try.func112, Try.ntmps112
  go_wp2
  have L0 : Hid (LinV Wn.vals 81 (w.alloc (.cells #[] 81)) w.heap.size (some ⟨w.heap.size, 0, none⟩) 0 []) := hideP (LinV.lit _ _ _ (Nat.le_refl _))
  go_loopw [3, 4] (fun v i wr => ∃ (X Y M : List Wn) (s : Option Addr) (c : Nat), X ++ Y = L ∧ M.map Wn.ct = X.map Wn.ct ∧ i = .int .i64 (X.length : Nat) ∧ v = .slice s M.length c ∧ Below w.heap.size w wr ∧ LinV Wn.vals 81 wr w.heap.size s c M) (fun _ i _ => L.length - (intOf i).toNat)
  case atStart => exact ⟨[], L, [], _, 0, rfl, rfl, rfl, rfl, by go_grown, L0.out⟩
  case round =>
    clear L0
    obtain ⟨X, Y, M, s, c, hXY, hMX, rfl, rfl, kb, LN⟩ := hrel
    have hlen : X.length + Y.length = L.length := by rw [← hXY]; simp
    have HML := hideP (lenW hMX)
    have hMn : M.length ≤ 1048576 := by have := HML.out; omega
    have hz := kb.size
    have HB := hideP kb
    have HN := hideP LN
    have HMX := hideP hMX
    clear kb LN hMX
    cases Y with
    | cons r Y =>
      have hlt : (X.length : Int) < (L.length : Int) := by simp at hlen; omega
      have hsz : r.b.L.length ≤ wzs L := wzs_mem (v := r) (by rw [← hXY]; simp)
      have h0 := HL.out
      rw [← hXY] at h0
      obtain ⟨g, o, rfl, hg, hc, hon⟩ := Ws.at h0
      have hc' := (hc.keep HB.out (by omega)).seven
      have hgl : g < wr.heap.size := by omega
      have HXY := hideP hXY
      have HR := hideP (Row.keep hon HB.out hs)
      clear h0 hc hXY hon HL
      obtain ⟨ri, rx, ry, rp, rh, rm, ⟨ao, cap, gb, D⟩⟩ := r
      simp only at hc' hsz HR
      obtain ⟨a0, a1, a2, a3, a4, a5, a6⟩ := hc'
      go_wp2_with fail
      clear a0 a1 a2 a3 a4 a5 a6
      have ka := kalC wr (.cells #[.int .i64 ri, .int .i64 rx, .int .i64 ry, .int .i64 rp, .int .i64 rh, .bool rm, .slice ao D.length cap] 81)
      have Z1 := hideP (r7_new wr (.int .i64 ri) (.int .i64 rx) (.int .i64 ry) (.int .i64 rp) (.int .i64 rh) (.bool rm) (.slice ao D.length cap) 81)
      have KA := hideP ka
      have HR1 := hideP (HR.out.keep ka (by omega))
      have hz1 := ka.size
      clear ka HR
      generalize wr.alloc (.cells #[.int .i64 ri, .int .i64 rx, .int .i64 ry, .int .i64 rp, .int .i64 rh, .bool rm, .slice ao D.length cap] 81) = w1 at *
      refine Calls.mono (sInts_any lo hi ao cap D w1 HR1.out (by omega) (by omega)) ?_
      rintro e w2 ⟨b, rfl, N2, k2⟩
      have Z2 := Z1.out.keep k2 Z1.out.lt
      have K2 := hideP (KA.out.trans (k2.mono hz1))
      have HN2 := hideP N2
      have hz2 := k2.size
      have hlt1 := Z1.out.lt
      clear k2 Z1 KA N2 HR1
      obtain ⟨z0, z1, z2, z3, z4, z5, z6, z7, z8⟩ := Z2
      have hbl := HN2.out.le
      have on3 := Ci.on_set HN2.out.on ⟨wr.heap.size, 6, none⟩ (.slice b.ao D.length b.cap) (fun e => by have := HN2.out.inn e; dsimp only; omega)
      have ty3 := Ci.ty_set HN2.out.ty ⟨wr.heap.size, 6, none⟩ (.slice b.ao D.length b.cap) (fun e => by have := HN2.out.inn e; dsimp only; omega)
      have k3 : Below wr.heap.size wr (w2.setCell ⟨wr.heap.size, 6, none⟩ (.slice b.ao D.length b.cap)) := K2.out.setCell (p := ⟨wr.heap.size, 6, none⟩) (Nat.le_refl _) _
      have k4 := k3.trans ((kalC (w2.setCell ⟨wr.heap.size, 6, none⟩ (.slice b.ao D.length b.cap)) (.cells #[.int .i64 ri, .int .i64 rx, .int .i64 ry, .int .i64 rp, .int .i64 rh, .bool rm, .slice b.ao D.length b.cap] 81)).mono k3.size)
      obtain ⟨O4, C4, T4⟩ := HN.out.more2 (v := ⟨ri, rx, ry, rp, rh, rm, b⟩) k4 (by omega) (Ci.on_keep on3 (kalC _ _) (fun e => by have := HN2.out.inn e; simp; omega)) (Ci.ty_keep ty3 (kalC _ _)) (fun e => by have := HN2.out.inn e; simp; omega)
      have HO4 := hideP O4
      have HC4 := hideP C4
      have HT4 := hideP T4
      have HK4 := hideP (HB.out.trans (k4.mono hz))
      have CL4 : Hid (Cl Wn.vals ((w2.setCell ⟨wr.heap.size, 6, none⟩ (.slice b.ao D.length b.cap)).alloc (.cells #[.int .i64 ri, .int .i64 rx, .int .i64 ry, .int .i64 rp, .int .i64 rh, .bool rm, .slice b.ao D.length b.cap] 81)) w2.heap.size 0 ⟨ri, rx, ry, rp, rh, rm, b⟩) := hideP (by
        have h := r7_new (w2.setCell ⟨wr.heap.size, 6, none⟩ (.slice b.ao D.length b.cap)) (.int .i64 ri) (.int .i64 rx) (.int .i64 ry) (.int .i64 rp) (.int .i64 rh) (.bool rm) (.slice b.ao D.length b.cap) 81
        rw [World.size_setCell] at h
        exact Cl.mkW ⟨h.c0, h.c1, h.c2, h.c3, h.c4, h.c5, by rw [hbl]; exact h.c6⟩)
      have n4 := k4.size
      have HCT : Hid (Wn.ct ⟨ri, rx, ry, rp, rh, rm, b⟩ = ⟨ri, rx, ry, rp, rh, rm, D⟩) := hideP (by simp [Wn.ct, hbl])
      clear on3 ty3 k3 k4 O4 C4 T4 hbl K2 HN2 HN HB
      go_wp2_with (first | (at_builtin; go_loud (refine wpList_appV (V := Wn.vals) (T := 81) vals7 vals1 Try.underlying26 Try.infoWn rfl rfl _ _ rfl w.heap.size s c M rfl HO4.out w2.heap.size 1 ⟨ri, rx, ry, rp, rh, rm, b⟩ rfl CL4.out (by omega) (by simp; omega) ?_; intro s6 c6 w6 O6 G6 K6; refine Hid.out ?_)) | go_in)
      have LN6 := hideP (LinV.pushed winNe HO4.out HC4.out HT4.out O6 G6)
      have KB6 := hideP (HK4.out.trans K6)
      clear O6 G6 K6 z0 z1 z2 z3 z4 z5 z6 z7 z8 HO4 HC4 HT4 HK4 CL4
      refine hideP ?_
      go_wp2
      go_roundw
      case rel => exact ⟨X ++ [⟨ri, rx, ry, rp, rh, rm, ⟨ao, cap, gb, D⟩⟩], Y, M ++ [⟨ri, rx, ry, rp, rh, rm, b⟩], s6, c6, midW HXY.out, by rw [List.map_append, List.map_append, HMX.out]; simp only [List.map_cons, HCT.out]; rfl, by simp, by simp, KB6.out, LN6.out⟩
      case measure => simp [intOf]; omega
    | nil =>
      have hX : X = L := by simpa using hXY
      subst hX
      clear hXY HL
      go_wp2
      go_returns
      exact ⟨s, c, M, rfl, HMX.out, HN.out, HB.out⟩
end Go.Proofs.Ytoipcnpemmajaaa

namespace Go.Proofs.Ytoipcnpemmajaaa
open Go.RowKit

section
variable {P : Program} {ops : Array Oper} {md : Region.Mode}

def madesB (md : Region.Mode) (ops : Array Oper) (n m : Nat) : Bool :=
  Region.noSelect ops && waitsB md ops (n + m) && decide (n + m ≤ ops.size) && Region.lexHead md ops (ops.size - n) n 0 (Array.replicate ops.size false)
def wpMades (P : Program) (ops : Array Oper) (E : World → Act → Prop) : List Oper → World → Act → Prop
  | [], W, a => E W a
  | o :: rest, W, a => Region.wanted o (yielded ops a.tmps) = true ∧ ∀ w1, Kept W w1 → madeAt P o a w1 fun w2 v => wpMades P ops E rest w2 (a.put o.dst v)
theorem mades_step {E : World → Act → Prop} {W : World} {a : Act} {o : Oper} {rest : List Oper} (hw : Region.wanted o (yielded ops a.tmps) = true)
    (h : ∀ w1, Kept W w1 → madeAt P o a w1 fun w2 v => ∀ K : Act → Prop, (∀ a', wpMades P ops E rest w2 a' → K a') → K (a.put o.dst v)) : wpMades P ops E (o :: rest) W a :=
  ⟨hw, fun w1 k1 => madeUpon_mono (fun _ _ _ hk => hk _ fun _ h => h) (h w1 k1)⟩
theorem mades_nil {E : World → Act → Prop} {W : World} {a : Act} (h : E W a) : wpMades P ops E [] W a := h
theorem made_value {o : Oper} {a : Act} {w1 : World} {K : World → Value → Prop} {v : Value} (h : (execOp a.eval o).run P w1 = .ok (.value v) w1) (hk : K w1 v) : madeAt P o a w1 K := by
  unfold madeAt
  rw [h]
  exact ⟨Below.refl _ _, hk⟩
theorem made_calls {o : Oper} {a : Act} {w : World} {K : World → Value → Prop} {f : FuncId} {args : Array Value} (h : (execOp a.eval o).run P w = .ok (.enter f args) w)
    (hc : Calls P f args w fun e w'' => ∃ v, e = .returned v ∧ Below w.heap.size w w'' ∧ K w'' v) : madeAt P o a w K := by
  unfold madeAt
  rw [h]
  exact ⟨rfl, hc⟩

theorem opens_mades {N : Nat} {E : World → Act → Prop} {Z' : World → Array Bool → Act → Prop} (hZ : ∀ W s a, Region.seqB md ops (ops.size - N) N s = true → E W a → Z' W s a) (hN : N ≤ ops.size) (mid : List Oper) :
    ∀ (k : Nat) (W : World) (s : Array Bool) (a : Act), (∀ j, j < mid.length → mid[j]? = ops[k + j]?) → k + mid.length = N → Region.seqB md ops (ops.size - k) k s = true → wpMades P ops E mid W a → opens P md ops N Z' mid.length W s a := by
  induction mid with
  | nil =>
    intro k W s a _ hk hs h
    have hkn : k = N := by simpa using hk
    subst hkn
    exact hZ W s a hs h
  | cons o mid ih =>
    intro k W s a hl hk hs h
    simp only [List.length_cons] at hk
    have e3 : ops.size - k = (ops.size - (k + 1)) + 1 := by omega
    simp only [e3, Region.seqB, Bool.and_eq_true, decide_eq_true_eq] at hs
    have h0 : ops[k]? = some o := by simpa using (hl 0 (by simp)).symm
    refine ⟨by rw [hs.1]; simp, fun i hi => ?_⟩
    rw [hs.1] at hi
    obtain rfl : i = k := by simpa using hi
    refine ⟨by omega, fun o' ho' => ?_⟩
    obtain rfl : o' = o := Option.some.inj (ho'.symm.trans h0)
    refine .inr ⟨h.1, fun w1 k1 => madeUpon_mono (fun w2 v _ hk' => ?_) (h.2 w1 k1)⟩
    refine ih (i + 1) w2 _ _ (fun j hj => ?_) (by omega) hs.2 hk'
    have h1 := hl (j + 1) (by simp; omega)
    have e2 : i + (j + 1) = i + 1 + j := by omega
    rw [e2] at h1
    simpa using h1

theorem wp_region_mades {id : Nat} {Q : Exit → Act → World → Prop} {a : Act} {w : World} {l : List Oper} (n m : Nat) (hm : P.follows .mixedOrders = true) (hB : madesB .any l.toArray n m = true)
    (h : wpGrow P l.toArray w (fun a' => wpMades P l.toArray (fun W a'' => ∀ w3, Kept W w3 → wpList P l.toArray Q (l.drop (n + m)) a'' w3) ((l.drop n).take m) w a') (l.take n) a) : (Code.region id l.toArray true).wp P Q a w := by
  simp only [madesB, Bool.and_eq_true, decide_eq_true_eq] at hB
  obtain ⟨⟨⟨hsel, hw⟩, hn⟩, hlex⟩ := hB
  have hn' : n + m ≤ l.length := by simpa using hn
  have e1 : (l.take n).length = n := by simp; omega
  have e2 : (l.drop (n + m)).length = l.toArray.size - (n + m) := by simp
  have e5 : ((l.drop n).take m).length = m := by simp; omega
  have inv : HeadInv .any l.toArray (n + m) (Array.replicate l.toArray.size false) :=
    ⟨by simp, fun j oj _ hl => (by rw [getD_replicate_false] at hl; cases hl), fun t _ ht => getD_in (by simpa using ht) (getD_replicate_false _ _)⟩
  let E : World → Act → Prop := fun W a => ∀ w3, Kept W w3 → wpList P l.toArray Q (l.drop (n + m)) a w3
  let Z : World → Array Bool → Act → Prop := fun W s a => Region.seqB .any l.toArray (l.toArray.size - (n + m)) (n + m) s = true ∧ E W a
  have H := opens_lex (P := P) (md := .any) (ops := l.toArray) (N := n + m) (n := n) (m := m) (Z := Z) (W := w) (G := fun k s => Region.seqB .any l.toArray (l.toArray.size - n) k s)
    (L := fun f k s => Region.lexHead .any l.toArray (l.toArray.size - n) f k s) hsel hw (by omega) (fun W s a hz => seqB_ready hz.1) (fun s a' _ hG hE => by
      have h0 := opens_mades (P := P) (md := .any) (ops := l.toArray) (N := n + m) (Z' := Z) (E := E) (fun W s a h1 h2 => ⟨h1, h2⟩) (by simpa using hn') ((l.drop n).take m) n w s a' (fun j hj => by
        rw [e5] at hj
        simp [hj]) (by rw [e5]) hG hE
      rwa [e5] at h0) (fun k s => rfl) (fun f k s => rfl) (l.take n) 0 _ a (fun j hj => by
      rw [e1] at hj
      simp [hj]) (by simpa using e1) inv (by rw [e1]; exact hlex) h
  refine wp_region_any hm ?_
  have A := opens_any (Q := Q) (g := l.toArray.size - (n + m)) (fun W s a' w' hk hz => by
    have B := wpAny_of_seq (md := .any) (Q' := Q) (l.drop (n + m)) (n + m) s a' w' (fun j => by simp [List.getElem?_drop]) (by rw [e2]; exact hz.1) (hz.2 w' hk)
    rwa [e2] at B) _ _ _ _ _ (show Kept w w.drew from (Below.refl _ _).drew) H
  have e4 : n + m + (l.toArray.size - (n + m)) = l.toArray.size := by omega
  rw [e1, e4] at A
  exact A
end
end Go.Proofs.Ytoipcnpemmajaaa

namespace Go.Proofs.Ytoipcnpemmajaaa
open Go.RowKit
set_option linter.unusedVariables false
attribute [local go_sem] growUpon growAt

end Go.Proofs.Ytoipcnpemmajaaa
