/- Regions whose order is open: what only reads, then so many that make memory or reckon, one behind the other, then the rest. No conditions on the program. Stacks as the program works on them: panes of its own, and back. -/
import Derived.Test.YtejgcheddloffaaTr1
import Derived.Test.YtejgcheddloffaaTr10
namespace Go.Proofs.Ytejgcheddloffaa
open Go.RowKit

section
variable {P : Program} {ops : Array Oper} {md : Region.Mode}

def madesB (md : Region.Mode) (ops : Array Oper) (n m : Nat) : Bool :=
  Region.noSelect ops && waitsB md ops (n + m) && decide (n + m ≤ ops.size) && Region.lexHead md ops (ops.size - n) n 0 (Array.replicate ops.size false)
def wpMades (P : Program) (ops : Array Oper) (E : World → Act → Prop) : List Oper → World → Act → Prop
  | [], W, a => E W a
  | o :: rest, W, a => Region.wanted o (yielded ops a.tmps) = true ∧ ∀ w1, Kept W w1 → madeAt P o a w1 fun w2 v => wpMades P ops E rest w2 (a.put o.dst v)
theorem mades_step {E : World → Act → Prop} {W : World} {a : Act} {o : Oper} {rest : List Oper} (hw : Region.wanted o (yielded ops a.tmps) = true)
    (h : ∀ w1, Kept W w1 → madeAt P o a w1 fun w2 v => ∀ K : Act → Prop, (∀ a', wpMades P ops E rest w2 a' → K a') → K (a.put o.dst v)) : wpMades P ops E (o :: rest) W a :=
  ⟨hw, fun w1 k1 => madeUpon_mono (fun _ _ _ hk => hk _ fun _ h => h) (h w1 k1)⟩
theorem mades_nil {E : World → Act → Prop} {W : World} {a : Act} (h : E W a) : wpMades P ops E [] W a := h
theorem made_value {o : Oper} {a : Act} {w1 : World} {K : World → Value → Prop} {v : Value} (h : (execOp a.eval o).run P w1 = .ok (.value v) w1) (hk : K w1 v) : madeAt P o a w1 K := by
  unfold madeAt
  rw [h]
  exact ⟨Below.refl _ _, hk⟩
theorem made_calls {o : Oper} {a : Act} {w : World} {K : World → Value → Prop} {f : FuncId} {args : Array Value} (h : (execOp a.eval o).run P w = .ok (.enter f args) w)
    (hc : Calls P f args w fun e w'' => ∃ v, e = .returned v ∧ Below w.heap.size w w'' ∧ K w'' v) : madeAt P o a w K := by
  unfold madeAt
  rw [h]
  exact ⟨rfl, hc⟩

theorem opens_mades {N : Nat} {E : World → Act → Prop} {Z' : World → Array Bool → Act → Prop} (hZ : ∀ W s a, Region.seqB md ops (ops.size - N) N s = true → E W a → Z' W s a) (hN : N ≤ ops.size) (mid : List Oper) :
    ∀ (k : Nat) (W : World) (s : Array Bool) (a : Act), (∀ j, j < mid.length → mid[j]? = ops[k + j]?) → k + mid.length = N → Region.seqB md ops (ops.size - k) k s = true → wpMades P ops E mid W a → opens P md ops N Z' mid.length W s a := by
  induction mid with
  | nil =>
    intro k W s a _ hk hs h
    have hkn : k = N := by simpa using hk
    subst hkn
    exact hZ W s a hs h
  | cons o mid ih =>
    intro k W s a hl hk hs h
    simp only [List.length_cons] at hk
    have e3 : ops.size - k = (ops.size - (k + 1)) + 1 := by omega
    simp only [e3, Region.seqB, Bool.and_eq_true, decide_eq_true_eq] at hs
    have h0 : ops[k]? = some o := by simpa using (hl 0 (by simp)).symm
    refine ⟨by rw [hs.1]; simp, fun i hi => ?_⟩
    rw [hs.1] at hi
    obtain rfl : i = k := by simpa using hi
    refine ⟨by omega, fun o' ho' => ?_⟩
    obtain rfl : o' = o := Option.some.inj (ho'.symm.trans h0)
    refine .inr ⟨h.1, fun w1 k1 => madeUpon_mono (fun w2 v _ hk' => ?_) (h.2 w1 k1)⟩
    refine ih (i + 1) w2 _ _ (fun j hj => ?_) (by omega) hs.2 hk'
    have h1 := hl (j + 1) (by simp; omega)
    have e2 : i + (j + 1) = i + 1 + j := by omega
    rw [e2] at h1
    simpa using h1

theorem wp_region_mades {id : Nat} {Q : Exit → Act → World → Prop} {a : Act} {w : World} {l : List Oper} (n m : Nat) (hm : P.follows .mixedOrders = true) (hB : madesB .any l.toArray n m = true)
    (h : wpGrow P l.toArray w (fun a' => wpMades P l.toArray (fun W a'' => ∀ w3, Kept W w3 → wpList P l.toArray Q (l.drop (n + m)) a'' w3) ((l.drop n).take m) w a') (l.take n) a) : (Code.region id l.toArray true).wp P Q a w := by
  simp only [madesB, Bool.and_eq_true, decide_eq_true_eq] at hB
  obtain ⟨⟨⟨hsel, hw⟩, hn⟩, hlex⟩ := hB
  have hn' : n + m ≤ l.length := by simpa using hn
  have e1 : (l.take n).length = n := by simp; omega
  have e2 : (l.drop (n + m)).length = l.toArray.size - (n + m) := by simp
  have e5 : ((l.drop n).take m).length = m := by simp; omega
  have inv : HeadInv .any l.toArray (n + m) (Array.replicate l.toArray.size false) :=
    ⟨by simp, fun j oj _ hl => (by rw [getD_replicate_false] at hl; cases hl), fun t _ ht => getD_in (by simpa using ht) (getD_replicate_false _ _)⟩
  let E : World → Act → Prop := fun W a => ∀ w3, Kept W w3 → wpList P l.toArray Q (l.drop (n + m)) a w3
  let Z : World → Array Bool → Act → Prop := fun W s a => Region.seqB .any l.toArray (l.toArray.size - (n + m)) (n + m) s = true ∧ E W a
  have H := opens_lex (P := P) (md := .any) (ops := l.toArray) (N := n + m) (n := n) (m := m) (Z := Z) (W := w) (G := fun k s => Region.seqB .any l.toArray (l.toArray.size - n) k s)
    (L := fun f k s => Region.lexHead .any l.toArray (l.toArray.size - n) f k s) hsel hw (by omega) (fun W s a hz => seqB_ready hz.1) (fun s a' _ hG hE => by
      have h0 := opens_mades (P := P) (md := .any) (ops := l.toArray) (N := n + m) (Z' := Z) (E := E) (fun W s a h1 h2 => ⟨h1, h2⟩) (by simpa using hn') ((l.drop n).take m) n w s a' (fun j hj => by
        rw [e5] at hj
        simp [hj]) (by rw [e5]) hG hE
      rwa [e5] at h0) (fun k s => rfl) (fun f k s => rfl) (l.take n) 0 _ a (fun j hj => by
      rw [e1] at hj
      simp [hj]) (by simpa using e1) inv (by rw [e1]; exact hlex) h
  refine wp_region_any hm ?_
  have A := opens_any (Q := Q) (g := l.toArray.size - (n + m)) (fun W s a' w' hk hz => by
    have B := wpAny_of_seq (md := .any) (Q' := Q) (l.drop (n + m)) (n + m) s a' w' (fun j => by simp [List.getElem?_drop]) (by rw [e2]; exact hz.1) (hz.2 w' hk)
    rwa [e2] at B) _ _ _ _ _ (show Kept w w.drew from (Below.refl _ _).drew) H
  have e4 : n + m + (l.toArray.size - (n + m)) = l.toArray.size := by omega
  rw [e1, e4] at A
  exact A
end
end Go.Proofs.Ytejgcheddloffaa

namespace Go.Proofs.Ytejgcheddloffaa
open Go.RowKit
set_option linter.unusedVariables false
attribute [local go_sem] growUpon growAt

set_option maxRecDepth 100000 in
set_option maxHeartbeats 2000000 in
theorem panes_any (lo hi : Nat) (so : Option Addr) (sc : Nat) (L : List Wn) (w : World) (hL : Ws w lo hi so L) (hs : hi ≤ w.heap.size) (hn : L.length + wzs L ≤ 1048576) :
    Calls Try.prog 28 #[.slice so L.length sc] w fun e w' => ∃ (s : Option Addr) (c : Nat) (M : List Wn), e = .returned (.slice s M.length c) ∧ M.map Wn.ct = L.map Wn.ct ∧ LinV Wn.pals 51 w' w.heap.size s c M ∧ Below w.heap.size w w' := by
  have hn' : (L.length : Int) ≤ 1048576 := by omega
  have HL := hideP hL
  clear hL
  go_enter Try.func28, Try.ntmps28
  go_wp2
  go_loopw [3, 8] (fun v i wr => ∃ (X Y M : List Wn) (s : Option Addr) (c : Nat), X ++ Y = L ∧ M.map Wn.ct = X.map Wn.ct ∧ i = .int .i64 (X.length : Nat) ∧ v = .slice s M.length c ∧ Below w.heap.size w wr ∧ LinV Wn.pals 51 wr w.heap.size s c M) (fun _ i _ => L.length - (intOf i).toNat)
  case atStart => exact ⟨[], L, [], none, 0, rfl, rfl, rfl, rfl, Below.refl _ _, LinV.nil _ _ _⟩
  case round =>
    obtain ⟨X, Y, M, s, c, hXY, hMX, rfl, rfl, kb, LN⟩ := hrel
    have hlen : X.length + Y.length = L.length := by rw [← hXY]; simp
    have HML := hideP (lenW hMX)
    have hMn : M.length ≤ 1048576 := by have := HML.out; omega
    have hz := kb.size
    have HB := hideP kb
    have HN := hideP LN
    have HMX := hideP hMX
    clear kb LN hMX
    cases Y with
    | cons r Y =>
      have hlt : (X.length : Int) < (L.length : Int) := by simp at hlen; omega
      have hsz : r.b.L.length ≤ wzs L := wzs_mem (v := r) (by rw [← hXY]; simp)
      have h0 := HL.out
      rw [← hXY] at h0
      obtain ⟨g, o, rfl, hg, hc, hon⟩ := Ws.at h0
      have hc' := (hc.keep HB.out (by omega)).seven
      have hgl : g < wr.heap.size := by omega
      have HXY := hideP hXY
      have HR := hideP (Row.keep hon HB.out hs)
      clear h0 hc hXY hon HL
      obtain ⟨ri, rx, ry, rp, rh, rm, ⟨ao, cap, gb, D⟩⟩ := r
      simp only at hc' hsz HR
      obtain ⟨a0, a1, a2, a3, a4, a5, a6⟩ := hc'
      go_wp2
      clear a0 a1 a2 a3 a4 a5 a6
      have ka := kalC wr (.cells #[.int .i64 ri, .int .i64 rx, .int .i64 ry, .int .i64 rp, .int .i64 rh, .bool rm, .slice ao D.length cap] 38)
      have Z1 := hideP (r7_new wr (.int .i64 ri) (.int .i64 rx) (.int .i64 ry) (.int .i64 rp) (.int .i64 rh) (.bool rm) (.slice ao D.length cap) 38)
      have KA := hideP ka
      have HR1 := hideP (HR.out.keep ka (by omega))
      have hz1 := ka.size
      clear ka HR
      generalize wr.alloc (.cells #[.int .i64 ri, .int .i64 rx, .int .i64 ry, .int .i64 rp, .int .i64 rh, .bool rm, .slice ao D.length cap] 38) = w1 at *
      have CP := hideP (fun w2 (kk : Below w1.heap.size w1 w2) => clone_any lo hi ao cap D w2 (HR1.out.keep kk (by omega)) (by have := kk.size; omega) (by omega))
      obtain ⟨z0, z1, z2, z3, z4, z5, z6, z7, z8⟩ := Z1.out
      refine wp_region_mades 9 3 (by kernel_rfl) (by kernel_rfl) ?_
      simp only [List.take_succ_cons, List.take_zero, List.drop_succ_cons, List.drop_zero]
      repeat (refine grow_step (by rfl) ?_; apply Exists.intro; refine ⟨fun w1 k1 => ?_, fun K hK => ?_⟩; (focus (have hc := Kept.cell k1; go_simp; first | done | rfl)); (go_simp; refine hK _ ?_; clear hK K))
      refine grow_nil ?_
      refine mades_step (by rfl) fun w2 k2 => ?_
      have kk2 := Kept.below k2
      refine made_calls (by go_simp; first | done | rfl) ((CP.out w2 kk2).mono ?_)
      rintro e w3 ⟨b, rfl, N3, k3⟩
      refine ⟨_, rfl, k3, fun K hK => ?_⟩
      go_simp
      refine hK _ ?_
      clear hK K
      refine mades_step (by rfl) fun w4 k4 => ?_
      have kk4 := Kept.below k4
      refine made_value (by go_simp; first | done | rfl) fun K hK => ?_
      go_simp
      refine hK _ ?_
      clear hK K
      refine mades_step (by rfl) fun w5 k5 => ?_
      have kk5 := Kept.below k5
      refine made_alloc (b := .cells #[.int .i64 rx, .int .i64 ry, .int .i64 rp, .int .i64 rh, .int .i64 ri, .bool rm, .slice b.ao D.length b.cap] 51) (by go_simp; first | done | rfl) fun K hK => ?_
      go_simp
      refine hK _ ?_
      clear hK K
      refine mades_nil fun w6 k6 => ?_
      have kk6 := Kept.below k6
      have hbl := N3.le
      have K35 : Below w3.heap.size w3 w5 := kk4.trans (kk5.mono kk4.size)
      have K15 : Below w1.heap.size w1 w5 := kk2.trans ((k3.trans (K35.mono k3.size)).mono kk2.size)
      have N5 := N3.keep K35
      have ka := kalC w5 (.cells #[.int .i64 rx, .int .i64 ry, .int .i64 rp, .int .i64 rh, .int .i64 ri, .bool rm, .slice b.ao D.length b.cap] 51)
      have K56 : Below w5.heap.size w5 w6 := ka.trans (kk6.mono ka.size)
      have k7 := KA.out.trans ((K15.trans (K56.mono K15.size)).mono hz1)
      have e2 := kk2.size
      have e6 := K56.size
      obtain ⟨O5, C5, T5⟩ := HN.out.more2 (v := ⟨ri, rx, ry, rp, rh, rm, b⟩) k7 (by omega) (Ci.on_keep N5.on K56 (fun e => (N5.inn e).2)) (Ci.ty_keep N5.ty K56) (fun e => by have := N5.inn e; dsimp only; omega)
      have HO5 := hideP O5
      have HC5 := hideP C5
      have HT5 := hideP T5
      have HK5 := hideP (HB.out.trans (k7.mono hz))
      have CL5 : Hid (Cl Wn.pals w6 w5.heap.size 0 ⟨ri, rx, ry, rp, rh, rm, b⟩) := hideP (by
        have h := (r7_new w5 (.int .i64 rx) (.int .i64 ry) (.int .i64 rp) (.int .i64 rh) (.int .i64 ri) (.bool rm) (.slice b.ao D.length b.cap) 51).keep kk6 (by simp)
        exact Cl.mkP ⟨h.c0, h.c1, h.c2, h.c3, h.c4, h.c5, by rw [hbl]; exact h.c6⟩)
      have n5 := k7.size
      have HCT : Hid (Wn.ct ⟨ri, rx, ry, rp, rh, rm, b⟩ = ⟨ri, rx, ry, rp, rh, rm, D⟩) := hideP (by simp [Wn.ct, hbl])
      clear k2 kk2 k3 N3 k4 kk4 k5 kk5 k6 kk6 K35 K15 N5 ka K56 k7 O5 C5 T5 hbl z0 z1 z2 z3 z4 z5 z6 z7 z8 Z1 CP HR1 KA HN HB e2 e6
      go_wp2_with (first | (at_builtin; go_loud (refine wpList_appV (V := Wn.pals) (T := 51) pals7 pals1 Try.underlying57 Try.infoPn rfl rfl _ _ rfl w.heap.size s c M rfl HO5.out w5.heap.size 1 ⟨ri, rx, ry, rp, rh, rm, b⟩ rfl CL5.out (by omega) (by omega) ?_; intro s6 c6 w8 O6 G6 K6; refine Hid.out ?_)) | go_in)
      have LN6 := hideP (LinV.pushed paneNe HO5.out HC5.out HT5.out O6 G6)
      have KB6 := hideP (HK5.out.trans K6)
      clear O6 G6 K6 HO5 HC5 HT5 HK5 CL5
      refine hideP ?_
      go_wp2
      go_roundw
      case rel => exact ⟨X ++ [⟨ri, rx, ry, rp, rh, rm, ⟨ao, cap, gb, D⟩⟩], Y, M ++ [⟨ri, rx, ry, rp, rh, rm, b⟩], s6, c6, midW HXY.out, by rw [List.map_append, List.map_append, HMX.out]; simp only [List.map_cons, HCT.out]; rfl, by simp, by simp, KB6.out, LN6.out⟩
      case measure => simp [intOf]; omega
    | nil =>
      have hX : X = L := by simpa using hXY
      subst hX
      clear hXY HL
      go_wp2
      go_returns
      exact ⟨s, c, M, rfl, HMX.out, HN.out, HB.out⟩

set_option maxRecDepth 100000 in
set_option maxHeartbeats 2000000 in
theorem stackOf_any (lo hi : Nat) (so : Option Addr) (sc : Nat) (L : List Wn) (w : World) (hL : SpV Wn.pals w lo hi so L) (hs : hi ≤ w.heap.size) (hn : L.length ≤ 1048576) :
    Calls Try.prog 27 #[.slice so L.length sc] w fun e w' => ∃ (s : Option Addr) (c : Nat), e = .returned (.slice s L.length c) ∧ OwnV Wn.vals 38 w' w.heap.size s c L ∧ Below w.heap.size w w' := by
  have hn' : (L.length : Int) ≤ 1048576 := by omega
  have HL := hideP hL
  clear hL
  go_enter Try.func27, Try.ntmps27
  go_wp2
  go_loopw [3, 8] (fun v i wr => ∃ (X Y : List Wn) (s : Option Addr) (c : Nat), X ++ Y = L ∧ i = .int .i64 (X.length : Nat) ∧ v = .slice s X.length c ∧ Below w.heap.size w wr ∧ OwnV Wn.vals 38 wr w.heap.size s c X) (fun _ i _ => L.length - (intOf i).toNat)
  case atStart => exact ⟨[], L, none, 0, rfl, rfl, rfl, Below.refl _ _, OwnV.nil _ _ _⟩
  case round =>
    obtain ⟨X, Y, s, c, hXY, rfl, rfl, kb, ON⟩ := hrel
    have hlen : X.length + Y.length = L.length := by rw [← hXY]; simp
    have hXn : X.length ≤ 1048576 := by omega
    have hz := kb.size
    have HB := hideP kb
    have HN := hideP ON
    clear kb ON
    cases Y with
    | cons r Y =>
      have hlt : (X.length : Int) < (L.length : Int) := by simp at hlen; omega
      have h0 := HL.out
      rw [← hXY] at h0
      obtain ⟨g, rfl, hg0, hg, hc, _⟩ := SpV.at h0
      have hc' := (hc.keep HB.out (by omega)).pane
      have hgl : g < wr.heap.size := by omega
      have HXY := hideP hXY
      clear h0 hc hXY HL
      obtain ⟨ri, rx, ry, rp, rh, rm, ⟨ao, cap, gb, D⟩⟩ := r
      simp only at hc'
      obtain ⟨a0, a1, a2, a3, a4, a5, a6⟩ := hc'
      have ka := kalC wr (.cells #[.int .i64 rx, .int .i64 ry, .int .i64 rp, .int .i64 rh, .int .i64 ri, .bool rm, .slice ao D.length cap] 51)
      have kb := ka.trans ((kalC (wr.alloc (.cells #[.int .i64 rx, .int .i64 ry, .int .i64 rp, .int .i64 rh, .int .i64 ri, .bool rm, .slice ao D.length cap] 51)) (.cells #[.int .i64 ri, .int .i64 rx, .int .i64 ry, .int .i64 rp, .int .i64 rh, .bool rm, .slice ao D.length cap] 38)).mono ka.size)
      have HO5 := hideP (HN.out.keep kb)
      have HK5 := hideP (HB.out.trans (kb.mono hz))
      have CL5 : Hid (Cl Wn.vals ((wr.alloc (.cells #[.int .i64 rx, .int .i64 ry, .int .i64 rp, .int .i64 rh, .int .i64 ri, .bool rm, .slice ao D.length cap] 51)).alloc (.cells #[.int .i64 ri, .int .i64 rx, .int .i64 ry, .int .i64 rp, .int .i64 rh, .bool rm, .slice ao D.length cap] 38)) (wr.heap.size + 1) 0 ⟨ri, rx, ry, rp, rh, rm, ⟨ao, cap, gb, D⟩⟩) := hideP (by
        have h := r7_new (wr.alloc (.cells #[.int .i64 rx, .int .i64 ry, .int .i64 rp, .int .i64 rh, .int .i64 ri, .bool rm, .slice ao D.length cap] 51)) (.int .i64 ri) (.int .i64 rx) (.int .i64 ry) (.int .i64 rp) (.int .i64 rh) (.bool rm) (.slice ao D.length cap) 38
        rw [World.size_alloc] at h
        exact Cl.mkW ⟨h.c0, h.c1, h.c2, h.c3, h.c4, h.c5, h.c6⟩)
      clear ka kb HN HB
      go_wp2_with (first | (at_builtin; go_loud (refine wpList_appV (V := Wn.vals) (T := 38) vals7 vals1 Try.underlying24 Try.infoWn rfl rfl _ _ rfl w.heap.size s c X rfl HO5.out (wr.heap.size + 1) 1 ⟨ri, rx, ry, rp, rh, rm, ⟨ao, cap, gb, D⟩⟩ rfl CL5.out (by omega) (by first | omega | (simp; omega)) ?_; intro s6 c6 w6 O6 G6 K6; refine Hid.out ?_)) | go_in)
      have HO6 := hideP O6
      have KB6 := hideP (HK5.out.trans K6)
      clear O6 G6 K6 HO5 HK5 CL5 a0 a1 a2 a3 a4 a5 a6
      refine hideP ?_
      go_wp2
      go_roundw
      case rel => exact ⟨X ++ [⟨ri, rx, ry, rp, rh, rm, ⟨ao, cap, gb, D⟩⟩], Y, s6, c6, midW HXY.out, by simp, by simp, KB6.out, HO6.out⟩
      case measure => simp [intOf]; omega
    | nil =>
      have hX : X = L := by simpa using hXY
      subst hX
      clear hXY HL
      go_wp2
      go_returns
      exact ⟨s, c, rfl, HN.out, HB.out⟩
end Go.Proofs.Ytejgcheddloffaa
