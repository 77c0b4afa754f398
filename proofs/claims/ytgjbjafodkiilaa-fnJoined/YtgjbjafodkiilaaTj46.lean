/- JoinFrames of the model. Regions whose order is open: what only reads, then so many that make memory or reckon, one behind the other, then the rest. No conditions on the program. -/
import Derived.Test.YtgjbjafodkiilaaTj45
import Derived.Test.YtgjbjafodkiilaaTj1
namespace Go.Proofs.Ytgjbjafodkiilaa
open Go.RowKit
set_option linter.unusedVariables false

set_option maxHeartbeats 4000000 in
theorem sJoin_any (lo hi : Nat) (so : Option Addr) (sc : Nat) (L : List Rq) (w : World) (hL : Rqs w lo hi so L) (hs : hi ≤ w.heap.size) (hn : L.length ≤ 1048576) :
    Calls Try.prog 10 #[.slice so L.length sc] w fun e w' => ∃ ao' cap', e = .returned (.agg #[.int .i64 (jC (L.map Rq.ct)), .slice ao' (jB (L.map Rq.ct)).length cap']) ∧ OwnR .u8 5 w' w.heap.size ao' cap' (jB (L.map Rq.ct)) ∧ Below w.heap.size w w' := by
  have hn' : (L.length : Int) ≤ 1048576 := by omega
  by_cases hten : 10 < L.length
  · obtain ⟨e1, e2⟩ := jC_many (C := L.map Rq.ct) (by simpa using hten)
    rw [e1, e2]
    clear e1 e2 hL
    go_enter Try.func10, Try.ntmps10
    go_wp2
    refine bodyPost_ret (v := .agg #[.int .i64 2, .slice none 0 0]) (by simp [results, Try.results10, go_sem, *]) rfl ⟨none, 0, rfl, OwnR.nil _ _ _ _, ?_⟩
    repeat' (first | (with_reducible exact Below.refl _ _) | (with_reducible refine kept_below ?_ (by assumption) ?_) | (with_reducible refine Below.alloc ?_ ?_ _) | (with_reducible refine Below.drew ?_) | (with_reducible refine Below.setCell ?_ ?_ _) | go_size)
  have HL := hideP hL
  have hc10 : Hid (¬ 10 < (L.map Rq.ct).length) := hideP (by simpa using hten)
  clear hL
  go_enter Try.func10, Try.ntmps10
  go_wp2
  have ST : Hid (∀ o : Obj, Below w.heap.size w ((w.alloc (.cells #[.int .i64 0, .slice none 0 0] 27)).alloc o) ∧ Rb ((w.alloc (.cells #[.int .i64 0, .slice none 0 0] 27)).alloc o) w.heap.size (.int .i64 0) (.slice none 0 0)) := hideP (fun o => ⟨((Below.refl _ _).alloc (Nat.le_refl _) _).alloc (by simp) _, Rb.keep (w := w.alloc (.cells #[.int .i64 0, .slice none 0 0] 27)) (B := w.heap.size + 1) ⟨by simp, by simp, by simp, by simp, by simp⟩ ((Below.refl _ _).alloc (by simp) _) (by omega)⟩)
  go_loopw [3, 4] (fun t i wr => ∃ (X Y : List Rq) (ao' : Option Addr) (cap' : Nat), X ++ Y = L ∧ i = .int .i64 (X.length : Nat) ∧ t = .slice ao' (jL (X.map Rq.ct)).length cap' ∧ jF (X.map Rq.ct) = 0 ∧ OwnR .u8 5 wr (w.heap.size + 1) ao' cap' (jL (X.map Rq.ct)) ∧ Below w.heap.size w wr ∧ Rb wr w.heap.size (.int .i64 0) (.slice none 0 0)) (fun _ i _ => L.length - (intOf i).toNat)
  case atStart => exact ⟨[], L, some ⟨w.heap.size + 1, 0, none⟩, 0, rfl, rfl, by simp [jL], rfl, by simpa [jL] using OwnR.lit .u8 5 (w.alloc (.cells #[.int .i64 0, .slice none 0 0] 27)) (w.heap.size + 1) [] _ rfl (by simp) (by unfold maxLen; simp), (ST.out _).1, (ST.out _).2⟩
  case round =>
    obtain ⟨X, Y, ao1, cap1, hXY, rfl, rfl, hF, O1, kb, RB⟩ := hrel
    have hlen : X.length + Y.length = L.length := by rw [← hXY]; simp
    have hjl := jL_len (X.map Rq.ct)
    rw [List.length_map] at hjl
    have hz := kb.size
    have hrl := RB.lt
    have HF := hideP hF
    have HB := hideP kb
    have HO := hideP O1
    have HR := hideP RB
    clear hF kb O1 RB ST
    cases Y with
    | cons r Y =>
      have hlt : (X.length : Int) < (L.length : Int) := by simp at hlen; omega
      have h0 := HL.out
      rw [← hXY] at h0
      obtain ⟨g, o, rfl, hg, hc, hon⟩ := Rqs.at h0
      have hcell := IsReq.keep hc HB.out (by omega)
      obtain ⟨rA, rD⟩ := hon
      have hgl : g < wr.heap.size := by omega
      have HXY := hideP hXY
      have HA := hideP (rA.keep HB.out hs)
      have HD := hideP (rD.keep HB.out hs)
      clear h0 hc hXY rA rD HL
      obtain ⟨k, ao, ca, A, bo, cb, D⟩ := r
      simp only at hcell HA HD
      have HX := hideP hcell
      have hx10 : X.length ≤ 10 := by omega
      obtain ⟨a0, a1, a2⟩ := hcell
      go_wp2_with fail
      clear a0 a1 a2
      refine Calls.mono (l3F_any lo hi g (o + X.length * 3) k ao bo ca D.length cb A wr HX.out HA.out (by omega)) ?_
      rintro e w1 ⟨rfl, k1⟩
      have HA1 := hideP (HA.out.keep k1 (by omega))
      have HD1 := hideP (HD.out.keep k1 (by omega))
      have HB1 := hideP (HB.out.trans (k1.mono hz))
      have HO1 := hideP (HO.out.keep k1)
      have HR1 := hideP (HR.out.keep k1 hrl)
      have HX1 := hideP (HX.out.keep k1 hgl)
      have hz1 := k1.size
      clear k1 HA HD HB HO HR HX
      by_cases hc : rF k A D.length = 0
      · have HC := hideP hc
        have HJ : Hid (jL ((X ++ [(⟨k, ao, ca, A, bo, cb, D⟩ : Rq)]).map Rq.ct) = jL (X.map Rq.ct) ++ pkL k A D) := hideP (by rw [List.map_append]; exact jL_snoc _ _)
        have SP := hideP (sPkAt_any lo hi g (o + X.length * 3) k ao bo ca cb A D w1 HX1.out HA1.out HD1.out (by omega) (by omega) hc)
        have hpl := pkL_len k A D
        have hgl1 : g < w1.heap.size := by omega
        obtain ⟨a0, a1, a2⟩ := HX1.out
        rw [hc]
        clear hc
        go_wp2_with fail
        clear a0 a1 a2 HX1
        refine Calls.mono SP.out ?_
        rintro e w2 ⟨ap, cp, rfl, O2, k2⟩
        have HP2 := hideP O2
        have HB2 := hideP (HB1.out.trans (k2.mono (by omega)))
        have HO2 := hideP (HO1.out.keep k2)
        have HR2 := hideP (HR1.out.keep k2 (by omega))
        have hz2 := k2.size
        clear k2 O2 HB1 HO1 HR1 SP HA1 HD1
        generalize pkL k A D = P at *
        generalize hJX : jL (X.map Rq.ct) = JX at *
        clear hJX
        have HS := hideP HP2.out.src
        go_wp2_with (first | (at_builtin; refine wpList_app (k := .u8) (T := 5) (S := 22) (bytes := 1) Try.underlying22 Try.infoB (by omega) rfl _ _ rfl (w.heap.size + 1) ao1 cap1 JX rfl HO2.out ap cp P rfl HS.out (by omega) (by omega) ?_; intro ao4 cap4 w4 O4 k4; refine Hid.out ?_) | go_in)
        have HO4 := hideP O4
        have HB4 := hideP (HB2.out.trans (k4.mono (by omega)))
        have HR4 := hideP (HR2.out.keep k4 (by omega))
        clear O4 k4 HO2 HP2 HB2 HR2 HS
        refine hideP ?_
        go_wp2
        go_roundw
        case rel => exact ⟨X ++ [⟨k, ao, ca, A, bo, cb, D⟩], Y, ao4, cap4, mid_in HXY.out, by simp, by rw [HJ.out]; simp, by rw [List.map_append]; exact jF_snoc HF.out HC.out, by rw [HJ.out]; exact HO4.out, HB4.out, HR4.out⟩
        case measure => simp [intOf]; omega
      · obtain ⟨c, hcc⟩ : ∃ c, rF k A D.length = c := ⟨_, rfl⟩
        have hcn : (c != 0) = true := by rw [← hcc]; simpa using hc
        have HE : Hid (jC (L.map Rq.ct) = c ∧ jB (L.map Rq.ct) = []) := hideP (by
          have h := hc10.out
          rw [← HXY.out, List.map_append, List.map_cons] at h ⊢
          have := jC_fault h HF.out (show tF (Rq.ct ⟨k, ao, ca, A, bo, cb, D⟩) ≠ 0 from hc)
          exact ⟨this.1.trans hcc, this.2⟩)
        rw [hcc]
        obtain ⟨r0, r1, r2, r3, r4⟩ := HR1.out
        clear hc hcc HO1 HX1 HA1 HD1
        go_wp2
        refine bodyPost_ret (v := .agg #[.int .i64 c, .slice none 0 0]) (by simp [results, Try.results10, go_sem, *]) rfl ⟨none, 0, by rw [HE.out.1, HE.out.2]; rfl, by rw [HE.out.2]; exact OwnR.nil _ _ _ _, ?_⟩
        repeat' (first | exact HB1.out | (with_reducible refine Below.setCell ?_ ?_ _) | (with_reducible refine Below.alloc ?_ ?_ _) | go_size)
    | nil =>
      have hX : X = L := by simpa using hXY
      subst hX
      have HE := hideP (jC_all hc10.out HF.out)
      obtain ⟨r0, r1, r2, r3, r4⟩ := HR.out
      clear hXY HL hc10 HF
      have HJE := hideP HE.out.2
      generalize hJX : jL (X.map Rq.ct) = JX at *
      clear hJX
      go_wp2
      refine bodyPost_ret (v := .agg #[.int .i64 0, .slice ao1 JX.length cap1]) (by simp [results, Try.results10, go_sem, *]) rfl ⟨ao1, cap1, by rw [HE.out.1, HJE.out], ?_, ?_⟩
      · rw [HJE.out]
        refine OwnR.le (base := w.heap.size + 1) ?_ (by omega)
        repeat (refine OwnR.set ?_ _ _ (by dsimp only; omega))
        exact HO.out
      · repeat' (first | exact HB.out | (with_reducible refine Below.setCell ?_ ?_ _) | go_size)
end Go.Proofs.Ytgjbjafodkiilaa

namespace Go.Proofs.Ytgjbjafodkiilaa
open Go.RowKit

section
variable {P : Program} {ops : Array Oper} {md : Region.Mode}

def madesB (md : Region.Mode) (ops : Array Oper) (n m : Nat) : Bool :=
  Region.noSelect ops && waitsB md ops (n + m) && decide (n + m ≤ ops.size) && Region.lexHead md ops (ops.size - n) n 0 (Array.replicate ops.size false)
def wpMades (P : Program) (ops : Array Oper) (E : World → Act → Prop) : List Oper → World → Act → Prop
  | [], W, a => E W a
  | o :: rest, W, a => Region.wanted o (yielded ops a.tmps) = true ∧ ∀ w1, Kept W w1 → madeAt P o a w1 fun w2 v => wpMades P ops E rest w2 (a.put o.dst v)
theorem mades_step {E : World → Act → Prop} {W : World} {a : Act} {o : Oper} {rest : List Oper} (hw : Region.wanted o (yielded ops a.tmps) = true)
    (h : ∀ w1, Kept W w1 → madeAt P o a w1 fun w2 v => ∀ K : Act → Prop, (∀ a', wpMades P ops E rest w2 a' → K a') → K (a.put o.dst v)) : wpMades P ops E (o :: rest) W a :=
  ⟨hw, fun w1 k1 => madeUpon_mono (fun _ _ _ hk => hk _ fun _ h => h) (h w1 k1)⟩
theorem mades_nil {E : World → Act → Prop} {W : World} {a : Act} (h : E W a) : wpMades P ops E [] W a := h
theorem made_value {o : Oper} {a : Act} {w1 : World} {K : World → Value → Prop} {v : Value} (h : (execOp a.eval o).run P w1 = .ok (.value v) w1) (hk : K w1 v) : madeAt P o a w1 K := by
  unfold madeAt
  rw [h]
  exact ⟨Below.refl _ _, hk⟩
theorem made_calls {o : Oper} {a : Act} {w : World} {K : World → Value → Prop} {f : FuncId} {args : Array Value} (h : (execOp a.eval o).run P w = .ok (.enter f args) w)
    (hc : Calls P f args w fun e w'' => ∃ v, e = .returned v ∧ Below w.heap.size w w'' ∧ K w'' v) : madeAt P o a w K := by
  unfold madeAt
  rw [h]
  exact ⟨rfl, hc⟩

theorem opens_mades {N : Nat} {E : World → Act → Prop} {Z' : World → Array Bool → Act → Prop} (hZ : ∀ W s a, Region.seqB md ops (ops.size - N) N s = true → E W a → Z' W s a) (hN : N ≤ ops.size) (mid : List Oper) :
    ∀ (k : Nat) (W : World) (s : Array Bool) (a : Act), (∀ j, j < mid.length → mid[j]? = ops[k + j]?) → k + mid.length = N → Region.seqB md ops (ops.size - k) k s = true → wpMades P ops E mid W a → opens P md ops N Z' mid.length W s a := by
  induction mid with
  | nil =>
    intro k W s a _ hk hs h
    have hkn : k = N := by simpa using hk
    subst hkn
    exact hZ W s a hs h
  | cons o mid ih =>
    intro k W s a hl hk hs h
    simp only [List.length_cons] at hk
    have e3 : ops.size - k = (ops.size - (k + 1)) + 1 := by omega
    simp only [e3, Region.seqB, Bool.and_eq_true, decide_eq_true_eq] at hs
    have h0 : ops[k]? = some o := by simpa using (hl 0 (by simp)).symm
    refine ⟨by rw [hs.1]; simp, fun i hi => ?_⟩
    rw [hs.1] at hi
    obtain rfl : i = k := by simpa using hi
    refine ⟨by omega, fun o' ho' => ?_⟩
    obtain rfl : o' = o := Option.some.inj (ho'.symm.trans h0)
    refine .inr ⟨h.1, fun w1 k1 => madeUpon_mono (fun w2 v _ hk' => ?_) (h.2 w1 k1)⟩
    refine ih (i + 1) w2 _ _ (fun j hj => ?_) (by omega) hs.2 hk'
    have h1 := hl (j + 1) (by simp; omega)
    have e2 : i + (j + 1) = i + 1 + j := by omega
    rw [e2] at h1
    simpa using h1

theorem wp_region_mades {id : Nat} {Q : Exit → Act → World → Prop} {a : Act} {w : World} {l : List Oper} (n m : Nat) (hm : P.follows .mixedOrders = true) (hB : madesB .any l.toArray n m = true)
    (h : wpGrow P l.toArray w (fun a' => wpMades P l.toArray (fun W a'' => ∀ w3, Kept W w3 → wpList P l.toArray Q (l.drop (n + m)) a'' w3) ((l.drop n).take m) w a') (l.take n) a) : (Code.region id l.toArray true).wp P Q a w := by
  simp only [madesB, Bool.and_eq_true, decide_eq_true_eq] at hB
  obtain ⟨⟨⟨hsel, hw⟩, hn⟩, hlex⟩ := hB
  have hn' : n + m ≤ l.length := by simpa using hn
  have e1 : (l.take n).length = n := by simp; omega
  have e2 : (l.drop (n + m)).length = l.toArray.size - (n + m) := by simp
  have e5 : ((l.drop n).take m).length = m := by simp; omega
  have inv : HeadInv .any l.toArray (n + m) (Array.replicate l.toArray.size false) :=
    ⟨by simp, fun j oj _ hl => (by rw [getD_replicate_false] at hl; cases hl), fun t _ ht => getD_in (by simpa using ht) (getD_replicate_false _ _)⟩
  let E : World → Act → Prop := fun W a => ∀ w3, Kept W w3 → wpList P l.toArray Q (l.drop (n + m)) a w3
  let Z : World → Array Bool → Act → Prop := fun W s a => Region.seqB .any l.toArray (l.toArray.size - (n + m)) (n + m) s = true ∧ E W a
  have H := opens_lex (P := P) (md := .any) (ops := l.toArray) (N := n + m) (n := n) (m := m) (Z := Z) (W := w) (G := fun k s => Region.seqB .any l.toArray (l.toArray.size - n) k s)
    (L := fun f k s => Region.lexHead .any l.toArray (l.toArray.size - n) f k s) hsel hw (by omega) (fun W s a hz => seqB_ready hz.1) (fun s a' _ hG hE => by
      have h0 := opens_mades (P := P) (md := .any) (ops := l.toArray) (N := n + m) (Z' := Z) (E := E) (fun W s a h1 h2 => ⟨h1, h2⟩) (by simpa using hn') ((l.drop n).take m) n w s a' (fun j hj => by
        rw [e5] at hj
        simp [hj]) (by rw [e5]) hG hE
      rwa [e5] at h0) (fun k s => rfl) (fun f k s => rfl) (l.take n) 0 _ a (fun j hj => by
      rw [e1] at hj
      simp [hj]) (by simpa using e1) inv (by rw [e1]; exact hlex) h
  refine wp_region_any hm ?_
  have A := opens_any (Q := Q) (g := l.toArray.size - (n + m)) (fun W s a' w' hk hz => by
    have B := wpAny_of_seq (md := .any) (Q' := Q) (l.drop (n + m)) (n + m) s a' w' (fun j => by simp [List.getElem?_drop]) (by rw [e2]; exact hz.1) (hz.2 w' hk)
    rwa [e2] at B) _ _ _ _ _ (show Kept w w.drew from (Below.refl _ _).drew) H
  have e4 : n + m + (l.toArray.size - (n + m)) = l.toArray.size := by omega
  rw [e1, e4] at A
  exact A
end
end Go.Proofs.Ytgjbjafodkiilaa
