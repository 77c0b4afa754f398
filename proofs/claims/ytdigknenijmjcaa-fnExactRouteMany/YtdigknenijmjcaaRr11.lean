/- Regions whose order is open: what only reads is taken first, the rest comes up one at a time. No conditions on the program. Stacks copied: the model's copy, the program's panes, and back. Regions whose order is open: what only reads, then so many that make memory or reckon, one behind the other, then the rest. No conditions on the program. Stacks as the program works on them: panes of its own, and back. -/
import Derived.Test.YtdigknenijmjcaaRr10
import Derived.OrdersHeld
import Derived.Test.YtdigknenijmjcaaRr9
import Derived.Test.YtdigknenijmjcaaRr1
namespace Go.Proofs.Ytdigknenijmjcaa
open Go.RowKit
set_option linter.unusedVariables false

section
variable {P : Program} {md : Region.Mode} {ops : Array Oper} {Q : Exit → Act → World → Prop} {S : World → Prop}

theorem held_take {i : Nat} {oi : Oper} {fuel : Nat} {listed : Array Bool} {a : Act} {w : World} (hi : ops[i]? = some oi)
    (hs : Region.noSelect ops = true) (hf : Region.free md ops listed i = true) (hr : (Region.ready md ops listed).contains i = true)
    (hQ : ∀ c a d v w, Q (.panic c) (Act.put a d v) w → Q (.panic c) a w) (hS : S w) (hw : Region.wanted oi (yielded ops a.tmps) = true)
    (h : ∃ v, (∀ w, S w → (execOp a.eval oi).run P w = .ok (.value v) w) ∧ ∀ K : Act → Prop, (∀ a', wpAnyH P md ops Q S fuel (listed.setIfInBounds i true) a' w → K a') → K (a.put oi.dst v)) : wpAnyH P md ops Q S (fuel + 1) listed a w := by
  obtain ⟨v, hv, hk⟩ := h
  exact wpAnyH_take hi hs hf hr (fun c a w => hQ c a _ _ w) (.inl ⟨hw, hv⟩) hS (hk _ fun _ h => h)

theorem held_one {i : Nat} {oi : Oper} {fuel : Nat} {listed : Array Bool} {a : Act} {w : World} (hi : ops[i]? = some oi) (hr : Region.ready md ops listed = [i]) (hw : Region.wanted oi (yielded ops a.tmps) = true)
    (h : oi.wp P a w (fun a' w' => S w' ∧ wpAnyH P md ops Q S fuel (listed.setIfInBounds i true) a' w') Q) : wpAnyH P md ops Q S (fuel + 1) listed a w :=
  wpAnyH_all hr (by simp) (fun j hj => by
    obtain rfl : j = i := by simpa using hj
    unfold wpOp
    simp only [hi]
    rw [if_pos hw]
    exact .inl h)

theorem wp_of_run {o : Oper} {a : Act} {w w' : World} {v : Value} {K : Act → World → Prop} (h : (execOp a.eval o).run P w = .ok (.value v) w') (hk : K (a.put o.dst v) w') : o.wp P a w K Q := by
  unfold Oper.wp
  rw [h]
  exact hk
end

theorem made_call {P : Program} {o : Oper} {a : Act} {w : World} {K : World → Value → Prop} {f : FuncId} {args : Array Value} (h : (execOp a.eval o).run P w = .ok (.enter f args) w)
    (hc : Calls P f args w fun e w'' => ∃ v, e = .returned v ∧ Below w.heap.size w w'' ∧ K w'' v) : madeAt P o a w K := by
  unfold madeAt
  rw [h]
  exact ⟨rfl, hc⟩

theorem norm_act {P : Program} {md : Region.Mode} {ops : Array Oper} {Q : Exit → Act → World → Prop} {S : World → Prop} {fuel : Nat} {listed : Array Bool} {a : Act} {w : World} (h : ∀ K : Act → Prop, (∀ a', wpAnyH P md ops Q S fuel listed a' w → K a') → K a) : wpAnyH P md ops Q S fuel listed a w := h _ fun _ h => h

end Go.Proofs.Ytdigknenijmjcaa

namespace Go.Proofs.Ytdigknenijmjcaa
open Go.RowKit
set_option linter.unusedVariables false
attribute [local go_sem] growUpon growAt

theorem Try.infoI6 : (Try.prog.info? 2).map (fun i => (i.zero, i.size, i.bytes)) = some (some (.int .i64 0), 1, 8) := by kernel_rfl

theorem vals1 (v : Wn) : ∀ u ∈ Wn.vals v, u.oneCell' = true := by
  intro u hu
  simp only [Wn.vals, List.mem_cons, List.not_mem_nil, or_false] at hu
  rcases hu with rfl | rfl | rfl | rfl | rfl | rfl | rfl <;> rfl

theorem pals1 (v : Wn) : ∀ u ∈ Wn.pals v, u.oneCell' = true := by
  intro u hu
  simp only [Wn.pals, List.mem_cons, List.not_mem_nil, or_false] at hu
  rcases hu with rfl | rfl | rfl | rfl | rfl | rfl | rfl <;> rfl

theorem kalC (w : World) (o : Obj) : Below w.heap.size w (w.alloc o) := (Below.refl _ _).alloc (Nat.le_refl _) o

theorem winNe : (62 : TypeId) ≠ 2 := by decide

/-- .. one window's numbers more there. -/
theorem LinV.more2 {V : Wn → List Value} {T : TypeId} {w w3 : World} {base : Nat} {so : Option Addr} {sc : Nat} {L : List Wn} {v : Wn} (h : LinV V T w base so sc L) (k : Below w.heap.size w w3) (hb : base ≤ w.heap.size) (on : v.b.on w3) (ty : v.b.ty w3) (inn : v.b.L ≠ [] → w.heap.size ≤ v.b.g ∧ v.b.g < w3.heap.size) : OwnV V T w3 base so sc L ∧ Cis w3 base w3.heap.size ((L ++ [v]).map Wn.b) ∧ ∀ b ∈ (L ++ [v]).map Wn.b, b.ty w3 := by
  have h1 := h.keep k
  refine ⟨h1.own, ?_, fun b m => ?_⟩
  · rw [List.map_append]
    exact (h.cis.keep k (Nat.le_refl _)).snoc (b := v.b) on (fun e => by have := inn e; omega) k.size
  · rw [List.map_append, List.mem_append] at m
    rcases m with m | m
    · exact h1.ty b m
    · obtain rfl : b = v.b := by simpa using m
      exact ty

end Go.Proofs.Ytdigknenijmjcaa

namespace Go.Proofs.Ytdigknenijmjcaa
open Go.RowKit

section
variable {P : Program} {ops : Array Oper} {md : Region.Mode}

def madesB (md : Region.Mode) (ops : Array Oper) (n m : Nat) : Bool :=
  Region.noSelect ops && waitsB md ops (n + m) && decide (n + m ≤ ops.size) && Region.lexHead md ops (ops.size - n) n 0 (Array.replicate ops.size false)
def wpMades (P : Program) (ops : Array Oper) (E : World → Act → Prop) : List Oper → World → Act → Prop
  | [], W, a => E W a
  | o :: rest, W, a => Region.wanted o (yielded ops a.tmps) = true ∧ ∀ w1, Kept W w1 → madeAt P o a w1 fun w2 v => wpMades P ops E rest w2 (a.put o.dst v)
theorem mades_step {E : World → Act → Prop} {W : World} {a : Act} {o : Oper} {rest : List Oper} (hw : Region.wanted o (yielded ops a.tmps) = true)
    (h : ∀ w1, Kept W w1 → madeAt P o a w1 fun w2 v => ∀ K : Act → Prop, (∀ a', wpMades P ops E rest w2 a' → K a') → K (a.put o.dst v)) : wpMades P ops E (o :: rest) W a :=
  ⟨hw, fun w1 k1 => madeUpon_mono (fun _ _ _ hk => hk _ fun _ h => h) (h w1 k1)⟩
theorem mades_nil {E : World → Act → Prop} {W : World} {a : Act} (h : E W a) : wpMades P ops E [] W a := h
theorem made_value {o : Oper} {a : Act} {w1 : World} {K : World → Value → Prop} {v : Value} (h : (execOp a.eval o).run P w1 = .ok (.value v) w1) (hk : K w1 v) : madeAt P o a w1 K := by
  unfold madeAt
  rw [h]
  exact ⟨Below.refl _ _, hk⟩
theorem made_calls {o : Oper} {a : Act} {w : World} {K : World → Value → Prop} {f : FuncId} {args : Array Value} (h : (execOp a.eval o).run P w = .ok (.enter f args) w)
    (hc : Calls P f args w fun e w'' => ∃ v, e = .returned v ∧ Below w.heap.size w w'' ∧ K w'' v) : madeAt P o a w K := by
  unfold madeAt
  rw [h]
  exact ⟨rfl, hc⟩

theorem opens_mades {N : Nat} {E : World → Act → Prop} {Z' : World → Array Bool → Act → Prop} (hZ : ∀ W s a, Region.seqB md ops (ops.size - N) N s = true → E W a → Z' W s a) (hN : N ≤ ops.size) (mid : List Oper) :
    ∀ (k : Nat) (W : World) (s : Array Bool) (a : Act), (∀ j, j < mid.length → mid[j]? = ops[k + j]?) → k + mid.length = N → Region.seqB md ops (ops.size - k) k s = true → wpMades P ops E mid W a → opens P md ops N Z' mid.length W s a := by
  induction mid with
  | nil =>
    intro k W s a _ hk hs h
    have hkn : k = N := by simpa using hk
    subst hkn
    exact hZ W s a hs h
  | cons o mid ih =>
    intro k W s a hl hk hs h
    simp only [List.length_cons] at hk
    have e3 : ops.size - k = (ops.size - (k + 1)) + 1 := by omega
    simp only [e3, Region.seqB, Bool.and_eq_true, decide_eq_true_eq] at hs
    have h0 : ops[k]? = some o := by simpa using (hl 0 (by simp)).symm
    refine ⟨by rw [hs.1]; simp, fun i hi => ?_⟩
    rw [hs.1] at hi
    obtain rfl : i = k := by simpa using hi
    refine ⟨by omega, fun o' ho' => ?_⟩
    obtain rfl : o' = o := Option.some.inj (ho'.symm.trans h0)
    refine .inr ⟨h.1, fun w1 k1 => madeUpon_mono (fun w2 v _ hk' => ?_) (h.2 w1 k1)⟩
    refine ih (i + 1) w2 _ _ (fun j hj => ?_) (by omega) hs.2 hk'
    have h1 := hl (j + 1) (by simp; omega)
    have e2 : i + (j + 1) = i + 1 + j := by omega
    rw [e2] at h1
    simpa using h1

theorem wp_region_mades {id : Nat} {Q : Exit → Act → World → Prop} {a : Act} {w : World} {l : List Oper} (n m : Nat) (hm : P.follows .mixedOrders = true) (hB : madesB .any l.toArray n m = true)
    (h : wpGrow P l.toArray w (fun a' => wpMades P l.toArray (fun W a'' => ∀ w3, Kept W w3 → wpList P l.toArray Q (l.drop (n + m)) a'' w3) ((l.drop n).take m) w a') (l.take n) a) : (Code.region id l.toArray true).wp P Q a w := by
  simp only [madesB, Bool.and_eq_true, decide_eq_true_eq] at hB
  obtain ⟨⟨⟨hsel, hw⟩, hn⟩, hlex⟩ := hB
  have hn' : n + m ≤ l.length := by simpa using hn
  have e1 : (l.take n).length = n := by simp; omega
  have e2 : (l.drop (n + m)).length = l.toArray.size - (n + m) := by simp
  have e5 : ((l.drop n).take m).length = m := by simp; omega
  have inv : HeadInv .any l.toArray (n + m) (Array.replicate l.toArray.size false) :=
    ⟨by simp, fun j oj _ hl => (by rw [getD_replicate_false] at hl; cases hl), fun t _ ht => getD_in (by simpa using ht) (getD_replicate_false _ _)⟩
  let E : World → Act → Prop := fun W a => ∀ w3, Kept W w3 → wpList P l.toArray Q (l.drop (n + m)) a w3
  let Z : World → Array Bool → Act → Prop := fun W s a => Region.seqB .any l.toArray (l.toArray.size - (n + m)) (n + m) s = true ∧ E W a
  have H := opens_lex (P := P) (md := .any) (ops := l.toArray) (N := n + m) (n := n) (m := m) (Z := Z) (W := w) (G := fun k s => Region.seqB .any l.toArray (l.toArray.size - n) k s)
    (L := fun f k s => Region.lexHead .any l.toArray (l.toArray.size - n) f k s) hsel hw (by omega) (fun W s a hz => seqB_ready hz.1) (fun s a' _ hG hE => by
      have h0 := opens_mades (P := P) (md := .any) (ops := l.toArray) (N := n + m) (Z' := Z) (E := E) (fun W s a h1 h2 => ⟨h1, h2⟩) (by simpa using hn') ((l.drop n).take m) n w s a' (fun j hj => by
        rw [e5] at hj
        simp [hj]) (by rw [e5]) hG hE
      rwa [e5] at h0) (fun k s => rfl) (fun f k s => rfl) (l.take n) 0 _ a (fun j hj => by
      rw [e1] at hj
      simp [hj]) (by simpa using e1) inv (by rw [e1]; exact hlex) h
  refine wp_region_any hm ?_
  have A := opens_any (Q := Q) (g := l.toArray.size - (n + m)) (fun W s a' w' hk hz => by
    have B := wpAny_of_seq (md := .any) (Q' := Q) (l.drop (n + m)) (n + m) s a' w' (fun j => by simp [List.getElem?_drop]) (by rw [e2]; exact hz.1) (hz.2 w' hk)
    rwa [e2] at B) _ _ _ _ _ (show Kept w w.drew from (Below.refl _ _).drew) H
  have e4 : n + m + (l.toArray.size - (n + m)) = l.toArray.size := by omega
  rw [e1, e4] at A
  exact A
end
end Go.Proofs.Ytdigknenijmjcaa

namespace Go.Proofs.Ytdigknenijmjcaa
open Go.RowKit
set_option linter.unusedVariables false
attribute [local go_sem] growUpon growAt

end Go.Proofs.Ytdigknenijmjcaa
