/- A request, drawn, and bent. -/
import Derived.Test.YtgjbjafodkiilaaTj36
import Derived.Test.YtgjbjafodkiilaaTj12
import Derived.Test.YtgjbjafodkiilaaTj37
namespace Go.Proofs.Ytgjbjafodkiilaa
open Go.RowKit
set_option linter.unusedVariables false
attribute [local go_sem] growUponR growAtR

/-- A request was drawn, right or not. -/
def BentQ (w : World) (B b : Nat) (a : Option Addr) (len cap : Nat) (f : Nat → Int) (t : Int) (e : Ending) (w' : World) : Prop :=
  ∃ (k : Int) (ao : Option Addr) (ca : Nat) (A : List Int) (bo : Option Addr) (cb : Nat) (D : List Int) (t' : Int), e = .returned (.agg #[.int .i64 k, .slice ao A.length ca, .slice bo D.length cb]) ∧ 0 ≤ k ∧ k ≤ 14 ∧ A.length ≤ 8 ∧ D.length ≤ 25 ∧ (∀ x ∈ A, -1 ≤ x ∧ x ≤ 256) ∧ byts D ∧ Turn b w w' ∧ 0 ≤ t' ∧ t' ≤ t + 30 ∧ Src w' B b a len cap f t' ∧ OwnR .i64 2 w' w.heap.size ao ca A ∧ OwnR .u8 5 w' w.heap.size bo cb D

theorem made_callR {R : World → World → Prop} {P : Program} {o : Oper} {a : Act} {w : World} {K : World → Value → Prop} {f : FuncId} {args : Array Value} (h : (execOp a.eval o).run P w = .ok (.enter f args) w)
    (hc : Calls P f args w fun e w'' => ∃ v, e = .returned v ∧ R w w'' ∧ K w'' v) : madeAtR R P o a w K := by
  unfold madeAtR
  rw [h]
  exact ⟨rfl, hc⟩
theorem rel_kept : Rel Kept := ⟨fun w => Kept.refl w, fun h k => h.trans k, fun w o => (Below.refl _ _).alloc (Nat.le_refl _) o, fun w => (Below.refl _ _).drew⟩
theorem wpList_appG {k : IntKind} {T S : TypeId} {bytes : Nat} {w : World} {ops : Array Oper} {rest : List Oper} {o : Oper} {a : Act} {Q : Exit → Act → World → Prop}
    (hu : Try.prog.underlying S = some (.slice T)) (hinf : (Try.prog.info? T).map (fun i => (i.zero, i.size, i.bytes)) = some (some (.int k 0), 1, bytes)) (hby : bytes ≤ 8)
    (hg : o.guard = none) (s x : Operand) (ho : o.op = .call { callee := .builtin .append, args := #[s, x], argTypes := #[S, S] })
    (base : Nat) (ao : Option Addr) (cap : Nat) (M : List Int) (hs : a.eval s = .slice ao M.length cap) (hown : OwnR k T w base ao cap M)
    (g cb : Nat) (z : Int) (hx : a.eval x = .slice (some ⟨g, 0, none⟩) 1 cb) (hc : w.cell? ⟨g, 0, none⟩ = some (.int k z)) (hn : M.length ≤ 1000) (hbase : base ≤ w.heap.size)
    (h : ∀ ao' cap' w', OwnR k T w' base ao' cap' (M ++ [z]) → w.grownBy w' (Value.ownBlock (.slice ao M.length cap)) → wpList Try.prog ops Q rest (a.put o.dst (.slice ao' (M.length + 1) cap')) w') : wpList Try.prog ops Q (o :: rest) a w := by
  refine wpList_plain hg fun _ hK => ?_
  obtain ⟨i0, hi0, hz0, hz1, hz2⟩ := info_parts hinf
  refine wp_append_own w s x S ho base T i0 (.int k 0) 1 bytes hu hi0 hz0 hz1 hz2 rfl (by decide) _ M.length (M.map (Value.int k)) hs hown ⟨g, 0, none⟩ 1 cb [.int k z] hx (by simp) (fun j u hj => ?_) (fun v hv => ?_) (by unfold maxLen; omega) ?_ hbase fun v' w' ho' hg' _ => ?_
  · obtain ⟨hj', e⟩ := List.getElem?_eq_some_iff.1 hj
    obtain rfl : j = 0 := by simpa using hj'
    rw [← e, add_none]
    exact hc
  · simp at hv; subst hv; rfl
  · have : (M.length + 1) * bytes ≤ 2000 * 8 := Nat.mul_le_mul (by omega) hby
    omega
  · have ho'' : w'.ownsRow base T 1 v' (M.length + 1) ((M ++ [z]).map (Value.int k)) := by simpa using ho'
    obtain ⟨ao', cap', rfl, O⟩ := ownR_form ho''
    have hh := h ao' cap' w' O hg'
    refine hK _ _ ?_
    simpa using hh
theorem rel_turn (b : Nat) : Rel (Turn b) := ⟨Turn.refl b, fun h k => h.trans k, fun w o => (Turn.refl b w).alloc o, fun w => (Turn.refl b w).drew⟩
theorem all_small {A : List Int} (h : A.all isB = true) : ∀ x ∈ A, -1 ≤ x ∧ x ≤ 256 := fun x hx => by
  have := isB_yes (List.all_eq_true.1 h x hx); omega

theorem OwnR.setOff {k : IntKind} {T : TypeId} {w : World} {base : Nat} {ao : Option Addr} {cap : Nat} {L : List Int} (h : OwnR k T w base ao cap L) (p : Addr) (v : Value) (hp : ∀ g, Value.ownBlock (.slice ao L.length cap) = some g → g ≠ p.block) : OwnR k T (w.setCell p v) base ao cap L := by
  have hg : w.grownBy (w.setCell p v) (some p.block) := ⟨rfl, rfl, rfl, by simp, fun b _ hb => Below.heap_setCell w p v b (fun e => hb (by rw [e]))⟩
  refine World.ownsRow.kept h hg ?_
  cases hv : Value.ownBlock (.slice ao L.length cap) with
  | none => exact .inl rfl
  | some g => exact .inr fun e => by injection e with e; exact hp g hv e

/-- While a request is bent: its box and the result's box. -/
structure BS (w wr : World) (B b : Nat) (a : Option Addr) (len cap : Nat) (f : Nat → Int) (rb : Nat) (t : Int) (k : Int) (ao : Option Addr) (ca : Nat) (A : List Int) (bo : Option Addr) (cb : Nat) (D : List Int) (base : Nat) : Prop where
  turn : Turn b w wr
  res : R3 wr w.heap.size (.int .i64 0) (.slice none 0 0) (.slice none 0 0)
  box : R3 wr rb (.int .i64 k) (.slice ao A.length ca) (.slice bo D.length cb)
  src : Src wr B b a len cap f t
  ownA : OwnR .i64 2 wr base ao ca A
  ownD : OwnR .u8 5 wr base bo cb D
  ne1 : b < w.heap.size
  lt : w.heap.size < base
  le : base ≤ wr.heap.size
  rlt : w.heap.size < rb
  offA : ∀ g, Value.ownBlock (.slice ao A.length ca) = some g → g ≠ rb
  offD : ∀ g, Value.ownBlock (.slice bo D.length cb) = some g → g ≠ rb
theorem BS.next {w wr wr' : World} {B b : Nat} {a : Option Addr} {len cap : Nat} {f : Nat → Int} {rb : Nat} {t t' k : Int} {ao : Option Addr} {ca : Nat} {A : List Int} {bo : Option Addr} {cb : Nat} {D : List Int} {base : Nat} (h : BS w wr B b a len cap f rb t k ao ca A bo cb D base) (ht : Turn b wr wr') (hs : Src wr' B b a len cap f t') : BS w wr' B b a len cap f rb t' k ao ca A bo cb D base :=
  ⟨h.turn.trans ht, h.res.turn ht (by have := h.ne1; omega), h.box.turn ht (by have := h.ne1; have := h.rlt; omega), hs, h.ownA.turn ht (by have := h.ne1; have := h.lt; omega), h.ownD.turn ht (by have := h.ne1; have := h.lt; omega), h.ne1, h.lt, Nat.le_trans h.le ht.size, h.rlt, h.offA, h.offD⟩

theorem BS.fin {w wr : World} {B b : Nat} {a : Option Addr} {len cap : Nat} {f : Nat → Int} {rb : Nat} {t k : Int} {ao : Option Addr} {ca : Nat} {A : List Int} {bo : Option Addr} {cb : Nat} {D : List Int} {base : Nat} (h : BS w wr B b a len cap f rb t k ao ca A bo cb D base) (v0 v1 v2 : Value) :
    Turn b w (((wr.setCell ⟨w.heap.size, 0, none⟩ v0).setCell ⟨w.heap.size, 1, none⟩ v1).setCell ⟨w.heap.size, 2, none⟩ v2) ∧ Src (((wr.setCell ⟨w.heap.size, 0, none⟩ v0).setCell ⟨w.heap.size, 1, none⟩ v1).setCell ⟨w.heap.size, 2, none⟩ v2) B b a len cap f t ∧
    OwnR .i64 2 (((wr.setCell ⟨w.heap.size, 0, none⟩ v0).setCell ⟨w.heap.size, 1, none⟩ v1).setCell ⟨w.heap.size, 2, none⟩ v2) w.heap.size ao ca A ∧ OwnR .u8 5 (((wr.setCell ⟨w.heap.size, 0, none⟩ v0).setCell ⟨w.heap.size, 1, none⟩ v1).setCell ⟨w.heap.size, 2, none⟩ v2) w.heap.size bo cb D := by
  have hl := h.lt
  refine ⟨((h.turn.setCell (Nat.le_refl _) _).setCell (Nat.le_refl _) _).setCell (Nat.le_refl _) _, ((h.src.store ⟨w.heap.size, 0, none⟩ v0 h.ne1).store ⟨w.heap.size, 1, none⟩ v1 h.ne1).store ⟨w.heap.size, 2, none⟩ v2 h.ne1, ?_, ?_⟩
  · exact (((h.ownA.set ⟨w.heap.size, 0, none⟩ v0 hl).set ⟨w.heap.size, 1, none⟩ v1 hl).set ⟨w.heap.size, 2, none⟩ v2 hl).le (by omega)
  · exact (((h.ownD.set ⟨w.heap.size, 0, none⟩ v0 hl).set ⟨w.heap.size, 1, none⟩ v1 hl).set ⟨w.heap.size, 2, none⟩ v2 hl).le (by omega)
theorem BS.kind {w wr : World} {B b : Nat} {a : Option Addr} {len cap : Nat} {f : Nat → Int} {rb : Nat} {t k : Int} {ao : Option Addr} {ca : Nat} {A : List Int} {bo : Option Addr} {cb : Nat} {D : List Int} {base : Nat} (h : BS w wr B b a len cap f rb t k ao ca A bo cb D base) (z : Int) : BS w (wr.setCell ⟨rb, 0, none⟩ (.int .i64 z)) B b a len cap f rb t z ao ca A bo cb D base := by
  have hr := h.rlt
  have hb := h.ne1
  refine ⟨h.turn.setCell (by show w.heap.size ≤ rb; omega) _, ?_, ?_, h.src.store ⟨rb, 0, none⟩ _ (by show b < rb; omega), h.ownA.setOff _ _ h.offA, h.ownD.setOff _ _ h.offD, hb, h.lt, by simpa using h.le, hr, h.offA, h.offD⟩
  · have hne : ∀ o, (⟨w.heap.size, o, none⟩ : Addr) ≠ ⟨rb, 0, none⟩ := fun o e => by injection e with e; omega
    exact ⟨(World.cell?_setCell_other _ _ _ _ (hne 0).symm).trans h.res.c0, (World.cell?_setCell_other _ _ _ _ (hne 1).symm).trans h.res.c1, (World.cell?_setCell_other _ _ _ _ (hne 2).symm).trans h.res.c2, by simpa using h.res.f0, by simpa using h.res.f1, by simpa using h.res.f2, by simpa using h.res.lt⟩
  · exact ⟨cell_set_same h.box.c0, (cell_set_other (by omega)).trans h.box.c1, (cell_set_other (by omega)).trans h.box.c2, by simpa using h.box.f0, by simpa using h.box.f1, by simpa using h.box.f2, by simpa using h.box.lt⟩

theorem BS.putA {w wr : World} {B b : Nat} {a : Option Addr} {len cap : Nat} {f : Nat → Int} {rb : Nat} {t k : Int} {ao : Option Addr} {ca : Nat} {A : List Int} {bo : Option Addr} {cb : Nat} {D : List Int} {base : Nat} (h : BS w wr B b a len cap f rb t k ao ca A bo cb D base) {ao' : Option Addr} {ca' : Nat} {A' : List Int} (O : OwnR .i64 2 wr base ao' ca' A') (off : ∀ g, Value.ownBlock (.slice ao' A'.length ca') = some g → g ≠ rb) : BS w (wr.setCell ⟨rb, 1, none⟩ (.slice ao' A'.length ca')) B b a len cap f rb t k ao' ca' A' bo cb D base := by
  have hr := h.rlt
  have hb := h.ne1
  refine ⟨h.turn.setCell (by show w.heap.size ≤ rb; omega) _, ?_, h.box.put1 _, h.src.store ⟨rb, 1, none⟩ _ (by show b < rb; omega), O.setOff _ _ off, h.ownD.setOff _ _ h.offD, hb, h.lt, by simpa using h.le, hr, off, h.offD⟩
  have hne : ∀ o, (⟨w.heap.size, o, none⟩ : Addr) ≠ ⟨rb, 1, none⟩ := fun o e => by injection e with e; omega
  exact ⟨(World.cell?_setCell_other _ _ _ _ (hne 0).symm).trans h.res.c0, (World.cell?_setCell_other _ _ _ _ (hne 1).symm).trans h.res.c1, (World.cell?_setCell_other _ _ _ _ (hne 2).symm).trans h.res.c2, by simpa using h.res.f0, by simpa using h.res.f1, by simpa using h.res.f2, by simpa using h.res.lt⟩
theorem BS.putD {w wr : World} {B b : Nat} {a : Option Addr} {len cap : Nat} {f : Nat → Int} {rb : Nat} {t k : Int} {ao : Option Addr} {ca : Nat} {A : List Int} {bo : Option Addr} {cb : Nat} {D : List Int} {base : Nat} (h : BS w wr B b a len cap f rb t k ao ca A bo cb D base) {bo' : Option Addr} {cb' : Nat} {D' : List Int} (O : OwnR .u8 5 wr base bo' cb' D') (off : ∀ g, Value.ownBlock (.slice bo' D'.length cb') = some g → g ≠ rb) : BS w (wr.setCell ⟨rb, 2, none⟩ (.slice bo' D'.length cb')) B b a len cap f rb t k ao ca A bo' cb' D' base := by
  have hr := h.rlt
  have hb := h.ne1
  refine ⟨h.turn.setCell (by show w.heap.size ≤ rb; omega) _, ?_, h.box.put2 _, h.src.store ⟨rb, 2, none⟩ _ (by show b < rb; omega), h.ownA.setOff _ _ h.offA, O.setOff _ _ off, hb, h.lt, by simpa using h.le, hr, h.offA, off⟩
  have hne : ∀ o, (⟨w.heap.size, o, none⟩ : Addr) ≠ ⟨rb, 2, none⟩ := fun o e => by injection e with e; omega
  exact ⟨(World.cell?_setCell_other _ _ _ _ (hne 0).symm).trans h.res.c0, (World.cell?_setCell_other _ _ _ _ (hne 1).symm).trans h.res.c1, (World.cell?_setCell_other _ _ _ _ (hne 2).symm).trans h.res.c2, by simpa using h.res.f0, by simpa using h.res.f1, by simpa using h.res.f2, by simpa using h.res.lt⟩
theorem BS.grow {w wr wr' : World} {B b : Nat} {a : Option Addr} {len cap : Nat} {f : Nat → Int} {rb : Nat} {t k : Int} {ao : Option Addr} {ca : Nat} {A : List Int} {bo : Option Addr} {cb : Nat} {D : List Int} {base : Nat} (h : BS w wr B b a len cap f rb t k ao ca A bo cb D base) (kk : Below wr.heap.size wr wr') : BS w wr' B b a len cap f rb t k ao ca A bo cb D base := h.next (Turn.of_below kk) (h.src.grow kk)
theorem R3.block {w w' : World} {q : Nat} {v0 v1 v2 : Value} (h : R3 w q v0 v1 v2) (hb : w'.heap[q]? = w.heap[q]?) (hs : w.heap.size ≤ w'.heap.size) : R3 w' q v0 v1 v2 :=
  ⟨(World.cell?_of_block (w := w) (a := ⟨q, 0, none⟩) hb).trans h.c0, (World.cell?_of_block (w := w) (a := ⟨q, 1, none⟩) hb).trans h.c1, (World.cell?_of_block (w := w) (a := ⟨q, 2, none⟩) hb).trans h.c2,
    (World.frozen?_of_block (w := w) (a := ⟨q, 0, none⟩) hb).trans h.f0, (World.frozen?_of_block (w := w) (a := ⟨q, 1, none⟩) hb).trans h.f1, (World.frozen?_of_block (w := w) (a := ⟨q, 2, none⟩) hb).trans h.f2, Nat.lt_of_lt_of_le h.lt hs⟩
theorem own_type {k : IntKind} {T : TypeId} {w : World} {base : Nat} {ao : Option Addr} {cap : Nat} {L : List Int} (h : OwnR k T w base ao cap L) {g : Nat} (e : Value.ownBlock (.slice ao L.length cap) = some g) : ∃ cur, w.heap[g]? = some (.cells cur T (0, 0)) := by
  rcases h.2 with ⟨hx, _⟩ | ⟨g', c', cur, hx, _, hh, _⟩
  · injection hx with h1; subst h1; simp [Value.ownBlock] at e
  · injection hx with h1; subst h1; simp only [Value.ownBlock, Option.some.injEq] at e; subst e; exact ⟨cur, hh⟩
theorem BS.app {w wr w' : World} {B b : Nat} {a : Option Addr} {len cap : Nat} {f : Nat → Int} {rb : Nat} {t k : Int} {ao : Option Addr} {ca : Nat} {A : List Int} {bo : Option Addr} {cb : Nat} {D : List Int} {base : Nat} (h : BS w wr B b a len cap f rb t k ao ca A bo cb D base) {ao' : Option Addr} {ca' : Nat} {A' : List Int} (O : OwnR .i64 2 w' base ao' ca' A') (G : wr.grownBy w' (Value.ownBlock (.slice ao A.length ca))) (raw : ∃ cs, wr.heap[rb]? = some (.cells cs 42 (0, 0))) :
    R3 w' w.heap.size (.int .i64 0) (.slice none 0 0) (.slice none 0 0) ∧ R3 w' rb (.int .i64 k) (.slice ao A.length ca) (.slice bo D.length cb) ∧ BS w (w'.setCell ⟨rb, 1, none⟩ (.slice ao' A'.length ca')) B b a len cap f rb t k ao' ca' A' bo cb D base := by
  have hlow : ∀ q, q < base → some q ≠ Value.ownBlock (.slice ao A.length ca) := fun q hq e => by
    have := (World.ownsRow.lt h.ownA q e.symm).1; omega
  have hl := h.lt
  have hle := h.le
  have hb := h.ne1
  have hr := h.rlt
  have kr : w'.heap[rb]? = wr.heap[rb]? := G.block rb h.box.lt (fun e => h.offA rb e.symm rfl)
  have k0 : w'.heap[w.heap.size]? = wr.heap[w.heap.size]? := G.block _ h.res.lt (hlow _ hl)
  have res' := h.res.block k0 G.size
  have box' := h.box.block kr G.size
  have hK : Below base wr w' := ⟨G.os, G.tape, G.output, G.size, fun q hq => G.block q (by omega) (hlow q hq)⟩
  have offA' : ∀ g, Value.ownBlock (.slice ao' A'.length ca') = some g → g ≠ rb := fun g e e' => by
    obtain ⟨cur, hc⟩ := own_type O e
    obtain ⟨cs, hr'⟩ := raw
    rw [e', kr, hr'] at hc
    simp at hc
  have ownD' : OwnR .u8 5 w' base bo cb D := by
    refine World.ownsRow.kept h.ownD G ?_
    cases hv : Value.ownBlock (.slice bo D.length cb) with
    | none => exact .inl rfl
    | some g =>
      refine .inr fun e => ?_
      obtain ⟨c1, h1⟩ := own_type h.ownD hv
      obtain ⟨c2, h2⟩ := own_type h.ownA e.symm
      rw [h1] at h2
      simp at h2
  have tr : Turn b w w' := ⟨G.os.trans h.turn.os, G.tape.trans h.turn.tape, G.output.trans h.turn.output, Nat.le_trans h.turn.size G.size, fun q hq hq' => (G.block q (by omega) (hlow q (by omega))).trans (h.turn.block q hq hq')⟩
  refine ⟨res', box', ⟨tr.setCell (by show w.heap.size ≤ rb; omega) _, ?_, box'.put1 _, (h.src.below hK (by omega)).store ⟨rb, 1, none⟩ _ (by show b < rb; omega), O.setOff _ _ offA', ownD'.setOff _ _ h.offD, hb, hl, by have := G.size; simp; omega, hr, offA', h.offD⟩⟩
  have hne : ∀ o, (⟨w.heap.size, o, none⟩ : Addr) ≠ ⟨rb, 1, none⟩ := fun o e => by injection e with e; omega
  exact ⟨(World.cell?_setCell_other _ _ _ _ (hne 0).symm).trans res'.c0, (World.cell?_setCell_other _ _ _ _ (hne 1).symm).trans res'.c1, (World.cell?_setCell_other _ _ _ _ (hne 2).symm).trans res'.c2, by simpa using res'.f0, by simpa using res'.f1, by simpa using res'.f2, by simpa using res'.lt⟩
theorem zerosB {w : World} {base g n : Nat} (h : w.ownsRow base 5 1 (.slice (some ⟨g, 0, none⟩) n n) n (madeCells (Value.int .u8 0).cells (n * 1)).toList) : OwnR .u8 5 w base (some ⟨g, 0, none⟩) n (List.replicate n 0) := by
  have e : (madeCells (Value.int .u8 0).cells (n * 1)).toList = (List.replicate n 0).map (Value.int .u8) := by
    apply List.ext_getElem
    · simp [madeCells, Value.cells]
    · intro i h1 h2
      have hm : i % 1 = 0 := Nat.mod_one i
      simp [madeCells, Value.cells, hm]
  unfold OwnR
  rw [e] at h
  simpa using h

set_option maxRecDepth 100000 in
set_option maxHeartbeats 4000000 in
theorem bent3_any (w : World) (B b : Nat) (a : Option Addr) (len cap : Nat) (f : Nat → Int) (t : Int) (S : Src w B b a len cap f t) (t0 : 0 ≤ t) (t1 : t ≤ 60000) :
    Calls Try.prog 17 #[.pointer (some ⟨b, 0, none⟩)] w (BentQ w B b a len cap f t) := by
  have HS := hideP S
  have hlt := S.lt
  have hne : ¬ w.heap.size = b := by omega
  clear S
  obtain ⟨i0, hi0, hz0, hz1, hz2⟩ := info_parts Try.infoB
  go_enter Try.func17, Try.ntmps17
  go_wp2_with fail
  refine Calls.mono (next_any _ _ _ _ _ _ _ _ 3 (HS.out.grow (by go_grown)) (by omega) (by omega) (by omega) (by omega)) ?_
  rintro e w1 ⟨s, rfl, s0, s1, ht, hs⟩
  have T1 : Hid (Turn b w w1) := hideP ((Turn.of_below (by go_grown)).trans ht)
  have R1 : Hid (R3 w1 w.heap.size (.int .i64 0) (.slice none 0 0) (.slice none 0 0)) := hideP (R3.turn ⟨by simp, by simp, by simp, by simp, by simp, by simp, by simp⟩ ht hne)
  have S1 := hideP hs
  have n1 := R1.out.lt
  clear ht hs HS
  go_wp2_with fail
  refine Calls.mono (draw3_any w1 _ _ _ _ _ _ _ s S1.out (by omega) (by omega) (by omega) (by omega)) ?_
  rintro e w2 ⟨k, ao, ca, A, bo, cb, D, u, rfl, hF, hDB, T2, u0, u1, S2, -, -, OA, OD⟩
  obtain ⟨l1, l2, q1, q2, q3⟩ := rF_lens hF
  have HA := hideP (all_small q3)
  have HDB := hideP hDB
  have n2 := T2.size
  have ka : Below w2.heap.size w2 (w2.alloc (.cells #[.int .i64 k, .slice ao A.length ca, .slice bo D.length cb] 42)) := (Below.refl _ _).alloc (Nat.le_refl _) _
  have HB : Hid (BS w (w2.alloc (.cells #[.int .i64 k, .slice ao A.length ca, .slice bo D.length cb] 42)) B b a len cap f w2.heap.size u k ao ca A bo cb D w1.heap.size) :=
    hideP ⟨(T1.out.trans T2).alloc _, (R1.out.turn T2 hne).turn (Turn.alloc (Turn.refl b w2) _) hne, ⟨by simp, by simp, by simp, by simp, by simp, by simp, by simp⟩, S2.grow ka, OA.alloc _, OD.alloc _, hlt, n1, by simp; omega, by omega, fun g e => by have := (World.ownsRow.lt OA g e).2; omega, fun g e => by have := (World.ownsRow.lt OD g e).2; omega⟩
  have HRW0 : Hid (∃ cs, (w2.alloc (.cells #[.int .i64 k, .slice ao A.length ca, .slice bo D.length cb] 42)).heap[w2.heap.size]? = some (.cells cs 42 (0, 0))) := hideP ⟨_, heap_alloc_new w2 _⟩
  clear T1 R1 S1 T2 S2 OA OD ka hF q3 hDB
  go_wp2_with fail
  generalize w2.alloc (.cells #[.int .i64 k, .slice ao A.length ca, .slice bo D.length cb] 42) = w3 at *
  generalize w2.heap.size = rb at *
  generalize w1.heap.size = base at *
  refine Calls.mono (next_any _ _ _ _ _ _ _ _ 12 HB.out.src (by omega) (by omega) (by omega) (by omega)) ?_
  rintro e w4 ⟨y, rfl, y0, y1, ht, hs⟩
  have HB4 := hideP (HB.out.next ht hs)
  have HRW : Hid (∃ cs, w4.heap[rb]? = some (.cells cs 42 (0, 0))) := hideP (by
    obtain ⟨cs, h⟩ := HRW0.out
    exact ⟨cs, by rw [ht.block rb HB.out.box.lt (by have := HB.out.rlt; omega)]; exact h⟩)
  clear ht hs HB HRW0
  have hAl : A.length ≤ 8 := by omega
  have hDl : D.length ≤ 25 := by omega
  by_cases e0 : y = 0
  · subst e0
    go_wp2_with fail
    refine Calls.mono (pickQ (fun n => 0 ≤ n ∧ n ≤ 14) _ B b a len cap f _ _ _ _ _ rfl (inbL [0, 1, 10, 14] (by simp)) HB4.out.src (by omega) (by omega) (by decide) (by decide)) ?_
    rintro e w5 ⟨z, rfl, ⟨z0, z1⟩, ht, hs⟩
    have HB5 := hideP (HB4.out.next ht hs)
    clear ht hs HB4
    have HBk := hideP (HB5.out.kind z)
    obtain ⟨a0, a1, a2, a3, a4, a5, a6⟩ := HB5.out.res
    obtain ⟨b0, b1, b2, b3, b4, b5, b6⟩ := HB5.out.box
    have hrb := HB5.out.rlt
    have hrb' : ¬ rb = w.heap.size := by omega
    have hrb'' : ¬ w.heap.size = rb := by omega
    go_wp2
    refine bodyPost_ret (v := .agg #[.int .i64 z, .slice ao A.length ca, .slice bo D.length cb]) (by simp [results, Try.results17, go_sem, *]) rfl ⟨z, ao, ca, A, bo, cb, D, _, rfl, z0, z1, hAl, hDl, HA.out, HDB.out, (HBk.out.fin _ _ _).1, by omega, by omega, (HBk.out.fin _ _ _).2.1, (HBk.out.fin _ _ _).2.2.1, (HBk.out.fin _ _ _).2.2.2⟩
  by_cases e1 : y = 1
  · subst e1
    obtain ⟨b0, b1, b2, b3, b4, b5, b6⟩ := HB4.out.box
    have hrb := HB4.out.rlt
    have hrbb : ¬ rb = b := by omega
    have hraw : ∃ cs, w4.heap[rb]? = some (.cells cs 42 (0, 0)) := HRW.out
    have HRW' := hideP hraw
    clear hraw
    go_wp2
    refine wp_region_made3R (R := Turn b) (G := Kept) (rel_turn b) rel_kept (fun h => Turn.of_below h) 3 (by kernel_rfl) (by kernel_rfl) ?_
    simp only [List.take_succ_cons, List.take_zero, List.drop_succ_cons, List.drop_zero]
    repeat (refine grow_stepR (by rfl) ?_; apply Exists.intro; refine ⟨fun w1 k1 => ?_, fun K hK => ?_⟩; (focus (have hc := Turn.cell k1; go_simp; first | done | rfl)); (go_simp; refine hK _ ?_; clear hK K))
    refine grow_nilR ?_
    intro o1 o2 o3 ho1 ho2 ho3
    cases ho1
    cases ho2
    cases ho3
    refine ⟨by rfl, fun w5 k5 => ?_⟩
    refine made_allocR (rel_turn b) (b := .cells #[.int .i64 1, .int .i64 256, .int .i64 (-1)] 2) (by go_simp; first | done | rfl) ?_
    refine ⟨by rfl, fun w6 k6 => ?_⟩
    have kk5 := Kept.below k5
    have kk6 := Kept.below k6
    have n5 := kk5.size
    have hsm := HB4.out.src.lt
    have K46 : Below w4.heap.size w4 w6 := kk5.trans (((Below.refl _ w5).alloc (Nat.le_refl _) (.cells #[.int .i64 1, .int .i64 256, .int .i64 (-1)] 2)).mono n5 |>.trans (kk6.mono (by simp; omega)))
    have NU : Nums w6 w5.heap.size 3 (fun i => ([1, 256, -1] : List Int).getD i 0) := ⟨by have := kk6.size; simp at this; omega, fun i hi => by
      rw [kk6.cell (p := ⟨w5.heap.size, i, none⟩) (by simp), World.cell?_alloc_new]
      have : i = 0 ∨ i = 1 ∨ i = 2 := by omega
      rcases this with rfl | rfl | rfl <;> rfl⟩
    have HB6 := HB4.out.grow K46
    refine made_callR (by go_simp; first | done | rfl) ((pickQ_of w6 B b a len cap f _ w5.heap.size 3 3 _ HB6.src (by omega) (by omega) (by omega) (by omega) NU (by omega)).mono ?_)
    rintro e w7 ⟨z, rfl, ⟨i, hi, hz⟩, ht, hs⟩
    have hz' : -1 ≤ z ∧ z ≤ 256 := by
      have : i = 0 ∨ i = 1 ∨ i = 2 := by omega
      rcases this with rfl | rfl | rfl <;> (simp at hz; omega)
    refine ⟨_, rfl, ht, by rfl, fun w8 k8 => ?_⟩
    refine made_allocR (rel_turn b) (b := .cells #[.int .i64 z] 2) (by go_simp; first | done | rfl) ?_
    intro w9 k9
    have kk8 := Kept.below k8
    have kk9 := Kept.below k9
    have K79 : Below w7.heap.size w7 w9 := kk8.trans (((Below.refl _ w8).alloc (Nat.le_refl _) (.cells #[.int .i64 z] 2)).mono kk8.size |>.trans (kk9.mono (by have := kk8.size; simp; omega)))
    have HB9 := hideP ((HB6.next ht hs).grow K79)
    have hC9 : Hid (w9.cell? ⟨w8.heap.size, 0, none⟩ = some (.int .i64 z)) := hideP (by
      rw [kk9.cell (p := ⟨w8.heap.size, 0, none⟩) (by simp), World.cell?_alloc_new]; rfl)
    have HR9 : Hid (∃ cs, w9.heap[rb]? = some (.cells cs 42 (0, 0))) := hideP (by
      obtain ⟨cs, h⟩ := HRW'.out
      refine ⟨cs, ?_⟩
      have r4 := b6
      rw [K79.block rb (by have := K46.size; have := ht.size; omega), ht.block rb (by have := K46.size; omega) hrbb, K46.block rb r4]
      exact h)
    clear k5 k6 k8 k9 kk5 kk6 kk8 kk9 K46 K79 NU HB6 ht hs HB4 HRW' b0 b1 b2 b3 b4 b5 b6 hz hi
    obtain ⟨b0, b1, b2, b3, b4, b5, b6⟩ := HB9.out.box
    go_simp
    go_wp2_with (first | (at_builtin; refine wpList_appG (k := .i64) (T := 2) (S := 40) (bytes := 8) Try.underlying40 Try.infoI (by omega) rfl _ _ rfl base ao ca A rfl HB9.out.ownA w8.heap.size 1 z rfl hC9.out (by omega) HB9.out.le ?_; intro ao2 ca2 w10 O10 G10; refine Hid.out ?_) | go_in)
    obtain ⟨X0, X1, HBA⟩ := HB9.out.app O10 G10 HR9.out
    have HBA' := hideP HBA
    clear O10 G10 HBA b0 b1 b2 b3 b4 b5 b6 HB9 hC9 HR9
    refine hideP ?_
    obtain ⟨a0, a1, a2, a3, a4, a5, a6⟩ := X0
    obtain ⟨b0, b1, b2, b3, b4, b5, b6⟩ := X1
    have hrb' : ¬ rb = w.heap.size := by omega
    have hrb'' : ¬ w.heap.size = rb := by omega
    have hlen : Hid ((A ++ [z]).length = A.length + 1) := hideP (by simp)
    rw [hlen.out] at HBA'
    go_wp2
    refine bodyPost_ret (v := .agg #[.int .i64 k, .slice ao2 (A.length + 1) ca2, .slice bo D.length cb]) (by simp [results, Try.results17, go_sem, *]) rfl ⟨k, ao2, ca2, A ++ [z], bo, cb, D, _, by rw [hlen.out], by omega, by omega, by rw [hlen.out]; omega, hDl, ?_, HDB.out, (HBA'.out.fin _ _ _).1, by omega, by omega, (HBA'.out.fin _ _ _).2.1, (HBA'.out.fin _ _ _).2.2.1, (HBA'.out.fin _ _ _).2.2.2⟩
    intro x hx
    rcases List.mem_append.1 hx with hx | hx
    · exact HA.out x hx
    · obtain rfl : x = z := by simpa using hx
      exact hz'
  by_cases e2 : y = 2
  · subst e2
    go_wp2_with fail
    refine Calls.mono (pickQ (fun n => 0 ≤ n ∧ n ≤ 25) _ B b a len cap f _ _ _ _ _ rfl (inbL [1, 24, 25] (by simp)) HB4.out.src (by omega) (by omega) (by decide) (by decide)) ?_
    rintro e w5 ⟨z, rfl, ⟨z0, z1⟩, ht, hs⟩
    have HB5 := hideP (HB4.out.next ht hs)
    clear ht hs HB4
    obtain ⟨n, rfl⟩ : ∃ n : Nat, z = n := ⟨z.toNat, by omega⟩
    go_wp2_with (first | (at_make; refine wpList_make_full _ rfl _ _ 22 rfl w5.heap.size 5 i0 (.int .u8 0) 1 Try.underlying22 hi0 hz0 hz1 .i64 .i64 _ _ n rfl rfl rfl rfl (by rw [hz2]; omega) (by unfold maxLen; omega) (Nat.le_refl _) ?_; intro w6 hown6 hgrow6; refine Hid.out ?_) | go_in)
    have k6 : Below w5.heap.size w5 w6 := (Below.refl _ w5).grown hgrow6 (Nat.le_refl _) (by simp)
    have O6 := (zerosB hown6).le HB5.out.le
    have r5 := HB5.out.box.lt
    have HB6 := hideP (HB5.out.grow k6)
    have HB7 := hideP (HB6.out.putD O6 (fun g e => by simp [Value.ownBlock] at e; omega))
    rw [List.length_replicate] at HB7
    clear hown6 hgrow6 k6 O6 HB5
    refine hideP ?_
    obtain ⟨a0, a1, a2, a3, a4, a5, a6⟩ := HB6.out.res
    obtain ⟨b0, b1, b2, b3, b4, b5, b6⟩ := HB6.out.box
    have hrb := HB6.out.rlt
    have hrb' : ¬ rb = w.heap.size := by omega
    have hrb'' : ¬ w.heap.size = rb := by omega
    go_wp2
    refine bodyPost_ret (v := .agg #[.int .i64 k, .slice ao A.length ca, .slice (some ⟨w5.heap.size, 0, none⟩) n n]) (by simp [results, Try.results17, go_sem, *]) rfl ⟨k, ao, ca, A, some ⟨w5.heap.size, 0, none⟩, n, List.replicate n 0, _, by simp, by omega, by omega, hAl, by simp; omega, HA.out, (fun i hi => by simp), (HB7.out.fin _ _ _).1, by omega, by omega, (HB7.out.fin _ _ _).2.1, (HB7.out.fin _ _ _).2.2.1, (HB7.out.fin _ _ _).2.2.2⟩
  · have d0 : (y == 0) = false := by simp [e0]
    have d1 : (y == 1) = false := by simp [e1]
    have d2 : (y == 2) = false := by simp [e2]
    obtain ⟨a0, a1, a2, a3, a4, a5, a6⟩ := HB4.out.res
    obtain ⟨b0, b1, b2, b3, b4, b5, b6⟩ := HB4.out.box
    have hrb := HB4.out.rlt
    have hrb' : ¬ rb = w.heap.size := by omega
    have hrb'' : ¬ w.heap.size = rb := by omega
    go_wp2
    refine bodyPost_ret (v := .agg #[.int .i64 k, .slice ao A.length ca, .slice bo D.length cb]) (by simp [results, Try.results17, go_sem, *]) rfl ⟨k, ao, ca, A, bo, cb, D, _, rfl, by omega, by omega, hAl, hDl, HA.out, HDB.out, (HB4.out.fin _ _ _).1, by omega, by omega, (HB4.out.fin _ _ _).2.1, (HB4.out.fin _ _ _).2.2.1, (HB4.out.fin _ _ _).2.2.2⟩

end Go.Proofs.Ytgjbjafodkiilaa
