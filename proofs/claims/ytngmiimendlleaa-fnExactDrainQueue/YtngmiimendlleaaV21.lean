/- Messages in a row that grows. -/
import Derived.Test.YtngmiimendlleaaV20
namespace Go.Proofs.Ytngmiimendlleaa
open Go.RowKit
set_option linter.unusedVariables false

def Mg.vals (m : Mg) : List Value := [.int .i64 m.k, .slice m.b.ao m.b.L.length m.b.cap]
def mcs (L : List Mg) : List Value := L.flatMap Mg.vals
theorem mcs_app (L M : List Mg) : mcs (L ++ M) = mcs L ++ mcs M := by simp [mcs]
theorem mcs_len (L : List Mg) : (mcs L).length = L.length * 2 := by
  induction L with
  | nil => rfl
  | cons m L ih => simp only [mcs, List.flatMap_cons, List.length_append, List.length_cons] at ih ⊢; simp only [Mg.vals, List.length_cons, List.length_nil]; omega
theorem mcs_at (L : List Mg) (i : Nat) (hi : i < L.length) (j : Nat) (hj : j < 2) : (mcs L)[i * 2 + j]? = L[i].vals[j]? := by
  have e : L = L.take i ++ L[i] :: L.drop (i + 1) := by simp
  have h : mcs L = mcs (L.take i) ++ (L[i].vals ++ mcs (L.drop (i + 1))) := by
    have h1 : mcs L = mcs (L.take i ++ L[i] :: L.drop (i + 1)) := by rw [← e]
    rw [h1, mcs_app]; rfl
  rw [h, List.getElem?_append_right (by rw [mcs_len]; simp; omega), mcs_len, List.length_take, Nat.min_eq_left (by omega), Nat.add_sub_cancel_left, List.getElem?_append_left (by simp [Mg.vals]; omega)]

/-- The slice owns its row of messages. -/
structure OwnM (w : World) (base : Nat) (so : Option Addr) (sc : Nat) (L : List Mg) : Prop where
  row : w.ownsRow base 52 2 (.slice so L.length sc) L.length (mcs L)
  z : L = [] → sc = 0
theorem OwnM.nil (w : World) (base : Nat) : OwnM w base none 0 [] := ⟨World.ownsRow_nil w base _ 2, fun _ => rfl⟩
theorem OwnM.lit (w : World) (base : Nat) (hb : base ≤ w.heap.size) : OwnM (w.alloc (.cells #[] 52)) base (some ⟨w.heap.size, 0, none⟩) 0 [] :=
  ⟨⟨rfl, .inr ⟨w.heap.size, 0, #[], rfl, hb, heap_alloc_new w _, Nat.le_refl _, Nat.zero_le _, rfl, rfl⟩⟩, fun _ => rfl⟩
theorem OwnM.alloc {w : World} {base : Nat} {so : Option Addr} {sc : Nat} {L : List Mg} (h : OwnM w base so sc L) (o : Obj) : OwnM (w.alloc o) base so sc L := ⟨World.ownsRow.alloc h.row o, h.z⟩
theorem OwnM.le {w : World} {base base' : Nat} {so : Option Addr} {sc : Nat} {L : List Mg} (h : OwnM w base so sc L) (hb : base' ≤ base) : OwnM w base' so sc L := ⟨Joins.ownsRow_le h.row hb, h.z⟩
theorem OwnM.keep {w w' : World} {base : Nat} {so : Option Addr} {sc : Nat} {L : List Mg} (h : OwnM w base so sc L) (kk : Below w.heap.size w w') : OwnM w' base so sc L :=
  ⟨World.ownsRow.kept h.row (row := none) ⟨kk.os, kk.tape, kk.output, kk.size, fun b hb _ => kk.block b hb⟩ (by cases hv : Value.ownBlock (.slice so L.length sc) <;> simp), h.z⟩
theorem OwnM.set {w : World} {base : Nat} {so : Option Addr} {sc : Nat} {L : List Mg} (h : OwnM w base so sc L) (p : Addr) (v : Value) (hp : p.block < base) : OwnM (w.setCell p v) base so sc L := by
  have hg : w.grownBy (w.setCell p v) (some p.block) := ⟨rfl, rfl, rfl, by simp, fun b _ hb => Below.heap_setCell w p v b (fun e => hb (by rw [e]))⟩
  refine ⟨World.ownsRow.kept h.row hg ?_, h.z⟩
  cases hv : Value.ownBlock (.slice so L.length sc) with
  | none => exact .inl rfl
  | some b =>
    refine .inr fun e => ?_
    injection e with e
    have := (World.ownsRow.lt h.row b hv).1
    omega
theorem OwnM.sp {w : World} {base : Nat} {so : Option Addr} {sc : Nat} {L : List Mg} (h : OwnM w base so sc L) : SpM w base w.heap.size so L := by
  by_cases hn : L = []
  · exact .inl hn
  · have hpos : 0 < L.length := List.length_pos_iff.2 hn
    obtain ⟨g, cap', hv, hb, hlt⟩ := World.ownsRow.form h.row hpos
    cases hv
    refine .inr ⟨g, rfl, hb, hlt, fun i hi => ?_, fun c => World.ownsRow.frozenAt h.row c⟩
    have c : ∀ j, j < 2 → w.cell? ⟨g, i * 2 + j, none⟩ = L[i].vals[j]? := fun j hj => by
      rw [World.ownsRow.cellAt h.row (i * 2 + j) (by omega), mcs_at L i hi j hj]
    exact ⟨c 0 (by omega), c 1 (by omega)⟩
/-- What a slice that grows touches is no body. -/
theorem OwnM.other {w : World} {base : Nat} {so : Option Addr} {sc : Nat} {L : List Mg} (h : OwnM w base so sc L) {b : Bd} (hb : b.on w) (hn : b.L ≠ []) : some b.g ≠ Value.ownBlock (.slice so L.length sc) := by
  obtain ⟨x, hx⟩ := b.cell0 hb hn
  intro e
  by_cases hL : L = []
  · have hz := h.z hL
    subst hL hz
    rcases h.row.2 with ⟨hv, _⟩ | ⟨g, cap', cur, hv, _, hc, _, _, hsz, hcs⟩
    · rw [hv] at e; simp [Value.ownBlock] at e
    · simp only [Value.slice.injEq] at hv
      obtain ⟨rfl, _, rfl⟩ := hv
      simp only [Value.ownBlock, Option.some.injEq] at e
      rw [e] at hx
      have : cur = #[] := by simpa using hsz
      subst this
      simp [World.cell?, hc] at hx
  · rcases h.sp with h0 | ⟨g, ha, _, _, hc, _⟩
    · exact hL h0
    · subst ha
      simp only [Value.ownBlock, Option.some.injEq] at e
      exact SpM.ne' hc hL hb hn e.symm
theorem Bods.grownM {w w' : World} {base lo hi : Nat} {so : Option Addr} {sc : Nat} {L : List Mg} {cs : List Bd} (h : Bods w lo hi cs) (o : OwnM w base so sc L) (hg : w.grownBy w' (Value.ownBlock (.slice so L.length sc))) : Bods w' lo hi cs := by
  refine ⟨fun b m => ?_, h.inn, h.apart⟩
  by_cases e : b.L = []
  · exact Bd.on_nil _ _ e
  · have hb := h.each b m
    have hblk := hg.block b.g (Bd.lt hb e) (o.other hb e)
    refine ⟨?_, hb.2⟩
    rcases hb.1 with e' | ⟨g, oo, ha, h1, h2, hc, hf⟩
    · exact .inl e'
    · have hg' : g = b.g := by omega
      rw [← hg'] at hblk
      exact .inr ⟨g, oo, ha, h1, h2, fun i hi => (World.cell?_of_block (w := w) (a := ⟨g, oo + i, none⟩) hblk).trans (hc i hi), fun c => (World.frozen?_of_block (w := w) (a := ⟨g, c, none⟩) hblk).trans (hf c)⟩

/-- One message more. -/
theorem wp_appM {w : World} {o : Oper} {a : Act} {K : Act → World → Prop} {Q : Exit → Act → World → Prop}
    (s x : Operand) (ho : o.op = .call { callee := .builtin .append, args := #[s, x], argTypes := #[26, 26] })
    (base : Nat) (so : Option Addr) (sc : Nat) (L : List Mg) (hs : a.eval s = .slice so L.length sc) (hown : OwnM w base so sc L)
    (g cb : Nat) (m : Mg) (hx : a.eval x = .slice (some ⟨g, 0, none⟩) 1 cb) (hc : m.cells w g 0) (hn : L.length ≤ 1048577) (hbase : base ≤ w.heap.size)
    (h : ∀ so' sc' w', OwnM w' base so' sc' (L ++ [m]) → w.grownBy w' (Value.ownBlock (.slice so L.length sc)) → Below base w w' → K (a.put o.dst (.slice so' (L.length + 1) sc')) w') : o.wp Try.prog a w K Q := by
  obtain ⟨i0, hi0, hz0, hz1, hz2⟩ := info_parts Try.infoM
  refine wp_append_own w s x 26 ho base 52 i0 (.agg #[.int .i64 0, .slice none 0 0]) 2 32 Try.underlying26 hi0 hz0 hz1 hz2 rfl (by decide) _ L.length (mcs L) hs hown.row ⟨g, 0, none⟩ 1 cb m.vals hx (by simp [Mg.vals]) (fun j u hj => ?_) (fun v hv => ?_) (by unfold maxLen; omega) ?_ hbase fun v' w' ho' hg' _ => ?_
  · rw [add_none]
    have hj' : j < 2 := by have := (List.getElem?_eq_some_iff.1 hj).1; simpa [Mg.vals] using this
    match j, hj' with
    | 0, _ => simp [Mg.vals] at hj; subst hj; exact hc.c0
    | 1, _ => simp [Mg.vals] at hj; subst hj; exact hc.c1
  · simp [Mg.vals] at hv; rcases hv with rfl | rfl <;> rfl
  · omega
  · have ho2 : w'.ownsRow base 52 2 v' (L ++ [m]).length (mcs (L ++ [m])) := by
      rw [mcs_app, List.length_append]
      simpa [mcs] using ho'
    have hbel : Below base w w' := (Below.refl base w).grown hg' hbase fun q hq => (World.ownsRow.lt hown.row q hq).1
    obtain ⟨g', cap', hv, _, _⟩ := World.ownsRow.form ho2 (by simp)
    subst hv
    have hh := h (some ⟨g', 0, none⟩) cap' w' ⟨ho2, fun e => by simp at e⟩ hg' hbel
    simpa using hh
theorem wpList_appM {w : World} {ops : Array Oper} {rest : List Oper} {o : Oper} {a : Act} {Q : Exit → Act → World → Prop}
    (hg : o.guard = none) (s x : Operand) (ho : o.op = .call { callee := .builtin .append, args := #[s, x], argTypes := #[26, 26] })
    (base : Nat) (so : Option Addr) (sc : Nat) (L : List Mg) (hs : a.eval s = .slice so L.length sc) (hown : OwnM w base so sc L)
    (g cb : Nat) (m : Mg) (hx : a.eval x = .slice (some ⟨g, 0, none⟩) 1 cb) (hc : m.cells w g 0) (hn : L.length ≤ 1048577) (hbase : base ≤ w.heap.size)
    (h : ∀ so' sc' w', OwnM w' base so' sc' (L ++ [m]) → w.grownBy w' (Value.ownBlock (.slice so L.length sc)) → Below base w w' → wpList Try.prog ops Q rest (a.put o.dst (.slice so' (L.length + 1) sc')) w') : wpList Try.prog ops Q (o :: rest) a w :=
  wpList_plain hg fun _ hK => wp_appM s x ho base so sc L hs hown g cb m hx hc hn hbase fun so' sc' w' h1 h2 h3 => hK _ _ (h so' sc' w' h1 h2 h3)

/-- A line that is built: its row and its bodies. -/
structure Lin (w : World) (base : Nat) (so : Option Addr) (sc : Nat) (L : List Mg) : Prop where
  own : OwnM w base so sc L
  bods : Bods w base w.heap.size (L.map Mg.b)
theorem Lin.nil (w : World) (base : Nat) : Lin w base none 0 [] := ⟨OwnM.nil _ _, Bods.nil _ _ _⟩
theorem Lin.keep {w w' : World} {base : Nat} {so : Option Addr} {sc : Nat} {L : List Mg} (h : Lin w base so sc L) (k : Below w.heap.size w w') : Lin w' base so sc L :=
  ⟨h.own.keep k, (h.bods.keep k (Nat.le_refl _)).wide (Nat.le_refl _) k.size⟩
theorem Lin.set {w : World} {base : Nat} {so : Option Addr} {sc : Nat} {L : List Mg} (h : Lin w base so sc L) (p : Addr) (v : Value) (hp : p.block < base) : Lin (w.setCell p v) base so sc L :=
  ⟨h.own.set p v hp, by
    have := h.bods.far ((Far.refl p.block (p.block + 1) w).setCell (p := p) (Nat.le_refl _) (Nat.lt_succ_self _) v) (.inr hp)
    simpa using this⟩
theorem Lin.qm {w : World} {base : Nat} {so s1 : Option Addr} {sc : Nat} {L : List Mg} (h : Lin w base so sc L) (hb : base ≤ w.heap.size) : QM w base w.heap.size s1 [] so L := QM.single hb (Nat.le_refl _) h.bods h.own.sp
/-- .. one more body there. -/
theorem Lin.more {w w1 w2 : World} {base : Nat} {so : Option Addr} {sc : Nat} {L : List Mg} {D : List Int} {b : Bd} {k : Int} (h : Lin w base so sc L) (hk : Below w.heap.size w w1) (hb : base ≤ w.heap.size) (N : NewB w1 w2 D b) (hk2 : Below w1.heap.size w1 w2) : OwnM w2 base so sc L ∧ Bods w2 base w2.heap.size ((L ++ [(⟨k, b⟩ : Mg)]).map Mg.b) := by
  have h1 := (h.keep hk).keep hk2
  refine ⟨h1.own, ?_⟩
  rw [List.map_append]
  have n1 := hk.size
  exact ((h.keep hk).bods.keep hk2 (Nat.le_refl _)).snoc (b := b) N.on (fun e => by have := N.inn e; omega) hk2.size
theorem Lin.pushed {w w' : World} {base : Nat} {so so' : Option Addr} {sc sc' : Nat} {L : List Mg} {m : Mg} (o : OwnM w base so sc L) (hB : Bods w base w.heap.size ((L ++ [m]).map Mg.b)) (o' : OwnM w' base so' sc' (L ++ [m])) (hg : w.grownBy w' (Value.ownBlock (.slice so L.length sc))) : Lin w' base so' sc' (L ++ [m]) :=
  ⟨o', (hB.grownM o hg).wide (Nat.le_refl _) hg.size⟩
end Go.Proofs.Ytngmiimendlleaa
