/- Rows of rows of bytes: bodies, and what is left behind them; how they are joined, what stays. -/
import Derived.Test.YtgjbjafodkiilaaTj15
import Derived.Test.YtgjbjafodkiilaaTj16
namespace Go.Proofs.Ytgjbjafodkiilaa
open Go.RowKit
set_option linter.unusedVariables false

theorem Try.infoBS : (Try.prog.info? 22).map (fun i => (i.zero, i.size, i.bytes)) = some (some (.slice none 0 0), 1, 24) := by kernel_rfl

/-- A body: where it lies, its room, its block, its bytes. -/
structure Bd where
  ao : Option Addr
  cap : Nat
  g : Nat
  L : List Int
def Bd.val (b : Bd) : Value := .slice b.ao b.L.length b.cap
/-- Its bytes are there, in a block of its own. -/
def Bd.on (w : World) (b : Bd) : Prop := Wrt .u8 w b.g (b.g + 1) b.ao b.L ∧ (b.L ≠ [] → b.ao = some ⟨b.g, 0, none⟩) ∧ b.L.length ≤ b.cap

theorem Bd.on_nil (w : World) (b : Bd) (h : b.L = []) : b.on w := ⟨.inl h, fun h' => absurd h h', by rw [h]; exact Nat.zero_le _⟩
theorem Bd.on_keep {w w' : World} {b : Bd} {B : Nat} (h : b.on w) (k : Below B w w') (hb : b.L ≠ [] → b.g < B) : b.on w' := by
  by_cases e : b.L = []
  · exact Bd.on_nil _ _ e
  · exact ⟨h.1.keep k (by have := hb e; omega), h.2⟩
theorem Bd.on_far {w w' : World} {b : Bd} {lo hi : Nat} (h : b.on w) (f : Far lo hi w w') (hb : b.L ≠ [] → (b.g < lo ∨ hi ≤ b.g) ∧ b.g < w.heap.size) : b.on w' := by
  by_cases e : b.L = []
  · exact Bd.on_nil _ _ e
  · have := hb e
    exact ⟨h.1.far f (by omega) (by omega), h.2⟩
theorem Bd.cell0 {w : World} {b : Bd} (h : b.on w) (hn : b.L ≠ []) : ∃ x, w.cell? ⟨b.g, 0, none⟩ = some (.int .u8 x) := by
  rcases h.1 with e | ⟨g, o, ha, h1, h2, hc, _⟩
  · exact absurd e hn
  · rw [h.2.1 hn] at ha
    cases ha
    have := hc 0 (List.length_pos_iff.2 hn)
    exact ⟨_, by simpa using this⟩
theorem Bd.lt {w : World} {b : Bd} (h : b.on w) (hn : b.L ≠ []) : b.g < w.heap.size := by
  obtain ⟨x, hx⟩ := b.cell0 h hn
  exact World.block_lt_of_cell? w _ hx
theorem Bd.of_own {w : World} {base : Nat} {ao : Option Addr} {cap : Nat} {L : List Int} (h : OwnR .u8 5 w base ao cap L) : ∃ g, Bd.on w ⟨ao, cap, g, L⟩ ∧ (L ≠ [] → base ≤ g ∧ g < w.heap.size) := by
  by_cases hn : L = []
  · exact ⟨0, Bd.on_nil _ _ hn, fun e => absurd hn e⟩
  · have hpos : 0 < L.length := List.length_pos_iff.2 hn
    have hroom : L.length ≤ cap := by
      rcases h.2 with ⟨hx, h0⟩ | ⟨g', cap', cur, hv, _, _, hnc, _⟩
      · injection hx with _ h1 h2; omega
      · cases hv; exact hnc
    obtain ⟨g, cap', hv, hb, hlt⟩ := World.ownsRow.form h hpos
    cases hv
    refine ⟨g, ⟨.inr ⟨g, 0, rfl, Nat.le_refl _, Nat.lt_succ_self _, fun i hi => ?_, fun c => World.ownsRow.frozenAt h c⟩, fun _ => rfl, hroom⟩, fun _ => ⟨hb, hlt⟩⟩
    simp only at hi ⊢
    rw [Nat.zero_add, World.ownsRow.cellAt h i (by omega)]
    simp [hi]

/-- Bodies, each in a block of its own. -/
structure Bods (w : World) (lo hi : Nat) (bs : List Bd) : Prop where
  each : ∀ b ∈ bs, b.on w
  inn : ∀ b ∈ bs, b.L ≠ [] → lo ≤ b.g ∧ b.g < hi
  apart : bs.Pairwise (fun a b => a.L ≠ [] → b.L ≠ [] → a.g ≠ b.g)

theorem Bods.nil (w : World) (lo hi : Nat) : Bods w lo hi [] := ⟨fun b h => by simp at h, fun b h => by simp at h, List.Pairwise.nil⟩
theorem Bods.keep {w w' : World} {lo hi B : Nat} {bs : List Bd} (h : Bods w lo hi bs) (k : Below B w w') (hb : hi ≤ B) : Bods w' lo hi bs :=
  ⟨fun b m => Bd.on_keep (h.each b m) k (fun e => by have := (h.inn b m e).2; omega), h.inn, h.apart⟩
theorem Bods.far {w w' : World} {lo hi lo' hi' : Nat} {bs : List Bd} (h : Bods w lo hi bs) (f : Far lo' hi' w w') (hd : hi ≤ lo' ∨ hi' ≤ lo) : Bods w' lo hi bs :=
  ⟨fun b m => Bd.on_far (h.each b m) f (fun e => by have := h.inn b m e; have := Bd.lt (h.each b m) e; omega), h.inn, h.apart⟩
theorem Bods.wide {w : World} {lo hi lo' hi' : Nat} {bs : List Bd} (h : Bods w lo hi bs) (h1 : lo' ≤ lo) (h2 : hi ≤ hi') : Bods w lo' hi' bs :=
  ⟨h.each, fun b m e => by have := h.inn b m e; omega, h.apart⟩
theorem Bods.snoc {w : World} {lo hi hi' : Nat} {bs : List Bd} {b : Bd} (h : Bods w lo hi bs) (hb : b.on w) (hi1 : b.L ≠ [] → hi ≤ b.g ∧ lo ≤ b.g ∧ b.g < hi') (hh : hi ≤ hi') : Bods w lo hi' (bs ++ [b]) := by
  refine ⟨fun c m => ?_, fun c m e => ?_, ?_⟩
  · rcases List.mem_append.1 m with m | m
    · exact h.each c m
    · obtain rfl : c = b := by simpa using m
      exact hb
  · rcases List.mem_append.1 m with m | m
    · have := h.inn c m e; omega
    · obtain rfl : c = b := by simpa using m
      have := hi1 e; omega
  · rw [List.pairwise_append]
    refine ⟨h.apart, List.pairwise_singleton _ _, fun c m d m' e1 e2 => ?_⟩
    obtain rfl : d = b := by simpa using m'
    have := h.inn c m e1
    have := hi1 e2
    omega

/-- The slice reads as bodies. -/
def Spn (w : World) (lo hi : Nat) (so : Option Addr) (bs : List Bd) : Prop :=
  bs = [] ∨ ∃ gs, so = some ⟨gs, 0, none⟩ ∧ lo ≤ gs ∧ gs < hi ∧ ∀ i (h : i < bs.length), w.cell? ⟨gs, i, none⟩ = some bs[i].val
theorem Spn.keep {w w' : World} {lo hi B : Nat} {so : Option Addr} {bs : List Bd} (h : Spn w lo hi so bs) (k : Below B w w') (hb : hi ≤ B) : Spn w' lo hi so bs := by
  rcases h with h | ⟨gs, ha, h1, h2, hc⟩
  · exact .inl h
  · exact .inr ⟨gs, ha, h1, h2, fun i hi => (k.cell (p := ⟨gs, i, none⟩) (by show gs < B; omega)).trans (hc i hi)⟩
theorem Spn.far {w w' : World} {lo hi lo' hi' : Nat} {so : Option Addr} {bs : List Bd} (h : Spn w lo hi so bs) (f : Far lo' hi' w w') (hd : hi ≤ lo' ∨ hi' ≤ lo) (hs : hi ≤ w.heap.size) : Spn w' lo hi so bs := by
  rcases h with h | ⟨gs, ha, h1, h2, hc⟩
  · exact .inl h
  · exact .inr ⟨gs, ha, h1, h2, fun i hi => (f.cell gs _ (by omega) (by omega)).trans (hc i hi)⟩
theorem Spn.wide {w : World} {lo hi lo' hi' : Nat} {so : Option Addr} {bs : List Bd} (h : Spn w lo hi so bs) (h1 : lo' ≤ lo) (h2 : hi ≤ hi') : Spn w lo' hi' so bs := by
  rcases h with h | ⟨gs, ha, h3, h4, hc⟩
  · exact .inl h
  · exact .inr ⟨gs, ha, by omega, by omega, hc⟩

/-- The slice owns its row of bodies. -/
def OwnB (w : World) (base : Nat) (so : Option Addr) (sc : Nat) (bs : List Bd) : Prop :=
  (bs = [] ∧ so = none ∧ sc = 0) ∨ (bs ≠ [] ∧ w.ownsRow base 22 1 (.slice so bs.length sc) bs.length (bs.map Bd.val))
theorem OwnB.nil (w : World) (base : Nat) : OwnB w base none 0 [] := .inl ⟨rfl, rfl, rfl⟩
theorem OwnB.owns {w : World} {base : Nat} {so : Option Addr} {sc : Nat} {bs : List Bd} (h : OwnB w base so sc bs) : w.ownsRow base 22 1 (.slice so bs.length sc) bs.length (bs.map Bd.val) := by
  rcases h with ⟨rfl, rfl, rfl⟩ | h
  · exact World.ownsRow_nil w base _ 1
  · exact h.2
theorem OwnB.alloc {w : World} {base : Nat} {so : Option Addr} {sc : Nat} {bs : List Bd} (h : OwnB w base so sc bs) (o : Obj) : OwnB (w.alloc o) base so sc bs := by
  rcases h with h | ⟨h1, h2⟩
  · exact .inl h
  · exact .inr ⟨h1, World.ownsRow.alloc h2 o⟩
theorem OwnB.le {w : World} {base base' : Nat} {so : Option Addr} {sc : Nat} {bs : List Bd} (h : OwnB w base so sc bs) (hb : base' ≤ base) : OwnB w base' so sc bs := by
  rcases h with h | ⟨h1, h2⟩
  · exact .inl h
  · exact .inr ⟨h1, Joins.ownsRow_le h2 hb⟩
theorem OwnB.keep {w w' : World} {base : Nat} {so : Option Addr} {sc : Nat} {bs : List Bd} (h : OwnB w base so sc bs) (kk : Below w.heap.size w w') : OwnB w' base so sc bs := by
  rcases h with h | ⟨h1, h2⟩
  · exact .inl h
  · exact .inr ⟨h1, World.ownsRow.kept h2 (row := none) ⟨kk.os, kk.tape, kk.output, kk.size, fun b hb _ => kk.block b hb⟩ (by cases hv : Value.ownBlock (.slice so bs.length sc) <;> simp)⟩
theorem OwnB.set {w : World} {base : Nat} {so : Option Addr} {sc : Nat} {bs : List Bd} (h : OwnB w base so sc bs) (p : Addr) (v : Value) (hp : p.block < base) : OwnB (w.setCell p v) base so sc bs := by
  rcases h with h | ⟨h1, h2⟩
  · exact .inl h
  · refine .inr ⟨h1, ?_⟩
    have hg : w.grownBy (w.setCell p v) (some p.block) := ⟨rfl, rfl, rfl, by simp, fun b _ hb => Below.heap_setCell w p v b (fun e => hb (by rw [e]))⟩
    refine World.ownsRow.kept h2 hg ?_
    cases hv : Value.ownBlock (.slice so bs.length sc) with
    | none => exact .inl rfl
    | some b =>
      refine .inr fun e => ?_
      injection e with e
      have := (World.ownsRow.lt h2 b hv).1
      omega
theorem OwnB.spn {w : World} {base : Nat} {so : Option Addr} {sc : Nat} {bs : List Bd} (h : OwnB w base so sc bs) : Spn w base w.heap.size so bs := by
  rcases h with ⟨rfl, _⟩ | ⟨h1, h2⟩
  · exact .inl rfl
  · have hpos : 0 < bs.length := List.length_pos_iff.2 h1
    obtain ⟨g, cap', hv, hb, hlt⟩ := World.ownsRow.form h2 hpos
    cases hv
    refine .inr ⟨g, rfl, hb, hlt, fun i hi => ?_⟩
    rw [World.ownsRow.cellAt h2 i (by omega)]
    simp [hi]
/-- What a slice that grows touches is no body. -/
theorem OwnB.other {w : World} {base : Nat} {so : Option Addr} {sc : Nat} {bs : List Bd} (h : OwnB w base so sc bs) {b : Bd} (hb : b.on w) (hn : b.L ≠ []) : some b.g ≠ Value.ownBlock (.slice so bs.length sc) := by
  rcases h with ⟨rfl, rfl, rfl⟩ | ⟨h1, h2⟩
  · simp [Value.ownBlock]
  · have hpos : 0 < bs.length := List.length_pos_iff.2 h1
    obtain ⟨g, cap', hv, _, _⟩ := World.ownsRow.form h2 hpos
    cases hv
    intro e
    simp only [Value.ownBlock, Option.some.injEq] at e
    obtain ⟨x, hx⟩ := b.cell0 hb hn
    have hc := World.ownsRow.cellAt h2 0 (by omega)
    rw [e] at hx
    rw [hx] at hc
    obtain ⟨c, cs, rfl⟩ := List.exists_cons_of_ne_nil h1
    simp [Bd.val] at hc
theorem Bods.grown {w w' : World} {base lo hi : Nat} {so : Option Addr} {sc : Nat} {bs cs : List Bd} (h : Bods w lo hi cs) (o : OwnB w base so sc bs) (hg : w.grownBy w' (Value.ownBlock (.slice so bs.length sc))) : Bods w' lo hi cs := by
  refine ⟨fun b m => ?_, h.inn, h.apart⟩
  by_cases e : b.L = []
  · exact Bd.on_nil _ _ e
  · have hb := h.each b m
    have hblk := hg.block b.g (Bd.lt hb e) (o.other hb e)
    refine ⟨?_, hb.2⟩
    rcases hb.1 with e' | ⟨g, oo, ha, h1, h2, hc, hf⟩
    · exact .inl e'
    · have hg' : g = b.g := by omega
      rw [← hg'] at hblk
      exact .inr ⟨g, oo, ha, h1, h2, fun i hi => (World.cell?_of_block (w := w) (a := ⟨g, oo + i, none⟩) hblk).trans (hc i hi), fun c => (World.frozen?_of_block (w := w) (a := ⟨g, c, none⟩) hblk).trans (hf c)⟩

/-- One body more. -/
theorem wp_appB {w : World} {o : Oper} {a : Act} {K : Act → World → Prop} {Q : Exit → Act → World → Prop}
    (s x : Operand) (ho : o.op = .call { callee := .builtin .append, args := #[s, x], argTypes := #[33, 33] })
    (base : Nat) (so : Option Addr) (sc : Nat) (bs : List Bd) (hs : a.eval s = .slice so bs.length sc) (hown : OwnB w base so sc bs)
    (g cb : Nat) (b : Bd) (hx : a.eval x = .slice (some ⟨g, 0, none⟩) 1 cb) (hc : w.cell? ⟨g, 0, none⟩ = some b.val) (hn : bs.length ≤ 1048577) (hbase : base ≤ w.heap.size)
    (h : ∀ so' sc' w', OwnB w' base so' sc' (bs ++ [b]) → w.grownBy w' (Value.ownBlock (.slice so bs.length sc)) → Below base w w' → K (a.put o.dst (.slice so' (bs.length + 1) sc')) w') : o.wp Try.prog a w K Q := by
  obtain ⟨i0, hi0, hz0, hz1, hz2⟩ := info_parts Try.infoBS
  refine wp_append_own w s x 33 ho base 22 i0 (.slice none 0 0) 1 24 Try.underlying33 hi0 hz0 hz1 hz2 rfl (by decide) _ bs.length (bs.map Bd.val) hs hown.owns ⟨g, 0, none⟩ 1 cb [b.val] hx (by simp) (fun j u hj => ?_) (fun v hv => ?_) (by unfold maxLen; omega) ?_ hbase fun v' w' ho' hg' _ => ?_
  · obtain ⟨hj', e⟩ := List.getElem?_eq_some_iff.1 hj
    obtain rfl : j = 0 := by simpa using hj'
    rw [← e, add_none]
    exact hc
  · simp at hv; subst hv; rfl
  · omega
  · have ho'' : w'.ownsRow base 22 1 v' (bs ++ [b]).length ((bs ++ [b]).map Bd.val) := by simpa using ho'
    have hbel : Below base w w' := (Below.refl base w).grown hg' hbase fun q hq => (World.ownsRow.lt hown.owns q hq).1
    obtain ⟨g', cap', hv, _, _⟩ := World.ownsRow.form ho'' (by simp)
    subst hv
    have hh := h (some ⟨g', 0, none⟩) cap' w' (.inr ⟨by simp, ho''⟩) hg' hbel
    simpa using hh
theorem wpList_appB {w : World} {ops : Array Oper} {rest : List Oper} {o : Oper} {a : Act} {Q : Exit → Act → World → Prop}
    (hg : o.guard = none) (s x : Operand) (ho : o.op = .call { callee := .builtin .append, args := #[s, x], argTypes := #[33, 33] })
    (base : Nat) (so : Option Addr) (sc : Nat) (bs : List Bd) (hs : a.eval s = .slice so bs.length sc) (hown : OwnB w base so sc bs)
    (g cb : Nat) (b : Bd) (hx : a.eval x = .slice (some ⟨g, 0, none⟩) 1 cb) (hc : w.cell? ⟨g, 0, none⟩ = some b.val) (hn : bs.length ≤ 1048577) (hbase : base ≤ w.heap.size)
    (h : ∀ so' sc' w', OwnB w' base so' sc' (bs ++ [b]) → w.grownBy w' (Value.ownBlock (.slice so bs.length sc)) → Below base w w' → wpList Try.prog ops Q rest (a.put o.dst (.slice so' (bs.length + 1) sc')) w') : wpList Try.prog ops Q (o :: rest) a w :=
  wpList_plain hg fun _ hK => wp_appB s x ho base so sc bs hs hown g cb b hx hc hn hbase fun so' sc' w' h1 h2 h3 => hK _ _ (h so' sc' w' h1 h2 h3)

/-- Frames in memory: the bodies' row, the bodies, what is left. -/
structure Frm (w : World) (lo hi : Nat) (so : Option Addr) (bs : List Bd) (r : Bd) : Prop where
  le : lo ≤ hi
  hs : hi ≤ w.heap.size
  bods : Bods w lo hi (bs ++ [r])
  spine : Spn w lo hi so bs
theorem Frm.keep {w w' : World} {lo hi B : Nat} {so : Option Addr} {bs : List Bd} {r : Bd} (h : Frm w lo hi so bs r) (k : Below B w w') (hb : hi ≤ B) : Frm w' lo hi so bs r :=
  ⟨h.le, Nat.le_trans h.hs k.size, h.bods.keep k hb, h.spine.keep k hb⟩
theorem Frm.far {w w' : World} {lo hi lo' hi' : Nat} {so : Option Addr} {bs : List Bd} {r : Bd} (h : Frm w lo hi so bs r) (f : Far lo' hi' w w') (hd : hi ≤ lo' ∨ hi' ≤ lo) : Frm w' lo hi so bs r :=
  ⟨h.le, Nat.le_trans h.hs f.size, h.bods.far f hd, h.spine.far f hd h.hs⟩
theorem Frm.wide {w : World} {lo hi lo' hi' : Nat} {so : Option Addr} {bs : List Bd} {r : Bd} (h : Frm w lo hi so bs r) (h1 : lo' ≤ lo) (h2 : hi ≤ hi') (h3 : hi' ≤ w.heap.size) : Frm w lo' hi' so bs r :=
  ⟨by have := h.le; omega, h3, h.bods.wide h1 h2, h.spine.wide h1 h2⟩

end Go.Proofs.Ytgjbjafodkiilaa
