/- A list that grows in a local's box: what stands beside it. Results with a list of numbers: held against each other, marked. Many hands: the mathematics, and what stands in memory in a round. -/
import Derived.Test.YtoipcnpemmajaaaTh46
import Derived.Test.YtoipcnpemmajaaaTh23
import Derived.Maps.AppendAt
import Derived.Maps.OwnIn
import Derived.Test.YtoipcnpemmajaaaTh2
import Derived.Test.YtoipcnpemmajaaaTh3
import Derived.Test.YtoipcnpemmajaaaTh45
import Derived.Test.YtoipcnpemmajaaaTh42
namespace Go.Proofs.Ytoipcnpemmajaaa
open Go.RowKit
set_option linter.unusedVariables false

/-- What one more number at the end of an owned row leaves. -/
structure Snoc (base : Nat) (w : World) (so : Option Addr) (M : List Int) (so' : Option Addr) (sc' : Nat) (w' : World) : Prop where
  own : OwnR .i64 2 w' base so' sc' M
  below : Below base w w'
  blk : ∀ b, b < w.heap.size → (∀ a, so = some a → a.block ≠ b) → w'.heap[b]? = w.heap[b]?
  row : ∀ a, so' = some a → (∃ a0, so = some a0 ∧ a0.block = a.block) ∨ w.heap.size ≤ a.block

theorem Try.infoO9 : (Try.prog.info? 2).map (fun i => (i.zero, i.size, i.bytes)) = some (some (.int .i64 0), 1, 8) := by kernel_rfl

theorem run_snoc (ty : TypeId) (w : World) (base : Nat) (so : Option Addr) (sc : Nat) (M : List Int) (hown : OwnR .i64 2 w base so sc M) (ad : Addr) (c : Nat) (z : Int) (hz : w.cell? ad = some (.int .i64 z)) (hn : M.length + 1 ≤ 2097152) (hbase : base ≤ w.heap.size) :
    ∃ so' sc' w', (Builtin.append_ #[48, 48] ty #[.slice so M.length sc, .slice (some ad) 1 c]).run Try.prog w = .ok (.slice so' (M ++ [z]).length sc') w' ∧ Snoc base w so (M ++ [z]) so' sc' w' := by
  obtain ⟨i0, hi0, hz0, hz1, hz2⟩ := info_parts Try.infoO9
  obtain ⟨v', w', hr, h2, h3, _, h5⟩ := run_append_own_at (P := Try.prog) w base 48 ty 2 i0 (.int .i64 0) 1 8 Try.underlying48 hi0 hz0 hz1 hz2 rfl (by decide) (.slice so M.length sc) M.length (M.map (Value.int .i64)) hown ad 1 c [.int .i64 z] (by simp) (fun j u hj => by
      match j, hj with
      | 0, hj =>
        simp at hj
        subst hj
        have : ad.add 0 = ad := by obtain ⟨g, o, sp⟩ := ad; unfold Addr.add; cases sp <;> rfl
        rw [this]; exact hz) (by intro u hu; simp at hu; subst hu; rfl) (by unfold maxLen; omega) (by omega) hbase
  have e : M.map (Value.int .i64) ++ [.int .i64 z] = (M ++ [z]).map (Value.int .i64) := by simp
  rw [e, show M.length + 1 = (M ++ [z]).length by simp] at h2
  obtain ⟨so', sc', rfl, O⟩ := ownR_form h2
  refine ⟨so', sc', w', hr, O, (Below.refl base w).grown h3 hbase fun b hb => (World.ownsRow.lt hown b hb).1, fun b hb hne => h3.block b hb fun h => ?_, fun a ha => ?_⟩
  · cases so with
    | none => simp [Value.ownBlock] at h
    | some a => simp only [Value.ownBlock, Option.some.injEq] at h; exact hne a rfl h.symm
  · subst ha
    rcases h5 with h | h
    · cases so with
      | none => simp [Value.ownBlock] at h
      | some a0 => simp only [Value.ownBlock, Option.some.injEq] at h; exact .inl ⟨a0, rfl, h.symm⟩
    · simp only [Value.ownBlock, Option.some.injEq] at h; exact .inr (Nat.le_of_eq h.symm)

section
variable {w : World} {ops : Array Oper} {rest : List Oper} {o : Oper} {a : Act} {Q : Exit → Act → World → Prop}
theorem wpList_snoc (hgd : o.guard = none) (s x : Operand) (ho : o.op = .call { callee := .builtin .append, args := #[s, x], argTypes := #[48, 48] }) (base : Nat) (so : Option Addr) (sc : Nat) (M : List Int) (hs : a.eval s = .slice so M.length sc) (hown : OwnR .i64 2 w base so sc M)
    (ad : Addr) (c : Nat) (z : Int) (hx : a.eval x = .slice (some ad) 1 c) (hz : w.cell? ad = some (.int .i64 z)) (hn : M.length + 1 ≤ 2097152) (hbase : base ≤ w.heap.size)
    (h : ∀ so' sc' w', Snoc base w so (M ++ [z]) so' sc' w' → wpList Try.prog ops Q rest (a.put o.dst (.slice so' (M ++ [z]).length sc')) w') : wpList Try.prog ops Q (o :: rest) a w := by
  obtain ⟨so', sc', w', hr, hh⟩ := run_snoc o.type w base so sc M hown ad c z hz hn hbase
  exact Lib.wpList_append_run w hgd s x _ _ ho _ _ hs hx _ _ hr (h so' sc' w' hh)
theorem wpListIn_snoc {F : Fence} {nF : Nat} (hgd : o.guard = none) (s x : Operand) (ho : o.op = .call { callee := .builtin .append, args := #[s, x], argTypes := #[48, 48] }) (base : Nat) (so : Option Addr) (sc : Nat) (M : List Int) (hs : a.eval s = .slice so M.length sc) (hown : OwnR .i64 2 w base so sc M)
    (ad : Addr) (c : Nat) (z : Int) (hx : a.eval x = .slice (some ad) 1 c) (hz : w.cell? ad = some (.int .i64 z)) (hn : M.length + 1 ≤ 2097152) (hbase : base ≤ w.heap.size)
    (h : ∀ so' sc' w', Snoc base w so (M ++ [z]) so' sc' w' → wpListIn F nF Try.prog ops Q rest (a.put o.dst (.slice so' (M ++ [z]).length sc')) w') : wpListIn F nF Try.prog ops Q (o :: rest) a w := by
  obtain ⟨so', sc', w', hr, hh⟩ := run_snoc o.type w base so sc M hown ad c z hz hn hbase
  refine wpListIn_plain hgd fun K hK => ?_
  unfold Oper.wpIn
  refine ⟨by simp [Oper.about, ho, resolve, Target.leads, Sem.run_pure], ?_⟩
  rw [Oper.semAt_plain F _ _ (by rw [ho]; intro c hc'; cases hc')]
  simp [execOp, ho, resolve, invoke, builtin, hs, hx, hr, Result.andThen]
  have h2 := hK _ _ (h so' sc' w' hh)
  simp only [List.length_append, List.length_cons, List.length_nil] at h2
  exact h2
end

/-- The list M lies in a row of its own, told of in cell off of the box bx; bl was its first block; Wk was ahead. -/
structure OS (Wk W : World) (base bl bx off : Nat) (so : Option Addr) (sc : Nat) (M : List Int) : Prop where
  own : OwnR .i64 2 W base so sc M
  row : ∀ a, so = some a → a.block = bl ∨ Wk.heap.size ≤ a.block
  cell : W.cell? ⟨bx, off, none⟩ = some (.slice so M.length sc)
  free : W.frozen? ⟨bx, off, none⟩ = false
  oth : ∀ c, c ≠ off → W.cell? ⟨bx, c, none⟩ = Wk.cell? ⟨bx, c, none⟩
  blk : ∀ k, k < Wk.heap.size → k ≠ bl → k ≠ bx → W.heap[k]? = Wk.heap[k]?
  os : W.os = Wk.os
  tape : W.tape = Wk.tape
  output : W.output = Wk.output
  size : Wk.heap.size ≤ W.heap.size

section
variable {Wk W W' : World} {base bl bx off : Nat} {so : Option Addr} {sc : Nat} {M : List Int}
theorem OS.keep (h : OS Wk W base bl bx off so sc M) (k : Below W.heap.size W W') (hx : bx < Wk.heap.size) : OS Wk W' base bl bx off so sc M :=
  ⟨h.own.keep k, h.row, (k.cell (p := ⟨bx, off, none⟩) (Nat.lt_of_lt_of_le hx h.size)).trans h.cell, (k.frozen (p := ⟨bx, off, none⟩) (Nat.lt_of_lt_of_le hx h.size)).trans h.free,
    fun c hc => (k.cell (p := ⟨bx, c, none⟩) (Nat.lt_of_lt_of_le hx h.size)).trans (h.oth c hc), fun j hj h1 h2 => (k.block j (Nat.lt_of_lt_of_le hj h.size)).trans (h.blk j hj h1 h2), k.os.trans h.os, k.tape.trans h.tape, k.output.trans h.output, Nat.le_trans h.size k.size⟩
theorem OS.at_ (h : OS Wk W base bl bx off so sc M) (b c : Nat) (hb : b < Wk.heap.size) (h1 : b ≠ bl) (h2 : b ≠ bx) : W.cell? ⟨b, c, none⟩ = Wk.cell? ⟨b, c, none⟩ := World.cell?_of_block (a := ⟨b, c, none⟩) (h.blk b hb h1 h2)
theorem OS.at_f (h : OS Wk W base bl bx off so sc M) (b c : Nat) (hb : b < Wk.heap.size) (h1 : b ≠ bl) (h2 : b ≠ bx) : W.frozen? ⟨b, c, none⟩ = Wk.frozen? ⟨b, c, none⟩ := World.frozen?_of_block (a := ⟨b, c, none⟩) (h.blk b hb h1 h2)
theorem OS.below (h : OS Wk W base bl bx off so sc M) {B : Nat} (hl : B ≤ bl) (hx : B ≤ bx) (hs : B ≤ Wk.heap.size) : Below B Wk W := ⟨h.os, h.tape, h.output, h.size, fun k hk => h.blk k (by omega) (by omega) (by omega)⟩

theorem ownR_off {w : World} {base : Nat} {so : Option Addr} {sc : Nat} {M : List Int} (h : OwnR .i64 2 w base so sc M) (p : Addr) (v : Value) (hne : ∀ a, so = some a → a.block ≠ p.block) : OwnR .i64 2 (w.setCell p v) base so sc M := by
  have hg : w.grownBy (w.setCell p v) (some p.block) := ⟨(Turn.store w p v).os, (Turn.store w p v).tape, (Turn.store w p v).output, (Turn.store w p v).size, fun k hk hb => (Turn.store w p v).block k hk (fun e => hb (by rw [e]))⟩
  refine World.ownsRow.kept h hg ?_
  cases so with
  | none => exact .inl rfl
  | some a => exact .inr (by simp only [Value.ownBlock, ne_eq, Option.some.injEq]; exact hne a rfl)

theorem OS.box {w2 : World} {so' : Option Addr} {sc' : Nat} {N : List Int} (h : OS Wk W base bl bx off so sc M) (hx : bx < Wk.heap.size) (hn : bx ≠ bl) (s : Snoc base W so N so' sc' w2) :
    w2.cell? ⟨bx, off, none⟩ = some (.slice so M.length sc) ∧ w2.frozen? ⟨bx, off, none⟩ = false ∧ bx < w2.heap.size := by
  have hxW : bx < W.heap.size := Nat.lt_of_lt_of_le hx h.size
  have hoff : ∀ a, so = some a → a.block ≠ bx := fun a ha e => by rcases h.row a ha with h1 | h1 <;> omega
  have hb := s.blk bx hxW hoff
  exact ⟨(World.cell?_of_block (a := ⟨bx, off, none⟩) hb).trans h.cell, (World.frozen?_of_block (a := ⟨bx, off, none⟩) hb).trans h.free, Nat.lt_of_lt_of_le hxW s.below.size⟩

/-- One more, and told of in the box. -/
theorem OS.put {w2 : World} {so' : Option Addr} {sc' : Nat} {z : Int} (h : OS Wk W base bl bx off so sc M) (hx : bx < Wk.heap.size) (hn : bx ≠ bl) (s : Snoc base W so (M ++ [z]) so' sc' w2) :
    OS Wk (w2.setCell ⟨bx, off, none⟩ (.slice so' (M ++ [z]).length sc')) base bl bx off so' sc' (M ++ [z]) := by
  have hxW : bx < W.heap.size := Nat.lt_of_lt_of_le hx h.size
  have hoff : ∀ a, so = some a → a.block ≠ bx := fun a ha e => by rcases h.row a ha with h1 | h1 <;> omega
  have hrow : ∀ a, so' = some a → a.block = bl ∨ Wk.heap.size ≤ a.block := fun a ha => by
    rcases s.row a ha with ⟨a0, e0, e1⟩ | h1
    · rw [← e1]; exact h.row a0 e0
    · exact .inr (Nat.le_trans h.size h1)
  have hb := s.blk bx hxW hoff
  have hc : w2.cell? ⟨bx, off, none⟩ = some (.slice so M.length sc) := (World.cell?_of_block (a := ⟨bx, off, none⟩) hb).trans h.cell
  refine ⟨ownR_off s.own _ _ fun a ha e => ?_, hrow, cell_set_same hc, by rw [World.frozen?_setCell]; exact (World.frozen?_of_block (a := ⟨bx, off, none⟩) hb).trans h.free, fun c hc => ?_, fun k hk h1 h2 => ?_, ?_, ?_, ?_, ?_⟩
  · rcases hrow a ha with h1 | h1 <;> simp only at e <;> omega
  · rw [cell_set_other hc]; exact (World.cell?_of_block (a := ⟨bx, c, none⟩) hb).trans (h.oth c hc)
  · rw [Below.heap_setCell w2 ⟨bx, off, none⟩ _ k (by simpa using h2)]
    exact (s.blk k (Nat.lt_of_lt_of_le hk h.size) fun a ha e => by rcases h.row a ha with g | g <;> omega).trans (h.blk k hk h1 h2)
  · exact (Turn.store w2 ⟨bx, off, none⟩ _).os.trans (s.below.os.trans h.os)
  · exact (Turn.store w2 ⟨bx, off, none⟩ _).tape.trans (s.below.tape.trans h.tape)
  · exact (Turn.store w2 ⟨bx, off, none⟩ _).output.trans (s.below.output.trans h.output)
  · exact Nat.le_trans (Nat.le_trans h.size s.below.size) (Turn.store w2 ⟨bx, off, none⟩ _).size
end
end Go.Proofs.Ytoipcnpemmajaaa

namespace Go.Proofs.Ytoipcnpemmajaaa
open Go.RowKit
set_option linter.unusedVariables false

theorem kal5 (w : World) (o : Obj) : Below w.heap.size w (w.alloc o) := (Below.refl _ _).alloc (Nat.le_refl _) o

theorem Far.after5 {lo hi : Nat} {w w1 w2 : World} (k : Below w.heap.size w w1) (f : Far lo hi w1 w2) : Far lo hi w w2 := (Far.of_below k).trans f

/-- A result, its box and its row. -/
structure PI (W : World) (b lo hi : Nat) (c : Int) (ao : Option Addr) (ca : Nat) (L : List Int) : Prop where
  box : Rb W b (.int .i64 c) (.slice ao L.length ca)
  row : Wrt .i64 W lo hi ao L
  le : lo ≤ hi
  hs : hi ≤ W.heap.size
theorem PI.keep {W W' : World} {b lo hi B : Nat} {c : Int} {ao : Option Addr} {ca : Nat} {L : List Int} (h : PI W b lo hi c ao ca L) (k : Below B W W') (hb : b < B) (hh : hi ≤ B) : PI W' b lo hi c ao ca L :=
  ⟨h.box.keep k hb, h.row.keep k hh, h.le, Nat.le_trans h.hs k.size⟩
theorem PI.far {W W' : World} {b lo hi lo' hi' : Nat} {c : Int} {ao : Option Addr} {ca : Nat} {L : List Int} (h : PI W b lo hi c ao ca L) (f : Far lo' hi' W W') (hb : b < lo' ∨ hi' ≤ b) (hd : hi ≤ lo' ∨ hi' ≤ lo) : PI W' b lo hi c ao ca L :=
  ⟨h.box.far f hb, h.row.far f hd h.hs, h.le, Nat.le_trans h.hs f.size⟩
/-- .. just put into its box. -/
theorem PI.new {w : World} {base : Nat} {c : Int} {ao : Option Addr} {ca : Nat} {L : List Int} {T : TypeId} (O : OwnR .i64 2 w base ao ca L) (hb : base ≤ w.heap.size) : PI (w.alloc (.cells #[.int .i64 c, .slice ao L.length ca] T)) w.heap.size base w.heap.size c ao ca L :=
  ⟨⟨by simp, by simp, by simp, by simp, by simp⟩, O.wrt.keep (B := w.heap.size) ((Below.refl _ _).alloc (Nat.le_refl _) _) (Nat.le_refl _), hb, by simp⟩
end Go.Proofs.Ytoipcnpemmajaaa

namespace Go.Proofs.Ytoipcnpemmajaaa
open Go.RowKit Go.Maps
set_option linter.unusedVariables false

/-- One hand behind the other. -/
def goM (C : List Wc) : List Hd → Bool → Int → List Int → Int × List Int
  | [], _, _, A => (0, A)
  | h :: L, t, f, A => if (rtR C t f h.k h.a h.b).z = 0 then goM C L (rtR C t f h.k h.a h.b).tr (rtR C t f h.k h.a h.b).fo (A ++ [(rtR C t f h.k h.a h.b).tg]) else ((rtR C t f h.k h.a h.b).z, [])
theorem goM_len (C : List Wc) (L : List Hd) : ∀ t f A, (goM C L t f A).2.length ≤ A.length + L.length := by
  induction L with
  | nil => intro t f A; simp [goM]
  | cons h L ih =>
    intro t f A
    unfold goM
    split
    · have := ih (rtR C t f h.k h.a h.b).tr (rtR C t f h.k h.a h.b).fo (A ++ [(rtR C t f h.k h.a h.b).tg])
      simp at this ⊢; omega
    · simp
theorem goM_yes {C : List Wc} {h : Hd} {L : List Hd} {t : Bool} {f : Int} {A : List Int} {R : Rt} {P : Int × List Int} (hG : goM C (h :: L) t f A = P) (hR : rtR C t f h.k h.a h.b = R) (hz : R.z = 0) : goM C L R.tr R.fo (A ++ [R.tg]) = P := by
  unfold goM at hG
  rw [hR, if_pos hz] at hG
  exact hG
theorem goM_no {C : List Wc} {h : Hd} {L : List Hd} {t : Bool} {f : Int} {A : List Int} {R : Rt} {P : Int × List Int} (hG : goM C (h :: L) t f A = P) (hR : rtR C t f h.k h.a h.b = R) (hz : ¬ R.z = 0) : P = (R.z, []) := by
  unfold goM at hG
  rw [hR, if_neg hz] at hG
  exact hG.symm
def manyR (C : List Wc) (t : Bool) (f : Int) (L : List Hd) : Int × List Int := if inpF C f = 0 then (if L.length ≤ 20 then goM C L t f [] else (2, [])) else (inpF C f, [])
theorem manyR_len (C : List Wc) (t : Bool) (f : Int) (L : List Hd) : (manyR C t f L).2.length ≤ 20 := by
  unfold manyR
  repeat' split
  · have := goM_len C L t f []; simp at this; omega
  · simp
  · simp

/-- An answer with a code and numbers of its own. -/
def IsA (w : World) (c : Int) (M : List Int) (e : Ending) (w' : World) : Prop :=
  ∃ ao' cap', e = .returned (.agg #[.int .i64 c, .slice ao' M.length cap']) ∧ OwnR .i64 2 w' w.heap.size ao' cap' M ∧ Below w.heap.size w w'
theorem IsA.nil (w : World) (c : Int) {e : Ending} {w' : World} (he : e = .returned (.agg #[.int .i64 c, .slice none 0 0])) (k : Below w.heap.size w w') : IsA w c [] e w' := ⟨none, 0, he, OwnR.nil _ _ _ _, k⟩
theorem IsA.alloc {w w' : World} {c : Int} {M : List Int} {e : Ending} (h : IsA w c M e w') (o : Obj) : IsA w c M e (w'.alloc o) := by
  obtain ⟨a, b, h1, h2, h3⟩ := h
  exact ⟨a, b, h1, h2.alloc o, h3.alloc h3.size o⟩

/-- The input in its box, the targets so far in a row of their own, the answer's box yet empty. -/
structure RM (w W : World) (base : Nat) (t : Bool) (f : Int) (s : Option Addr) (c : Nat) (M : List Int) : Prop where
  below : Below w.heap.size w W
  own : OwnR .i64 2 W base s c M
  i0 : W.cell? ⟨w.heap.size, 0, none⟩ = some (.bool t)
  i1 : W.cell? ⟨w.heap.size, 1, none⟩ = some (.int .i64 f)
  f0 : W.frozen? ⟨w.heap.size, 0, none⟩ = false
  f1 : W.frozen? ⟨w.heap.size, 1, none⟩ = false
  res : Rb W (w.heap.size + 1) (.int .i64 0) (.slice none 0 0)
  bs : w.heap.size + 2 ≤ base
  hb : base ≤ W.heap.size
section
variable {w W W' : World} {base : Nat} {t : Bool} {f : Int} {s : Option Addr} {c : Nat} {M : List Int}
theorem RM.keep (h : RM w W base t f s c M) (k : Below W.heap.size W W') : RM w W' base t f s c M := by
  have h1 := h.bs
  have h2 := h.hb
  exact ⟨h.below.trans (k.mono h.below.size), h.own.keep k, (k.cell (p := ⟨w.heap.size, 0, none⟩) (by show w.heap.size < _; omega)).trans h.i0, (k.cell (p := ⟨w.heap.size, 1, none⟩) (by show w.heap.size < _; omega)).trans h.i1,
    (k.frozen (p := ⟨w.heap.size, 0, none⟩) (by show w.heap.size < _; omega)).trans h.f0, (k.frozen (p := ⟨w.heap.size, 1, none⟩) (by show w.heap.size < _; omega)).trans h.f1, h.res.keep k (by omega), h1, Nat.le_trans h2 k.size⟩
theorem RM.snoc {s' : Option Addr} {c' : Nat} {N : List Int} (h : RM w W base t f s c M) (S : Snoc base W s N s' c' W') : RM w W' base t f s' c' N := by
  have h1 := h.bs
  have h2 := h.hb
  have k := S.below
  exact ⟨h.below.trans (k.mono (by omega)), S.own, (k.cell (p := ⟨w.heap.size, 0, none⟩) (by show w.heap.size < _; omega)).trans h.i0, (k.cell (p := ⟨w.heap.size, 1, none⟩) (by show w.heap.size < _; omega)).trans h.i1,
    (k.frozen (p := ⟨w.heap.size, 0, none⟩) (by show w.heap.size < _; omega)).trans h.f0, (k.frozen (p := ⟨w.heap.size, 1, none⟩) (by show w.heap.size < _; omega)).trans h.f1, h.res.keep k (by omega), h1, Nat.le_trans h2 k.size⟩
theorem RM.put (h : RM w W base t f s c M) (t' : Bool) (f' : Int) : RM w ((W.setCell ⟨w.heap.size, 0, none⟩ (.bool t')).setCell ⟨w.heap.size, 1, none⟩ (.int .i64 f')) base t' f' s c M := by
  have h1 := h.bs
  have h2 := h.hb
  obtain ⟨r0, r1, r2, r3, r4⟩ := h.res
  refine ⟨(h.below.setCell (p := ⟨w.heap.size, 0, none⟩) (Nat.le_refl _) _).setCell (p := ⟨w.heap.size, 1, none⟩) (Nat.le_refl _) _, (h.own.set ⟨w.heap.size, 0, none⟩ _ (by show w.heap.size < _; omega)).set ⟨w.heap.size, 1, none⟩ _ (by show w.heap.size < _; omega), ?_, ?_, by simpa using h.f0, by simpa using h.f1, ⟨?_, ?_, by simpa using r2, by simpa using r3, by simpa using r4⟩, h1, by simpa using h2⟩
  · rw [cell_set_other (by omega)]; exact cell_set_same h.i0
  · exact cell_set_same ((cell_set_other (by omega)).trans h.i1)
  · simp [go_sem, r0]
  · simp [go_sem, r1]
theorem RM.away (h : RM w W base t f s c M) : ∀ a, s = some a → a.block ≠ W.heap.size := fun a ha => by
  subst ha
  have := (World.ownsRow.lt h.own a.block rfl).2
  omega
theorem RM.end_ (h : RM w W base t f s c M) (z : Int) : IsA w z M (.returned (.agg #[.int .i64 z, .slice s M.length c])) ((W.setCell ⟨w.heap.size + 1, 0, none⟩ (.int .i64 z)).setCell ⟨w.heap.size + 1, 1, none⟩ (.slice s M.length c)) := by
  have h1 := h.bs
  exact ⟨s, c, rfl, ((h.own.set ⟨w.heap.size + 1, 0, none⟩ _ (by show w.heap.size + 1 < _; omega)).set ⟨w.heap.size + 1, 1, none⟩ _ (by show w.heap.size + 1 < _; omega)).le (by omega), (h.below.setCell (p := ⟨w.heap.size + 1, 0, none⟩) (by show w.heap.size ≤ w.heap.size + 1; omega) _).setCell (p := ⟨w.heap.size + 1, 1, none⟩) (by show w.heap.size ≤ w.heap.size + 1; omega) _⟩
theorem RM.bad (h : RM w W base t f s c M) (z : Int) : IsA w z [] (.returned (.agg #[.int .i64 z, .slice none 0 0])) ((W.setCell ⟨w.heap.size + 1, 0, none⟩ (.int .i64 z)).setCell ⟨w.heap.size + 1, 1, none⟩ (.slice none 0 0)) :=
  IsA.nil w z rfl ((h.below.setCell (p := ⟨w.heap.size + 1, 0, none⟩) (by show w.heap.size ≤ w.heap.size + 1; omega) _).setCell (p := ⟨w.heap.size + 1, 1, none⟩) (by show w.heap.size ≤ w.heap.size + 1; omega) _)
end
end Go.Proofs.Ytoipcnpemmajaaa
