/- A list that grows in a local's box: what stands beside it. -/
import Derived.Test.YtmmjannkfmiohaaTs31
import Derived.Test.YtmmjannkfmiohaaTs36
import Derived.Maps.AppendAt
import Derived.Maps.OwnIn
namespace Go.Proofs.Ytmmjannkfmiohaa
open Go.RowKit
set_option linter.unusedVariables false

/-- What one more number at the end of an owned row leaves. -/
structure Snoc (base : Nat) (w : World) (so : Option Addr) (M : List Int) (so' : Option Addr) (sc' : Nat) (w' : World) : Prop where
  own : OwnR .i64 2 w' base so' sc' M
  below : Below base w w'
  blk : ∀ b, b < w.heap.size → (∀ a, so = some a → a.block ≠ b) → w'.heap[b]? = w.heap[b]?
  row : ∀ a, so' = some a → (∃ a0, so = some a0 ∧ a0.block = a.block) ∨ w.heap.size ≤ a.block

theorem Try.infoO9 : (Try.prog.info? 2).map (fun i => (i.zero, i.size, i.bytes)) = some (some (.int .i64 0), 1, 8) := by kernel_rfl

theorem run_snoc (ty : TypeId) (w : World) (base : Nat) (so : Option Addr) (sc : Nat) (M : List Int) (hown : OwnR .i64 2 w base so sc M) (ad : Addr) (c : Nat) (z : Int) (hz : w.cell? ad = some (.int .i64 z)) (hn : M.length + 1 ≤ 2097152) (hbase : base ≤ w.heap.size) :
    ∃ so' sc' w', (Builtin.append_ #[26, 26] ty #[.slice so M.length sc, .slice (some ad) 1 c]).run Try.prog w = .ok (.slice so' (M ++ [z]).length sc') w' ∧ Snoc base w so (M ++ [z]) so' sc' w' := by
  obtain ⟨i0, hi0, hz0, hz1, hz2⟩ := info_parts Try.infoO9
  obtain ⟨v', w', hr, h2, h3, _, h5⟩ := run_append_own_at (P := Try.prog) w base 26 ty 2 i0 (.int .i64 0) 1 8 Try.underlying26 hi0 hz0 hz1 hz2 rfl (by decide) (.slice so M.length sc) M.length (M.map (Value.int .i64)) hown ad 1 c [.int .i64 z] (by simp) (fun j u hj => by
      match j, hj with
      | 0, hj =>
        simp at hj
        subst hj
        have : ad.add 0 = ad := by obtain ⟨g, o, sp⟩ := ad; unfold Addr.add; cases sp <;> rfl
        rw [this]; exact hz) (by intro u hu; simp at hu; subst hu; rfl) (by unfold maxLen; omega) (by omega) hbase
  have e : M.map (Value.int .i64) ++ [.int .i64 z] = (M ++ [z]).map (Value.int .i64) := by simp
  rw [e, show M.length + 1 = (M ++ [z]).length by simp] at h2
  obtain ⟨so', sc', rfl, O⟩ := ownR_form h2
  refine ⟨so', sc', w', hr, O, (Below.refl base w).grown h3 hbase fun b hb => (World.ownsRow.lt hown b hb).1, fun b hb hne => h3.block b hb fun h => ?_, fun a ha => ?_⟩
  · cases so with
    | none => simp [Value.ownBlock] at h
    | some a => simp only [Value.ownBlock, Option.some.injEq] at h; exact hne a rfl h.symm
  · subst ha
    rcases h5 with h | h
    · cases so with
      | none => simp [Value.ownBlock] at h
      | some a0 => simp only [Value.ownBlock, Option.some.injEq] at h; exact .inl ⟨a0, rfl, h.symm⟩
    · simp only [Value.ownBlock, Option.some.injEq] at h; exact .inr (Nat.le_of_eq h.symm)

section
variable {w : World} {ops : Array Oper} {rest : List Oper} {o : Oper} {a : Act} {Q : Exit → Act → World → Prop}
theorem wpList_snoc (hgd : o.guard = none) (s x : Operand) (ho : o.op = .call { callee := .builtin .append, args := #[s, x], argTypes := #[26, 26] }) (base : Nat) (so : Option Addr) (sc : Nat) (M : List Int) (hs : a.eval s = .slice so M.length sc) (hown : OwnR .i64 2 w base so sc M)
    (ad : Addr) (c : Nat) (z : Int) (hx : a.eval x = .slice (some ad) 1 c) (hz : w.cell? ad = some (.int .i64 z)) (hn : M.length + 1 ≤ 2097152) (hbase : base ≤ w.heap.size)
    (h : ∀ so' sc' w', Snoc base w so (M ++ [z]) so' sc' w' → wpList Try.prog ops Q rest (a.put o.dst (.slice so' (M ++ [z]).length sc')) w') : wpList Try.prog ops Q (o :: rest) a w := by
  obtain ⟨so', sc', w', hr, hh⟩ := run_snoc o.type w base so sc M hown ad c z hz hn hbase
  exact Lib.wpList_append_run w hgd s x _ _ ho _ _ hs hx _ _ hr (h so' sc' w' hh)
theorem wpListIn_snoc {F : Fence} {nF : Nat} (hgd : o.guard = none) (s x : Operand) (ho : o.op = .call { callee := .builtin .append, args := #[s, x], argTypes := #[26, 26] }) (base : Nat) (so : Option Addr) (sc : Nat) (M : List Int) (hs : a.eval s = .slice so M.length sc) (hown : OwnR .i64 2 w base so sc M)
    (ad : Addr) (c : Nat) (z : Int) (hx : a.eval x = .slice (some ad) 1 c) (hz : w.cell? ad = some (.int .i64 z)) (hn : M.length + 1 ≤ 2097152) (hbase : base ≤ w.heap.size)
    (h : ∀ so' sc' w', Snoc base w so (M ++ [z]) so' sc' w' → wpListIn F nF Try.prog ops Q rest (a.put o.dst (.slice so' (M ++ [z]).length sc')) w') : wpListIn F nF Try.prog ops Q (o :: rest) a w := by
  obtain ⟨so', sc', w', hr, hh⟩ := run_snoc o.type w base so sc M hown ad c z hz hn hbase
  refine wpListIn_plain hgd fun K hK => ?_
  unfold Oper.wpIn
  refine ⟨by simp [Oper.about, ho, resolve, Target.leads, Sem.run_pure], ?_⟩
  rw [Oper.semAt_plain F _ _ (by rw [ho]; intro c hc'; cases hc')]
  simp [execOp, ho, resolve, invoke, builtin, hs, hx, hr, Result.andThen]
  have h2 := hK _ _ (h so' sc' w' hh)
  simp only [List.length_append, List.length_cons, List.length_nil] at h2
  exact h2
end

/-- The list M lies in a row of its own, told of in cell off of the box bx; bl was its first block; Wk was ahead. -/
structure OS (Wk W : World) (base bl bx off : Nat) (so : Option Addr) (sc : Nat) (M : List Int) : Prop where
  own : OwnR .i64 2 W base so sc M
  row : ∀ a, so = some a → a.block = bl ∨ Wk.heap.size ≤ a.block
  cell : W.cell? ⟨bx, off, none⟩ = some (.slice so M.length sc)
  free : W.frozen? ⟨bx, off, none⟩ = false
  oth : ∀ c, c ≠ off → W.cell? ⟨bx, c, none⟩ = Wk.cell? ⟨bx, c, none⟩
  blk : ∀ k, k < Wk.heap.size → k ≠ bl → k ≠ bx → W.heap[k]? = Wk.heap[k]?
  os : W.os = Wk.os
  tape : W.tape = Wk.tape
  output : W.output = Wk.output
  size : Wk.heap.size ≤ W.heap.size

section
variable {Wk W W' : World} {base bl bx off : Nat} {so : Option Addr} {sc : Nat} {M : List Int}
theorem OS.keep (h : OS Wk W base bl bx off so sc M) (k : Below W.heap.size W W') (hx : bx < Wk.heap.size) : OS Wk W' base bl bx off so sc M :=
  ⟨h.own.keep k, h.row, (k.cell (p := ⟨bx, off, none⟩) (Nat.lt_of_lt_of_le hx h.size)).trans h.cell, (k.frozen (p := ⟨bx, off, none⟩) (Nat.lt_of_lt_of_le hx h.size)).trans h.free,
    fun c hc => (k.cell (p := ⟨bx, c, none⟩) (Nat.lt_of_lt_of_le hx h.size)).trans (h.oth c hc), fun j hj h1 h2 => (k.block j (Nat.lt_of_lt_of_le hj h.size)).trans (h.blk j hj h1 h2), k.os.trans h.os, k.tape.trans h.tape, k.output.trans h.output, Nat.le_trans h.size k.size⟩
theorem OS.at_ (h : OS Wk W base bl bx off so sc M) (b c : Nat) (hb : b < Wk.heap.size) (h1 : b ≠ bl) (h2 : b ≠ bx) : W.cell? ⟨b, c, none⟩ = Wk.cell? ⟨b, c, none⟩ := World.cell?_of_block (a := ⟨b, c, none⟩) (h.blk b hb h1 h2)
theorem OS.at_f (h : OS Wk W base bl bx off so sc M) (b c : Nat) (hb : b < Wk.heap.size) (h1 : b ≠ bl) (h2 : b ≠ bx) : W.frozen? ⟨b, c, none⟩ = Wk.frozen? ⟨b, c, none⟩ := World.frozen?_of_block (a := ⟨b, c, none⟩) (h.blk b hb h1 h2)
theorem OS.below (h : OS Wk W base bl bx off so sc M) {B : Nat} (hl : B ≤ bl) (hx : B ≤ bx) (hs : B ≤ Wk.heap.size) : Below B Wk W := ⟨h.os, h.tape, h.output, h.size, fun k hk => h.blk k (by omega) (by omega) (by omega)⟩

theorem ownR_off {w : World} {base : Nat} {so : Option Addr} {sc : Nat} {M : List Int} (h : OwnR .i64 2 w base so sc M) (p : Addr) (v : Value) (hne : ∀ a, so = some a → a.block ≠ p.block) : OwnR .i64 2 (w.setCell p v) base so sc M := by
  have hg : w.grownBy (w.setCell p v) (some p.block) := ⟨(Turn.store w p v).os, (Turn.store w p v).tape, (Turn.store w p v).output, (Turn.store w p v).size, fun k hk hb => (Turn.store w p v).block k hk (fun e => hb (by rw [e]))⟩
  refine World.ownsRow.kept h hg ?_
  cases so with
  | none => exact .inl rfl
  | some a => exact .inr (by simp only [Value.ownBlock, ne_eq, Option.some.injEq]; exact hne a rfl)

theorem OS.box {w2 : World} {so' : Option Addr} {sc' : Nat} {N : List Int} (h : OS Wk W base bl bx off so sc M) (hx : bx < Wk.heap.size) (hn : bx ≠ bl) (s : Snoc base W so N so' sc' w2) :
    w2.cell? ⟨bx, off, none⟩ = some (.slice so M.length sc) ∧ w2.frozen? ⟨bx, off, none⟩ = false ∧ bx < w2.heap.size := by
  have hxW : bx < W.heap.size := Nat.lt_of_lt_of_le hx h.size
  have hoff : ∀ a, so = some a → a.block ≠ bx := fun a ha e => by rcases h.row a ha with h1 | h1 <;> omega
  have hb := s.blk bx hxW hoff
  exact ⟨(World.cell?_of_block (a := ⟨bx, off, none⟩) hb).trans h.cell, (World.frozen?_of_block (a := ⟨bx, off, none⟩) hb).trans h.free, Nat.lt_of_lt_of_le hxW s.below.size⟩

/-- One more, and told of in the box. -/
theorem OS.put {w2 : World} {so' : Option Addr} {sc' : Nat} {z : Int} (h : OS Wk W base bl bx off so sc M) (hx : bx < Wk.heap.size) (hn : bx ≠ bl) (s : Snoc base W so (M ++ [z]) so' sc' w2) :
    OS Wk (w2.setCell ⟨bx, off, none⟩ (.slice so' (M ++ [z]).length sc')) base bl bx off so' sc' (M ++ [z]) := by
  have hxW : bx < W.heap.size := Nat.lt_of_lt_of_le hx h.size
  have hoff : ∀ a, so = some a → a.block ≠ bx := fun a ha e => by rcases h.row a ha with h1 | h1 <;> omega
  have hrow : ∀ a, so' = some a → a.block = bl ∨ Wk.heap.size ≤ a.block := fun a ha => by
    rcases s.row a ha with ⟨a0, e0, e1⟩ | h1
    · rw [← e1]; exact h.row a0 e0
    · exact .inr (Nat.le_trans h.size h1)
  have hb := s.blk bx hxW hoff
  have hc : w2.cell? ⟨bx, off, none⟩ = some (.slice so M.length sc) := (World.cell?_of_block (a := ⟨bx, off, none⟩) hb).trans h.cell
  refine ⟨ownR_off s.own _ _ fun a ha e => ?_, hrow, cell_set_same hc, by rw [World.frozen?_setCell]; exact (World.frozen?_of_block (a := ⟨bx, off, none⟩) hb).trans h.free, fun c hc => ?_, fun k hk h1 h2 => ?_, ?_, ?_, ?_, ?_⟩
  · rcases hrow a ha with h1 | h1 <;> simp only at e <;> omega
  · rw [cell_set_other hc]; exact (World.cell?_of_block (a := ⟨bx, c, none⟩) hb).trans (h.oth c hc)
  · rw [Below.heap_setCell w2 ⟨bx, off, none⟩ _ k (by simpa using h2)]
    exact (s.blk k (Nat.lt_of_lt_of_le hk h.size) fun a ha e => by rcases h.row a ha with g | g <;> omega).trans (h.blk k hk h1 h2)
  · exact (Turn.store w2 ⟨bx, off, none⟩ _).os.trans (s.below.os.trans h.os)
  · exact (Turn.store w2 ⟨bx, off, none⟩ _).tape.trans (s.below.tape.trans h.tape)
  · exact (Turn.store w2 ⟨bx, off, none⟩ _).output.trans (s.below.output.trans h.output)
  · exact Nat.le_trans (Nat.le_trans h.size s.below.size) (Turn.store w2 ⟨bx, off, none⟩ _).size
end
end Go.Proofs.Ytmmjannkfmiohaa
