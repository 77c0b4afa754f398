/- The draws' source: a pointer to bytes and a count that is turned; what the next number is: one from 0 to n - 1. Labels that are drawn: whatever they are, the draw ends, and all old memory is as it was. Rows of int64 numbers: copied, held against each other, marked. -/
import Derived.Test.YtmmjannkfmiohaaRows
import Derived.Test.YtmmjannkfmiohaaTs0
import Derived.WalkKit
import Derived.WalkSpells
import Derived.WalkLawsBesides
import Derived.Handy
import Derived.BigQuiet
import Derived.Test.YtmmjannkfmiohaaTs2
namespace Go.Proofs.Ytmmjannkfmiohaa
open Go.RowKit
set_option linter.unusedVariables false

/-- All old memory but block b is as it was. -/
structure Turn (b : Nat) (w w' : World) : Prop where
  os : w'.os = w.os
  tape : w'.tape = w.tape
  output : w'.output = w.output
  size : w.heap.size ≤ w'.heap.size
  block : ∀ k, k < w.heap.size → k ≠ b → w'.heap[k]? = w.heap[k]?

theorem Turn.refl (b : Nat) (w : World) : Turn b w w := ⟨rfl, rfl, rfl, Nat.le_refl _, fun _ _ _ => rfl⟩
theorem Turn.trans {b : Nat} {w w1 w2 : World} (h : Turn b w w1) (k : Turn b w1 w2) : Turn b w w2 :=
  ⟨k.os.trans h.os, k.tape.trans h.tape, k.output.trans h.output, Nat.le_trans h.size k.size, fun i hi hb => (k.block i (Nat.lt_of_lt_of_le hi h.size) hb).trans (h.block i hi hb)⟩
theorem Turn.of_below {b : Nat} {w w' : World} (h : Below w.heap.size w w') : Turn b w w' := ⟨h.os, h.tape, h.output, h.size, fun i hi _ => h.block i hi⟩
theorem Turn.below {b B : Nat} {w w1 w' : World} (h : Below B w w1) (hB : B ≤ b) (hs : B ≤ w1.heap.size) (t : Turn b w1 w') : Below B w w' :=
  h.trans ⟨t.os, t.tape, t.output, t.size, fun i hi => t.block i (by omega) (by omega)⟩
theorem Turn.cell {b : Nat} {w w' : World} (h : Turn b w w') (k o : Nat) (hk : k < w.heap.size) (hb : ¬ k = b) : w'.cell? ⟨k, o, none⟩ = w.cell? ⟨k, o, none⟩ :=
  World.cell?_of_block (w := w) (a := ⟨k, o, none⟩) (h.block k hk hb)
theorem Turn.frozen {b : Nat} {w w' : World} (h : Turn b w w') (k o : Nat) (hk : k < w.heap.size) (hb : ¬ k = b) : w'.frozen? ⟨k, o, none⟩ = w.frozen? ⟨k, o, none⟩ :=
  World.frozen?_of_block (w := w) (a := ⟨k, o, none⟩) (h.block k hk hb)

/-- What a walk is told of a slice of integers that came in. -/
def IsRow (k : IntKind) (w : World) (a : Option Addr) (len cap : Nat) (zs : List Int) : Prop :=
  (a = none ∧ len = 0 ∧ cap = 0 ∧ zs = []) ∨
  ∃ x, a = some x ∧ len ≤ cap ∧ cap ≤ maxLen ∧ zs.length = cap ∧ (∀ i, i < zs.length → w.cell? (x.add i) = some (.int k (zs.getD i 0))) ∧ ∀ n ∈ zs, (Lit.int k n).wf = true

/-- Bytes that can be read, in a block below B: the first len, each from 0 to 255. -/
def Bytes (w : World) (B : Nat) (a : Option Addr) (len : Nat) (f : Nat → Int) : Prop :=
  len = 0 ∨ ∃ xb xo, a = some ⟨xb, xo, none⟩ ∧ xb < B ∧ ∀ i, i < len → w.cell? ⟨xb, xo + i, none⟩ = some (.int .u8 (f i)) ∧ 0 ≤ f i ∧ f i ≤ 255

theorem IsRow.bytes {w : World} {a : Option Addr} {len cap : Nat} {zs : List Int} (h : IsRow .u8 w a len cap zs) : Bytes w w.heap.size a len (fun i => zs.getD i 0) := by
  rcases h with ⟨_, h, _⟩ | ⟨x, hx, h1, h2, h3, h4, h5⟩
  · exact .inl h
  · by_cases hl : len = 0
    · exact .inl hl
    · obtain ⟨xb, xo, sp⟩ := x
      have hc := h4 0 (by omega)
      have hs : sp = none := by simpa [Addr.add] using World.cell?_spot hc
      subst hs
      refine .inr ⟨xb, xo, hx, ?_, fun i hi => ⟨?_, ?_⟩⟩
      · refine Decidable.byContradiction fun hn => ?_
        have : w.heap[xb]? = none := by simp; omega
        simp [World.cell?, Addr.add, this] at hc
      · have hq := h4 i (by omega)
        by_cases h0 : i = 0
        · subst h0; simpa [Addr.add] using hq
        · simpa [Addr.add, h0] using hq
      · have hi' : i < zs.length := by omega
        have e : zs.getD i 0 = zs[i] := by simp [List.getD, hi']
        have hq := bounds_u8 (h5 zs[i] (List.getElem_mem _))
        show 0 ≤ zs.getD i 0 ∧ zs.getD i 0 ≤ 255
        rw [e]; exact hq

theorem Bytes.stay {w w' : World} {B : Nat} {a : Option Addr} {len b : Nat} {f : Nat → Int} (h : Bytes w B a len f) (hB : B ≤ w.heap.size) (t : Turn b w w') (hb : B ≤ b) : Bytes w' B a len f := by
  rcases h with h | ⟨xb, xo, ha, hx, hc⟩
  · exact .inl h
  · exact .inr ⟨xb, xo, ha, hx, fun i hi => ⟨by rw [t.cell xb _ (by omega) (by omega)]; exact (hc i hi).1, (hc i hi).2⟩⟩

/-- The source in block b: its bytes, which lie below B, and how many were read. -/
structure Src (w : World) (B b : Nat) (a : Option Addr) (len cap : Nat) (f : Nat → Int) (t : Int) : Prop where
  lt : b < w.heap.size
  le : B ≤ b
  code : w.cell? ⟨b, 0, none⟩ = some (.slice a len cap)
  at_ : w.cell? ⟨b, 1, none⟩ = some (.int .i64 t)
  free : w.frozen? ⟨b, 1, none⟩ = false
  bytes : Bytes w B a len f
  small : len ≤ 1048576

theorem Src.turn {w w' : World} {B b c : Nat} {a : Option Addr} {len cap : Nat} {f : Nat → Int} {t : Int} (h : Src w B b a len cap f t) (k : Turn c w w') (hc : B ≤ c) (hb : ¬ b = c) : Src w' B b a len cap f t :=
  ⟨Nat.lt_of_lt_of_le h.lt k.size, h.le, by rw [k.cell b 0 h.lt hb]; exact h.code, by rw [k.cell b 1 h.lt hb]; exact h.at_, by rw [k.frozen b 1 h.lt hb]; exact h.free,
    h.bytes.stay (by have := h.lt; have := h.le; omega) k hc, h.small⟩
theorem Src.grow {w w' : World} {B b : Nat} {a : Option Addr} {len cap : Nat} {f : Nat → Int} {t : Int} (h : Src w B b a len cap f t) (k : Below w.heap.size w w') : Src w' B b a len cap f t :=
  h.turn (c := w.heap.size) (Turn.of_below k) (by have := h.lt; have := h.le; omega) (by have := h.lt; omega)
theorem Turn.store (w : World) (p : Addr) (v : Value) : Turn p.block w (w.setCell p v) :=
  ⟨rfl, rfl, rfl, by simp [World.setCell], fun k _ hb => Below.heap_setCell _ _ _ _ hb⟩
theorem Src.store {w : World} {B b : Nat} {a : Option Addr} {len cap : Nat} {f : Nat → Int} {t : Int} (h : Src w B b a len cap f t) (p : Addr) (v : Value) (hp : b < p.block) : Src (w.setCell p v) B b a len cap f t :=
  h.turn (Turn.store w p v) (by have := h.le; omega) (by omega)
theorem Turn.setCell {b : Nat} {w w' : World} (h : Turn b w w') {p : Addr} (hp : w.heap.size ≤ p.block) (v : Value) : Turn b w (w'.setCell p v) :=
  ⟨h.os, h.tape, h.output, by simpa [World.setCell] using h.size, fun k hk hb => (Below.heap_setCell _ _ _ _ (by omega)).trans (h.block k hk hb)⟩
theorem Turn.alloc {b : Nat} {w w' : World} (h : Turn b w w') (o : Obj) : Turn b w (w'.alloc o) :=
  h.trans (Turn.of_below ((Below.refl _ _).alloc (Nat.le_refl _) _))
theorem Turn.drew {b : Nat} {w w' : World} (h : Turn b w w') : Turn b w w'.drew := ⟨h.os, h.tape, h.output, h.size, h.block⟩

/-- The count turned. -/
theorem Src.next {w : World} {B b : Nat} {a : Option Addr} {len cap : Nat} {f : Nat → Int} {t : Int} (h : Src w B b a len cap f t) (u : Int) (m : Nat) :
    Turn b w ((w.setCell ⟨b, 1, none⟩ (.int .i64 u)).drewN m) ∧ Src ((w.setCell ⟨b, 1, none⟩ (.int .i64 u)).drewN m) B b a len cap f u := by
  have ht : Turn b w ((w.setCell ⟨b, 1, none⟩ (.int .i64 u)).drewN m) :=
    ⟨rfl, rfl, rfl, by simp, fun k hk hb => by simpa using Below.heap_setCell w ⟨b, 1, none⟩ (.int .i64 u) k hb⟩
  refine ⟨ht, ⟨by simpa using h.lt, h.le, ?_, ?_, ?_, h.bytes.stay (by have := h.lt; have := h.le; omega) ht h.le, h.small⟩⟩
  · have hn : (w.setCell ⟨b, 1, none⟩ (.int .i64 u)).cell? ⟨b, 0, none⟩ = w.cell? ⟨b, 0, none⟩ := World.cell?_setCell_other _ _ _ _ (by intro h; cases h)
    simpa using hn.trans h.code
  · have hn : (w.setCell ⟨b, 1, none⟩ (.int .i64 u)).cell? ⟨b, 1, none⟩ = some (.int .i64 u) := World.cell?_setCell_same _ _ _ h.at_
    simpa using hn
  · simpa using h.free

set_option maxHeartbeats 800000 in
theorem next_nil (w : World) (B b : Nat) (a : Option Addr) (cap : Nat) (f : Nat → Int) (t n : Int) (S : Src w B b a 0 cap f t) (t0 : 0 ≤ t) (t1 : t ≤ 100000) (n0 : 1 ≤ n) (n1 : n ≤ 100000) :
    Calls Try.prog 22 #[.pointer (some ⟨b, 0, none⟩), .int .i64 n] w fun e w' => ∃ r : Int, e = .returned (.int .i64 r) ∧ 0 ≤ r ∧ r < n ∧ Turn b w w' ∧ Src w' B b a 0 cap f (t + 1) := by
  have c0 := S.code
  have c1 := S.at_
  have c2 := S.free
  go_enter Try.func22, Try.ntmps22
  go_wp2
  go_returns
  exact ⟨t * 7 % n, rfl, Int.emod_nonneg _ (by omega), Int.emod_lt_of_pos _ (by omega), S.next (t + 1) 0⟩

set_option maxHeartbeats 1000000 in
theorem next_some (w : World) (B b xb xo : Nat) (len cap : Nat) (f : Nat → Int) (t n : Int) (S : Src w B b (some ⟨xb, xo, none⟩) len cap f t) (t0 : 0 ≤ t) (t1 : t ≤ 100000) (n0 : 1 ≤ n) (n1 : n ≤ 100000) (l0 : 0 < len) :
    Calls Try.prog 22 #[.pointer (some ⟨b, 0, none⟩), .int .i64 n] w fun e w' => ∃ r : Int, e = .returned (.int .i64 r) ∧ 0 ≤ r ∧ r < n ∧ Turn b w w' ∧ Src w' B b (some ⟨xb, xo, none⟩) len cap f (t + 1) := by
  have c0 := S.code
  have c1 := S.at_
  have c2 := S.free
  have l1 := S.small
  have hne : ((len : Int) == 0) = false := by simp; omega
  have hl : (0 : Int) < (len : Int) := by omega
  have hl1 : (len : Int) ≤ 1048576 := by omega
  have i0 : 0 ≤ t % (len : Int) := Int.emod_nonneg _ (by omega)
  have i1 : t % (len : Int) < (len : Int) := Int.emod_lt_of_pos _ hl
  have hle := S.le
  have hxb : ¬ xb = b := by
    rcases S.bytes with h | ⟨yb, yo, hy, hl, _⟩
    · omega
    · cases hy; omega
  clear hle
  have bytes : ∀ j : Int, 0 ≤ j → j < (len : Int) → ∃ v, w.cell? ⟨xb, xo + j.toNat, none⟩ = some (.int .u8 v) ∧ 0 ≤ v ∧ v ≤ 255 := by
    intro j h0 h1
    rcases S.bytes with h | ⟨yb, yo, hy, _, hc⟩
    · omega
    · cases hy
      obtain ⟨h2, h3, h4⟩ := hc j.toNat (by omega)
      exact ⟨_, h2, h3, h4⟩
  obtain ⟨v, hv, v0, v1⟩ := bytes (t % (len : Int)) i0 i1
  have j0 : 0 ≤ (t + 1) % (len : Int) := Int.emod_nonneg _ (by omega)
  have j1 : (t + 1) % (len : Int) < (len : Int) := Int.emod_lt_of_pos _ hl
  obtain ⟨u, hu, u0, u1⟩ := bytes ((t + 1) % (len : Int)) j0 j1
  have q0 : 0 ≤ t / (len : Int) := Int.ediv_nonneg t0 (by omega)
  have q1 : t / (len : Int) ≤ 100000 := by have := Int.ediv_le_self (len : Int) t0; omega
  clear bytes
  go_enter Try.func22, Try.ntmps22
  go_wp2
  go_quiet (fail)
  by_cases hn : 200 < n
  · go_wp2
    go_quiet (fail)
    go_wp2
    go_returns
    refine ⟨_, rfl, ?_, ?_, S.next (t + 1) _⟩
    · exact Int.emod_nonneg _ (by omega)
    · exact Int.emod_lt_of_pos _ (by omega)
  · go_wp2
    go_returns
    refine ⟨_, rfl, ?_, ?_, S.next (t + 1) _⟩
    · exact Int.emod_nonneg _ (by omega)
    · exact Int.emod_lt_of_pos _ (by omega)

theorem next_any (w : World) (B b : Nat) (a : Option Addr) (len cap : Nat) (f : Nat → Int) (t n : Int) (S : Src w B b a len cap f t) (t0 : 0 ≤ t) (t1 : t ≤ 100000) (n0 : 1 ≤ n) (n1 : n ≤ 100000) :
    Calls Try.prog 22 #[.pointer (some ⟨b, 0, none⟩), .int .i64 n] w fun e w' => ∃ r : Int, e = .returned (.int .i64 r) ∧ 0 ≤ r ∧ r < n ∧ Turn b w w' ∧ Src w' B b a len cap f (t + 1) := by
  by_cases h : len = 0
  · subst h; exact next_nil w B b a cap f t n S t0 t1 n0 n1
  · rcases S.bytes with h0 | ⟨xb, xo, ha, _, _⟩
    · omega
    · subst ha; exact next_some w B b xb xo len cap f t n S t0 t1 n0 n1 (by omega)

set_option maxHeartbeats 400000 in
theorem chance_any (w : World) (B b : Nat) (a : Option Addr) (len cap : Nat) (f : Nat → Int) (t n : Int) (S : Src w B b a len cap f t) (t0 : 0 ≤ t) (t1 : t ≤ 100000) (n0 : 1 ≤ n) (n1 : n ≤ 100000) :
    Calls Try.prog 52 #[.pointer (some ⟨b, 0, none⟩), .int .i64 n] w fun e w' => ∃ r : Bool, e = .returned (.bool r) ∧ Turn b w w' ∧ Src w' B b a len cap f (t + 1) := by
  go_enter Try.func52, Try.ntmps52
  go_wp2_with (go_at_call 22; refine Calls.mono (next_any _ _ _ _ _ _ _ _ _ S t0 t1 n0 n1) ?_; rintro e w1 ⟨r, rfl, r0, r1, ht, hs⟩)
  go_returns
  exact ⟨_, rfl, ht, hs⟩

/-- A list of k numbers in a block of its own. -/
def Nums (w : World) (lb k : Nat) (L : Nat → Int) : Prop := lb < w.heap.size ∧ ∀ i, i < k → w.cell? ⟨lb, i, none⟩ = some (.int .i64 (L i))

set_option maxHeartbeats 400000 in
theorem pick_any (w : World) (B b : Nat) (a : Option Addr) (len cap : Nat) (f : Nat → Int) (t : Int) (lb k c : Nat) (L : Nat → Int) (S : Src w B b a len cap f t) (t0 : 0 ≤ t) (t1 : t ≤ 100000) (k0 : 1 ≤ k) (k1 : k ≤ 1000) (hL : Nums w lb k L) (hb : ¬ lb = b) :
    Calls Try.prog 23 #[.pointer (some ⟨b, 0, none⟩), .slice (some ⟨lb, 0, none⟩) k c] w fun e w' => ∃ r : Int, e = .returned (.int .i64 r) ∧ Turn b w w' ∧ Src w' B b a len cap f (t + 1) := by
  have n0 : (1 : Int) ≤ (k : Int) := by omega
  have n1 : (k : Int) ≤ 1000 := by omega
  go_enter Try.func23, Try.ntmps23
  go_wp2_with fail
  refine Calls.mono (next_any _ _ _ _ _ _ _ _ _ S t0 t1 n0 (by omega)) ?_
  rintro e w1 ⟨r, rfl, r0, r1, ht, hs⟩
  have hc : w1.cell? ⟨lb, r.toNat, none⟩ = some (.int .i64 (L r.toNat)) := by
    rw [ht.cell lb _ hL.1 hb]; exact hL.2 _ (by omega)
  generalize L r.toNat = q at hc
  go_wp2
  go_returns
  exact ⟨q, rfl, ht, hs⟩

end Go.Proofs.Ytmmjannkfmiohaa

namespace Go.Proofs.Ytmmjannkfmiohaa
open Go.RowKit
set_option linter.unusedVariables false

theorem ints2 {x0 x1 : Int} : ∀ i, i < 2 → ∃ n, (#[Value.int .i64 x0, Value.int .i64 x1] : Array Value)[i]? = some (.int .i64 n) := by
  intro i hi
  have h : i = 0 ∨ i = 1 := by omega
  rcases h with rfl | rfl <;> exact ⟨_, rfl⟩
theorem ints3 {x0 x1 x2 : Int} : ∀ i, i < 3 → ∃ n, (#[Value.int .i64 x0, Value.int .i64 x1, Value.int .i64 x2] : Array Value)[i]? = some (.int .i64 n) := by
  intro i hi
  have h : i = 0 ∨ i = 1 ∨ i = 2 := by omega
  rcases h with rfl | rfl | rfl <;> exact ⟨_, rfl⟩
theorem ints4 {x0 x1 x2 x3 : Int} : ∀ i, i < 4 → ∃ n, (#[Value.int .i64 x0, Value.int .i64 x1, Value.int .i64 x2, Value.int .i64 x3] : Array Value)[i]? = some (.int .i64 n) := by
  intro i hi
  have h : i = 0 ∨ i = 1 ∨ i = 2 ∨ i = 3 := by omega
  rcases h with rfl | rfl | rfl | rfl <;> exact ⟨_, rfl⟩
theorem ints5 {x0 x1 x2 x3 x4 : Int} : ∀ i, i < 5 → ∃ n, (#[Value.int .i64 x0, Value.int .i64 x1, Value.int .i64 x2, Value.int .i64 x3, Value.int .i64 x4] : Array Value)[i]? = some (.int .i64 n) := by
  intro i hi
  have h : i = 0 ∨ i = 1 ∨ i = 2 ∨ i = 3 ∨ i = 4 := by omega
  rcases h with rfl | rfl | rfl | rfl | rfl <;> exact ⟨_, rfl⟩
theorem ints6 {x0 x1 x2 x3 x4 x5 : Int} : ∀ i, i < 6 → ∃ n, (#[Value.int .i64 x0, Value.int .i64 x1, Value.int .i64 x2, Value.int .i64 x3, Value.int .i64 x4, Value.int .i64 x5] : Array Value)[i]? = some (.int .i64 n) := by
  intro i hi
  have h : i = 0 ∨ i = 1 ∨ i = 2 ∨ i = 3 ∨ i = 4 ∨ i = 5 := by omega
  rcases h with rfl | rfl | rfl | rfl | rfl | rfl <;> exact ⟨_, rfl⟩

theorem pick_new (W : World) (B b : Nat) (a : Option Addr) (len cap : Nat) (f : Nat → Int) (t : Int) (C : Array Value) (T : TypeId) (k lb : Nat) (hlb : lb = W.heap.size) (hC : ∀ i, i < k → ∃ n, C[i]? = some (.int .i64 n))
    (S : Src W B b a len cap f t) (t0 : 0 ≤ t) (t1 : t ≤ 100000) (k0 : 1 ≤ k) (k1 : k ≤ 1000) :
    Calls Try.prog 23 #[.pointer (some ⟨b, 0, none⟩), .slice (some ⟨lb, 0, none⟩) k k] (W.alloc (.cells C T)) fun e w' => ∃ r : Int, e = .returned (.int .i64 r) ∧ Turn b W w' ∧ Src w' B b a len cap f (t + 1) := by
  subst hlb
  have hb : Below W.heap.size W (W.alloc (.cells C T)) := (Below.refl _ _).alloc (Nat.le_refl _) _
  have hlt := S.lt
  refine (pick_any (W.alloc (.cells C T)) B b a len cap f t W.heap.size k k (fun i => intOf (C[i]?.getD undef)) (S.grow hb) t0 t1 k0 k1 ⟨by simp, fun i hi => ?_⟩ (by omega)).mono ?_
  · obtain ⟨n, hn⟩ := hC i hi
    rw [World.cell?_alloc_new, hn]; simp [hn, intOf]
  · rintro e w' ⟨r, he, ht, hs⟩
    exact ⟨r, he, (Turn.of_below hb).trans ht, hs⟩

set_option maxHeartbeats 400000 in
theorem draw_any (w : World) (B b : Nat) (a : Option Addr) (len cap : Nat) (f : Nat → Int) (t : Int) (S : Src w B b a len cap f t) (t0 : 0 ≤ t) (t1 : t ≤ 90000) :
    Calls Try.prog 45 #[.pointer (some ⟨b, 0, none⟩)] w fun e w' => ∃ l p : Int, e = .returned (.agg #[.int .i64 l, .int .i64 p]) ∧ Turn b w w' ∧ Src w' B b a len cap f (t + 1 + 1) := by
  have hlt := S.lt
  have hne : ¬ w.heap.size = b := by omega
  go_enter Try.func45, Try.ntmps45
  go_wp2_with fail
  refine Calls.mono (pick_new _ B b a len cap f t _ _ _ _ (by simp) ints4 (by first | exact S | exact Src.grow S (by go_grown)) (by omega) (by omega) (by omega) (by omega)) ?_
  rintro e w1 ⟨r1, rfl, ht1, hs1⟩
  go_wp2_with fail
  refine Calls.mono (pick_new _ B b a len cap f (t + 1) _ _ _ _ (by simp) ints5 (by first | exact hs1 | exact Src.grow hs1 (by go_grown)) (by omega) (by omega) (by omega) (by omega)) ?_
  rintro e w2 ⟨r2, rfl, ht2, hs2⟩
  have ht12 := ht1.trans ht2
  have hc := ht12.cell
  have hf := ht12.frozen
  go_wp2
  refine bodyPost_ret (v := .agg #[.int .i64 r1, .int .i64 r2]) (by simp [results, Try.results45, go_sem, *]) rfl ⟨r1, r2, rfl, ?_, ?_⟩
  · repeat' (first | (with_reducible exact Turn.refl _ _) | (with_reducible refine Turn.setCell ?_ ?_ _) | (with_reducible refine Turn.alloc ?_ _) | (with_reducible refine Turn.drew ?_) | (with_reducible refine Turn.trans ?_ (by assumption)) | go_size)
  · repeat' (first | (with_reducible assumption) | (with_reducible refine Src.store ?_ _ _ ?_) | go_size)

set_option maxHeartbeats 800000 in
theorem bent_any (w : World) (B b : Nat) (a : Option Addr) (len cap : Nat) (f : Nat → Int) (t : Int) (S : Src w B b a len cap f t) (t0 : 0 ≤ t) (t1 : t ≤ 80000) :
    Calls Try.prog 30 #[.pointer (some ⟨b, 0, none⟩)] w fun e w' => ∃ l p t' : Int, e = .returned (.agg #[.int .i64 l, .int .i64 p]) ∧ Turn b w w' ∧ 0 ≤ t' ∧ t' ≤ t + 10 ∧ Src w' B b a len cap f t' := by
  have hlt := S.lt
  have hne : ¬ w.heap.size = b := by omega
  go_enter Try.func30, Try.ntmps30
  go_wp2_with fail
  refine Calls.mono (draw_any _ B b a len cap f t (by exact S.grow (by go_grown)) t0 (by omega)) ?_
  rintro e w1 ⟨l, p, rfl, ht1, hs1⟩
  have hz1 := ht1.size
  simp only [World.size_alloc] at hz1
  have hc1 := ht1.cell
  have hf1 := ht1.frozen
  have hb1 : w.heap.size < w1.heap.size ∧ ¬ w.heap.size = w1.heap.size ∧ w.heap.size ≤ w1.heap.size ∧ ¬ w1.heap.size = b := by have := hs1.lt; omega
  go_wp2_with fail
  refine Calls.mono (chance_any _ B b a len cap f (t + 1 + 1) 10 (by exact hs1.grow (by go_grown)) (by omega) (by omega) (by omega) (by omega)) ?_
  rintro e w2 ⟨r, rfl, ht2, hs2⟩
  have hz2 := ht2.size
  simp only [World.size_alloc] at hz2
  have hc2 := ht2.cell
  have hf2 := ht2.frozen
  have hb2 : w.heap.size < w2.heap.size ∧ ¬ w.heap.size = w2.heap.size ∧ w.heap.size ≤ w2.heap.size ∧ w1.heap.size < w2.heap.size ∧ w1.heap.size ≤ w2.heap.size ∧ ¬ w1.heap.size = w2.heap.size ∧ ¬ w2.heap.size = b := by have := hs2.lt; omega
  have T2 := (ht1.alloc (.cells #[.int .i64 l, .int .i64 p] 34)).trans ht2
  cases r
  · have g0 : w2.cell? ⟨w.heap.size, 0, none⟩ = some (.int .i64 0) := by rw [T2.cell _ _ (by simp) hne]; simp
    have g1 : w2.cell? ⟨w.heap.size, 1, none⟩ = some (.int .i64 0) := by rw [T2.cell _ _ (by simp) hne]; simp
    clear T2
    go_wp2
    refine bodyPost_ret (v := .agg #[.int .i64 l, .int .i64 p]) (by simp [results, Try.results30, go_sem, *]) rfl ⟨l, p, t + 1 + 1 + 1, rfl, ?_, by omega, by omega, ?_⟩
    · repeat' (first | (with_reducible exact Turn.refl _ _) | (with_reducible refine Turn.setCell ?_ ?_ _) | (with_reducible refine Turn.alloc ?_ _) | (with_reducible refine Turn.drew ?_) | (with_reducible refine Turn.trans ?_ (by assumption)) | go_size)
    · repeat' (first | (with_reducible assumption) | (with_reducible refine Src.store ?_ _ _ ?_) | go_size)
  ·
    go_wp2_with fail
    refine Calls.mono (pick_new _ B b a len cap f (t + 1 + 1 + 1) _ _ _ _ (by simp) ints3 (by first | exact hs2 | exact Src.grow hs2 (by go_grown)) (by omega) (by omega) (by omega) (by omega)) ?_
    rintro e w3 ⟨r3, rfl, ht3, hs3⟩
    go_wp2_with fail
    refine Calls.mono (pick_new _ B b a len cap f (t + 1 + 1 + 1 + 1) _ _ _ _ (by simp) ints3 (by first | exact hs3 | exact Src.grow hs3 (by go_grown)) (by omega) (by omega) (by omega) (by omega)) ?_
    rintro e w4 ⟨r4, rfl, ht4, hs4⟩
    have ht34 := ht3.trans ht4
    have hc3 := ht34.cell
    have hf3 := ht34.frozen
    have hz3 := ht34.size
    have hb3 : w.heap.size < w4.heap.size ∧ ¬ w.heap.size = w4.heap.size ∧ w.heap.size ≤ w4.heap.size ∧ w1.heap.size < w4.heap.size := by omega
    have T4 := T2.trans ht34
    have g0 : w4.cell? ⟨w.heap.size, 0, none⟩ = some (.int .i64 0) := by rw [T4.cell _ _ (by simp) hne]; simp
    have g1 : w4.cell? ⟨w.heap.size, 1, none⟩ = some (.int .i64 0) := by rw [T4.cell _ _ (by simp) hne]; simp
    clear T4 T2 ht34
    go_wp2
    clear hc1 hc2 hc3
    refine bodyPost_ret (v := .agg #[.int .i64 r3, .int .i64 r4]) (by simp [results, Try.results30, go_sem, *]) rfl ⟨r3, r4, t + 1 + 1 + 1 + 1 + 1, rfl, ?_, by omega, by omega, ?_⟩
    · repeat' (first | (with_reducible exact Turn.refl _ _) | (with_reducible refine Turn.setCell ?_ ?_ _) | (with_reducible refine Turn.alloc ?_ _) | (with_reducible refine Turn.drew ?_) | (with_reducible refine Turn.trans ?_ (by assumption)) | go_size)
    · repeat' (first | (with_reducible assumption) | (with_reducible refine Src.store ?_ _ _ ?_) | go_size)

end Go.Proofs.Ytmmjannkfmiohaa

namespace Go.Proofs.Ytmmjannkfmiohaa
open Go.RowKit
set_option linter.unusedVariables false

theorem Try.infoI : (Try.prog.info? 2).map (fun i => (i.zero, i.size, i.bytes)) = some (some (.int .i64 0), 1, 8) := by kernel_rfl

/-- What number a place is marked with. -/
def mkI (k : Int) (i : Nat) : Int := k + i

end Go.Proofs.Ytmmjannkfmiohaa
