/- What is drawn in chapter 5: a list of ids, a slot, a number. -/
import Derived.Test.YtmmjannkfmiohaaTs4
import Derived.Test.YtmmjannkfmiohaaTs12
namespace Go.Proofs.Ytmmjannkfmiohaa
open Go.RowKit
set_option linter.unusedVariables false

theorem inbL5 {P : Int → Prop} (xs : List Int) (h : ∀ x ∈ xs, P x) : ∀ i, i < xs.length → ∃ n, (xs.map (Value.int .i64)).toArray[i]? = some (.int .i64 n) ∧ P n := by
  intro i hi
  exact ⟨xs[i], by simp [hi], h _ (List.getElem_mem _)⟩

set_option maxHeartbeats 400000 in
theorem pick5_of (w : World) (B b : Nat) (a : Option Addr) (len cap : Nat) (f : Nat → Int) (t : Int) (lb k c : Nat) (L : Nat → Int) (S : Src w B b a len cap f t) (t0 : 0 ≤ t) (t1 : t ≤ 100000) (k0 : 1 ≤ k) (k1 : k ≤ 1000) (hL : Nums w lb k L) (hb : ¬ lb = b) :
    Calls Try.prog 23 #[.pointer (some ⟨b, 0, none⟩), .slice (some ⟨lb, 0, none⟩) k c] w fun e w' => ∃ r : Int, e = .returned (.int .i64 r) ∧ (∃ i, i < k ∧ r = L i) ∧ Turn b w w' ∧ Src w' B b a len cap f (t + 1) := by
  have n0 : (1 : Int) ≤ (k : Int) := by omega
  have n1 : (k : Int) ≤ 1000 := by omega
  go_enter Try.func23, Try.ntmps23
  go_wp2_with fail
  refine Calls.mono (next_any _ _ _ _ _ _ _ _ _ S t0 t1 n0 (by omega)) ?_
  rintro e w1 ⟨r, rfl, r0, r1, ht, hs⟩
  have hc : w1.cell? ⟨lb, r.toNat, none⟩ = some (.int .i64 (L r.toNat)) := by
    rw [ht.cell lb _ hL.1 hb]; exact hL.2 _ (by omega)
  have hq : Hid (∃ i, i < k ∧ L r.toNat = L i) := hideP ⟨r.toNat, by omega, rfl⟩
  generalize L r.toNat = q at hc hq
  go_wp2
  go_returns
  exact ⟨q, rfl, hq.out, ht, hs⟩

theorem pick5 (P : Int → Prop) (W : World) (B b : Nat) (a : Option Addr) (len cap : Nat) (f : Nat → Int) (t : Int) (C : Array Value) (T : TypeId) (k lb : Nat) (hlb : lb = W.heap.size) (hC : ∀ i, i < k → ∃ n, C[i]? = some (.int .i64 n) ∧ P n)
    (S : Src W B b a len cap f t) (t0 : 0 ≤ t) (t1 : t ≤ 100000) (k0 : 1 ≤ k) (k1 : k ≤ 1000) :
    Calls Try.prog 23 #[.pointer (some ⟨b, 0, none⟩), .slice (some ⟨lb, 0, none⟩) k k] (W.alloc (.cells C T)) fun e w' => ∃ r : Int, e = .returned (.int .i64 r) ∧ P r ∧ Turn b W w' ∧ Src w' B b a len cap f (t + 1) := by
  subst hlb
  have hb : Below W.heap.size W (W.alloc (.cells C T)) := (Below.refl _ _).alloc (Nat.le_refl _) _
  have hlt := S.lt
  refine (pick5_of (W.alloc (.cells C T)) B b a len cap f t W.heap.size k k (fun i => intOf (C[i]?.getD undef)) (S.grow hb) t0 t1 k0 k1 ⟨by simp, fun i hi => ?_⟩ (by omega)).mono ?_
  · obtain ⟨n, hn, _⟩ := hC i hi
    rw [World.cell?_alloc_new, hn]; simp [hn, intOf]
  · rintro e w' ⟨r, he, ⟨i, hi, hr⟩, ht, hs⟩
    refine ⟨r, he, ?_, (Turn.of_below hb).trans ht, hs⟩
    obtain ⟨n, hn, hp⟩ := hC i hi
    have : r = n := by rw [hr]; simp [hn, intOf]
    rw [this]; exact hp

theorem OwnR.turn5 {k : IntKind} {T : TypeId} {w w' : World} {base b : Nat} {ao : Option Addr} {cap : Nat} {L : List Int} (h : OwnR k T w base ao cap L) (t : Turn b w w') (hb : b < base) : OwnR k T w' base ao cap L := by
  have hg : w.grownBy w' (some b) := ⟨t.os, t.tape, t.output, t.size, fun q hq hn => t.block q hq (fun e => hn (by rw [e]))⟩
  refine World.ownsRow.kept h hg ?_
  cases hv : Value.ownBlock (.slice ao L.length cap) with
  | none => exact .inl rfl
  | some q =>
    refine .inr fun e => ?_
    injection e with e
    have := (World.ownsRow.lt h q hv).1
    omega
theorem OwnR.room {k : IntKind} {T : TypeId} {w : World} {base : Nat} {ao : Option Addr} {cap : Nat} {L : List Int} (h : OwnR k T w base ao cap L) : L.length ≤ cap := by
  rcases h.2 with ⟨e, h0⟩ | ⟨g, cap', cur, e, _, _, hnc, _⟩
  · omega
  · cases e; exact hnc

theorem Src.below5 {w w' : World} {B b N : Nat} {a : Option Addr} {len cap : Nat} {f : Nat → Int} {t : Int} (h : Src w B b a len cap f t) (k : Below N w w') (hb : b < N) : Src w' B b a len cap f t := by
  refine ⟨Nat.lt_of_lt_of_le h.lt k.size, h.le, (k.cell (p := ⟨b, 0, none⟩) hb).trans h.code, (k.cell (p := ⟨b, 1, none⟩) hb).trans h.at_, (k.frozen (p := ⟨b, 1, none⟩) hb).trans h.free, ?_, h.small⟩
  have hle := h.le
  rcases h.bytes with e | ⟨xb, xo, ha, hx, hc⟩
  · exact .inl e
  · exact .inr ⟨xb, xo, ha, hx, fun i hi => ⟨(k.cell (p := ⟨xb, xo + i, none⟩) (by show xb < N; omega)).trans (hc i hi).1, (hc i hi).2⟩⟩

/-- A list is being drawn: it owns its row, the source is read on, nothing else turns. -/
structure IMid (w wr : World) (B b : Nat) (a : Option Addr) (len cap : Nat) (f : Nat → Int) (t : Int) (ao : Option Addr) (ca : Nat) (L : List Int) : Prop where
  own : OwnR .i64 2 wr w.heap.size ao ca L
  turn : Turn b w wr
  src : Src wr B b a len cap f t
theorem IMid.next {w wr w1 : World} {B b : Nat} {a : Option Addr} {len cap : Nat} {f : Nat → Int} {t t1 : Int} {ao : Option Addr} {ca : Nat} {L : List Int} (h : IMid w wr B b a len cap f t ao ca L) (hb : b < w.heap.size) (k : Turn b wr w1) (s : Src w1 B b a len cap f t1) : IMid w w1 B b a len cap f t1 ao ca L :=
  ⟨h.own.turn5 k hb, h.turn.trans k, s⟩
theorem IMid.app {w wr w1 : World} {B b : Nat} {a : Option Addr} {len cap : Nat} {f : Nat → Int} {t : Int} {ao ao' : Option Addr} {ca ca' : Nat} {L L' : List Int} (h : IMid w wr B b a len cap f t ao ca L) (hb : b < w.heap.size) (o : OwnR .i64 2 w1 w.heap.size ao' ca' L') (k : Below w.heap.size wr w1) : IMid w w1 B b a len cap f t ao' ca' L' :=
  ⟨o, ⟨k.os.trans h.turn.os, k.tape.trans h.turn.tape, k.output.trans h.turn.output, Nat.le_trans h.turn.size k.size, fun q hq hn => (k.block q hq).trans (h.turn.block q hq hn)⟩, h.src.below5 k hb⟩

theorem made13 : (madeCells (Value.cells (.int .i64 0)) (13 * 1)).toList = (List.replicate 13 (0 : Int)).map (Value.int .i64) := by kernel_rfl

end Go.Proofs.Ytmmjannkfmiohaa
