/- What is drawn in chapter 5: a list of ids, a slot, a number. Lists of rectangles: whether two are the same; faults of lists; marks. Lists of rectangles: faults of lists; marks into a list, and whether they are held. Marks into a list of rectangles, and whether they are held. -/
import Derived.Test.YtoipcnpemmajaaaTh23
import Derived.Test.YtoipcnpemmajaaaTh10
import Derived.Test.YtoipcnpemmajaaaTh21
import Derived.Test.YtoipcnpemmajaaaTh1
namespace Go.Proofs.Ytoipcnpemmajaaa
open Go.RowKit
set_option linter.unusedVariables false

theorem inbL5 {P : Int → Prop} (xs : List Int) (h : ∀ x ∈ xs, P x) : ∀ i, i < xs.length → ∃ n, (xs.map (Value.int .i64)).toArray[i]? = some (.int .i64 n) ∧ P n := by
  intro i hi
  exact ⟨xs[i], by simp [hi], h _ (List.getElem_mem _)⟩

set_option maxHeartbeats 400000 in
theorem pick5_of (w : World) (B b : Nat) (a : Option Addr) (len cap : Nat) (f : Nat → Int) (t : Int) (lb k c : Nat) (L : Nat → Int) (S : Src w B b a len cap f t) (t0 : 0 ≤ t) (t1 : t ≤ 100000) (k0 : 1 ≤ k) (k1 : k ≤ 1000) (hL : Nums w lb k L) (hb : ¬ lb = b) :
    Calls Try.prog 63 #[.pointer (some ⟨b, 0, none⟩), .slice (some ⟨lb, 0, none⟩) k c] w fun e w' => ∃ r : Int, e = .returned (.int .i64 r) ∧ (∃ i, i < k ∧ r = L i) ∧ Turn b w w' ∧ Src w' B b a len cap f (t + 1) := by
  have n0 : (1 : Int) ≤ (k : Int) := by omega
  have n1 : (k : Int) ≤ 1000 := by omega
  go_enter Try.func63, Try.ntmps63
  go_wp2_with fail
  refine Calls.mono (next_any _ _ _ _ _ _ _ _ _ S t0 t1 n0 (by omega)) ?_
  rintro e w1 ⟨r, rfl, r0, r1, ht, hs⟩
  have hc : w1.cell? ⟨lb, r.toNat, none⟩ = some (.int .i64 (L r.toNat)) := by
    rw [ht.cell lb _ hL.1 hb]; exact hL.2 _ (by omega)
  have hq : Hid (∃ i, i < k ∧ L r.toNat = L i) := hideP ⟨r.toNat, by omega, rfl⟩
  generalize L r.toNat = q at hc hq
  go_wp2
  go_returns
  exact ⟨q, rfl, hq.out, ht, hs⟩

theorem pick5 (P : Int → Prop) (W : World) (B b : Nat) (a : Option Addr) (len cap : Nat) (f : Nat → Int) (t : Int) (C : Array Value) (T : TypeId) (k lb : Nat) (hlb : lb = W.heap.size) (hC : ∀ i, i < k → ∃ n, C[i]? = some (.int .i64 n) ∧ P n)
    (S : Src W B b a len cap f t) (t0 : 0 ≤ t) (t1 : t ≤ 100000) (k0 : 1 ≤ k) (k1 : k ≤ 1000) :
    Calls Try.prog 63 #[.pointer (some ⟨b, 0, none⟩), .slice (some ⟨lb, 0, none⟩) k k] (W.alloc (.cells C T)) fun e w' => ∃ r : Int, e = .returned (.int .i64 r) ∧ P r ∧ Turn b W w' ∧ Src w' B b a len cap f (t + 1) := by
  subst hlb
  have hb : Below W.heap.size W (W.alloc (.cells C T)) := (Below.refl _ _).alloc (Nat.le_refl _) _
  have hlt := S.lt
  refine (pick5_of (W.alloc (.cells C T)) B b a len cap f t W.heap.size k k (fun i => intOf (C[i]?.getD undef)) (S.grow hb) t0 t1 k0 k1 ⟨by simp, fun i hi => ?_⟩ (by omega)).mono ?_
  · obtain ⟨n, hn, _⟩ := hC i hi
    rw [World.cell?_alloc_new, hn]; simp [hn, intOf]
  · rintro e w' ⟨r, he, ⟨i, hi, hr⟩, ht, hs⟩
    refine ⟨r, he, ?_, (Turn.of_below hb).trans ht, hs⟩
    obtain ⟨n, hn, hp⟩ := hC i hi
    have : r = n := by rw [hr]; simp [hn, intOf]
    rw [this]; exact hp

theorem OwnR.turn5 {k : IntKind} {T : TypeId} {w w' : World} {base b : Nat} {ao : Option Addr} {cap : Nat} {L : List Int} (h : OwnR k T w base ao cap L) (t : Turn b w w') (hb : b < base) : OwnR k T w' base ao cap L := by
  have hg : w.grownBy w' (some b) := ⟨t.os, t.tape, t.output, t.size, fun q hq hn => t.block q hq (fun e => hn (by rw [e]))⟩
  refine World.ownsRow.kept h hg ?_
  cases hv : Value.ownBlock (.slice ao L.length cap) with
  | none => exact .inl rfl
  | some q =>
    refine .inr fun e => ?_
    injection e with e
    have := (World.ownsRow.lt h q hv).1
    omega
theorem OwnR.room {k : IntKind} {T : TypeId} {w : World} {base : Nat} {ao : Option Addr} {cap : Nat} {L : List Int} (h : OwnR k T w base ao cap L) : L.length ≤ cap := by
  rcases h.2 with ⟨e, h0⟩ | ⟨g, cap', cur, e, _, _, hnc, _⟩
  · omega
  · cases e; exact hnc

theorem Src.below5 {w w' : World} {B b N : Nat} {a : Option Addr} {len cap : Nat} {f : Nat → Int} {t : Int} (h : Src w B b a len cap f t) (k : Below N w w') (hb : b < N) : Src w' B b a len cap f t := by
  refine ⟨Nat.lt_of_lt_of_le h.lt k.size, h.le, (k.cell (p := ⟨b, 0, none⟩) hb).trans h.code, (k.cell (p := ⟨b, 1, none⟩) hb).trans h.at_, (k.frozen (p := ⟨b, 1, none⟩) hb).trans h.free, ?_, h.small⟩
  have hle := h.le
  rcases h.bytes with e | ⟨xb, xo, ha, hx, hc⟩
  · exact .inl e
  · exact .inr ⟨xb, xo, ha, hx, fun i hi => ⟨(k.cell (p := ⟨xb, xo + i, none⟩) (by show xb < N; omega)).trans (hc i hi).1, (hc i hi).2⟩⟩

/-- A list is being drawn: it owns its row, the source is read on, nothing else turns. -/
structure IMid (w wr : World) (B b : Nat) (a : Option Addr) (len cap : Nat) (f : Nat → Int) (t : Int) (ao : Option Addr) (ca : Nat) (L : List Int) : Prop where
  own : OwnR .i64 2 wr w.heap.size ao ca L
  turn : Turn b w wr
  src : Src wr B b a len cap f t
theorem IMid.next {w wr w1 : World} {B b : Nat} {a : Option Addr} {len cap : Nat} {f : Nat → Int} {t t1 : Int} {ao : Option Addr} {ca : Nat} {L : List Int} (h : IMid w wr B b a len cap f t ao ca L) (hb : b < w.heap.size) (k : Turn b wr w1) (s : Src w1 B b a len cap f t1) : IMid w w1 B b a len cap f t1 ao ca L :=
  ⟨h.own.turn5 k hb, h.turn.trans k, s⟩
theorem IMid.app {w wr w1 : World} {B b : Nat} {a : Option Addr} {len cap : Nat} {f : Nat → Int} {t : Int} {ao ao' : Option Addr} {ca ca' : Nat} {L L' : List Int} (h : IMid w wr B b a len cap f t ao ca L) (hb : b < w.heap.size) (o : OwnR .i64 2 w1 w.heap.size ao' ca' L') (k : Below w.heap.size wr w1) : IMid w w1 B b a len cap f t ao' ca' L' :=
  ⟨o, ⟨k.os.trans h.turn.os, k.tape.trans h.turn.tape, k.output.trans h.turn.output, Nat.le_trans h.turn.size k.size, fun q hq hn => (k.block q hq).trans (h.turn.block q hq hn)⟩, h.src.below5 k hb⟩

theorem made13 : (madeCells (Value.cells (.int .i64 0)) (13 * 1)).toList = (List.replicate 13 (0 : Int)).map (Value.int .i64) := by kernel_rfl

end Go.Proofs.Ytoipcnpemmajaaa

namespace Go.Proofs.Ytoipcnpemmajaaa
open Go.RowKit
set_option linter.unusedVariables false

set_option maxHeartbeats 400000 in
theorem eqRect_same (x y ww hh : Int) (w : World) :
    Calls Try.prog 89 #[.agg #[.int .i64 x, .int .i64 y, .int .i64 ww, .int .i64 hh], .agg #[.int .i64 x, .int .i64 y, .int .i64 ww, .int .i64 hh]] w fun e w' => e = .returned (.bool true) ∧ Below w.heap.size w w' := by
  go_enter Try.func89, Try.ntmps89
  go_wp2
  go_returns
  exact ⟨rfl, by go_grown⟩

end Go.Proofs.Ytoipcnpemmajaaa

namespace Go.Proofs.Ytoipcnpemmajaaa
open Go.RowKit
set_option linter.unusedVariables false

def fltL (L : List Rc) : Bool := L.any Rc.flt
theorem fltL_hit {L : List Rc} {k : Nat} (h : k < L.length) (hf : rfB L[k].x L[k].y L[k].w L[k].h = true) : fltL L = true := by
  unfold fltL
  exact List.any_eq_true.2 ⟨L[k], List.getElem_mem _, hf⟩
theorem fltL_none {L : List Rc} (h : ∀ k (hk : k < L.length), rfB L[k].x L[k].y L[k].w L[k].h = false) : fltL L = false := by
  unfold fltL
  refine List.any_eq_false.2 fun r hr => ?_
  obtain ⟨k, hk, rfl⟩ := List.mem_iff_getElem.1 hr
  simpa [Rc.flt] using h k hk
theorem fltL_at {L : List Rc} (h : fltL L = false) (k : Nat) (hk : k < L.length) : rfB L[k].x L[k].y L[k].w L[k].h = false := by
  have := (List.any_eq_false.1 h) L[k] (List.getElem_mem _)
  simpa [Rc.flt] using this

end Go.Proofs.Ytoipcnpemmajaaa

namespace Go.Proofs.Ytoipcnpemmajaaa
open Go.RowKit
set_option linter.unusedVariables false

/-- All old memory but the block of ao is as it was. -/
structure TurnO (ao : Option Addr) (w w' : World) : Prop where
  os : w'.os = w.os
  tape : w'.tape = w.tape
  output : w'.output = w.output
  size : w.heap.size ≤ w'.heap.size
  block : ∀ k, k < w.heap.size → (∀ a, ao = some a → k ≠ a.block) → w'.heap[k]? = w.heap[k]?

theorem TurnO.refl (ao : Option Addr) (w : World) : TurnO ao w w := ⟨rfl, rfl, rfl, Nat.le_refl _, fun _ _ _ => rfl⟩
theorem TurnO.setCell {w w' : World} {g o : Nat} (h : TurnO (some ⟨g, o, none⟩) w w') (j : Nat) (v : Value) : TurnO (some ⟨g, o, none⟩) w (w'.setCell ⟨g, j, none⟩ v) :=
  ⟨h.os, h.tape, h.output, by simpa using h.size, fun k hk hb => (Below.heap_setCell w' ⟨g, j, none⟩ v k (hb ⟨g, o, none⟩ rfl)).trans (h.block k hk hb)⟩
theorem TurnO.below {ao : Option Addr} {w w' : World} {B : Nat} (h : TurnO ao w w') (hB : B ≤ w.heap.size) (ha : ∀ a, ao = some a → B ≤ a.block) : Below B w w' :=
  ⟨h.os, h.tape, h.output, h.size, fun k hk => h.block k (by omega) (fun a e => by have := ha a e; omega)⟩

def mrkAt (k : Int) (i : Nat) : Rc := ⟨k + 4 * i, k + 4 * i + 1, k + 4 * i + 2, k + 4 * i + 3⟩
def mrk (n : Nat) (k : Int) : List Rc := (List.range n).map (mrkAt k)
theorem mrk_len (n : Nat) (k : Int) : (mrk n k).length = n := by simp [mrk]
theorem mrk_at (n : Nat) (k : Int) (i : Nat) (h : i < (mrk n k).length) : (mrk n k)[i] = mrkAt k i := by simp [mrk]

/-- n places of rectangles from ⟨g, o⟩ on, the first i of them marked from k on; w was ahead of it. -/
structure Mk (w wr : World) (g o n i : Nat) (k : Int) : Prop where
  turn : TurnO (some ⟨g, o, none⟩) w wr
  lt : g < wr.heap.size
  done : ∀ j, j < i → IsRect wr g (o + j * 4) (mrkAt k j).x (mrkAt k j).y (mrkAt k j).w (mrkAt k j).h
  there : ∀ c, c < n * 4 → ∃ u, wr.cell? ⟨g, o + c, none⟩ = some u
  free : ∀ c, wr.frozen? ⟨g, c, none⟩ = false


theorem Mk.step {w wr : World} {g o n i : Nat} {k : Int} (h : Mk w wr g o n i k) (hi : i < n) {a b c d : Int} (ea : a = k + 4 * i) (eb : b = k + 4 * i + 1) (ec : c = k + 4 * i + 2) (ed : d = k + 4 * i + 3) :
    Mk w ((((wr.setCell ⟨g, o + i * 4, none⟩ (.int .i64 a)).setCell ⟨g, o + i * 4 + 1, none⟩ (.int .i64 b)).setCell ⟨g, o + i * 4 + 2, none⟩ (.int .i64 c)).setCell ⟨g, o + i * 4 + 3, none⟩ (.int .i64 d)) g o n (i + 1) k := by
  subst ea eb ec ed
  have t0 : ∃ u, wr.cell? ⟨g, o + i * 4, none⟩ = some u := h.there (i * 4) (by omega)
  have t1 : ∃ u, wr.cell? ⟨g, o + i * 4 + 1, none⟩ = some u := h.there (i * 4 + 1) (by omega)
  have t2 : ∃ u, wr.cell? ⟨g, o + i * 4 + 2, none⟩ = some u := h.there (i * 4 + 2) (by omega)
  have t3 : ∃ u, wr.cell? ⟨g, o + i * 4 + 3, none⟩ = some u := h.there (i * 4 + 3) (by omega)
  obtain ⟨u0, t0⟩ := t0
  obtain ⟨u1, t1⟩ := t1
  obtain ⟨u2, t2⟩ := t2
  obtain ⟨u3, t3⟩ := t3
  refine ⟨(((h.turn.setCell _ _).setCell _ _).setCell _ _).setCell _ _, by simpa using h.lt, fun j hj => ?_, fun c hc => ?_, fun c => by simpa using h.free c⟩
  · by_cases hji : j < i
    · obtain ⟨c0, c1, c2, c3⟩ := h.done j hji
      refine ⟨?_, ?_, ?_, ?_⟩ <;> (repeat rw [cell_set_other (by omega)]) <;> assumption
    · obtain rfl : j = i := by omega
      refine ⟨?_, ?_, ?_, ?_⟩
      · rw [cell_set_other (by omega), cell_set_other (by omega), cell_set_other (by omega)]; exact cell_set_same t0
      · rw [cell_set_other (by omega), cell_set_other (by omega)]; exact cell_set_same ((cell_set_other (by omega)).trans t1)
      · rw [cell_set_other (by omega)]; exact cell_set_same ((cell_set_other (by omega)).trans ((cell_set_other (by omega)).trans t2))
      · exact cell_set_same ((cell_set_other (by omega)).trans ((cell_set_other (by omega)).trans ((cell_set_other (by omega)).trans t3)))
  · obtain ⟨u, hu⟩ := h.there c hc
    have key : ∀ (W : World) (d : Nat) (v : Value), (∃ u, W.cell? ⟨g, o + c, none⟩ = some u) → ∃ u, (W.setCell ⟨g, d, none⟩ v).cell? ⟨g, o + c, none⟩ = some u := fun W d v ⟨u, hu⟩ => by
      by_cases e : o + c = d
      · subst e; exact ⟨v, cell_set_same hu⟩
      · exact ⟨u, (cell_set_other e).trans hu⟩
    exact key _ _ _ (key _ _ _ (key _ _ _ (key _ _ _ ⟨u, hu⟩)))

end Go.Proofs.Ytoipcnpemmajaaa
