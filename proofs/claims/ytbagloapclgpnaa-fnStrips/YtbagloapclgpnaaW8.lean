/- What is drawn in chapter 5: a list of ids, a slot, a number. Lists of ids: those of a slot alone, and those of others; what is free there. Mathematics; lwNums; what FnIds draws. -/
import Derived.Test.YtbagloapclgpnaaW7
import Derived.Test.YtbagloapclgpnaaW5
import Derived.Test.YtbagloapclgpnaaW6
namespace Go.Proofs.Ytbagloapclgpnaa
open Go.RowKit
set_option linter.unusedVariables false

theorem inbL5 {P : Int → Prop} (xs : List Int) (h : ∀ x ∈ xs, P x) : ∀ i, i < xs.length → ∃ n, (xs.map (Value.int .i64)).toArray[i]? = some (.int .i64 n) ∧ P n := by
  intro i hi
  exact ⟨xs[i], by simp [hi], h _ (List.getElem_mem _)⟩

set_option maxHeartbeats 400000 in
theorem pick5_of (w : World) (B b : Nat) (a : Option Addr) (len cap : Nat) (f : Nat → Int) (t : Int) (lb k c : Nat) (L : Nat → Int) (S : Src w B b a len cap f t) (t0 : 0 ≤ t) (t1 : t ≤ 100000) (k0 : 1 ≤ k) (k1 : k ≤ 1000) (hL : Nums w lb k L) (hb : ¬ lb = b) :
    Calls Try.prog 52 #[.pointer (some ⟨b, 0, none⟩), .slice (some ⟨lb, 0, none⟩) k c] w fun e w' => ∃ r : Int, e = .returned (.int .i64 r) ∧ (∃ i, i < k ∧ r = L i) ∧ Turn b w w' ∧ Src w' B b a len cap f (t + 1) := by
  have n0 : (1 : Int) ≤ (k : Int) := by omega
  have n1 : (k : Int) ≤ 1000 := by omega
  go_enter Try.func52, Try.ntmps52
  go_wp2_with fail
  refine Calls.mono (next_any _ _ _ _ _ _ _ _ _ S t0 t1 n0 (by omega)) ?_
  rintro e w1 ⟨r, rfl, r0, r1, ht, hs⟩
  have hc : w1.cell? ⟨lb, r.toNat, none⟩ = some (.int .i64 (L r.toNat)) := by
    rw [ht.cell lb _ hL.1 hb]; exact hL.2 _ (by omega)
  have hq : Hid (∃ i, i < k ∧ L r.toNat = L i) := hideP ⟨r.toNat, by omega, rfl⟩
  generalize L r.toNat = q at hc hq
  go_wp2
  go_returns
  exact ⟨q, rfl, hq.out, ht, hs⟩

theorem pick5 (P : Int → Prop) (W : World) (B b : Nat) (a : Option Addr) (len cap : Nat) (f : Nat → Int) (t : Int) (C : Array Value) (T : TypeId) (k lb : Nat) (hlb : lb = W.heap.size) (hC : ∀ i, i < k → ∃ n, C[i]? = some (.int .i64 n) ∧ P n)
    (S : Src W B b a len cap f t) (t0 : 0 ≤ t) (t1 : t ≤ 100000) (k0 : 1 ≤ k) (k1 : k ≤ 1000) :
    Calls Try.prog 52 #[.pointer (some ⟨b, 0, none⟩), .slice (some ⟨lb, 0, none⟩) k k] (W.alloc (.cells C T)) fun e w' => ∃ r : Int, e = .returned (.int .i64 r) ∧ P r ∧ Turn b W w' ∧ Src w' B b a len cap f (t + 1) := by
  subst hlb
  have hb : Below W.heap.size W (W.alloc (.cells C T)) := (Below.refl _ _).alloc (Nat.le_refl _) _
  have hlt := S.lt
  refine (pick5_of (W.alloc (.cells C T)) B b a len cap f t W.heap.size k k (fun i => intOf (C[i]?.getD undef)) (S.grow hb) t0 t1 k0 k1 ⟨by simp, fun i hi => ?_⟩ (by omega)).mono ?_
  · obtain ⟨n, hn, _⟩ := hC i hi
    rw [World.cell?_alloc_new, hn]; simp [hn, intOf]
  · rintro e w' ⟨r, he, ⟨i, hi, hr⟩, ht, hs⟩
    refine ⟨r, he, ?_, (Turn.of_below hb).trans ht, hs⟩
    obtain ⟨n, hn, hp⟩ := hC i hi
    have : r = n := by rw [hr]; simp [hn, intOf]
    rw [this]; exact hp

theorem OwnR.turn5 {k : IntKind} {T : TypeId} {w w' : World} {base b : Nat} {ao : Option Addr} {cap : Nat} {L : List Int} (h : OwnR k T w base ao cap L) (t : Turn b w w') (hb : b < base) : OwnR k T w' base ao cap L := by
  have hg : w.grownBy w' (some b) := ⟨t.os, t.tape, t.output, t.size, fun q hq hn => t.block q hq (fun e => hn (by rw [e]))⟩
  refine World.ownsRow.kept h hg ?_
  cases hv : Value.ownBlock (.slice ao L.length cap) with
  | none => exact .inl rfl
  | some q =>
    refine .inr fun e => ?_
    injection e with e
    have := (World.ownsRow.lt h q hv).1
    omega
theorem OwnR.room {k : IntKind} {T : TypeId} {w : World} {base : Nat} {ao : Option Addr} {cap : Nat} {L : List Int} (h : OwnR k T w base ao cap L) : L.length ≤ cap := by
  rcases h.2 with ⟨e, h0⟩ | ⟨g, cap', cur, e, _, _, hnc, _⟩
  · omega
  · cases e; exact hnc

theorem Src.below5 {w w' : World} {B b N : Nat} {a : Option Addr} {len cap : Nat} {f : Nat → Int} {t : Int} (h : Src w B b a len cap f t) (k : Below N w w') (hb : b < N) : Src w' B b a len cap f t := by
  refine ⟨Nat.lt_of_lt_of_le h.lt k.size, h.le, (k.cell (p := ⟨b, 0, none⟩) hb).trans h.code, (k.cell (p := ⟨b, 1, none⟩) hb).trans h.at_, (k.frozen (p := ⟨b, 1, none⟩) hb).trans h.free, ?_, h.small⟩
  have hle := h.le
  rcases h.bytes with e | ⟨xb, xo, ha, hx, hc⟩
  · exact .inl e
  · exact .inr ⟨xb, xo, ha, hx, fun i hi => ⟨(k.cell (p := ⟨xb, xo + i, none⟩) (by show xb < N; omega)).trans (hc i hi).1, (hc i hi).2⟩⟩

/-- A list is being drawn: it owns its row, the source is read on, nothing else turns. -/
structure IMid (w wr : World) (B b : Nat) (a : Option Addr) (len cap : Nat) (f : Nat → Int) (t : Int) (ao : Option Addr) (ca : Nat) (L : List Int) : Prop where
  own : OwnR .i64 2 wr w.heap.size ao ca L
  turn : Turn b w wr
  src : Src wr B b a len cap f t
theorem IMid.next {w wr w1 : World} {B b : Nat} {a : Option Addr} {len cap : Nat} {f : Nat → Int} {t t1 : Int} {ao : Option Addr} {ca : Nat} {L : List Int} (h : IMid w wr B b a len cap f t ao ca L) (hb : b < w.heap.size) (k : Turn b wr w1) (s : Src w1 B b a len cap f t1) : IMid w w1 B b a len cap f t1 ao ca L :=
  ⟨h.own.turn5 k hb, h.turn.trans k, s⟩
theorem IMid.app {w wr w1 : World} {B b : Nat} {a : Option Addr} {len cap : Nat} {f : Nat → Int} {t : Int} {ao ao' : Option Addr} {ca ca' : Nat} {L L' : List Int} (h : IMid w wr B b a len cap f t ao ca L) (hb : b < w.heap.size) (o : OwnR .i64 2 w1 w.heap.size ao' ca' L') (k : Below w.heap.size wr w1) : IMid w w1 B b a len cap f t ao' ca' L' :=
  ⟨o, ⟨k.os.trans h.turn.os, k.tape.trans h.turn.tape, k.output.trans h.turn.output, Nat.le_trans h.turn.size k.size, fun q hq hn => (k.block q hq).trans (h.turn.block q hq hn)⟩, h.src.below5 k hb⟩

theorem made13 : (madeCells (Value.cells (.int .i64 0)) (13 * 1)).toList = (List.replicate 13 (0 : Int)).map (Value.int .i64) := by kernel_rfl

end Go.Proofs.Ytbagloapclgpnaa

namespace Go.Proofs.Ytbagloapclgpnaa
open Go.RowKit
set_option linter.unusedVariables false

theorem own_len_off (L : List Int) (s : Int) : (ownL L s).length + (offL L s).length = L.length := by
  induction L with
  | nil => rfl
  | cons x r ih =>
    unfold ownL offL at ih ⊢
    rw [List.filter_cons, List.filter_cons]
    cases h : slV x == s
    · simp only [Bool.not_false, if_true, Bool.false_eq_true, if_false, List.length_cons]; omega
    · simp only [Bool.not_true, if_true, Bool.false_eq_true, if_false, List.length_cons]; omega
theorem idsF_own {L : List Int} {s : Int} (h : idsF L = 0) : idsF (ownL L s) = 0 := by
  obtain ⟨a, b⟩ := idsF_ok h
  exact idsF_mk (Nat.le_trans (ownL_len L s) (idsF_len h)) (fun x hx => a x (List.mem_filter.1 hx).1) (b.filter _)
theorem idsF_off {L : List Int} {s : Int} (h : idsF L = 0) : idsF (offL L s) = 0 := by
  obtain ⟨a, b⟩ := idsF_ok h
  exact idsF_mk (Nat.le_trans (offL_len L s) (idsF_len h)) (fun x hx => a x (List.mem_filter.1 hx).1) (b.filter _)
theorem id_of {s i : Int} (h0 : 0 ≤ s) (h3 : s ≤ 3) (i1 : 1 ≤ i) (i3 : i ≤ 3) : okId (64 * s + i) = true ∧ slV (64 * s + i) = s := by
  have h : okId (64 * s + i) = true := okId_iff.2 (by omega)
  exact ⟨h, by rw [slV_yes h]; omega⟩
theorem has_own {L : List Int} {s i : Int} (h0 : 0 ≤ s) (h3 : s ≤ 3) (i1 : 1 ≤ i) (i3 : i ≤ 3) : (ownL L s).contains (64 * s + i) = L.contains (64 * s + i) := by
  rw [Bool.eq_iff_iff]
  simp [ownL, (id_of h0 h3 i1 i3).2]
theorem has_off {L : List Int} {s i : Int} (h0 : 0 ≤ s) (h3 : s ≤ 3) (i1 : 1 ≤ i) (i3 : i ≤ 3) : (offL L s).contains (64 * s + i) = false := by
  rw [Bool.eq_false_iff]
  simp [offL, (id_of h0 h3 i1 i3).2]
theorem nxt_own {L : List Int} {s : Int} (h0 : 0 ≤ s) (h3 : s ≤ 3) : nxt (ownL L s) s = nxt L s := by
  unfold nxt
  rw [has_own h0 h3 (by omega) (by omega), has_own h0 h3 (by omega) (by omega), has_own h0 h3 (by omega) (by omega)]
theorem nxt_off {L : List Int} {s : Int} (h0 : 0 ≤ s) (h3 : s ≤ 3) : nxt (offL L s) s = 64 * s + 1 := by
  unfold nxt
  rw [has_off h0 h3 (by omega) (by omega)]
  rfl
theorem nxt_free {L : List Int} {s : Int} (h0 : 0 ≤ s) (h3 : s ≤ 3) (h : nxt L s ≠ -1) : nxt L s ∉ L ∧ okId (nxt L s) = true ∧ slV (nxt L s) = s := by
  unfold nxt at h ⊢
  cases b1 : L.contains (64 * s + 1)
  · simp only [Bool.false_eq_true, if_false]
    exact ⟨by simpa using b1, id_of h0 h3 (by omega) (by omega)⟩
  · cases b2 : L.contains (64 * s + 2)
    · simp only [Bool.false_eq_true, if_false, if_true]
      exact ⟨by simpa using b2, id_of h0 h3 (by omega) (by omega)⟩
    · cases b3 : L.contains (64 * s + 3)
      · simp only [Bool.false_eq_true, if_false, if_true]
        exact ⟨by simpa using b3, id_of h0 h3 (by omega) (by omega)⟩
      · rw [b1, b2, b3] at h
        exact absurd rfl h

set_option maxHeartbeats 1000000 in
theorem nums_same (lo hi lo2 hi2 : Nat) (ao bo : Option Addr) (ca cb : Nat) (L : List Int) (w : World) (ha : Row .i64 w lo hi ao L) (hb : Row .i64 w lo2 hi2 bo L) (h1 : hi ≤ w.heap.size) (h2 : hi2 ≤ w.heap.size) (hl : L.length ≤ 1048576) :
    Calls Try.prog 20 #[.slice ao L.length ca, .slice bo L.length cb] w fun e w' => e = .returned (.bool true) ∧ Below w.heap.size w w' := by
  have hl' : (L.length : Int) ≤ 1048576 := by omega
  have HA := hideP ha
  have HB := hideP hb
  clear ha hb
  go_enter Try.func20, Try.ntmps20
  go_wp2
  go_loopw [5] (fun i wr => ∃ k : Nat, k ≤ L.length ∧ i = .int .i64 k ∧ Below w.heap.size w wr) (fun i _ => L.length - (intOf i).toNat)
  case atStart => exact ⟨0, Nat.zero_le _, rfl, Below.refl _ _⟩
  case round =>
    obtain ⟨k, hk, rfl, hbel⟩ := hrel
    have hz := hbel.size
    by_cases hlt : k < L.length
    · have hlt' : (k : Int) < (L.length : Int) := by omega
      have hne : L ≠ [] := fun e => by rw [e] at hlt; simp at hlt
      rcases HA.out with e | ⟨g, o, rfl, _, hg, hc⟩
      · exact absurd e hne
      rcases HB.out with e | ⟨g', o', rfl, _, hg', hc'⟩
      · exact absurd e hne
      have a0 := (hbel.cell (p := ⟨g, o + k, none⟩) (by show g < _; omega)).trans (hc k hlt)
      have b0 := (hbel.cell (p := ⟨g', o' + k, none⟩) (by show g' < _; omega)).trans (hc' k hlt)
      have hgl : g < wr.heap.size := by omega
      have hgl' : g' < wr.heap.size := by omega
      have HBel := hideP hbel
      clear hc hc' hbel HA HB
      generalize L[k] = x at *
      go_wp2
      refine wp_region_kept (by kernel_rfl) (by kernel_rfl) ?_
      repeat (refine kept_step (by rfl) ?_; apply Exists.intro; refine ⟨fun w1 k1 => ?_, fun K hK => ?_⟩; (focus (have hc := Kept.cell k1; go_simp; first | done | rfl)); (go_simp; refine hK _ ?_; clear hK K))
      refine wpQuiet_nil ?_
      intro w5 k5
      replace k5 := Kept.below k5
      have hc5 := Kept.cell k5
      have hf5 := Kept.frozen k5
      have hz5 := k5.size
      try simp only [World.size_alloc] at hz5
      try simp only [World.size_setCell] at hz5
      try simp only [World.size_drew] at hz5
      try (first | have hs5 := sz12 hz5 | have hs5 := sz11 hz5 | have hs5 := sz10 hz5 | have hs5 := sz9 hz5 | have hs5 := sz8 hz5 | have hs5 := sz7 hz5 | have hs5 := sz6 hz5 | have hs5 := sz5 hz5 | have hs5 := sz4 hz5 | have hs5 := sz3 hz5 | have hs5 := sz2 hz5 | have hs5 := sz1 hz5)
      go_wp2
      go_roundw
      case rel => exact ⟨k + 1, by omega, by go_num, HBel.out.trans (k5.mono HBel.out.size)⟩
      case measure => simp [intOf]; omega
    · have HBel := hideP hbel
      clear hbel
      go_wp2
      go_returns
      exact ⟨rfl, HBel.out⟩

set_option maxHeartbeats 400000 in
theorem big5 (w : World) (a : Option Addr) (len cap : Nat) (hl : len ≤ maxLen) :
    Calls Try.prog 9 #[.slice a len cap] w fun e w' => e = .returned (.bool (decide ((1048576 : Int) < (len : Int)))) ∧ w' = w := by
  go_enter Try.func9, Try.ntmps9
  go_wp2
  go_returns
  exact ⟨rfl, rfl⟩

theorem Src.new5 (w W : World) (b : Nat) (a : Option Addr) (len cap : Nat) (f : Nat → Int) (T : TypeId) (hB : Bytes w w.heap.size a len f) (hl : len ≤ 1048576) (hW : Below w.heap.size w W) (hb : b = W.heap.size) :
    Src (W.alloc (.cells #[.slice a len cap, .int .i64 0] T)) w.heap.size b a len cap f 0 := by
  subst hb
  exact ⟨by simp, hW.size, by simp [go_sem], by simp [go_sem], by simp [go_sem], hB.stay (Nat.le_refl _) (Turn.of_below (b := w.heap.size) (hW.alloc hW.size _)) (Nat.le_refl _), hl⟩

/-- Ids and a slot were drawn. -/
def DrawS (w : World) (e : Ending) (w' : World) : Prop :=
  ∃ (ao : Option Addr) (ca : Nat) (L : List Int) (s : Int), e = .returned (.tuple #[.slice ao L.length ca, .int .i64 s]) ∧ L.length ≤ 13 ∧ L.length ≤ ca ∧ 0 ≤ s ∧ s ≤ 4 ∧ Below w.heap.size w w' ∧ Row .i64 w' w.heap.size w'.heap.size ao L

end Go.Proofs.Ytbagloapclgpnaa
