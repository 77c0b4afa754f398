/- What is drawn of requests: some bytes, a request of a client. -/
import Derived.Test.YtgjbjafodkiilaaTj33
import Derived.Test.YtgjbjafodkiilaaTj5
import Derived.Test.YtgjbjafodkiilaaTj15
namespace Go.Proofs.Ytgjbjafodkiilaa
open Go.RowKit
set_option linter.unusedVariables false

theorem inbL {P : Int → Prop} (xs : List Int) (h : ∀ x ∈ xs, P x) : ∀ i, i < xs.length → ∃ n, (xs.map (Value.int .i64)).toArray[i]? = some (.int .i64 n) ∧ P n := by
  intro i hi
  exact ⟨xs[i], by simp [hi], h _ (List.getElem_mem _)⟩

set_option maxHeartbeats 400000 in
theorem pickQ_of (w : World) (B b : Nat) (a : Option Addr) (len cap : Nat) (f : Nat → Int) (t : Int) (lb k c : Nat) (L : Nat → Int) (S : Src w B b a len cap f t) (t0 : 0 ≤ t) (t1 : t ≤ 100000) (k0 : 1 ≤ k) (k1 : k ≤ 1000) (hL : Nums w lb k L) (hb : ¬ lb = b) :
    Calls Try.prog 30 #[.pointer (some ⟨b, 0, none⟩), .slice (some ⟨lb, 0, none⟩) k c] w fun e w' => ∃ r : Int, e = .returned (.int .i64 r) ∧ (∃ i, i < k ∧ r = L i) ∧ Turn b w w' ∧ Src w' B b a len cap f (t + 1) := by
  have n0 : (1 : Int) ≤ (k : Int) := by omega
  have n1 : (k : Int) ≤ 1000 := by omega
  go_enter Try.func30, Try.ntmps30
  go_wp2_with fail
  refine Calls.mono (next_any _ _ _ _ _ _ _ _ _ S t0 t1 n0 (by omega)) ?_
  rintro e w1 ⟨r, rfl, r0, r1, ht, hs⟩
  have hc : w1.cell? ⟨lb, r.toNat, none⟩ = some (.int .i64 (L r.toNat)) := by
    rw [ht.cell lb _ hL.1 hb]; exact hL.2 _ (by omega)
  have hq : Hid (∃ i, i < k ∧ L r.toNat = L i) := hideP ⟨r.toNat, by omega, rfl⟩
  generalize L r.toNat = q at hc hq
  go_wp2
  go_returns
  exact ⟨q, rfl, hq.out, ht, hs⟩

theorem pickQ (P : Int → Prop) (W : World) (B b : Nat) (a : Option Addr) (len cap : Nat) (f : Nat → Int) (t : Int) (C : Array Value) (T : TypeId) (k lb : Nat) (hlb : lb = W.heap.size) (hC : ∀ i, i < k → ∃ n, C[i]? = some (.int .i64 n) ∧ P n)
    (S : Src W B b a len cap f t) (t0 : 0 ≤ t) (t1 : t ≤ 100000) (k0 : 1 ≤ k) (k1 : k ≤ 1000) :
    Calls Try.prog 30 #[.pointer (some ⟨b, 0, none⟩), .slice (some ⟨lb, 0, none⟩) k k] (W.alloc (.cells C T)) fun e w' => ∃ r : Int, e = .returned (.int .i64 r) ∧ P r ∧ Turn b W w' ∧ Src w' B b a len cap f (t + 1) := by
  subst hlb
  have hb : Below W.heap.size W (W.alloc (.cells C T)) := (Below.refl _ _).alloc (Nat.le_refl _) _
  have hlt := S.lt
  refine (pickQ_of (W.alloc (.cells C T)) B b a len cap f t W.heap.size k k (fun i => intOf (C[i]?.getD undef)) (S.grow hb) t0 t1 k0 k1 ⟨by simp, fun i hi => ?_⟩ (by omega)).mono ?_
  · obtain ⟨n, hn, _⟩ := hC i hi
    rw [World.cell?_alloc_new, hn]; simp [hn, intOf]
  · rintro e w' ⟨r, he, ⟨i, hi, hr⟩, ht, hs⟩
    refine ⟨r, he, ?_, (Turn.of_below hb).trans ht, hs⟩
    obtain ⟨n, hn, hp⟩ := hC i hi
    have : r = n := by rw [hr]; simp [hn, intOf]
    rw [this]; exact hp

theorem R3.turn {w w' : World} {q b : Nat} {v0 v1 v2 : Value} (h : R3 w q v0 v1 v2) (t : Turn b w w') (hq : ¬ q = b) : R3 w' q v0 v1 v2 :=
  ⟨(t.cell q 0 h.lt hq).trans h.c0, (t.cell q 1 h.lt hq).trans h.c1, (t.cell q 2 h.lt hq).trans h.c2, (t.frozen q 0 h.lt hq).trans h.f0, (t.frozen q 1 h.lt hq).trans h.f1, (t.frozen q 2 h.lt hq).trans h.f2, Nat.lt_of_lt_of_le h.lt t.size⟩
theorem OwnR.turn {k : IntKind} {T : TypeId} {w w' : World} {base b : Nat} {ao : Option Addr} {cap : Nat} {L : List Int} (h : OwnR k T w base ao cap L) (t : Turn b w w') (hb : b < base) : OwnR k T w' base ao cap L := by
  have hg : w.grownBy w' (some b) := ⟨t.os, t.tape, t.output, t.size, fun q hq hn => t.block q hq (fun e => hn (by rw [e]))⟩
  refine World.ownsRow.kept h hg ?_
  cases hv : Value.ownBlock (.slice ao L.length cap) with
  | none => exact .inl rfl
  | some q =>
    refine .inr fun e => ?_
    injection e with e
    have := (World.ownsRow.lt h q hv).1
    omega

theorem Src.below {w w' : World} {B b N : Nat} {a : Option Addr} {len cap : Nat} {f : Nat → Int} {t : Int} (h : Src w B b a len cap f t) (k : Below N w w') (hb : b < N) : Src w' B b a len cap f t := by
  refine ⟨Nat.lt_of_lt_of_le h.lt k.size, h.le, (k.cell (p := ⟨b, 0, none⟩) hb).trans h.code, (k.cell (p := ⟨b, 1, none⟩) hb).trans h.at_, (k.frozen (p := ⟨b, 1, none⟩) hb).trans h.free, ?_, h.small⟩
  have hle := h.le
  rcases h.bytes with e | ⟨xb, xo, ha, hx, hc⟩
  · exact .inl e
  · exact .inr ⟨xb, xo, ha, hx, fun i hi => ⟨(k.cell (p := ⟨xb, xo + i, none⟩) (by show xb < N; omega)).trans (hc i hi).1, (hc i hi).2⟩⟩

/-- Some bytes were drawn. -/
def SomeB (w : World) (B b : Nat) (a : Option Addr) (len cap : Nat) (f : Nat → Int) (t : Int) (n : Nat) (e : Ending) (w' : World) : Prop :=
  ∃ ao ca D, e = .returned (.slice ao D.length ca) ∧ D.length = n ∧ byts D ∧ Turn b w w' ∧ Src w' B b a len cap f (t + n) ∧ OwnR .u8 5 w' w.heap.size ao ca D

set_option maxRecDepth 100000 in
set_option maxHeartbeats 2000000 in
theorem some_any (w : World) (B b : Nat) (a : Option Addr) (len cap : Nat) (f : Nat → Int) (t : Int) (n : Nat) (S : Src w B b a len cap f t) (t0 : 0 ≤ t) (t1 : t ≤ 90000) (hn : n ≤ 100) :
    Calls Try.prog 32 #[.pointer (some ⟨b, 0, none⟩), .int .i64 n] w (SomeB w B b a len cap f t n) := by
  have HS := hideP S
  have hlt := S.lt
  clear S
  have hn' : (n : Int) ≤ 100 := by omega
  go_enter Try.func32, Try.ntmps32
  go_wp2
  have O0 : Hid (OwnR .u8 5 (w.alloc (.cells #[] 5)) w.heap.size (some ⟨w.heap.size, 0, none⟩) 0 []) := hideP (OwnR.lit .u8 5 w w.heap.size [] _ rfl (Nat.le_refl _) (by unfold maxLen; simp))
  go_loopw [1, 5] (fun i o wr => ∃ (j : Nat) (ao : Option Addr) (ca : Nat) (D : List Int), j ≤ n ∧ i = .int .i64 ((n : Int) - (j : Nat)) ∧ o = .slice ao D.length ca ∧ D.length = j ∧ byts D ∧ Turn b w wr ∧ Src wr B b a len cap f (t + (j : Nat)) ∧ OwnR .u8 5 wr w.heap.size ao ca D) (fun i _ _ => (intOf i).toNat)
  case atStart => exact ⟨0, _, 0, [], Nat.zero_le _, by simp, rfl, rfl, (fun i hi => by simp at hi), Turn.of_below (by go_grown), by simpa using HS.out.grow (by go_grown), O0.out⟩
  case round =>
    obtain ⟨j, ao, ca, D, hj, rfl, rfl, hD, hB, T1, S1, O1⟩ := hrel
    have HT := hideP T1
    have HS1 := hideP S1
    have HO := hideP O1
    have HB := hideP hB
    have HD := hideP hD
    have hDl : D.length ≤ 100 := by omega
    have hz := T1.size
    clear T1 S1 O1 hB hD O0
    by_cases hlt2 : j < n
    · have hc : (0 : Int) < (n : Int) - (j : Int) := by omega
      go_wp2_with fail
      refine Calls.mono (next_any _ _ _ _ _ _ _ _ 256 HS1.out (by omega) (by omega) (by omega) (by omega)) ?_
      rintro e w1 ⟨r, rfl, r0, r1, ht, hs⟩
      have HT1 := hideP (HT.out.trans ht)
      have HS2 := hideP hs
      have HO1 := hideP (HO.out.turn ht hlt)
      have hz1 := HT1.out.size
      have hrm : r % 256 = r := by omega
      clear ht hs HT HS1 HO
      go_wp2_with (first | (at_builtin; refine wpList_app (k := .u8) (T := 5) (S := 22) (bytes := 1) Try.underlying22 Try.infoB (by omega) rfl _ _ rfl w.heap.size ao ca D rfl (HO1.out.alloc _) _ 1 [r] rfl (src_one .u8 w1 r 5) (by simp; omega) (by simp; omega) ?_; intro ao2 cap2 w2 O2 K2; refine Hid.out ?_) | go_in)
      have HO2 := hideP O2
      have HK : Hid (Below w.heap.size w1 w2) := hideP (Below.trans (by go_grown) (K2.mono (Nat.le_refl _)))
      clear O2 K2
      refine hideP ?_
      go_wp2
      go_roundw
      case rel =>
        refine ⟨j + 1, ao2, cap2, D ++ [r], by omega, by go_num, by simp, by simp; exact HD.out, ?_, ?_, ?_, HO2.out⟩
        · intro i hi
          by_cases e : i < D.length
          · rw [List.getElem_append_left e]; exact HB.out i e
          · rw [List.getElem_append_right (by omega)]; simp; omega
        · exact ⟨HK.out.os.trans HT1.out.os, HK.out.tape.trans HT1.out.tape, HK.out.output.trans HT1.out.output, Nat.le_trans HT1.out.size HK.out.size, fun q hq hb => (HK.out.block q hq).trans (HT1.out.block q hq hb)⟩
        · have h := HS2.out.below HK.out hlt
          have e : t + ((j + 1 : Nat) : Int) = t + (j : Int) + 1 := by omega
          rw [e]; exact h
      case measure => simp [intOf]; omega
    · obtain rfl : j = n := by omega
      have hc : ¬ ((0 : Int) < (j : Int) - (j : Int)) := by omega
      go_wp2
      go_returns
      exact ⟨ao, ca, D, rfl, HD.out, HB.out, HT.out, HS1.out, HO.out⟩

end Go.Proofs.Ytgjbjafodkiilaa
