/- What is drawn in chapter 5: a list of ids, a slot, a number. -/
import Derived.Test.YtmbfnmgndablkaaDraw1
import Derived.Test.YtmbfnmgndablkaaId2
namespace Go.Proofs.Ytmbfnmgndablkaa
open Go.RowKit
set_option linter.unusedVariables false

theorem inbL5 {P : Int → Prop} (xs : List Int) (h : ∀ x ∈ xs, P x) : ∀ i, i < xs.length → ∃ n, (xs.map (Value.int .i64)).toArray[i]? = some (.int .i64 n) ∧ P n := by
  intro i hi
  exact ⟨xs[i], by simp [hi], h _ (List.getElem_mem _)⟩

set_option maxHeartbeats 400000 in
theorem pick5_of (w : World) (B b : Nat) (a : Option Addr) (len cap : Nat) (f : Nat → Int) (t : Int) (lb k c : Nat) (L : Nat → Int) (S : Src w B b a len cap f t) (t0 : 0 ≤ t) (t1 : t ≤ 100000) (k0 : 1 ≤ k) (k1 : k ≤ 1000) (hL : Nums w lb k L) (hb : ¬ lb = b) :
    Calls Try.prog 32 #[.pointer (some ⟨b, 0, none⟩), .slice (some ⟨lb, 0, none⟩) k c] w fun e w' => ∃ r : Int, e = .returned (.int .i64 r) ∧ (∃ i, i < k ∧ r = L i) ∧ Turn b w w' ∧ Src w' B b a len cap f (t + 1) := by
  have n0 : (1 : Int) ≤ (k : Int) := by omega
  have n1 : (k : Int) ≤ 1000 := by omega
  go_enter Try.func32, Try.ntmps32
  go_wp2_with fail
  refine Calls.mono (next_any _ _ _ _ _ _ _ _ _ S t0 t1 n0 (by omega)) ?_
  rintro e w1 ⟨r, rfl, r0, r1, ht, hs⟩
  have hc : w1.cell? ⟨lb, r.toNat, none⟩ = some (.int .i64 (L r.toNat)) := by
    rw [ht.cell lb _ hL.1 hb]; exact hL.2 _ (by omega)
  have hq : Hid (∃ i, i < k ∧ L r.toNat = L i) := hideP ⟨r.toNat, by omega, rfl⟩
  generalize L r.toNat = q at hc hq
  go_wp2
  go_returns
  exact ⟨q, rfl, hq.out, ht, hs⟩

theorem pick5 (P : Int → Prop) (W : World) (B b : Nat) (a : Option Addr) (len cap : Nat) (f : Nat → Int) (t : Int) (C : Array Value) (T : TypeId) (k lb : Nat) (hlb : lb = W.heap.size) (hC : ∀ i, i < k → ∃ n, C[i]? = some (.int .i64 n) ∧ P n)
    (S : Src W B b a len cap f t) (t0 : 0 ≤ t) (t1 : t ≤ 100000) (k0 : 1 ≤ k) (k1 : k ≤ 1000) :
    Calls Try.prog 32 #[.pointer (some ⟨b, 0, none⟩), .slice (some ⟨lb, 0, none⟩) k k] (W.alloc (.cells C T)) fun e w' => ∃ r : Int, e = .returned (.int .i64 r) ∧ P r ∧ Turn b W w' ∧ Src w' B b a len cap f (t + 1) := by
  subst hlb
  have hb : Below W.heap.size W (W.alloc (.cells C T)) := (Below.refl _ _).alloc (Nat.le_refl _) _
  have hlt := S.lt
  refine (pick5_of (W.alloc (.cells C T)) B b a len cap f t W.heap.size k k (fun i => intOf (C[i]?.getD undef)) (S.grow hb) t0 t1 k0 k1 ⟨by simp, fun i hi => ?_⟩ (by omega)).mono ?_
  · obtain ⟨n, hn, _⟩ := hC i hi
    rw [World.cell?_alloc_new, hn]; simp [hn, intOf]
  · rintro e w' ⟨r, he, ⟨i, hi, hr⟩, ht, hs⟩
    refine ⟨r, he, ?_, (Turn.of_below hb).trans ht, hs⟩
    obtain ⟨n, hn, hp⟩ := hC i hi
    have : r = n := by rw [hr]; simp [hn, intOf]
    rw [this]; exact hp

theorem OwnR.turn5 {k : IntKind} {T : TypeId} {w w' : World} {base b : Nat} {ao : Option Addr} {cap : Nat} {L : List Int} (h : OwnR k T w base ao cap L) (t : Turn b w w') (hb : b < base) : OwnR k T w' base ao cap L := by
  have hg : w.grownBy w' (some b) := ⟨t.os, t.tape, t.output, t.size, fun q hq hn => t.block q hq (fun e => hn (by rw [e]))⟩
  refine World.ownsRow.kept h hg ?_
  cases hv : Value.ownBlock (.slice ao L.length cap) with
  | none => exact .inl rfl
  | some q =>
    refine .inr fun e => ?_
    injection e with e
    have := (World.ownsRow.lt h q hv).1
    omega
theorem OwnR.room {k : IntKind} {T : TypeId} {w : World} {base : Nat} {ao : Option Addr} {cap : Nat} {L : List Int} (h : OwnR k T w base ao cap L) : L.length ≤ cap := by
  rcases h.2 with ⟨e, h0⟩ | ⟨g, cap', cur, e, _, _, hnc, _⟩
  · omega
  · cases e; exact hnc

theorem Src.below5 {w w' : World} {B b N : Nat} {a : Option Addr} {len cap : Nat} {f : Nat → Int} {t : Int} (h : Src w B b a len cap f t) (k : Below N w w') (hb : b < N) : Src w' B b a len cap f t := by
  refine ⟨Nat.lt_of_lt_of_le h.lt k.size, h.le, (k.cell (p := ⟨b, 0, none⟩) hb).trans h.code, (k.cell (p := ⟨b, 1, none⟩) hb).trans h.at_, (k.frozen (p := ⟨b, 1, none⟩) hb).trans h.free, ?_, h.small⟩
  have hle := h.le
  rcases h.bytes with e | ⟨xb, xo, ha, hx, hc⟩
  · exact .inl e
  · exact .inr ⟨xb, xo, ha, hx, fun i hi => ⟨(k.cell (p := ⟨xb, xo + i, none⟩) (by show xb < N; omega)).trans (hc i hi).1, (hc i hi).2⟩⟩

/-- A list is being drawn: it owns its row, the source is read on, nothing else turns. -/
structure IMid (w wr : World) (B b : Nat) (a : Option Addr) (len cap : Nat) (f : Nat → Int) (t : Int) (ao : Option Addr) (ca : Nat) (L : List Int) : Prop where
  own : OwnR .i64 2 wr w.heap.size ao ca L
  turn : Turn b w wr
  src : Src wr B b a len cap f t
theorem IMid.next {w wr w1 : World} {B b : Nat} {a : Option Addr} {len cap : Nat} {f : Nat → Int} {t t1 : Int} {ao : Option Addr} {ca : Nat} {L : List Int} (h : IMid w wr B b a len cap f t ao ca L) (hb : b < w.heap.size) (k : Turn b wr w1) (s : Src w1 B b a len cap f t1) : IMid w w1 B b a len cap f t1 ao ca L :=
  ⟨h.own.turn5 k hb, h.turn.trans k, s⟩
theorem IMid.app {w wr w1 : World} {B b : Nat} {a : Option Addr} {len cap : Nat} {f : Nat → Int} {t : Int} {ao ao' : Option Addr} {ca ca' : Nat} {L L' : List Int} (h : IMid w wr B b a len cap f t ao ca L) (hb : b < w.heap.size) (o : OwnR .i64 2 w1 w.heap.size ao' ca' L') (k : Below w.heap.size wr w1) : IMid w w1 B b a len cap f t ao' ca' L' :=
  ⟨o, ⟨k.os.trans h.turn.os, k.tape.trans h.turn.tape, k.output.trans h.turn.output, Nat.le_trans h.turn.size k.size, fun q hq hn => (k.block q hq).trans (h.turn.block q hq hn)⟩, h.src.below5 k hb⟩

theorem made13 : (madeCells (Value.cells (.int .i64 0)) (13 * 1)).toList = (List.replicate 13 (0 : Int)).map (Value.int .i64) := by kernel_rfl

set_option maxHeartbeats 4000000 in
theorem draw5_any (w : World) (B b : Nat) (a : Option Addr) (len cap : Nat) (f : Nat → Int) (t : Int) (S : Src w B b a len cap f t) (t0 : 0 ≤ t) (t1 : t ≤ 1000) :
    Calls Try.prog 31 #[.pointer (some ⟨b, 0, none⟩)] w fun e w' => ∃ (ao : Option Addr) (ca : Nat) (L : List Int) (u : Int), e = .returned (.slice ao L.length ca) ∧ L.length ≤ 13 ∧ 0 ≤ u ∧ u ≤ 2000 ∧ IMid w w' B b a len cap f u ao ca L := by
  have hlt := S.lt
  obtain ⟨i0, hi0, hz0, hz1, hz2⟩ := info_parts Try.infoI5
  have M0 : Hid (IMid w (w.alloc (.cells #[] 2)) B b a len cap f t (some ⟨w.heap.size, 0, none⟩) 0 []) := ⟨OwnR.lit .i64 2 w w.heap.size [] _ rfl (Nat.le_refl _) (by unfold maxLen; simp), Turn.of_below (by go_grown), S.grow (by go_grown)⟩
  clear S
  go_enter Try.func31, Try.ntmps31
  go_wp2_with fail
  refine Calls.mono (next_any _ B b a len cap f t 8 M0.out.src (by omega) (by omega) (by omega) (by omega)) ?_
  rintro e w1 ⟨n, rfl, n0, n1, ht1, hs1⟩
  have M1 := hideP (M0.out.next hlt ht1 hs1)
  clear M0 ht1 hs1
  go_wp2
  go_loopw [3, 4] (fun v i wr => ∃ (k : Nat) (ao : Option Addr) (ca : Nat) (L : List Int) (u : Int), i = .int .i64 k ∧ v = .slice ao L.length ca ∧ L.length + k ≤ 7 ∧ k ≤ 7 ∧ 0 ≤ u ∧ u + 2 * k ≤ t + 20 ∧ IMid w wr B b a len cap f u ao ca L) (fun _ i _ => (intOf i).toNat)
  case atStart => exact ⟨n.toNat, some ⟨w.heap.size, 0, none⟩, 0, [], t + 1, by rw [Int.toNat_of_nonneg n0], rfl, by simp; omega, by omega, by omega, by omega, M1.out⟩
  case round =>
    obtain ⟨k, ao, ca, L, u, rfl, rfl, hLk, hk7, h0, h1, M⟩ := hrel
    have HM := hideP M
    clear M M1
    cases k with
    | zero =>
      go_wp2_with fail
      refine Calls.mono (next_any _ B b a len cap f u 10 HM.out.src (by omega) (by omega) (by omega) (by omega)) ?_
      rintro e w2 ⟨m, rfl, m0, m1, ht2, hs2⟩
      have M2 := hideP (HM.out.next hlt ht2 hs2)
      clear HM ht2 hs2
      by_cases e0 : m = 0
      · subst e0
        go_wp2_with fail
        refine Calls.mono (pick5 (fun _ => True) w2 B b a len cap f (u + 1) _ 2 5 w2.heap.size rfl (inbL5 [0, 1, 4, 256, -63] (by simp)) M2.out.src (by omega) (by omega) (by omega) (by omega)) ?_
        rintro e w3 ⟨r, rfl, -, ht3, hs3⟩
        have M3 := hideP (M2.out.next hlt ht3 hs3)
        have hw3 : w.heap.size ≤ w3.heap.size := M3.out.turn.size
        clear M2 ht3 hs3
        go_wp2_with (first | (at_builtin; refine wpList_app (k := .i64) (T := 2) (S := 24) (bytes := 8) Try.underlying24 Try.infoI5 (by omega) rfl _ _ rfl w.heap.size ao ca L rfl (M3.out.own.alloc _) _ 1 [r] rfl (src_one .i64 w3 r 2) (by simp; omega) (by simp; omega) ?_; intro ao4 ca4 w4 O4 K4; refine Hid.out ?_) | go_in)
        have M4 := hideP (M3.out.app hlt O4 (Below.trans (by go_grown : Below w.heap.size w3 _) K4))
        clear O4 K4 M3
        refine hideP ?_
        go_wp2
        go_returns
        exact ⟨ao4, ca4, L ++ [r], u + 1 + 1, by simp, by simp; omega, by omega, by omega, M4.out⟩
      · have q0 : (m == 0) = false := by simpa using e0
        by_cases e1 : m = 1
        · subst e1
          have hw2 : w.heap.size ≤ w2.heap.size := M2.out.turn.size
          go_wp2_with (first | (at_make; refine wpList_make_full _ rfl _ _ 24 rfl w.heap.size 2 i0 (.int .i64 0) 1 Try.underlying24 hi0 hz0 hz1 .i64 .i64 _ _ 13 rfl rfl rfl rfl (by rw [hz2]; omega) (by unfold maxLen; omega) hw2 ?_; intro w3 hown3 hgrow3) | go_in)
          have R : Hid (IMid w w3 B b a len cap f (u + 1) (some ⟨w2.heap.size, 0, none⟩) 13 (List.replicate 13 0)) := by
            have kk : Below w2.heap.size w2 w3 := ⟨hgrow3.os, hgrow3.tape, hgrow3.output, hgrow3.size, fun i hi => hgrow3.block i hi (by simp)⟩
            refine ⟨?_, M2.out.turn.trans (Turn.of_below kk), M2.out.src.grow kk⟩
            show w3.ownsRow _ _ 1 _ _ _
            rw [List.length_replicate, ← made13]
            exact hown3
          clear hown3 hgrow3 M2
          go_wp2
          go_returns
          exact ⟨some ⟨w2.heap.size, 0, none⟩, 13, List.replicate 13 0, u + 1, by rw [List.length_replicate]; rfl, by simp, by omega, by omega, R.out⟩
        · have q1 : (m == 1) = false := by simpa using e1
          go_wp2
          go_returns
          exact ⟨ao, ca, L, u + 1, rfl, by omega, by omega, by omega, M2.out⟩
    | succ k =>
      have hk' : (k : Int) ≤ 7 := by omega
      have hk2 : ((k + 1 : Nat) : Int) = (k : Int) + 1 := by omega
      rw [hk2]
      clear hk2
      go_wp2_with fail
      refine Calls.mono (next_any _ B b a len cap f u 4 HM.out.src (by omega) (by omega) (by omega) (by omega)) ?_
      rintro e w2 ⟨r1, rfl, r10, r11, ht2, hs2⟩
      have M2 := hideP (HM.out.next hlt ht2 hs2)
      clear HM ht2 hs2
      go_wp2_with fail
      refine Calls.mono (next_any _ B b a len cap f (u + 1) 3 M2.out.src (by omega) (by omega) (by omega) (by omega)) ?_
      rintro e w3 ⟨r2, rfl, r20, r21, ht3, hs3⟩
      have M3 := hideP (M2.out.next hlt ht3 hs3)
      have hw3 : w.heap.size ≤ w3.heap.size := M3.out.turn.size
      clear M2 ht3 hs3
      go_wp2_with fail
      refine Calls.mono (sHas_any _ _ ao ca L _ w3 M3.out.own.wrt.row (by omega)) ?_
      rintro e w4 ⟨rfl, rfl⟩
      obtain ⟨x, hx⟩ : ∃ x, 64 * r1 + 1 + r2 = x := ⟨_, rfl⟩
      rw [hx]
      cases hh : hasI L x
      · go_wp2_with (first | (at_builtin; refine wpList_app (k := .i64) (T := 2) (S := 24) (bytes := 8) Try.underlying24 Try.infoI5 (by omega) rfl _ _ rfl w.heap.size ao ca L rfl (M3.out.own.alloc _) _ 1 [x] rfl (src_one .i64 w4 x 2) (by simp; omega) (by simp; omega) ?_; intro ao4 ca4 w5 O4 K4; refine Hid.out ?_) | go_in)
        have M4 := hideP (M3.out.app hlt O4 (Below.trans (by go_grown : Below w.heap.size w4 _) K4))
        clear O4 K4 M3
        refine hideP ?_
        go_wp2
        go_roundw
        case rel => exact ⟨k, ao4, ca4, L ++ [x], u + 1 + 1, by go_num, by simp, by simp; omega, by omega, by omega, by omega, M4.out⟩
        case measure => simp [intOf]
      · go_wp2
        go_roundw
        case rel => exact ⟨k, ao, ca, L, u + 1 + 1, by go_num, rfl, by omega, by omega, by omega, by omega, M3.out⟩
        case measure => simp [intOf]
end Go.Proofs.Ytmbfnmgndablkaa
