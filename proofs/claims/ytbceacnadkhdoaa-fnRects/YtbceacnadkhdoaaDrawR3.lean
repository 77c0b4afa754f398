/- What is drawn in chapter 2: a list of rectangles and a point. -/
import Derived.Test.YtbceacnadkhdoaaDrawR2
namespace Go.Proofs.Ytbceacnadkhdoaa
open Go.RowKit
set_option linter.unusedVariables false

def zeroRc : Rc := ⟨0, 0, 0, 0⟩
theorem made41 : (madeCells (Value.cells (.agg #[.int .i64 0, .int .i64 0, .int .i64 0, .int .i64 0])) (41 * 4)).toList = rcs (List.replicate 41 zeroRc) := by kernel_rfl

/-- Between two rounds: the list so far, the source. -/
structure LMid (w wr : World) (B b : Nat) (a : Option Addr) (len cap : Nat) (f : Nat → Int) (t' : Int) (ao : Option Addr) (ca : Nat) (L : List Rc) : Prop where
  own : Own wr w.heap.size ao ca L
  turn : Turn b w wr
  src : Src wr B b a len cap f t'

theorem LMid.next {w wr w1 : World} {B b : Nat} {a : Option Addr} {len cap : Nat} {f : Nat → Int} {t' t1 : Int} {ao : Option Addr} {ca : Nat} {L : List Rc} (h : LMid w wr B b a len cap f t' ao ca L) (hb : b < w.heap.size) (t : Turn b wr w1) (s : Src w1 B b a len cap f t1) : LMid w w1 B b a len cap f t1 ao ca L :=
  ⟨h.own.turn t hb, h.turn.trans t, s⟩

theorem LMid.app {w w1 w2 : World} {B b : Nat} {a : Option Addr} {len cap : Nat} {f : Nat → Int} {t' : Int} {ao : Option Addr} {ca : Nat} {L : List Rc} {r : Rc} {o : Obj} {v2 : Value} (h : LMid w w1 B b a len cap f t' ao ca L) (hb : b < w.heap.size)
    (ho : w2.ownsRow w.heap.size 25 4 v2 (L.length + 1) (rcs L ++ [.int .i64 r.x, .int .i64 r.y, .int .i64 r.w, .int .i64 r.h])) (hg : (w1.alloc o).grownBy w2 (Value.ownBlock (.slice ao L.length ca))) :
    ∃ ao' ca', v2 = .slice ao' (L ++ [r]).length ca' ∧ LMid w w2 B b a len cap f t' ao' ca' (L ++ [r]) := by
  have hlt : ∀ k, Value.ownBlock (.slice ao L.length ca) = some k → w.heap.size ≤ k ∧ k < w1.heap.size := fun k hk => World.ownsRow.lt h.own k hk
  have e : w2.ownsRow w.heap.size 25 4 v2 (L ++ [r]).length (rcs (L ++ [r])) := by
    rw [rcs_app, List.length_append]; exact ho
  obtain ⟨ao', ca', rfl, O⟩ := own_form e
  refine ⟨ao', ca', rfl, O, ?_, ?_⟩
  · have t1 : Turn b w (w1.alloc o) := h.turn.alloc o
    exact Turn.ofGrown (B := w.heap.size) hg (fun _ _ => .inr trivial) (fun k hk => (hlt k hk).1) w t1 (Nat.le_refl _)
  · exact Src.grown (h.src.grow (by go_grown)) hg (fun k hk => by have := hlt k hk; omega)

set_option maxHeartbeats 4000000 in
theorem rlist_any (w : World) (B b : Nat) (a : Option Addr) (len cap : Nat) (f : Nat → Int) (t : Int) (S : Src w B b a len cap f t) (t0 : 0 ≤ t) (t1 : t ≤ 1000) :
    Calls Try.prog 42 #[.pointer (some ⟨b, 0, none⟩)] w fun e w' => ∃ (ao : Option Addr) (ca : Nat) (L : List Rc) (t' : Int), e = .returned (.slice ao L.length ca) ∧ L.length ≤ 41 ∧ 0 ≤ t' ∧ t' ≤ t + 200 ∧ LMid w w' B b a len cap f t' ao ca L := by
  have hlt := S.lt
  obtain ⟨i0, hi0, hz0, hz1, hz2⟩ := info_parts Try.infoRect
  have M0 : Hid (LMid w (w.alloc (.cells #[] 25)) B b a len cap f t (some ⟨w.heap.size, 0, none⟩) 0 []) := ⟨own_new w _ rfl, Turn.of_below (by go_grown), S.grow (by go_grown)⟩
  clear S
  go_enter Try.func42, Try.ntmps42
  go_wp2_with fail
  refine Calls.mono (next_any _ B b a len cap f t 5 M0.out.src (by omega) (by omega) (by omega) (by omega)) ?_
  rintro e w1 ⟨n, rfl, n0, n1, ht1, hs1⟩
  have M1 := hideP (M0.out.next hlt ht1 hs1)
  clear M0 ht1 hs1
  go_wp2
  go_loopw [3, 4] (fun v i wr => ∃ (k : Nat) (ao : Option Addr) (ca : Nat) (L : List Rc) (t' : Int), i = .int .i64 k ∧ v = .slice ao L.length ca ∧ L.length + k ≤ 4 ∧ 0 ≤ t' ∧ t' ≤ t + 1 + 10 * L.length ∧ LMid w wr B b a len cap f t' ao ca L) (fun _ i _ => (intOf i).toNat)
  case atStart => exact ⟨n.toNat, some ⟨w.heap.size, 0, none⟩, 0, [], t + 1, by rw [Int.toNat_of_nonneg n0], rfl, by simp; omega, by omega, by simp, M1.out⟩
  case round =>
    obtain ⟨k, ao, ca, L, t', rfl, rfl, hLk, h0, h1, M⟩ := hrel
    have HM := hideP M
    clear M M1
    cases k with
    | zero =>
      go_wp2_with fail
      refine Calls.mono (next_any _ B b a len cap f t' 14 HM.out.src (by omega) (by omega) (by omega) (by omega)) ?_
      rintro e w2 ⟨m, rfl, m0, m1, ht2, hs2⟩
      have M2 := hideP (HM.out.next hlt ht2 hs2)
      clear HM ht2 hs2
      by_cases e0 : m = 0
      · subst e0
        go_wp2_with fail
        refine Calls.mono (rbent_any _ B b a len cap f (t' + 1) M2.out.src (by omega) (by omega)) ?_
        rintro e w3 ⟨r, t3, rfl, ht3, a3, b3, hs3⟩
        have M3 := hideP (M2.out.next hlt ht3 hs3)
        have hw3 : w.heap.size ≤ w3.heap.size := M3.out.turn.size
        clear M2 ht3 hs3
        go_wp2_with (first | (at_builtin; refine wpList_append_own _ rfl _ _ 28 rfl w.heap.size 25 i0 (.agg #[.int .i64 0, .int .i64 0, .int .i64 0, .int .i64 0]) 4 32 Try.underlying28 hi0 hz0 hz1 hz2 rfl (by decide) _ _ _ rfl (M3.out.own.alloc _) ⟨w3.heap.size, 0, none⟩ 1 1 [.int .i64 r.x, .int .i64 r.y, .int .i64 r.w, .int .i64 r.h] rfl rfl (World.news_of_block (heap_alloc_new w3 _)) (by intro u hu; simp at hu; rcases hu with rfl | rfl | rfl | rfl <;> rfl) (by unfold maxLen; omega) (by omega) (by simp; omega) ?_; intro v4 w4 hown4 hgrow4 _) | go_in)
        have R := hideP (M3.out.app hlt hown4 hgrow4)
        clear hown4 hgrow4 M3
        obtain ⟨ao', ca', rfl, M4⟩ := R.out
        have HM4 := hideP M4
        clear M4 R
        go_wp2
        go_returns
        exact ⟨ao', ca', L ++ [r], t3, rfl, by simp; omega, by omega, by omega, HM4.out⟩
      · have q0 : (m == 0) = false := by simpa using e0
        by_cases e1 : m = 1
        · subst e1
          have hw2 : w.heap.size ≤ w2.heap.size := M2.out.turn.size
          go_wp2_with (first | (at_make; refine wpList_make_full _ rfl _ _ 28 rfl w.heap.size 25 i0 (.agg #[.int .i64 0, .int .i64 0, .int .i64 0, .int .i64 0]) 4 Try.underlying28 hi0 hz0 hz1 .i64 .i64 _ _ 41 rfl rfl rfl rfl (by rw [hz2]; omega) (by unfold maxLen; omega) hw2 ?_; intro w3 hown3 hgrow3) | go_in)
          have R : Hid (LMid w w3 B b a len cap f (t' + 1) (some ⟨w2.heap.size, 0, none⟩) 41 (List.replicate 41 zeroRc)) := by
            have kk : Below w2.heap.size w2 w3 := ⟨hgrow3.os, hgrow3.tape, hgrow3.output, hgrow3.size, fun i hi => hgrow3.block i hi (by simp)⟩
            refine ⟨?_, M2.out.turn.trans (Turn.of_below kk), M2.out.src.grow kk⟩
            show w3.ownsRow _ _ 4 _ _ _
            rw [List.length_replicate, ← made41]
            exact hown3
          clear hown3 hgrow3 M2
          go_wp2
          go_returns
          exact ⟨some ⟨w2.heap.size, 0, none⟩, 41, List.replicate 41 zeroRc, t' + 1, by rw [List.length_replicate]; rfl, by simp, by omega, by omega, R.out⟩
        · have q1 : (m == 1) = false := by simpa using e1
          go_wp2
          go_returns
          exact ⟨ao, ca, L, t' + 1, rfl, by omega, by omega, by omega, M2.out⟩
    | succ k =>
      have hk' : (k : Int) ≤ 4 := by omega
      have hk2 : ((k + 1 : Nat) : Int) = (k : Int) + 1 := by omega
      rw [hk2]
      clear hk2
      go_wp2_with fail
      refine Calls.mono (rdraw_any _ B b a len cap f t' HM.out.src (by omega) (by omega)) ?_
      rintro e w3 ⟨r, t3, rfl, ht3, a3, b3, hs3⟩
      have M3 := hideP (HM.out.next hlt ht3 hs3)
      have hw3 : w.heap.size ≤ w3.heap.size := M3.out.turn.size
      clear HM ht3 hs3
      go_wp2_with (first | (at_builtin; refine wpList_append_own _ rfl _ _ 28 rfl w.heap.size 25 i0 (.agg #[.int .i64 0, .int .i64 0, .int .i64 0, .int .i64 0]) 4 32 Try.underlying28 hi0 hz0 hz1 hz2 rfl (by decide) _ _ _ rfl (M3.out.own.alloc _) ⟨w3.heap.size, 0, none⟩ 1 1 [.int .i64 r.x, .int .i64 r.y, .int .i64 r.w, .int .i64 r.h] rfl rfl (World.news_of_block (heap_alloc_new w3 _)) (by intro u hu; simp at hu; rcases hu with rfl | rfl | rfl | rfl <;> rfl) (by unfold maxLen; omega) (by omega) (by simp; omega) ?_; intro v4 w4 hown4 hgrow4 _) | go_in)
      have R := hideP (M3.out.app hlt hown4 hgrow4)
      clear hown4 hgrow4 M3
      obtain ⟨ao', ca', rfl, M4⟩ := R.out
      have HM4 := hideP M4
      clear M4 R
      go_wp2
      go_roundw
      case rel => exact ⟨k, ao', ca', L ++ [r], t3, by go_num, rfl, by simp; omega, by omega, by simp; omega, HM4.out⟩
      case measure => simp [intOf]

set_option maxHeartbeats 1000000 in
theorem rcover_any (w : World) (a : Option Addr) (len cap : Nat) (f : Nat → Int) (hB : Bytes w w.heap.size a len f) (hl : len ≤ 1048576) :
    Calls Try.prog 12 #[.slice a len cap] w fun e w' => ∃ (ao : Option Addr) (ca : Nat) (L : List Rc) (x y : Int), e = .returned (.tuple #[.slice ao L.length ca, .int .i64 x, .int .i64 y]) ∧ L.length ≤ 41 ∧ Below w.heap.size w w' ∧ Lst w' w.heap.size w'.heap.size ao L := by
  have S0 := hideP (Src.fresh w w w.heap.size a len cap f 101 hB hl (Below.refl _ _) rfl)
  clear hB
  go_enter Try.func12, Try.ntmps12
  go_wp2_with (first | (go_at_call 41; go_in))
  refine Calls.mono (rlist_any _ w.heap.size w.heap.size a len cap f 0 S0.out (by omega) (by omega)) ?_
  rintro e w1 ⟨ao, ca, L, t1, rfl, hL, c0, c1, M1⟩
  go_wp2_with fail
  refine Calls.mono (next_any _ w.heap.size w.heap.size a len cap f t1 12 M1.src (by omega) (by omega) (by omega) (by omega)) ?_
  rintro e w2 ⟨r2, rfl, p2, q2, ht2, hs2⟩
  go_wp2_with fail
  refine Calls.mono (next_any _ w.heap.size w.heap.size a len cap f (t1 + 1) 8 hs2 (by omega) (by omega) (by omega) (by omega)) ?_
  rintro e w3 ⟨r3, rfl, p3, q3, ht3, hs3⟩
  have M3 := (M1.next (by simp) ht2 hs2).next (by simp) ht3 hs3
  have HB := hideP (Turn.below ((Below.refl w.heap.size w).alloc (Nat.le_refl _) (.cells #[.slice a len cap, .int .i64 0] 101)) (Nat.le_refl _) (by simp) M3.turn)
  have HL := hideP (M3.own.lst.wide (lo' := w.heap.size) (hi' := w3.heap.size) (by simp) (Nat.le_refl _))
  clear M3 M1 ht2 ht3 hs2 hs3 S0
  go_wp2
  go_returns
  exact ⟨ao, ca, L, r2 - 2, r3 - 1, rfl, hL, HB.out, HL.out⟩

end Go.Proofs.Ytbceacnadkhdoaa
