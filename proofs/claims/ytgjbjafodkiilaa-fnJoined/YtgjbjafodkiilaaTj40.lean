/- What is drawn of bytes in pieces: a stream; both. -/
import Derived.Test.YtgjbjafodkiilaaTj39
namespace Go.Proofs.Ytgjbjafodkiilaa
open Go.RowKit
set_option linter.unusedVariables false

theorem Turn.belowT {b : Nat} {w w1 w2 : World} (h : Turn b w w1) (k : Below w.heap.size w1 w2) : Turn b w w2 :=
  ⟨k.os.trans h.os, k.tape.trans h.tape, k.output.trans h.output, Nat.le_trans h.size k.size, fun q hq hb => (k.block q hq).trans (h.block q hq hb)⟩

set_option maxRecDepth 100000 in
set_option maxHeartbeats 4000000 in
theorem stream_any (w : World) (B b : Nat) (a : Option Addr) (len cap : Nat) (f : Nat → Int) (t : Int) (S : Src w B b a len cap f t) (t0 : 0 ≤ t) (t1 : t ≤ 60000) :
    Calls Try.prog 37 #[.pointer (some ⟨b, 0, none⟩), .int .i64 0, .int .i64 5] w (BytQ w B b a len cap f t 200 200) := by
  have hlt := S.lt
  have HS := hideP S
  clear S
  go_enter Try.func37, Try.ntmps37
  go_wp2_with fail
  refine Calls.mono (next_any _ _ _ _ _ _ _ _ 5 (HS.out.grow (by go_grown)) (by omega) (by omega) (by omega) (by omega)) ?_
  rintro e w1 ⟨x, rfl, x0, x1, ht, hs⟩
  have T1 : Hid (Turn b w w1) := hideP ((Turn.of_below (by go_grown)).trans ht)
  have S1 := hideP hs
  have O1 : Hid (OwnR .u8 5 w1 w.heap.size (some ⟨w.heap.size, 0, none⟩) 0 []) := hideP ((OwnR.lit .u8 5 w w.heap.size [] _ rfl (Nat.le_refl _) (by unfold maxLen; simp)).turn ht hlt)
  obtain ⟨n, rfl⟩ : ∃ n : Nat, x = n := ⟨x.toNat, by omega⟩
  clear ht hs HS
  go_wp2
  go_loopw [7, 8] (fun o i wr => ∃ (j : Nat) (ao : Option Addr) (ca : Nat) (L : List Int) (u : Int), j ≤ n ∧ i = .int .i64 ((n : Int) - (j : Nat)) ∧ o = .slice ao L.length ca ∧ OwnR .u8 5 wr w.heap.size ao ca L ∧ byts L ∧ L.length ≤ 34 * j ∧ Turn b w wr ∧ 0 ≤ u ∧ u ≤ t + 1 + 25 * (j : Nat) ∧ Src wr B b a len cap f u) (fun _ i _ => (intOf i).toNat)
  case atStart => exact ⟨0, _, 0, [], _, Nat.zero_le _, by simp, rfl, O1.out, byts_nil, by simp, T1.out, by omega, by omega, S1.out⟩
  case round =>
    obtain ⟨j, ao, ca, L, v, hj, rfl, rfl, hO, hB, hLl, hT, hv0, hv1, hS⟩ := hrel
    have HO := hideP hO
    have HB := hideP hB
    have HT := hideP hT
    have HSr := hideP hS
    clear hO hB hT hS O1 T1 S1
    by_cases hlt2 : j < n
    · have hc : (0 : Int) < (n : Int) - (j : Int) := by omega
      go_wp2_with fail
      refine Calls.mono (chance_any _ _ _ _ _ _ _ _ 10 HSr.out (by omega) (by omega) (by omega) (by omega)) ?_
      rintro e w2 ⟨q, rfl, ht, hs⟩
      have T2 := hideP (HT.out.trans ht)
      have S2 := hideP hs
      have O2 := hideP (HO.out.turn ht hlt)
      clear ht hs HT HSr HO
      cases q with
      | false =>
        go_wp2_with fail
        refine Calls.mono (draw3_any _ B b a len cap f _ 0 S2.out (by omega) (by omega) (by omega) (by omega)) ?_
        rintro e w5 ⟨kd, ad, cd, A, bd, cbd, D, u, rfl, hF, hD, T5, u0, u1, S5, RA, RD, -, -⟩
        have hz5 := T5.size
        have O5 := hideP (O2.out.turn T5 hlt)
        have TT5 := hideP (T2.out.trans T5)
        have ka : Below w5.heap.size w5 (w5.alloc (.cells #[.int .i64 kd, .slice ad A.length cd, .slice bd D.length cbd] 42)) := (Below.refl _ _).alloc (Nat.le_refl _) _
        have PK := hideP (sPk_any _ w5.heap.size w5.heap.size kd ad bd cd cbd A D (w5.alloc (.cells #[.int .i64 kd, .slice ad A.length cd, .slice bd D.length cbd] 42)) ⟨by simp, by simp, by simp⟩ (RA.keep ka (Nat.le_refl _)) (RD.keep ka (Nat.le_refl _)) (by simp) (by simp) hF)
        have O6 := hideP (O5.out.alloc (.cells #[.int .i64 kd, .slice ad A.length cd, .slice bd D.length cbd] 42))
        have T6 := hideP (TT5.out.trans (Turn.of_below (b := b) ka))
        have S6 := hideP (S5.grow ka)
        have HP := hideP (byts_pkL hF hD)
        have hP1 := pkL_len kd A D
        clear T5 S5 RA RD hF hD ka O5 TT5 O2 T2 S2
        go_wp2_with fail
        generalize w5.alloc (.cells #[.int .i64 kd, .slice ad A.length cd, .slice bd D.length cbd] 42) = w6 at *
        generalize pkL kd A D = P at *
        refine Calls.mono PK.out ?_
        rintro e w7 ⟨ap, cp, rfl, OP, k7⟩
        have O7 := hideP (O6.out.keep k7)
        have T7 := hideP (T6.out.trans (Turn.of_below (b := b) k7))
        have S7 := hideP (S6.out.grow k7)
        have SP := hideP OP.src
        have n7 : w.heap.size ≤ w7.heap.size := T7.out.size
        clear OP k7 O6 T6 S6 PK
        go_wp2_with (first | (at_builtin; refine wpList_app (k := .u8) (T := 5) (S := 22) (bytes := 1) Try.underlying22 Try.infoB (by omega) rfl _ _ rfl w.heap.size ao ca L rfl O7.out ap cp P rfl SP.out (by omega) n7 ?_; intro ao8 ca8 w8 O8 K8; refine Hid.out ?_) | go_in)
        have O8' := hideP O8
        have T8 := hideP (T7.out.belowT K8)
        have S8 := hideP (S7.out.below K8 hlt)
        clear O8 K8 O7 T7 S7 SP
        refine hideP ?_
        go_wp2
        go_roundw
        case rel => exact ⟨j + 1, ao8, ca8, L ++ P, _, by omega, by go_num, by simp, O8'.out, byts_appQ HB.out HP.out, by simp; omega, T8.out, u0, by omega, S8.out⟩
        case measure => simp [intOf]; omega
      | true =>
        go_wp2_with fail
        refine Calls.mono (pickQ (fun n => 0 ≤ n ∧ n ≤ 255) _ B b a len cap f _ _ _ _ _ rfl (inbL [0, 26, 3, 255] (by simp)) S2.out (by omega) (by omega) (by decide) (by decide)) ?_
        rintro e w3 ⟨z, rfl, ⟨z0, z1⟩, ht, hs⟩
        have T3 := hideP (T2.out.trans ht)
        have S3 := hideP hs
        have O3 := hideP (O2.out.turn ht hlt)
        have hzm : z % 256 = z := by omega
        have n3 := T3.out.size
        clear ht hs T2 S2 O2
        go_wp2_with (first | (at_builtin; refine wpList_app (k := .u8) (T := 5) (S := 22) (bytes := 1) Try.underlying22 Try.infoB (by omega) rfl _ _ rfl w.heap.size ao ca L rfl (O3.out.alloc _) _ 1 [z] rfl (src_one .u8 w3 z 5) (by simp; omega) (by simp; omega) ?_; intro ao4 ca4 w4 O4 K4; refine Hid.out ?_) | go_in)
        have K34 : Below w.heap.size w3 w4 := Below.trans (by go_grown) K4
        have O4' := hideP O4
        have T4 := hideP (T3.out.belowT K34)
        have S4 := hideP (S3.out.below K34 hlt)
        have HB4 := hideP (byts_appQ HB.out (byts_cons z0 z1 byts_nil))
        have hL4 : (L ++ [z]).length ≤ 34 * j + 1 := by simp; omega
        have HL4 : Hid ((L ++ [z]).length = L.length + 1) := hideP (by simp)
        clear O4 K4 K34 O3 T3 S3
        generalize L ++ [z] = L4 at *
        refine hideP ?_
        go_wp2_with fail
        refine Calls.mono (draw3_any _ B b a len cap f _ 0 S4.out (by omega) (by omega) (by omega) (by omega)) ?_
        rintro e w5 ⟨kd, ad, cd, A, bd, cbd, D, u, rfl, hF, hD, T5, u0, u1, S5, RA, RD, -, -⟩
        have hz5 := T5.size
        have O5 := hideP (O4'.out.turn T5 hlt)
        have TT5 := hideP (T4.out.trans T5)
        have ka : Below w5.heap.size w5 (w5.alloc (.cells #[.int .i64 kd, .slice ad A.length cd, .slice bd D.length cbd] 42)) := (Below.refl _ _).alloc (Nat.le_refl _) _
        have PK := hideP (sPk_any _ w5.heap.size w5.heap.size kd ad bd cd cbd A D (w5.alloc (.cells #[.int .i64 kd, .slice ad A.length cd, .slice bd D.length cbd] 42)) ⟨by simp, by simp, by simp⟩ (RA.keep ka (Nat.le_refl _)) (RD.keep ka (Nat.le_refl _)) (by simp) (by simp) hF)
        have O6 := hideP (O5.out.alloc (.cells #[.int .i64 kd, .slice ad A.length cd, .slice bd D.length cbd] 42))
        have T6 := hideP (TT5.out.trans (Turn.of_below (b := b) ka))
        have S6 := hideP (S5.grow ka)
        have HP := hideP (byts_pkL hF hD)
        have hP1 := pkL_len kd A D
        clear T5 S5 RA RD hF hD ka O5 TT5 O4' T4 S4
        go_wp2_with fail
        generalize w5.alloc (.cells #[.int .i64 kd, .slice ad A.length cd, .slice bd D.length cbd] 42) = w6 at *
        generalize pkL kd A D = P at *
        refine Calls.mono PK.out ?_
        rintro e w7 ⟨ap, cp, rfl, OP, k7⟩
        have O7 := hideP (O6.out.keep k7)
        have T7 := hideP (T6.out.trans (Turn.of_below (b := b) k7))
        have S7 := hideP (S6.out.grow k7)
        have SP := hideP OP.src
        have n7 : w.heap.size ≤ w7.heap.size := T7.out.size
        clear OP k7 O6 T6 S6 PK
        go_wp2_with (first | (at_builtin; refine wpList_app (k := .u8) (T := 5) (S := 22) (bytes := 1) Try.underlying22 Try.infoB (by omega) rfl _ _ rfl w.heap.size ao4 ca4 L4 (by rw [HL4.out]; rfl) O7.out ap cp P rfl SP.out (by omega) n7 ?_; intro ao8 ca8 w8 O8 K8; refine Hid.out ?_) | go_in)
        have O8' := hideP O8
        have T8 := hideP (T7.out.belowT K8)
        have S8 := hideP (S7.out.below K8 hlt)
        clear O8 K8 O7 T7 S7 SP
        refine hideP ?_
        go_wp2
        go_roundw
        case rel => exact ⟨j + 1, ao8, ca8, L4 ++ P, _, by omega, by go_num, by rw [List.length_append, HL4.out], O8'.out, byts_appQ HB4.out HP.out, by simp; omega, T8.out, u0, by omega, S8.out⟩
        case measure => simp [intOf]; omega
    · obtain rfl : j = n := by omega
      have hc : ¬ ((0 : Int) < (j : Int) - (j : Int)) := by omega
      go_wp2
      go_returns
      exact ⟨ao, ca, L, v, rfl, HB.out, by omega, HO.out.roomQ, HO.out.adr, HT.out, hv0, by omega, HSr.out, HO.out.wrt.row⟩

end Go.Proofs.Ytgjbjafodkiilaa
