/- What is drawn in chapter 9: a mode, a focus and codes that are asked. Rows of int64 numbers: copied, held against each other, marked. -/
import Derived.Test.YtbagloapclgpnaaW8
import Derived.Test.YtbagloapclgpnaaW3
namespace Go.Proofs.Ytbagloapclgpnaa
open Go.RowKit
set_option linter.unusedVariables false

/-- A mode, a focus and codes were drawn. -/
def DrawT (w : World) (e : Ending) (w' : World) : Prop :=
  ∃ (m f : Int) (ao : Option Addr) (ca : Nat) (L : List Int), e = .returned (.tuple #[.int .i64 m, .int .i64 f, .slice ao L.length ca]) ∧ L.length ≤ 5 ∧ (0 ≤ m ∧ m ≤ 2) ∧ (-1 ≤ f ∧ f ≤ 64) ∧ Below w.heap.size w w' ∧ Row .i64 w' w.heap.size w'.heap.size ao L

theorem made5 : (madeCells (Value.cells (.int .i64 0)) (5 * 1)).toList = (List.replicate 5 (0 : Int)).map (Value.int .i64) := by kernel_rfl

set_option maxRecDepth 100000 in
set_option maxHeartbeats 8000000 in
theorem drawStrip_any (w : World) (a : Option Addr) (len cap : Nat) (f : Nat → Int) (hB : Bytes w w.heap.size a len f) (hl : len ≤ 1048576) :
    Calls Try.prog 23 #[.slice a len cap] w (DrawT w) := by
  have S0 := hideP (Src.new5 w w w.heap.size a len cap f 119 hB hl (Below.refl _ _) rfl)
  obtain ⟨i0, hi0, hz0, hz1, hz2⟩ := info_parts Try.infoI5
  have HBw := hideP ((Below.refl w.heap.size w).alloc (Nat.le_refl _) (.cells #[.slice a len cap, .int .i64 0] 119))
  clear hB
  go_enter Try.func23, Try.ntmps23
  go_wp2_with (first | (go_at_call 47; go_in))
  obtain ⟨W0, hW0⟩ : ∃ W0, w.alloc (.cells #[.slice a len cap, .int .i64 0] 119) = W0 := ⟨_, rfl⟩
  have hW0s : W0.heap.size = w.heap.size + 1 := by rw [← hW0]; simp
  try rw [hW0] at S0
  try rw [hW0] at HBw
  try rw [hW0]
  have M0 : Hid (IMid W0 (W0.alloc (.cells #[] 2)) w.heap.size w.heap.size a len cap f 0 (some ⟨W0.heap.size, 0, none⟩) 0 []) := ⟨OwnR.lit .i64 2 W0 W0.heap.size [] _ rfl (Nat.le_refl _) (by unfold maxLen; simp), Turn.of_below ((Below.refl _ _).alloc (Nat.le_refl _) _), S0.out.grow ((Below.refl _ _).alloc (Nat.le_refl _) _)⟩
  have hlt := S0.out.lt
  clear hW0 S0
  refine Calls.mono (next_any _ w.heap.size w.heap.size a len cap f 0 5 M0.out.src (by omega) (by omega) (by omega) (by omega)) ?_
  rintro e w1 ⟨n, rfl, n0, n1, ht1, hs1⟩
  have M1 := hideP (M0.out.next hlt ht1 hs1)
  clear M0 ht1 hs1
  go_wp2
  go_loopw [6, 7] (fun v i wr => ∃ (k : Nat) (ao : Option Addr) (ca : Nat) (L : List Int) (u : Int), i = .int .i64 k ∧ v = .slice ao L.length ca ∧ L.length + k ≤ 4 ∧ k ≤ 4 ∧ 0 ≤ u ∧ u + k ≤ 5 ∧ IMid W0 wr w.heap.size w.heap.size a len cap f u ao ca L) (fun _ i _ => (intOf i).toNat)
  case atStart => exact ⟨n.toNat, some ⟨W0.heap.size, 0, none⟩, 0, [], 0 + 1, by rw [Int.toNat_of_nonneg n0], by rw [hW0s]; rfl, by simp; omega, by omega, by omega, by omega, M1.out⟩
  case round =>
    obtain ⟨k, ao, ca, L, u, rfl, rfl, hLk, hk7, h0, h1, M⟩ := hrel
    have HM := hideP M
    clear M M1
    cases k with
    | zero =>
      go_wp2_with fail
      refine Calls.mono (next_any _ w.heap.size w.heap.size a len cap f u 10 HM.out.src (by omega) (by omega) (by omega) (by omega)) ?_
      rintro e w2 ⟨m, rfl, m0, m1, ht2, hs2⟩
      have M2 := hideP (HM.out.next hlt ht2 hs2)
      clear HM ht2 hs2
      by_cases e0 : m = 0
      · subst e0
        go_wp2_with fail
        refine Calls.mono (pick5 (fun _ => True) w2 w.heap.size w.heap.size a len cap f (u + 1) _ 2 3 w2.heap.size rfl (inbL5 [64, -1, 5] (by simp)) M2.out.src (by omega) (by omega) (by omega) (by omega)) ?_
        rintro e w3 ⟨r, rfl, -, ht3, hs3⟩
        have M3 := hideP (M2.out.next hlt ht3 hs3)
        have hw3 : W0.heap.size ≤ w3.heap.size := M3.out.turn.size
        clear M2 ht3 hs3
        go_wp2_with (first | (at_builtin; refine wpList_app (k := .i64) (T := 2) (S := 26) (bytes := 8) Try.underlying26 Try.infoI5 (by omega) rfl _ _ rfl W0.heap.size ao ca L rfl (M3.out.own.alloc _) _ 1 [r] rfl (src_one .i64 w3 r 2) (by simp; omega) (by simp; omega) ?_; intro ao4 ca4 w4 O4 K4; replace O4 := hideP O4; replace K4 := hideP K4; refine Hid.out ?_) | go_in)
        have M4 := hideP (M3.out.app hlt O4.out (Below.trans ((Below.refl W0.heap.size w3).alloc hw3 _) K4.out))
        have hL4 : (L ++ [r]).length ≤ 5 := by simp; omega
        clear O4 K4 M3
        refine hideP ?_
        go_wp2_with fail
        refine Calls.mono (pick5 (fun x => 0 ≤ x ∧ x ≤ 2) w4 w.heap.size w.heap.size a len cap f (u + 1 + 1) _ 2 3 w4.heap.size rfl (inbL5 [0, 1, 2] (by simp)) M4.out.src (by omega) (by omega) (by omega) (by omega)) ?_
        rintro e wp ⟨rm, rfl, ⟨m0, m1⟩, ht8, hs8⟩
        have M8 := hideP (M4.out.next hlt ht8 hs8)
        clear ht8 hs8
        go_wp2_with fail
        refine Calls.mono (pick5 (fun x => -1 ≤ x ∧ x ≤ 64) wp w.heap.size w.heap.size a len cap f (u + 1 + 1 + 1) _ 2 4 wp.heap.size rfl (inbL5 [-1, 63, 64, 5] (by simp)) M8.out.src (by omega) (by omega) (by omega) (by omega)) ?_
        rintro e wq ⟨rf, rfl, ⟨f0, f1⟩, ht9, hs9⟩
        have M9 := hideP (M8.out.next hlt ht9 hs9)
        clear ht9 hs9 M8 M4
        go_wp2
        exact bodyPost_ret (v := .tuple #[.int .i64 rm, .int .i64 rf, .slice ao4 (L.length + 1) ca4]) (by simp [results, Try.results23, go_sem]; done) rfl ⟨rm, rf, ao4, ca4, L ++ [r], by simp, hL4, ⟨m0, m1⟩, ⟨f0, f1⟩, Turn.below (HBw.out.trans (Below.refl _ _)) (by omega) (by omega) M9.out.turn, M9.out.own.wrt.row.wide (by omega) (Nat.le_refl _)⟩
      · have q0 : (m == 0) = false := by simpa using e0
        by_cases e1 : m = 1
        · subst e1
          have hw2 : W0.heap.size ≤ w2.heap.size := M2.out.turn.size
          go_wp2_with (first | (at_make; refine wpList_make_full _ rfl _ _ 26 rfl W0.heap.size 2 i0 (.int .i64 0) 1 Try.underlying26 hi0 hz0 hz1 .i64 .i64 _ _ 5 rfl rfl rfl rfl (by rw [hz2]; omega) (by unfold maxLen; omega) hw2 ?_; intro w3 hown3 hgrow3; replace hown3 := hideP hown3; replace hgrow3 := hideP hgrow3; refine Hid.out ?_) | go_in)
          have R : Hid (IMid W0 w3 w.heap.size w.heap.size a len cap f (u + 1) (some ⟨w2.heap.size, 0, none⟩) 5 (List.replicate 5 0)) := by
            have kk : Below w2.heap.size w2 w3 := ⟨hgrow3.out.os, hgrow3.out.tape, hgrow3.out.output, hgrow3.out.size, fun i hi => hgrow3.out.block i hi (by simp)⟩
            refine ⟨?_, M2.out.turn.trans (Turn.of_below kk), M2.out.src.grow kk⟩
            show w3.ownsRow _ _ 1 _ _ _
            rw [List.length_replicate, ← made5]
            exact hown3.out
          clear hown3 hgrow3 M2
          refine hideP ?_
          go_wp2_with fail
          refine Calls.mono (pick5 (fun x => 0 ≤ x ∧ x ≤ 2) w3 w.heap.size w.heap.size a len cap f (u + 1) _ 2 3 w3.heap.size rfl (inbL5 [0, 1, 2] (by simp)) R.out.src (by omega) (by omega) (by omega) (by omega)) ?_
          rintro e wp ⟨rm, rfl, ⟨m0, m1⟩, ht8, hs8⟩
          have M8 := hideP (R.out.next hlt ht8 hs8)
          clear ht8 hs8
          go_wp2_with fail
          refine Calls.mono (pick5 (fun x => -1 ≤ x ∧ x ≤ 64) wp w.heap.size w.heap.size a len cap f (u + 1 + 1) _ 2 4 wp.heap.size rfl (inbL5 [-1, 63, 64, 5] (by simp)) M8.out.src (by omega) (by omega) (by omega) (by omega)) ?_
          rintro e wq ⟨rf, rfl, ⟨f0, f1⟩, ht9, hs9⟩
          have M9 := hideP (M8.out.next hlt ht9 hs9)
          clear ht9 hs9 M8 R
          go_wp2
          exact bodyPost_ret (v := .tuple #[.int .i64 rm, .int .i64 rf, .slice (some ⟨w2.heap.size, 0, none⟩) 5 5]) (by simp [results, Try.results23, go_sem]; done) rfl ⟨rm, rf, some ⟨w2.heap.size, 0, none⟩, 5, List.replicate 5 0, by rw [List.length_replicate], by simp, ⟨m0, m1⟩, ⟨f0, f1⟩, Turn.below (HBw.out.trans (Below.refl _ _)) (by omega) (by omega) M9.out.turn, M9.out.own.wrt.row.wide (by omega) (Nat.le_refl _)⟩
        · have q1 : (m == 1) = false := by simpa using e1
          have hL2 : L.length ≤ 5 := by omega
          go_wp2_with fail
          refine Calls.mono (pick5 (fun x => 0 ≤ x ∧ x ≤ 2) w2 w.heap.size w.heap.size a len cap f (u + 1) _ 2 3 w2.heap.size rfl (inbL5 [0, 1, 2] (by simp)) M2.out.src (by omega) (by omega) (by omega) (by omega)) ?_
          rintro e wp ⟨rm, rfl, ⟨m0, m1⟩, ht8, hs8⟩
          have M8 := hideP (M2.out.next hlt ht8 hs8)
          clear ht8 hs8
          go_wp2_with fail
          refine Calls.mono (pick5 (fun x => -1 ≤ x ∧ x ≤ 64) wp w.heap.size w.heap.size a len cap f (u + 1 + 1) _ 2 4 wp.heap.size rfl (inbL5 [-1, 63, 64, 5] (by simp)) M8.out.src (by omega) (by omega) (by omega) (by omega)) ?_
          rintro e wq ⟨rf, rfl, ⟨f0, f1⟩, ht9, hs9⟩
          have M9 := hideP (M8.out.next hlt ht9 hs9)
          clear ht9 hs9 M8 M2
          go_wp2
          exact bodyPost_ret (v := .tuple #[.int .i64 rm, .int .i64 rf, .slice ao L.length ca]) (by simp [results, Try.results23, go_sem]; done) rfl ⟨rm, rf, ao, ca, L, rfl, hL2, ⟨m0, m1⟩, ⟨f0, f1⟩, Turn.below (HBw.out.trans (Below.refl _ _)) (by omega) (by omega) M9.out.turn, M9.out.own.wrt.row.wide (by omega) (Nat.le_refl _)⟩
    | succ k =>
      have hk' : (k : Int) ≤ 4 := by omega
      have hk2 : ((k + 1 : Nat) : Int) = (k : Int) + 1 := by omega
      rw [hk2]
      clear hk2
      go_wp2_with fail
      refine Calls.mono (pick5 (fun x => 0 ≤ x ∧ x ≤ 63) wr w.heap.size w.heap.size a len cap f u _ 2 3 wr.heap.size rfl (inbL5 [0, 16, 63] (by simp)) HM.out.src (by omega) (by omega) (by omega) (by omega)) ?_
      rintro e w3 ⟨r, rfl, -, ht3, hs3⟩
      have M3 := hideP (HM.out.next hlt ht3 hs3)
      have hw3 : W0.heap.size ≤ w3.heap.size := M3.out.turn.size
      clear HM ht3 hs3
      go_wp2_with (first | (at_builtin; refine wpList_app (k := .i64) (T := 2) (S := 26) (bytes := 8) Try.underlying26 Try.infoI5 (by omega) rfl _ _ rfl W0.heap.size ao ca L rfl (M3.out.own.alloc _) _ 1 [r] rfl (src_one .i64 w3 r 2) (by simp; omega) (by simp; omega) ?_; intro ao4 ca4 w4 O4 K4; replace O4 := hideP O4; replace K4 := hideP K4; refine Hid.out ?_) | go_in)
      have M4 := hideP (M3.out.app hlt O4.out (Below.trans ((Below.refl W0.heap.size w3).alloc hw3 _) K4.out))
      clear O4 K4 M3
      refine hideP ?_
      go_wp2
      go_roundw
      case rel => exact ⟨k, ao4, ca4, L ++ [r], u + 1, by go_num, by simp, by simp; omega, by omega, by omega, by omega, M4.out⟩
      case measure => simp [intOf]

end Go.Proofs.Ytbagloapclgpnaa

namespace Go.Proofs.Ytbagloapclgpnaa
open Go.RowKit
set_option linter.unusedVariables false

theorem Try.infoI : (Try.prog.info? 2).map (fun i => (i.zero, i.size, i.bytes)) = some (some (.int .i64 0), 1, 8) := by kernel_rfl

/-- What number a place is marked with. -/
def mkI (k : Int) (i : Nat) : Int := k + i

set_option maxHeartbeats 1000000 in
theorem toI_any (lo hi : Nat) (ao : Option Addr) (ca : Nat) (L : List Int) (w : World) (ha : Row .i64 w lo hi ao L) (h1 : hi ≤ w.heap.size) (hl : L.length ≤ 1048576) :
    Calls Try.prog 32 #[.slice ao L.length ca] w fun e w' => e = .returned (.slice (some ⟨w.heap.size, 0, none⟩) L.length L.length) ∧ Below w.heap.size w w' ∧ w.heap.size < w'.heap.size ∧ Wrt .i64 w' w.heap.size (w.heap.size + 1) (some ⟨w.heap.size, 0, none⟩) L := by
  have hl' : (L.length : Int) ≤ 1048576 := by omega
  have HA := hideP ha
  clear ha
  obtain ⟨i0, hi0, hz0, hz1, hz2⟩ := info_parts Try.infoI
  go_enter Try.func32, Try.ntmps32
  go_wp2_with (first | (at_make; refine wpList_make_full _ rfl _ _ 26 rfl w.heap.size 2 i0 (.int .i64 0) 1 Try.underlying26 hi0 hz0 hz1 .i64 .i64 _ _ L.length rfl rfl rfl rfl (by rw [hz2]; omega) (by unfold maxLen; omega) (Nat.le_refl _) ?_; intro w1 hown1 hgrow1) | go_in)
  have F1 : Hid (Fil .i64 w w1 w.heap.size (w.heap.size + 1) w.heap.size 0 L.length 0 (fun i => L.getD i 0)) := made_fil hown1 hgrow1
  clear hown1 hgrow1
  go_wp2
  go_loopw [4] (fun i wr => ∃ k : Nat, k ≤ L.length ∧ i = .int .i64 k ∧ Fil .i64 w wr w.heap.size (w.heap.size + 1) w.heap.size 0 L.length k (fun i => L.getD i 0)) (fun i _ => L.length - (intOf i).toNat)
  case atStart => exact ⟨0, Nat.zero_le _, rfl, F1.out⟩
  case round =>
    obtain ⟨k, hk, rfl, F⟩ := hrel
    by_cases hlt : k < L.length
    · have hlt' : (k : Int) < (L.length : Int) := by omega
      have hne : L ≠ [] := fun e => by rw [e] at hlt; simp at hlt
      rcases HA.out with e | ⟨g, o, rfl, _, hg, hc⟩
      · exact absurd e hne
      have a0 := (F.far.cell g (o + k) (by omega) (by omega)).trans (hc k hlt)
      obtain ⟨u0, t0⟩ := F.there k hlt
      have f := F.free
      have hgl := F.lt
      have hs := F.far.size
      have S := F.step hlt
      simp only [List.getD, List.getElem?_eq_getElem hlt, Option.getD_some] at S
      rw [Nat.zero_add] at t0 S
      have HS := hideP S
      have hgg : g < wr.heap.size := by omega
      clear hc HA F1 F S
      generalize L[k] = x at *
      go_wp2
      go_roundw
      case rel => exact ⟨k + 1, by omega, by go_num, HS.out⟩
      case measure => simp [intOf]; omega
    · obtain rfl : k = L.length := by omega
      have HF := hideP F
      clear F F1
      go_wp2
      go_returns
      refine ⟨rfl, HF.out.far.below (Nat.le_refl _) (Nat.le_refl _), HF.out.lt, ?_⟩
      have := HF.out.wrt
      rwa [rowOf_get] at this

set_option maxHeartbeats 1000000 in
theorem eqI_same (lo hi lo2 hi2 : Nat) (ao bo : Option Addr) (ca cb : Nat) (L : List Int) (w : World) (ha : Row .i64 w lo hi ao L) (hb : Row .i64 w lo2 hi2 bo L) (h1 : hi ≤ w.heap.size) (h2 : hi2 ≤ w.heap.size) (hl : L.length ≤ 1048576) :
    Calls Try.prog 36 #[.slice ao L.length ca, .slice bo L.length cb] w fun e w' => e = .returned (.bool true) ∧ Below w.heap.size w w' := by
  have hl' : (L.length : Int) ≤ 1048576 := by omega
  have HA := hideP ha
  have HB := hideP hb
  clear ha hb
  go_enter Try.func36, Try.ntmps36
  go_wp2
  go_loopw [5] (fun i wr => ∃ k : Nat, k ≤ L.length ∧ i = .int .i64 k ∧ Below w.heap.size w wr) (fun i _ => L.length - (intOf i).toNat)
  case atStart => exact ⟨0, Nat.zero_le _, rfl, Below.refl _ _⟩
  case round =>
    obtain ⟨k, hk, rfl, hbel⟩ := hrel
    have hz := hbel.size
    by_cases hlt : k < L.length
    · have hlt' : (k : Int) < (L.length : Int) := by omega
      have hne : L ≠ [] := fun e => by rw [e] at hlt; simp at hlt
      rcases HA.out with e | ⟨g, o, rfl, _, hg, hc⟩
      · exact absurd e hne
      rcases HB.out with e | ⟨g', o', rfl, _, hg', hc'⟩
      · exact absurd e hne
      have a0 := (hbel.cell (p := ⟨g, o + k, none⟩) (by show g < _; omega)).trans (hc k hlt)
      have b0 := (hbel.cell (p := ⟨g', o' + k, none⟩) (by show g' < _; omega)).trans (hc' k hlt)
      have hgl : g < wr.heap.size := by omega
      have hgl' : g' < wr.heap.size := by omega
      have HBel := hideP hbel
      clear hc hc' hbel HA HB
      generalize L[k] = x at *
      go_wp2
      refine wp_region_kept (by kernel_rfl) (by kernel_rfl) ?_
      repeat (refine kept_step (by rfl) ?_; apply Exists.intro; refine ⟨fun w1 k1 => ?_, fun K hK => ?_⟩; (focus (have hc := Kept.cell k1; go_simp; first | done | rfl)); (go_simp; refine hK _ ?_; clear hK K))
      refine wpQuiet_nil ?_
      intro w5 k5
      replace k5 := Kept.below k5
      have hc5 := Kept.cell k5
      have hf5 := Kept.frozen k5
      have hz5 := k5.size
      try simp only [World.size_alloc] at hz5
      try simp only [World.size_setCell] at hz5
      try simp only [World.size_drew] at hz5
      try (first | have hs5 := sz12 hz5 | have hs5 := sz11 hz5 | have hs5 := sz10 hz5 | have hs5 := sz9 hz5 | have hs5 := sz8 hz5 | have hs5 := sz7 hz5 | have hs5 := sz6 hz5 | have hs5 := sz5 hz5 | have hs5 := sz4 hz5 | have hs5 := sz3 hz5 | have hs5 := sz2 hz5 | have hs5 := sz1 hz5)
      go_wp2
      go_roundw
      case rel => exact ⟨k + 1, by omega, by go_num, HBel.out.trans (k5.mono HBel.out.size)⟩
      case measure => simp [intOf]; omega
    · have HBel := hideP hbel
      clear hbel
      go_wp2
      go_returns
      exact ⟨rfl, HBel.out⟩

set_option maxHeartbeats 1000000 in
theorem markI_any (lo hi : Nat) (ao : Option Addr) (ca : Nat) (k : Int) (L : List Int) (w : World) (ha : Wrt .i64 w lo hi ao L) (h1 : hi ≤ w.heap.size) (hl : L.length ≤ 1048576) (k0 : 0 ≤ k) (k1 : k ≤ 16777216) :
    Calls Try.prog 39 #[.slice ao L.length ca, .int .i64 k] w fun e w' => e = .returned (.int .i64 (k + L.length)) ∧ Far lo hi w w' ∧ Wrt .i64 w' lo hi ao (rowOf (mkI k) L.length) := by
  have hl' : (L.length : Int) ≤ 1048576 := by omega
  rcases ha with rfl | ⟨g, o, rfl, ha⟩
  · go_enter Try.func39, Try.ntmps39
    go_wp2
    refine wp_loop_rounds 1 ?_
    rw [rounds_succ]
    go_wp2
    go_returns
    exact ⟨by simp, Far.refl _ _ _, .inl rfl⟩
  · have HM : Hid (Fil .i64 w w lo hi g o L.length 0 (mkI k)) := Wrt.fil h1 ha
    clear ha
    generalize L.length = n at *
    go_enter Try.func39, Try.ntmps39
    go_wp2
    go_loopw [1, 5] (fun q i wr => ∃ j : Nat, j ≤ n ∧ i = .int .i64 j ∧ q = .int .i64 (k + j) ∧ Fil .i64 w wr lo hi g o n j (mkI k)) (fun _ i _ => n - (intOf i).toNat)
    case atStart => exact ⟨0, Nat.zero_le _, rfl, by simp, HM.out⟩
    case round =>
      obtain ⟨j, hj, rfl, rfl, M⟩ := hrel
      have hj' : (j : Int) ≤ 1048576 := by omega
      by_cases hlt : j < n
      · have hlt' : (j : Int) < (n : Int) := by omega
        obtain ⟨u0, t0⟩ := M.there j hlt
        have f := M.free
        have hgl := M.lt
        have M1 := hideP (M.step hlt)
        clear M HM
        go_wp2
        go_roundw
        case rel => exact ⟨j + 1, by omega, by go_num, by go_num, M1.out⟩
        case measure => simp [intOf]; omega
      · obtain rfl : j = n := by omega
        have M1 := hideP M
        clear M HM
        go_wp2
        go_returns
        exact ⟨rfl, M1.out.far, M1.out.wrt⟩

set_option maxHeartbeats 1000000 in
theorem heldI_any (lo hi : Nat) (ao : Option Addr) (ca n : Nat) (k : Int) (w : World) (ha : Row .i64 w lo hi ao (rowOf (mkI k) n)) (hl : n ≤ 1048576) (k0 : 0 ≤ k) (k1 : k ≤ 16777216) :
    Calls Try.prog 80 #[.slice ao n ca, .int .i64 k] w fun e w' => e = .returned (.int .i64 (k + n)) ∧ w' = w := by
  have hl' : (n : Int) ≤ 1048576 := by omega
  have HA := hideP ha
  clear ha
  go_enter Try.func80, Try.ntmps80
  go_wp2
  go_loop [1, 5] (fun q i => ∃ j : Nat, j ≤ n ∧ i = .int .i64 j ∧ q = .int .i64 (k + j)) (fun _ i => n - (intOf i).toNat)
  case atStart => exact ⟨0, Nat.zero_le _, rfl, by simp⟩
  case round =>
    obtain ⟨j, hj, rfl, rfl⟩ := hrel
    have hj' : (j : Int) ≤ 1048576 := by omega
    by_cases hlt : j < n
    · have hlt' : (j : Int) < (n : Int) := by omega
      rcases HA.out with e | ⟨g, o, rfl, _, hg, hc⟩
      · have := rowOf_len (mkI k) n; rw [e] at this; simp at this; omega
      have hR := hc j (by rw [rowOf_len]; exact hlt)
      rw [rowOf_at] at hR
      simp only [mkI] at hR
      clear hc HA
      go_wp2
      go_round
      case rel => exact ⟨j + 1, by omega, by go_num, by go_num⟩
      case measure => simp [intOf]; omega
    · obtain rfl : j = n := by omega
      clear HA
      go_wp2
      go_returns
      exact ⟨rfl, rfl⟩

end Go.Proofs.Ytbagloapclgpnaa
