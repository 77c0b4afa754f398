/- Rows of int64 numbers: copied, held against each other, marked. -/
import Derived.Test.YtoipcnpemmajaaaRr3
namespace Go.Proofs.Ytoipcnpemmajaaa
open Go.RowKit
set_option linter.unusedVariables false

theorem Try.infoI : (Try.prog.info? 2).map (fun i => (i.zero, i.size, i.bytes)) = some (some (.int .i64 0), 1, 8) := by kernel_rfl

/-- What number a place is marked with. -/
def mkI (k : Int) (i : Nat) : Int := k + i

set_option maxHeartbeats 1000000 in
theorem toI_any (lo hi : Nat) (ao : Option Addr) (ca : Nat) (L : List Int) (w : World) (ha : Row .i64 w lo hi ao L) (h1 : hi ≤ w.heap.size) (hl : L.length ≤ 1048576) :
    Calls Try.prog 87 #[.slice ao L.length ca] w fun e w' => e = .returned (.slice (some ⟨w.heap.size, 0, none⟩) L.length L.length) ∧ Below w.heap.size w w' ∧ w.heap.size < w'.heap.size ∧ Wrt .i64 w' w.heap.size (w.heap.size + 1) (some ⟨w.heap.size, 0, none⟩) L := by
  have hl' : (L.length : Int) ≤ 1048576 := by omega
  have HA := hideP ha
  clear ha
  obtain ⟨i0, hi0, hz0, hz1, hz2⟩ := info_parts Try.infoI
  go_enter Try.func87, Try.ntmps87
  go_wp2_with (first | (at_make; refine wpList_make_full _ rfl _ _ 48 rfl w.heap.size 2 i0 (.int .i64 0) 1 Try.underlying48 hi0 hz0 hz1 .i64 .i64 _ _ L.length rfl rfl rfl rfl (by rw [hz2]; omega) (by unfold maxLen; omega) (Nat.le_refl _) ?_; intro w1 hown1 hgrow1) | go_in)
  have F1 : Hid (Fil .i64 w w1 w.heap.size (w.heap.size + 1) w.heap.size 0 L.length 0 (fun i => L.getD i 0)) := made_fil hown1 hgrow1
  clear hown1 hgrow1
  go_wp2
  go_loopw [4] (fun i wr => ∃ k : Nat, k ≤ L.length ∧ i = .int .i64 k ∧ Fil .i64 w wr w.heap.size (w.heap.size + 1) w.heap.size 0 L.length k (fun i => L.getD i 0)) (fun i _ => L.length - (intOf i).toNat)
  case atStart => exact ⟨0, Nat.zero_le _, rfl, F1.out⟩
  case round =>
    obtain ⟨k, hk, rfl, F⟩ := hrel
    by_cases hlt : k < L.length
    · have hlt' : (k : Int) < (L.length : Int) := by omega
      have hne : L ≠ [] := fun e => by rw [e] at hlt; simp at hlt
      rcases HA.out with e | ⟨g, o, rfl, _, hg, hc⟩
      · exact absurd e hne
      have a0 := (F.far.cell g (o + k) (by omega) (by omega)).trans (hc k hlt)
      obtain ⟨u0, t0⟩ := F.there k hlt
      have f := F.free
      have hgl := F.lt
      have hs := F.far.size
      have S := F.step hlt
      simp only [List.getD, List.getElem?_eq_getElem hlt, Option.getD_some] at S
      rw [Nat.zero_add] at t0 S
      have HS := hideP S
      have hgg : g < wr.heap.size := by omega
      clear hc HA F1 F S
      generalize L[k] = x at *
      go_wp2
      go_roundw
      case rel => exact ⟨k + 1, by omega, by go_num, HS.out⟩
      case measure => simp [intOf]; omega
    · obtain rfl : k = L.length := by omega
      have HF := hideP F
      clear F F1
      go_wp2
      go_returns
      refine ⟨rfl, HF.out.far.below (Nat.le_refl _) (Nat.le_refl _), HF.out.lt, ?_⟩
      have := HF.out.wrt
      rwa [rowOf_get] at this

set_option maxHeartbeats 1000000 in
theorem eqI_same (lo hi lo2 hi2 : Nat) (ao bo : Option Addr) (ca cb : Nat) (L : List Int) (w : World) (ha : Row .i64 w lo hi ao L) (hb : Row .i64 w lo2 hi2 bo L) (h1 : hi ≤ w.heap.size) (h2 : hi2 ≤ w.heap.size) (hl : L.length ≤ 1048576) :
    Calls Try.prog 90 #[.slice ao L.length ca, .slice bo L.length cb] w fun e w' => e = .returned (.bool true) ∧ Below w.heap.size w w' := by
  have hl' : (L.length : Int) ≤ 1048576 := by omega
  have HA := hideP ha
  have HB := hideP hb
  clear ha hb
  go_enter Try.func90, Try.ntmps90
  go_wp2
  go_loopw [5] (fun i wr => ∃ k : Nat, k ≤ L.length ∧ i = .int .i64 k ∧ Below w.heap.size w wr) (fun i _ => L.length - (intOf i).toNat)
  case atStart => exact ⟨0, Nat.zero_le _, rfl, Below.refl _ _⟩
  case round =>
    obtain ⟨k, hk, rfl, hbel⟩ := hrel
    have hz := hbel.size
    by_cases hlt : k < L.length
    · have hlt' : (k : Int) < (L.length : Int) := by omega
      have hne : L ≠ [] := fun e => by rw [e] at hlt; simp at hlt
      rcases HA.out with e | ⟨g, o, rfl, _, hg, hc⟩
      · exact absurd e hne
      rcases HB.out with e | ⟨g', o', rfl, _, hg', hc'⟩
      · exact absurd e hne
      have a0 := (hbel.cell (p := ⟨g, o + k, none⟩) (by show g < _; omega)).trans (hc k hlt)
      have b0 := (hbel.cell (p := ⟨g', o' + k, none⟩) (by show g' < _; omega)).trans (hc' k hlt)
      have hgl : g < wr.heap.size := by omega
      have hgl' : g' < wr.heap.size := by omega
      have HBel := hideP hbel
      clear hc hc' hbel HA HB
      generalize L[k] = x at *
      go_wp2
      refine wp_region_kept (by kernel_rfl) (by kernel_rfl) ?_
      repeat (refine kept_step (by rfl) ?_; apply Exists.intro; refine ⟨fun w1 k1 => ?_, fun K hK => ?_⟩; (focus (have hc := Kept.cell k1; go_simp; first | done | rfl)); (go_simp; refine hK _ ?_; clear hK K))
      refine wpQuiet_nil ?_
      intro w5 k5
      replace k5 := Kept.below k5
      have hc5 := Kept.cell k5
      have hf5 := Kept.frozen k5
      have hz5 := k5.size
      try simp only [World.size_alloc] at hz5
      try simp only [World.size_setCell] at hz5
      try simp only [World.size_drew] at hz5
      try (first | have hs5 := sz12 hz5 | have hs5 := sz11 hz5 | have hs5 := sz10 hz5 | have hs5 := sz9 hz5 | have hs5 := sz8 hz5 | have hs5 := sz7 hz5 | have hs5 := sz6 hz5 | have hs5 := sz5 hz5 | have hs5 := sz4 hz5 | have hs5 := sz3 hz5 | have hs5 := sz2 hz5 | have hs5 := sz1 hz5)
      go_wp2
      go_roundw
      case rel => exact ⟨k + 1, by omega, by go_num, HBel.out.trans (k5.mono HBel.out.size)⟩
      case measure => simp [intOf]; omega
    · have HBel := hideP hbel
      clear hbel
      go_wp2
      go_returns
      exact ⟨rfl, HBel.out⟩

set_option maxHeartbeats 1000000 in
theorem markI_any (lo hi : Nat) (ao : Option Addr) (ca : Nat) (k : Int) (L : List Int) (w : World) (ha : Wrt .i64 w lo hi ao L) (h1 : hi ≤ w.heap.size) (hl : L.length ≤ 1048576) (k0 : 0 ≤ k) (k1 : k ≤ 16777216) :
    Calls Try.prog 58 #[.slice ao L.length ca, .int .i64 k] w fun e w' => e = .returned (.int .i64 (k + L.length)) ∧ Far lo hi w w' ∧ Wrt .i64 w' lo hi ao (rowOf (mkI k) L.length) := by
  have hl' : (L.length : Int) ≤ 1048576 := by omega
  rcases ha with rfl | ⟨g, o, rfl, ha⟩
  · go_enter Try.func58, Try.ntmps58
    go_wp2
    refine wp_loop_rounds 1 ?_
    rw [rounds_succ]
    go_wp2
    go_returns
    exact ⟨by simp, Far.refl _ _ _, .inl rfl⟩
  · have HM : Hid (Fil .i64 w w lo hi g o L.length 0 (mkI k)) := Wrt.fil h1 ha
    clear ha
    generalize L.length = n at *
    go_enter Try.func58, Try.ntmps58
    go_wp2
    go_loopw [1, 5] (fun q i wr => ∃ j : Nat, j ≤ n ∧ i = .int .i64 j ∧ q = .int .i64 (k + j) ∧ Fil .i64 w wr lo hi g o n j (mkI k)) (fun _ i _ => n - (intOf i).toNat)
    case atStart => exact ⟨0, Nat.zero_le _, rfl, by simp, HM.out⟩
    case round =>
      obtain ⟨j, hj, rfl, rfl, M⟩ := hrel
      have hj' : (j : Int) ≤ 1048576 := by omega
      by_cases hlt : j < n
      · have hlt' : (j : Int) < (n : Int) := by omega
        obtain ⟨u0, t0⟩ := M.there j hlt
        have f := M.free
        have hgl := M.lt
        have M1 := hideP (M.step hlt)
        clear M HM
        go_wp2
        go_roundw
        case rel => exact ⟨j + 1, by omega, by go_num, by go_num, M1.out⟩
        case measure => simp [intOf]; omega
      · obtain rfl : j = n := by omega
        have M1 := hideP M
        clear M HM
        go_wp2
        go_returns
        exact ⟨rfl, M1.out.far, M1.out.wrt⟩

end Go.Proofs.Ytoipcnpemmajaaa
