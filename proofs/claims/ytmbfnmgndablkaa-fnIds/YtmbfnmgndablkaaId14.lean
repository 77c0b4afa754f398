/- Lists of ids: those of a slot alone, and those of others; what is free there. Mathematics; lwNums; what FnIds draws. -/
import Derived.Test.YtmbfnmgndablkaaId9
import Derived.Test.YtmbfnmgndablkaaDrawI
namespace Go.Proofs.Ytmbfnmgndablkaa
open Go.RowKit
set_option linter.unusedVariables false

theorem own_len_off (L : List Int) (s : Int) : (ownL L s).length + (offL L s).length = L.length := by
  induction L with
  | nil => rfl
  | cons x r ih =>
    unfold ownL offL at ih ⊢
    rw [List.filter_cons, List.filter_cons]
    cases h : slV x == s
    · simp only [Bool.not_false, if_true, Bool.false_eq_true, if_false, List.length_cons]; omega
    · simp only [Bool.not_true, if_true, Bool.false_eq_true, if_false, List.length_cons]; omega
theorem idsF_own {L : List Int} {s : Int} (h : idsF L = 0) : idsF (ownL L s) = 0 := by
  obtain ⟨a, b⟩ := idsF_ok h
  exact idsF_mk (Nat.le_trans (ownL_len L s) (idsF_len h)) (fun x hx => a x (List.mem_filter.1 hx).1) (b.filter _)
theorem idsF_off {L : List Int} {s : Int} (h : idsF L = 0) : idsF (offL L s) = 0 := by
  obtain ⟨a, b⟩ := idsF_ok h
  exact idsF_mk (Nat.le_trans (offL_len L s) (idsF_len h)) (fun x hx => a x (List.mem_filter.1 hx).1) (b.filter _)
theorem id_of {s i : Int} (h0 : 0 ≤ s) (h3 : s ≤ 3) (i1 : 1 ≤ i) (i3 : i ≤ 3) : okId (64 * s + i) = true ∧ slV (64 * s + i) = s := by
  have h : okId (64 * s + i) = true := okId_iff.2 (by omega)
  exact ⟨h, by rw [slV_yes h]; omega⟩
theorem has_own {L : List Int} {s i : Int} (h0 : 0 ≤ s) (h3 : s ≤ 3) (i1 : 1 ≤ i) (i3 : i ≤ 3) : (ownL L s).contains (64 * s + i) = L.contains (64 * s + i) := by
  rw [Bool.eq_iff_iff]
  simp [ownL, (id_of h0 h3 i1 i3).2]
theorem has_off {L : List Int} {s i : Int} (h0 : 0 ≤ s) (h3 : s ≤ 3) (i1 : 1 ≤ i) (i3 : i ≤ 3) : (offL L s).contains (64 * s + i) = false := by
  rw [Bool.eq_false_iff]
  simp [offL, (id_of h0 h3 i1 i3).2]
theorem nxt_own {L : List Int} {s : Int} (h0 : 0 ≤ s) (h3 : s ≤ 3) : nxt (ownL L s) s = nxt L s := by
  unfold nxt
  rw [has_own h0 h3 (by omega) (by omega), has_own h0 h3 (by omega) (by omega), has_own h0 h3 (by omega) (by omega)]
theorem nxt_off {L : List Int} {s : Int} (h0 : 0 ≤ s) (h3 : s ≤ 3) : nxt (offL L s) s = 64 * s + 1 := by
  unfold nxt
  rw [has_off h0 h3 (by omega) (by omega)]
  rfl
theorem nxt_free {L : List Int} {s : Int} (h0 : 0 ≤ s) (h3 : s ≤ 3) (h : nxt L s ≠ -1) : nxt L s ∉ L ∧ okId (nxt L s) = true ∧ slV (nxt L s) = s := by
  unfold nxt at h ⊢
  cases b1 : L.contains (64 * s + 1)
  · simp only [Bool.false_eq_true, if_false]
    exact ⟨by simpa using b1, id_of h0 h3 (by omega) (by omega)⟩
  · cases b2 : L.contains (64 * s + 2)
    · simp only [Bool.false_eq_true, if_false, if_true]
      exact ⟨by simpa using b2, id_of h0 h3 (by omega) (by omega)⟩
    · cases b3 : L.contains (64 * s + 3)
      · simp only [Bool.false_eq_true, if_false, if_true]
        exact ⟨by simpa using b3, id_of h0 h3 (by omega) (by omega)⟩
      · rw [b1, b2, b3] at h
        exact absurd rfl h

set_option maxHeartbeats 1000000 in
theorem nums_same (lo hi lo2 hi2 : Nat) (ao bo : Option Addr) (ca cb : Nat) (L : List Int) (w : World) (ha : Row .i64 w lo hi ao L) (hb : Row .i64 w lo2 hi2 bo L) (h1 : hi ≤ w.heap.size) (h2 : hi2 ≤ w.heap.size) (hl : L.length ≤ 1048576) :
    Calls Try.prog 18 #[.slice ao L.length ca, .slice bo L.length cb] w fun e w' => e = .returned (.bool true) ∧ Below w.heap.size w w' := by
  have hl' : (L.length : Int) ≤ 1048576 := by omega
  have HA := hideP ha
  have HB := hideP hb
  clear ha hb
  go_enter Try.func18, Try.ntmps18
  go_wp2
  go_loopw [5] (fun i wr => ∃ k : Nat, k ≤ L.length ∧ i = .int .i64 k ∧ Below w.heap.size w wr) (fun i _ => L.length - (intOf i).toNat)
  case atStart => exact ⟨0, Nat.zero_le _, rfl, Below.refl _ _⟩
  case round =>
    obtain ⟨k, hk, rfl, hbel⟩ := hrel
    have hz := hbel.size
    by_cases hlt : k < L.length
    · have hlt' : (k : Int) < (L.length : Int) := by omega
      have hne : L ≠ [] := fun e => by rw [e] at hlt; simp at hlt
      rcases HA.out with e | ⟨g, o, rfl, _, hg, hc⟩
      · exact absurd e hne
      rcases HB.out with e | ⟨g', o', rfl, _, hg', hc'⟩
      · exact absurd e hne
      have a0 := (hbel.cell (p := ⟨g, o + k, none⟩) (by show g < _; omega)).trans (hc k hlt)
      have b0 := (hbel.cell (p := ⟨g', o' + k, none⟩) (by show g' < _; omega)).trans (hc' k hlt)
      have hgl : g < wr.heap.size := by omega
      have hgl' : g' < wr.heap.size := by omega
      have HBel := hideP hbel
      clear hc hc' hbel HA HB
      generalize L[k] = x at *
      go_wp2
      refine wp_region_kept (by kernel_rfl) (by kernel_rfl) ?_
      repeat (refine kept_step (by rfl) ?_; apply Exists.intro; refine ⟨fun w1 k1 => ?_, fun K hK => ?_⟩; (focus (have hc := Kept.cell k1; go_simp; first | done | rfl)); (go_simp; refine hK _ ?_; clear hK K))
      refine wpQuiet_nil ?_
      intro w5 k5
      replace k5 := Kept.below k5
      have hc5 := Kept.cell k5
      have hf5 := Kept.frozen k5
      have hz5 := k5.size
      try simp only [World.size_alloc] at hz5
      try simp only [World.size_setCell] at hz5
      try simp only [World.size_drew] at hz5
      try (first | have hs5 := sz12 hz5 | have hs5 := sz11 hz5 | have hs5 := sz10 hz5 | have hs5 := sz9 hz5 | have hs5 := sz8 hz5 | have hs5 := sz7 hz5 | have hs5 := sz6 hz5 | have hs5 := sz5 hz5 | have hs5 := sz4 hz5 | have hs5 := sz3 hz5 | have hs5 := sz2 hz5 | have hs5 := sz1 hz5)
      go_wp2
      go_roundw
      case rel => exact ⟨k + 1, by omega, by go_num, HBel.out.trans (k5.mono HBel.out.size)⟩
      case measure => simp [intOf]; omega
    · have HBel := hideP hbel
      clear hbel
      go_wp2
      go_returns
      exact ⟨rfl, HBel.out⟩

set_option maxHeartbeats 400000 in
theorem big5 (w : World) (a : Option Addr) (len cap : Nat) (hl : len ≤ maxLen) :
    Calls Try.prog 9 #[.slice a len cap] w fun e w' => e = .returned (.bool (decide ((1048576 : Int) < (len : Int)))) ∧ w' = w := by
  go_enter Try.func9, Try.ntmps9
  go_wp2
  go_returns
  exact ⟨rfl, rfl⟩

theorem Src.new5 (w W : World) (b : Nat) (a : Option Addr) (len cap : Nat) (f : Nat → Int) (T : TypeId) (hB : Bytes w w.heap.size a len f) (hl : len ≤ 1048576) (hW : Below w.heap.size w W) (hb : b = W.heap.size) :
    Src (W.alloc (.cells #[.slice a len cap, .int .i64 0] T)) w.heap.size b a len cap f 0 := by
  subst hb
  exact ⟨by simp, hW.size, by simp [go_sem], by simp [go_sem], by simp [go_sem], hB.stay (Nat.le_refl _) (Turn.of_below (b := w.heap.size) (hW.alloc hW.size _)) (Nat.le_refl _), hl⟩

/-- Ids and a slot were drawn. -/
def DrawS (w : World) (e : Ending) (w' : World) : Prop :=
  ∃ (ao : Option Addr) (ca : Nat) (L : List Int) (s : Int), e = .returned (.tuple #[.slice ao L.length ca, .int .i64 s]) ∧ L.length ≤ 13 ∧ L.length ≤ ca ∧ 0 ≤ s ∧ s ≤ 4 ∧ Below w.heap.size w w' ∧ Row .i64 w' w.heap.size w'.heap.size ao L

set_option maxRecDepth 100000 in
set_option maxHeartbeats 1000000 in
theorem drawNext_any (w : World) (a : Option Addr) (len cap : Nat) (f : Nat → Int) (hB : Bytes w w.heap.size a len f) (hl : len ≤ 1048576) :
    Calls Try.prog 10 #[.slice a len cap] w (DrawS w) := by
  have S0 := hideP (Src.new5 w w w.heap.size a len cap f 59 hB hl (Below.refl _ _) rfl)
  clear hB
  go_enter Try.func10, Try.ntmps10
  go_wp2_with (first | (go_at_call 30; go_in))
  refine Calls.mono (draw5_any _ _ _ a len cap f 0 S0.out (by omega) (by omega)) ?_
  rintro e w1 ⟨ao, ca, L, u, rfl, hL, u0, u1, M1⟩
  have HM := hideP M1
  have n1 := M1.turn.size
  simp only [World.size_alloc] at n1
  clear M1 S0
  go_wp2_with fail
  refine Calls.mono (pick5 (fun x => 0 ≤ x ∧ x ≤ 4) w1 _ _ a len cap f u _ 2 5 w1.heap.size rfl (inbL5 [0, 1, 2, 3, 4] (by simp)) HM.out.src (by omega) (by omega) (by omega) (by omega)) ?_
  rintro e w2 ⟨r, rfl, ⟨r0, r1⟩, ht2, hs2⟩
  have K2 : Hid (Below w.heap.size w w2) := hideP (Turn.below ((Below.refl _ w).alloc (Nat.le_refl _) _) (Nat.le_refl _) (by simp) (HM.out.turn.trans ht2))
  have O2 := hideP ((HM.out.own.turn5 ht2 (by simp)).le (base' := w.heap.size) (by simp))
  clear HM ht2 hs2
  go_wp2
  refine bodyPost_ret (v := .tuple #[.slice ao L.length ca, .int .i64 r]) (by simp [results, Try.results10, go_sem]) rfl ⟨ao, ca, L, r, rfl, hL, O2.out.room, r0, r1, K2.out, O2.out.wrt.row⟩

set_option maxRecDepth 100000 in
set_option maxHeartbeats 1000000 in
theorem drawSlot_any (w : World) (a : Option Addr) (len cap : Nat) (f : Nat → Int) (hB : Bytes w w.heap.size a len f) (hl : len ≤ 1048576) :
    Calls Try.prog 14 #[.slice a len cap] w fun e w' => ∃ x : Int, e = .returned (.int .i64 x) ∧ Below w.heap.size w w' := by
  have S0 := hideP (Src.new5 w w w.heap.size a len cap f 59 hB hl (Below.refl _ _) rfl)
  clear hB
  go_enter Try.func14, Try.ntmps14
  go_wp2_with (first | (go_at_call 30; go_in))
  refine Calls.mono (next_any _ _ _ a len cap f 0 256 S0.out (by omega) (by omega) (by omega) (by omega)) ?_
  rintro e w1 ⟨x, rfl, x0, x1, ht1, hs1⟩
  have HS1 := hideP hs1
  have HT1 := hideP ht1
  clear ht1 hs1 S0
  go_wp2_with fail
  refine Calls.mono (pick5 (fun _ => True) w1 _ _ a len cap f (0 + 1) _ 2 6 w1.heap.size rfl (inbL5 [x, 1, 195, 196, 64, -1] (by simp)) HS1.out (by omega) (by omega) (by omega) (by omega)) ?_
  rintro e w2 ⟨r, rfl, -, ht2, hs2⟩
  have K2 : Hid (Below w.heap.size w w2) := hideP (Turn.below ((Below.refl _ w).alloc (Nat.le_refl _) _) (Nat.le_refl _) (by simp) (HT1.out.trans ht2))
  clear ht2 hs2 HS1 HT1
  go_wp2
  go_returns
  exact ⟨r, rfl, K2.out⟩
end Go.Proofs.Ytmbfnmgndablkaa
