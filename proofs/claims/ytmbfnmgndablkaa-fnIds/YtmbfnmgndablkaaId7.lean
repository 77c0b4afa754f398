/- NextId: both, and the law's walk. -/
import Derived.Test.YtmbfnmgndablkaaId5
import Derived.Test.YtmbfnmgndablkaaRowI
namespace Go.Proofs.Ytmbfnmgndablkaa
open Go.RowKit Go.Maps
set_option linter.unusedVariables false
attribute [local go_sem high] fI0 fI1

theorem nxC_no {L : List Int} {s : Int} (h : ¬ askF L s = 0) : nxC L s = askF L s := by unfold nxC; rw [if_neg h]
theorem nxV_no {L : List Int} {s : Int} (h : ¬ askF L s = 0) : nxV L s = 0 := by unfold nxV; rw [if_neg h]
theorem nxC_yes {L : List Int} {s : Int} (h : askF L s = 0) : nxC L s = if nxt L s = -1 then 7 else 0 := by unfold nxC; rw [if_pos h]
theorem nxV_yes {L : List Int} {s : Int} (h : askF L s = 0) : nxV L s = if nxt L s = -1 then 0 else nxt L s := by unfold nxV; rw [if_pos h]

set_option maxHeartbeats 800000 in
theorem iNextId_any (lo hi : Nat) (ao : Option Addr) (ca : Nat) (L : List Int) (s : Int) (w : World) (ha : Row .i64 w lo hi ao L) (hs : hi ≤ w.heap.size) (hl : L.length ≤ 1048576) :
    Calls Try.prog 11 #[.slice ao L.length ca, .int .i64 s] w fun e w' => e = .returned (.agg #[.int .i64 (nxC L s), .int .i64 (nxV L s)]) ∧ Below w.heap.size w w' := by
  by_cases h0 : askF L s = 0
  · obtain ⟨_, h1, h2⟩ := askF_ok h0
    rw [nxC_yes h0, nxV_yes h0]
    obtain rfl | rfl | rfl | rfl : s = 0 ∨ s = 1 ∨ s = 2 ∨ s = 3 := by omega
    · exact iNext_0 lo hi ao ca L w ha hs hl h0
    · exact iNext_1 lo hi ao ca L w ha hs hl h0
    · exact iNext_2 lo hi ao ca L w ha hs hl h0
    · exact iNext_3 lo hi ao ca L w ha hs hl h0
  · rw [nxC_no h0, nxV_no h0]
    have C := hideP (fun w1 (k : Below w.heap.size w w1) => names_no (iFor_any lo hi ao ca L s w1 (ha.keep k hs) (Nat.le_trans hs k.size) hl) h0)
    clear ha
    generalize askF L s = c at *
    have hb : (c == 0) = false := by simpa using h0
    go_enter Try.func11, Try.ntmps11
    go_wp2_with (go_at_call 33; refine Calls.mono (C.out _ (by go_grown)) ?_; rintro e w1 ⟨rfl, k1⟩; have K1 := hideP (Below.trans (by go_grown : Below w.heap.size w _) (k1.mono (by simp))); obtain ⟨c0, c1, f0, f1, lt0⟩ : Rb w1 w.heap.size (.int .i64 0) (.int .i64 0) := Rb.keep ⟨by simp, by simp, by simp, by simp, by simp⟩ k1 (by simp); clear k1)
    refine bodyPost_ret (v := .agg #[.int .i64 c, .int .i64 0]) (by simp [results, Try.results11, go_sem, *]) rfl ⟨rfl, ?_⟩
    repeat' (first | exact K1.out | (with_reducible refine Below.setCell ?_ ?_ _) | go_size)

set_option maxHeartbeats 800000 in
theorem sNextId_any (lo hi : Nat) (ao : Option Addr) (ca : Nat) (L : List Int) (s : Int) (w : World) (ha : Row .i64 w lo hi ao L) (hs : hi ≤ w.heap.size) (hl : L.length ≤ 1048576) (hca : L.length ≤ ca) :
    Calls Try.prog 20 #[.slice ao L.length ca, .int .i64 s] w fun e w' => e = .returned (.agg #[.int .i64 (nxC L s), .int .i64 (nxV L s)]) ∧ Below w.heap.size w w' := by
  have C := hideP (fun w1 (k : Below w.heap.size w w1) => sAsk_any lo hi ao ca L s w1 (ha.keep k hs) (Nat.le_trans hs k.size) hl hca)
  have HA := hideP ha
  clear ha
  by_cases h0 : askF L s = 0
  · obtain ⟨_, h1, h2⟩ := askF_ok h0
    rw [h0] at C
    have E := hideP (And.intro (nxC_yes h0) (nxV_yes h0))
    have X := hideP (fun w1 (k : Below w.heap.size w w1) => sNext_any lo hi ao ca L s w1 (HA.out.keep k hs) hl h1 h2)
    have hge : nxt L s = -1 ∨ 0 ≤ nxt L s := by
      unfold nxt
      split
      · split
        · split
          · exact .inl rfl
          · right; omega
        · right; omega
      · right; omega
    generalize nxC L s = c at *
    generalize nxV L s = v at *
    generalize nxt L s = x at *
    clear h0
    rcases hge with rfl | hge
    · obtain ⟨rfl, rfl⟩ := E.out
      go_enter Try.func20, Try.ntmps20
      go_wp2_with (first | (go_at_call 38; refine Calls.mono (C.out _ (by go_grown)) ?_; rintro e w1 ⟨rfl, k1⟩; have K1 := hideP (Below.trans (by go_grown : Below w.heap.size w _) (k1.mono (by simp))); obtain ⟨c0, c1, f0, f1, lt0⟩ : Rb w1 w.heap.size (.int .i64 0) (.int .i64 0) := Rb.keep ⟨by simp, by simp, by simp, by simp, by simp⟩ k1 (by simp); clear k1) | (go_at_call 40; refine Calls.mono (X.out _ K1.out) ?_; rintro e w2 ⟨rfl, rfl⟩))
      refine bodyPost_ret (v := .agg #[.int .i64 7, .int .i64 0]) (by simp [results, Try.results20, go_sem, *]) rfl ⟨rfl, ?_⟩
      repeat' (first | exact K1.out | (with_reducible refine Below.setCell ?_ ?_ _) | go_size)
    · have hn : ¬ x < 0 := by omega
      have hm : ¬ x = -1 := by omega
      have E' := hideP E.out
      rw [if_neg hm, if_neg hm] at E'
      obtain ⟨rfl, rfl⟩ := E'.out
      clear E E' hm hge
      go_enter Try.func20, Try.ntmps20
      go_wp2_with (first | (go_at_call 38; refine Calls.mono (C.out _ (by go_grown)) ?_; rintro e w1 ⟨rfl, k1⟩; have K1 := hideP (Below.trans (by go_grown : Below w.heap.size w _) (k1.mono (by simp))); obtain ⟨c0, c1, f0, f1, lt0⟩ : Rb w1 w.heap.size (.int .i64 0) (.int .i64 0) := Rb.keep ⟨by simp, by simp, by simp, by simp, by simp⟩ k1 (by simp); clear k1) | (go_at_call 40; refine Calls.mono (X.out _ K1.out) ?_; rintro e w2 ⟨rfl, rfl⟩))
      refine bodyPost_ret (v := .agg #[.int .i64 0, .int .i64 v]) (by simp [results, Try.results20, go_sem, *]) rfl ⟨rfl, ?_⟩
      repeat' (first | exact K1.out | (with_reducible refine Below.setCell ?_ ?_ _) | go_size)
  · rw [nxC_no h0, nxV_no h0]
    generalize askF L s = c at *
    have hb : (c == 0) = false := by simpa using h0
    go_enter Try.func20, Try.ntmps20
    go_wp2_with (go_at_call 38; refine Calls.mono (C.out _ (by go_grown)) ?_; rintro e w1 ⟨rfl, k1⟩; have K1 := hideP (Below.trans (by go_grown : Below w.heap.size w _) (k1.mono (by simp))); obtain ⟨c0, c1, f0, f1, lt0⟩ : Rb w1 w.heap.size (.int .i64 0) (.int .i64 0) := Rb.keep ⟨by simp, by simp, by simp, by simp, by simp⟩ k1 (by simp); clear k1)
    refine bodyPost_ret (v := .agg #[.int .i64 c, .int .i64 0]) (by simp [results, Try.results20, go_sem, *]) rfl ⟨rfl, ?_⟩
    repeat' (first | exact K1.out | (with_reducible refine Below.setCell ?_ ?_ _) | go_size)

set_option maxHeartbeats 400000 in
theorem next_big (ao : Option Addr) (n ca : Nat) (s : Int) (w : World) (hn : n ≤ maxLen) (h : 1048576 < n) :
    Calls Try.prog 5 #[.slice ao n ca, .int .i64 s] w fun e w' => e = .returned (.bool true) ∧ Below w.heap.size w w' := by
  unfold maxLen at hn
  have h' : (1048576 : Int) < (n : Int) := by omega
  have h2 : (n : Int) ≤ 9223372036854775807 := by omega
  go_enter Try.func5, Try.ntmps5
  go_wp2
  go_returns
  exact ⟨rfl, Below.refl _ _⟩

set_option maxHeartbeats 1000000 in
theorem next_small (ao : Option Addr) (ca : Nat) (L : List Int) (s : Int) (w : World) (hL : Row .i64 w 0 w.heap.size ao L) (h : L.length ≤ 1048576) :
    Calls Try.prog 5 #[.slice ao L.length ca, .int .i64 s] w fun e w' => e = .returned (.bool true) ∧ Below w.heap.size w w' := by
  have HL := hideP hL
  have h' : (L.length : Int) ≤ 1048576 := by omega
  obtain ⟨C, hC⟩ : ∃ C, nxC L s = C := ⟨_, rfl⟩
  obtain ⟨V, hV⟩ : ∃ V, nxV L s = V := ⟨_, rfl⟩
  have HC := hideP (And.intro hC hV)
  clear hL hC hV
  go_enter Try.func5, Try.ntmps5
  go_wp2_with fail
  refine Calls.mono (toI_any 0 w.heap.size ao ca L w HL.out (Nat.le_refl _) h) ?_
  rintro e w1 ⟨rfl, k1, n1, W1⟩
  have K1 := hideP k1
  have H1 := hideP W1
  clear k1 W1
  go_wp2_with fail
  refine Calls.mono (sNextId_any _ _ _ _ L s w1 H1.out.row (by omega) h (Nat.le_refl _)) ?_
  rintro e w2 ⟨rfl, k2⟩
  have K2 := hideP (K1.out.trans (k2.mono (by omega)))
  have hs2 := k2.size
  clear k2
  rw [HC.out.1, HC.out.2]
  go_wp2_with fail
  refine Calls.mono (toI_any 0 w.heap.size ao ca L _ ((HL.out.keep K2.out (Nat.le_refl _)).keep (B := w.heap.size) (by go_grown) (Nat.le_refl _)) (by simp; omega) h) ?_
  rintro e w3 ⟨rfl, k3, n3, W3⟩
  simp only [World.size_alloc] at n3 W3 k3 ⊢
  have B1 : Hid (Rb w3 w2.heap.size (.int .i64 C) (.int .i64 V)) := Rb.keep ⟨by simp, by simp, by simp, by simp, by simp⟩ k3 (by simp)
  have K3 := hideP (K2.out.trans (Below.trans (by go_grown : Below w.heap.size w2 _) (k3.mono (by omega))))
  have H3 := hideP W3
  clear k3 W3
  go_wp2_with fail
  refine Calls.mono (iNextId_any _ _ _ _ L s w3 H3.out.row (by omega) h) ?_
  rintro e w4 ⟨rfl, k4⟩
  have K4 := hideP (K3.out.trans (k4.mono (by omega)))
  have H4 := hideP (H3.out.keep k4 (by omega))
  have B4 := hideP (B1.out.keep k4 B1.out.lt)
  have hs4 := k4.size
  clear k4
  rw [HC.out.1, HC.out.2]
  obtain ⟨c0, c1, f0, f1, lt0⟩ := B4.out
  go_wp2_with fail
  refine Calls.mono (eqIR5_same C V _) ?_
  rintro e w5 ⟨rfl, k5⟩
  have K5 := hideP (K4.out.trans (Below.trans (by go_grown : Below w.heap.size w4 _) (k5.mono (by simp; omega))))
  have H5 := hideP ((H4.out.keep (B := w4.heap.size) (by go_grown) (by omega)).keep k5 (by simp; omega))
  have hs5 := k5.size
  simp only [World.size_alloc] at hs5
  clear k5 c0 c1 f0 f1 lt0
  go_wp2_with fail
  refine Calls.mono (toI_any 0 w.heap.size ao ca L _ (HL.out.keep K5.out (Nat.le_refl _)) (by omega) h) ?_
  rintro e w6 ⟨rfl, k6, n6, W6⟩
  have K6 := hideP (K5.out.trans (k6.mono (by omega)))
  have H6 := hideP W6
  have H36 := hideP (H5.out.keep k6 (by omega))
  clear k6 W6
  go_wp2_with fail
  refine Calls.mono (eqI_same _ _ _ _ _ _ _ _ L w6 H36.out.row H6.out.row (by omega) (by omega) h) ?_
  rintro e w7 ⟨rfl, k7⟩
  have K7 := hideP (K6.out.trans (k7.mono (by omega)))
  clear k7
  go_wp2
  go_returns
  exact ⟨rfl, K7.out⟩

theorem next_law (ao : Option Addr) (ca : Nat) (L : List Int) (s : Int) (w : World) (hm : L.length ≤ maxLen) (hL : Row .i64 w 0 w.heap.size ao L) (hw : ∀ n ∈ L, (Lit.int .i64 n).wf = true) :
    Calls Try.prog 5 #[.slice ao L.length ca, .int .i64 s] w fun e w' => e = .returned (.bool true) ∧ Below w.heap.size w w' := by
  by_cases h : L.length ≤ 1048576
  · exact next_small ao ca L s w hL h
  · exact next_big ao L.length ca s w hm (by omega)

end Go.Proofs.Ytmbfnmgndablkaa
