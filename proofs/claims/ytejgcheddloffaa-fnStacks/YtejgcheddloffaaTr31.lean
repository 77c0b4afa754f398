/- The lowest free id of a slot: walks, one for each slot and each case. (Written by genid.py.) -/
import Derived.Test.YtejgcheddloffaaTr14
namespace Go.Proofs.Ytejgcheddloffaa
open Go.RowKit Go.Maps
set_option linter.unusedVariables false
attribute [local go_sem high] fI0 fI1

set_option maxHeartbeats 1000000 in
theorem sNext_0 (lo hi : Nat) (ao : Option Addr) (ca : Nat) (L : List Int) (w : World) (ha : Row .i64 w lo hi ao L) (hl : L.length ≤ 1048576) :
    Calls Try.prog 43 #[.slice ao L.length ca, .int .i64 0] w fun e w' => e = .returned (.int .i64 (nxt L 0)) ∧ w' = w := by
  have C := hideP (fun v => sHas_any lo hi ao ca L v w ha hl)
  clear ha
  cases b1 : hasI L 1
  · have E : Hid (1 = nxt L 0) := (nxt_1 (s := 0) b1).symm
    generalize nxt L 0 = N at *
    go_enter Try.func43, Try.ntmps43
    go_wp2
    refine wp_loop_rounds 4 ?_
    rw [rounds_succ]
    go_wp2_with (go_at_call 68; refine Calls.mono (C.out _) ?_; rintro e w1 ⟨rfl, rfl⟩; rw [b1])
    go_returns
    exact ⟨congrArg (fun x => Ending.returned (.int .i64 x)) E.out, rfl⟩
  cases b2 : hasI L 2
  · have E : Hid (2 = nxt L 0) := (nxt_2 (s := 0) b1 b2).symm
    generalize nxt L 0 = N at *
    go_enter Try.func43, Try.ntmps43
    go_wp2
    refine wp_loop_rounds 4 ?_
    rw [rounds_succ]
    go_wp2_with (go_at_call 68; refine Calls.mono (C.out _) ?_; rintro e w1 ⟨rfl, rfl⟩; rw [b1])
    rw [rounds_succ]
    go_wp2_with (go_at_call 68; refine Calls.mono (C.out _) ?_; rintro e w1 ⟨rfl, rfl⟩; rw [b2])
    go_returns
    exact ⟨congrArg (fun x => Ending.returned (.int .i64 x)) E.out, rfl⟩
  cases b3 : hasI L 3
  · have E : Hid (3 = nxt L 0) := (nxt_3 (s := 0) b1 b2 b3).symm
    generalize nxt L 0 = N at *
    go_enter Try.func43, Try.ntmps43
    go_wp2
    refine wp_loop_rounds 4 ?_
    rw [rounds_succ]
    go_wp2_with (go_at_call 68; refine Calls.mono (C.out _) ?_; rintro e w1 ⟨rfl, rfl⟩; rw [b1])
    rw [rounds_succ]
    go_wp2_with (go_at_call 68; refine Calls.mono (C.out _) ?_; rintro e w1 ⟨rfl, rfl⟩; rw [b2])
    rw [rounds_succ]
    go_wp2_with (go_at_call 68; refine Calls.mono (C.out _) ?_; rintro e w1 ⟨rfl, rfl⟩; rw [b3])
    go_returns
    exact ⟨congrArg (fun x => Ending.returned (.int .i64 x)) E.out, rfl⟩
  have E : Hid (-1 = nxt L 0) := (nxt_4 (s := 0) b1 b2 b3).symm
  generalize nxt L 0 = N at *
  go_enter Try.func43, Try.ntmps43
  go_wp2
  refine wp_loop_rounds 4 ?_
  rw [rounds_succ]
  go_wp2_with (go_at_call 68; refine Calls.mono (C.out _) ?_; rintro e w1 ⟨rfl, rfl⟩; rw [b1])
  rw [rounds_succ]
  go_wp2_with (go_at_call 68; refine Calls.mono (C.out _) ?_; rintro e w1 ⟨rfl, rfl⟩; rw [b2])
  rw [rounds_succ]
  go_wp2_with (go_at_call 68; refine Calls.mono (C.out _) ?_; rintro e w1 ⟨rfl, rfl⟩; rw [b3])
  rw [rounds_succ]
  go_wp2
  go_returns
  exact ⟨congrArg (fun x => Ending.returned (.int .i64 x)) E.out, rfl⟩

set_option maxHeartbeats 1000000 in
theorem sNext_1 (lo hi : Nat) (ao : Option Addr) (ca : Nat) (L : List Int) (w : World) (ha : Row .i64 w lo hi ao L) (hl : L.length ≤ 1048576) :
    Calls Try.prog 43 #[.slice ao L.length ca, .int .i64 1] w fun e w' => e = .returned (.int .i64 (nxt L 1)) ∧ w' = w := by
  have C := hideP (fun v => sHas_any lo hi ao ca L v w ha hl)
  clear ha
  cases b1 : hasI L 65
  · have E : Hid (65 = nxt L 1) := (nxt_1 (s := 1) b1).symm
    generalize nxt L 1 = N at *
    go_enter Try.func43, Try.ntmps43
    go_wp2
    refine wp_loop_rounds 4 ?_
    rw [rounds_succ]
    go_wp2_with (go_at_call 68; refine Calls.mono (C.out _) ?_; rintro e w1 ⟨rfl, rfl⟩; rw [b1])
    go_returns
    exact ⟨congrArg (fun x => Ending.returned (.int .i64 x)) E.out, rfl⟩
  cases b2 : hasI L 66
  · have E : Hid (66 = nxt L 1) := (nxt_2 (s := 1) b1 b2).symm
    generalize nxt L 1 = N at *
    go_enter Try.func43, Try.ntmps43
    go_wp2
    refine wp_loop_rounds 4 ?_
    rw [rounds_succ]
    go_wp2_with (go_at_call 68; refine Calls.mono (C.out _) ?_; rintro e w1 ⟨rfl, rfl⟩; rw [b1])
    rw [rounds_succ]
    go_wp2_with (go_at_call 68; refine Calls.mono (C.out _) ?_; rintro e w1 ⟨rfl, rfl⟩; rw [b2])
    go_returns
    exact ⟨congrArg (fun x => Ending.returned (.int .i64 x)) E.out, rfl⟩
  cases b3 : hasI L 67
  · have E : Hid (67 = nxt L 1) := (nxt_3 (s := 1) b1 b2 b3).symm
    generalize nxt L 1 = N at *
    go_enter Try.func43, Try.ntmps43
    go_wp2
    refine wp_loop_rounds 4 ?_
    rw [rounds_succ]
    go_wp2_with (go_at_call 68; refine Calls.mono (C.out _) ?_; rintro e w1 ⟨rfl, rfl⟩; rw [b1])
    rw [rounds_succ]
    go_wp2_with (go_at_call 68; refine Calls.mono (C.out _) ?_; rintro e w1 ⟨rfl, rfl⟩; rw [b2])
    rw [rounds_succ]
    go_wp2_with (go_at_call 68; refine Calls.mono (C.out _) ?_; rintro e w1 ⟨rfl, rfl⟩; rw [b3])
    go_returns
    exact ⟨congrArg (fun x => Ending.returned (.int .i64 x)) E.out, rfl⟩
  have E : Hid (-1 = nxt L 1) := (nxt_4 (s := 1) b1 b2 b3).symm
  generalize nxt L 1 = N at *
  go_enter Try.func43, Try.ntmps43
  go_wp2
  refine wp_loop_rounds 4 ?_
  rw [rounds_succ]
  go_wp2_with (go_at_call 68; refine Calls.mono (C.out _) ?_; rintro e w1 ⟨rfl, rfl⟩; rw [b1])
  rw [rounds_succ]
  go_wp2_with (go_at_call 68; refine Calls.mono (C.out _) ?_; rintro e w1 ⟨rfl, rfl⟩; rw [b2])
  rw [rounds_succ]
  go_wp2_with (go_at_call 68; refine Calls.mono (C.out _) ?_; rintro e w1 ⟨rfl, rfl⟩; rw [b3])
  rw [rounds_succ]
  go_wp2
  go_returns
  exact ⟨congrArg (fun x => Ending.returned (.int .i64 x)) E.out, rfl⟩

set_option maxHeartbeats 1000000 in
theorem sNext_2 (lo hi : Nat) (ao : Option Addr) (ca : Nat) (L : List Int) (w : World) (ha : Row .i64 w lo hi ao L) (hl : L.length ≤ 1048576) :
    Calls Try.prog 43 #[.slice ao L.length ca, .int .i64 2] w fun e w' => e = .returned (.int .i64 (nxt L 2)) ∧ w' = w := by
  have C := hideP (fun v => sHas_any lo hi ao ca L v w ha hl)
  clear ha
  cases b1 : hasI L 129
  · have E : Hid (129 = nxt L 2) := (nxt_1 (s := 2) b1).symm
    generalize nxt L 2 = N at *
    go_enter Try.func43, Try.ntmps43
    go_wp2
    refine wp_loop_rounds 4 ?_
    rw [rounds_succ]
    go_wp2_with (go_at_call 68; refine Calls.mono (C.out _) ?_; rintro e w1 ⟨rfl, rfl⟩; rw [b1])
    go_returns
    exact ⟨congrArg (fun x => Ending.returned (.int .i64 x)) E.out, rfl⟩
  cases b2 : hasI L 130
  · have E : Hid (130 = nxt L 2) := (nxt_2 (s := 2) b1 b2).symm
    generalize nxt L 2 = N at *
    go_enter Try.func43, Try.ntmps43
    go_wp2
    refine wp_loop_rounds 4 ?_
    rw [rounds_succ]
    go_wp2_with (go_at_call 68; refine Calls.mono (C.out _) ?_; rintro e w1 ⟨rfl, rfl⟩; rw [b1])
    rw [rounds_succ]
    go_wp2_with (go_at_call 68; refine Calls.mono (C.out _) ?_; rintro e w1 ⟨rfl, rfl⟩; rw [b2])
    go_returns
    exact ⟨congrArg (fun x => Ending.returned (.int .i64 x)) E.out, rfl⟩
  cases b3 : hasI L 131
  · have E : Hid (131 = nxt L 2) := (nxt_3 (s := 2) b1 b2 b3).symm
    generalize nxt L 2 = N at *
    go_enter Try.func43, Try.ntmps43
    go_wp2
    refine wp_loop_rounds 4 ?_
    rw [rounds_succ]
    go_wp2_with (go_at_call 68; refine Calls.mono (C.out _) ?_; rintro e w1 ⟨rfl, rfl⟩; rw [b1])
    rw [rounds_succ]
    go_wp2_with (go_at_call 68; refine Calls.mono (C.out _) ?_; rintro e w1 ⟨rfl, rfl⟩; rw [b2])
    rw [rounds_succ]
    go_wp2_with (go_at_call 68; refine Calls.mono (C.out _) ?_; rintro e w1 ⟨rfl, rfl⟩; rw [b3])
    go_returns
    exact ⟨congrArg (fun x => Ending.returned (.int .i64 x)) E.out, rfl⟩
  have E : Hid (-1 = nxt L 2) := (nxt_4 (s := 2) b1 b2 b3).symm
  generalize nxt L 2 = N at *
  go_enter Try.func43, Try.ntmps43
  go_wp2
  refine wp_loop_rounds 4 ?_
  rw [rounds_succ]
  go_wp2_with (go_at_call 68; refine Calls.mono (C.out _) ?_; rintro e w1 ⟨rfl, rfl⟩; rw [b1])
  rw [rounds_succ]
  go_wp2_with (go_at_call 68; refine Calls.mono (C.out _) ?_; rintro e w1 ⟨rfl, rfl⟩; rw [b2])
  rw [rounds_succ]
  go_wp2_with (go_at_call 68; refine Calls.mono (C.out _) ?_; rintro e w1 ⟨rfl, rfl⟩; rw [b3])
  rw [rounds_succ]
  go_wp2
  go_returns
  exact ⟨congrArg (fun x => Ending.returned (.int .i64 x)) E.out, rfl⟩

set_option maxHeartbeats 1000000 in
theorem sNext_3 (lo hi : Nat) (ao : Option Addr) (ca : Nat) (L : List Int) (w : World) (ha : Row .i64 w lo hi ao L) (hl : L.length ≤ 1048576) :
    Calls Try.prog 43 #[.slice ao L.length ca, .int .i64 3] w fun e w' => e = .returned (.int .i64 (nxt L 3)) ∧ w' = w := by
  have C := hideP (fun v => sHas_any lo hi ao ca L v w ha hl)
  clear ha
  cases b1 : hasI L 193
  · have E : Hid (193 = nxt L 3) := (nxt_1 (s := 3) b1).symm
    generalize nxt L 3 = N at *
    go_enter Try.func43, Try.ntmps43
    go_wp2
    refine wp_loop_rounds 4 ?_
    rw [rounds_succ]
    go_wp2_with (go_at_call 68; refine Calls.mono (C.out _) ?_; rintro e w1 ⟨rfl, rfl⟩; rw [b1])
    go_returns
    exact ⟨congrArg (fun x => Ending.returned (.int .i64 x)) E.out, rfl⟩
  cases b2 : hasI L 194
  · have E : Hid (194 = nxt L 3) := (nxt_2 (s := 3) b1 b2).symm
    generalize nxt L 3 = N at *
    go_enter Try.func43, Try.ntmps43
    go_wp2
    refine wp_loop_rounds 4 ?_
    rw [rounds_succ]
    go_wp2_with (go_at_call 68; refine Calls.mono (C.out _) ?_; rintro e w1 ⟨rfl, rfl⟩; rw [b1])
    rw [rounds_succ]
    go_wp2_with (go_at_call 68; refine Calls.mono (C.out _) ?_; rintro e w1 ⟨rfl, rfl⟩; rw [b2])
    go_returns
    exact ⟨congrArg (fun x => Ending.returned (.int .i64 x)) E.out, rfl⟩
  cases b3 : hasI L 195
  · have E : Hid (195 = nxt L 3) := (nxt_3 (s := 3) b1 b2 b3).symm
    generalize nxt L 3 = N at *
    go_enter Try.func43, Try.ntmps43
    go_wp2
    refine wp_loop_rounds 4 ?_
    rw [rounds_succ]
    go_wp2_with (go_at_call 68; refine Calls.mono (C.out _) ?_; rintro e w1 ⟨rfl, rfl⟩; rw [b1])
    rw [rounds_succ]
    go_wp2_with (go_at_call 68; refine Calls.mono (C.out _) ?_; rintro e w1 ⟨rfl, rfl⟩; rw [b2])
    rw [rounds_succ]
    go_wp2_with (go_at_call 68; refine Calls.mono (C.out _) ?_; rintro e w1 ⟨rfl, rfl⟩; rw [b3])
    go_returns
    exact ⟨congrArg (fun x => Ending.returned (.int .i64 x)) E.out, rfl⟩
  have E : Hid (-1 = nxt L 3) := (nxt_4 (s := 3) b1 b2 b3).symm
  generalize nxt L 3 = N at *
  go_enter Try.func43, Try.ntmps43
  go_wp2
  refine wp_loop_rounds 4 ?_
  rw [rounds_succ]
  go_wp2_with (go_at_call 68; refine Calls.mono (C.out _) ?_; rintro e w1 ⟨rfl, rfl⟩; rw [b1])
  rw [rounds_succ]
  go_wp2_with (go_at_call 68; refine Calls.mono (C.out _) ?_; rintro e w1 ⟨rfl, rfl⟩; rw [b2])
  rw [rounds_succ]
  go_wp2_with (go_at_call 68; refine Calls.mono (C.out _) ?_; rintro e w1 ⟨rfl, rfl⟩; rw [b3])
  rw [rounds_succ]
  go_wp2
  go_returns
  exact ⟨congrArg (fun x => Ending.returned (.int .i64 x)) E.out, rfl⟩

theorem sNext_any (lo hi : Nat) (ao : Option Addr) (ca : Nat) (L : List Int) (s : Int) (w : World) (ha : Row .i64 w lo hi ao L) (hl : L.length ≤ 1048576) (h0 : 0 ≤ s) (h3 : s ≤ 3) :
    Calls Try.prog 43 #[.slice ao L.length ca, .int .i64 s] w fun e w' => e = .returned (.int .i64 (nxt L s)) ∧ w' = w := by
  obtain rfl | rfl | rfl | rfl : s = 0 ∨ s = 1 ∨ s = 2 ∨ s = 3 := by omega
  · exact sNext_0 lo hi ao ca L w ha hl
  · exact sNext_1 lo hi ao ca L w ha hl
  · exact sNext_2 lo hi ao ca L w ha hl
  · exact sNext_3 lo hi ao ca L w ha hl

set_option maxHeartbeats 1000000 in
theorem iNext_0 (lo hi : Nat) (ao : Option Addr) (ca : Nat) (L : List Int) (w : World) (ha : Row .i64 w lo hi ao L) (hs : hi ≤ w.heap.size) (hl : L.length ≤ 1048576) (h0 : askF L 0 = 0) :
    Calls Try.prog 24 #[.slice ao L.length ca, .int .i64 0] w fun e w' => e = .returned (.agg #[.int .i64 (if nxt L 0 = -1 then 7 else 0), .int .i64 (if nxt L 0 = -1 then 0 else nxt L 0)]) ∧ Below w.heap.size w w' := by
  have C := hideP (fun w1 (k : Below w.heap.size w w1) => names_yes (iFor_any lo hi ao ca L 0 w1 (ha.keep k hs) (Nat.le_trans hs k.size) hl) h0)
  clear ha h0
  cases b1 : hasI L 1
  · rw [nxt_1 (s := 0) b1]
    go_enter Try.func24, Try.ntmps24
    go_wp2_with (go_at_call 52; refine Calls.mono (C.out _ (by go_grown)) ?_; rintro e w1 ⟨rfl, k1, l1, n1⟩; have K1 := hideP (Below.trans (by go_grown : Below w.heap.size w _) (k1.mono (by simp))); have RB : Hid (Rb w1 w.heap.size (.int .i64 0) (.int .i64 0)) := Rb.keep ⟨by simp, by simp, by simp, by simp, by simp⟩ k1 (by simp); obtain ⟨c0, c1, f0, f1, lt0⟩ := RB.out; simp only [World.size_alloc] at n1; have N1 := hideP n1; clear k1 n1)
    refine wp_loop_rounds 4 ?_
    rw [rounds_succ]
    go_wp2_with (go_at_call 53; refine Calls.mono (iHas_any _ L.length (hasI L) 1 _ N1.out (wf5 (by omega) (by omega))) ?_; rintro e w2 ⟨rfl, k2⟩; replace K1 := hideP (K1.out.trans (k2.mono K1.out.size)); replace RB := hideP (RB.out.keep k2 RB.out.lt); clear c0 c1 f0 f1 lt0; obtain ⟨c0, c1, f0, f1, lt0⟩ := RB.out; replace N1 := hideP (N1.out.keep k2 N1.out.lt); clear k2; rw [b1])
    refine bodyPost_ret (v := .agg #[.int .i64 0, .int .i64 1]) (by simp [results, Try.results24, go_sem, *]) rfl ⟨by simp, ?_⟩
    repeat' (first | exact K1.out | (with_reducible refine Below.setCell ?_ ?_ _) | go_size)
  cases b2 : hasI L 2
  · rw [nxt_2 (s := 0) b1 b2]
    go_enter Try.func24, Try.ntmps24
    go_wp2_with (go_at_call 52; refine Calls.mono (C.out _ (by go_grown)) ?_; rintro e w1 ⟨rfl, k1, l1, n1⟩; have K1 := hideP (Below.trans (by go_grown : Below w.heap.size w _) (k1.mono (by simp))); have RB : Hid (Rb w1 w.heap.size (.int .i64 0) (.int .i64 0)) := Rb.keep ⟨by simp, by simp, by simp, by simp, by simp⟩ k1 (by simp); obtain ⟨c0, c1, f0, f1, lt0⟩ := RB.out; simp only [World.size_alloc] at n1; have N1 := hideP n1; clear k1 n1)
    refine wp_loop_rounds 4 ?_
    rw [rounds_succ]
    go_wp2_with (go_at_call 53; refine Calls.mono (iHas_any _ L.length (hasI L) 1 _ N1.out (wf5 (by omega) (by omega))) ?_; rintro e w2 ⟨rfl, k2⟩; replace K1 := hideP (K1.out.trans (k2.mono K1.out.size)); replace RB := hideP (RB.out.keep k2 RB.out.lt); clear c0 c1 f0 f1 lt0; obtain ⟨c0, c1, f0, f1, lt0⟩ := RB.out; replace N1 := hideP (N1.out.keep k2 N1.out.lt); clear k2; rw [b1])
    rw [rounds_succ]
    go_wp2_with (go_at_call 53; refine Calls.mono (iHas_any _ L.length (hasI L) 2 _ N1.out (wf5 (by omega) (by omega))) ?_; rintro e w2 ⟨rfl, k2⟩; replace K1 := hideP (K1.out.trans (k2.mono K1.out.size)); replace RB := hideP (RB.out.keep k2 RB.out.lt); clear c0 c1 f0 f1 lt0; obtain ⟨c0, c1, f0, f1, lt0⟩ := RB.out; replace N1 := hideP (N1.out.keep k2 N1.out.lt); clear k2; rw [b2])
    refine bodyPost_ret (v := .agg #[.int .i64 0, .int .i64 2]) (by simp [results, Try.results24, go_sem, *]) rfl ⟨by simp, ?_⟩
    repeat' (first | exact K1.out | (with_reducible refine Below.setCell ?_ ?_ _) | go_size)
  cases b3 : hasI L 3
  · rw [nxt_3 (s := 0) b1 b2 b3]
    go_enter Try.func24, Try.ntmps24
    go_wp2_with (go_at_call 52; refine Calls.mono (C.out _ (by go_grown)) ?_; rintro e w1 ⟨rfl, k1, l1, n1⟩; have K1 := hideP (Below.trans (by go_grown : Below w.heap.size w _) (k1.mono (by simp))); have RB : Hid (Rb w1 w.heap.size (.int .i64 0) (.int .i64 0)) := Rb.keep ⟨by simp, by simp, by simp, by simp, by simp⟩ k1 (by simp); obtain ⟨c0, c1, f0, f1, lt0⟩ := RB.out; simp only [World.size_alloc] at n1; have N1 := hideP n1; clear k1 n1)
    refine wp_loop_rounds 4 ?_
    rw [rounds_succ]
    go_wp2_with (go_at_call 53; refine Calls.mono (iHas_any _ L.length (hasI L) 1 _ N1.out (wf5 (by omega) (by omega))) ?_; rintro e w2 ⟨rfl, k2⟩; replace K1 := hideP (K1.out.trans (k2.mono K1.out.size)); replace RB := hideP (RB.out.keep k2 RB.out.lt); clear c0 c1 f0 f1 lt0; obtain ⟨c0, c1, f0, f1, lt0⟩ := RB.out; replace N1 := hideP (N1.out.keep k2 N1.out.lt); clear k2; rw [b1])
    rw [rounds_succ]
    go_wp2_with (go_at_call 53; refine Calls.mono (iHas_any _ L.length (hasI L) 2 _ N1.out (wf5 (by omega) (by omega))) ?_; rintro e w2 ⟨rfl, k2⟩; replace K1 := hideP (K1.out.trans (k2.mono K1.out.size)); replace RB := hideP (RB.out.keep k2 RB.out.lt); clear c0 c1 f0 f1 lt0; obtain ⟨c0, c1, f0, f1, lt0⟩ := RB.out; replace N1 := hideP (N1.out.keep k2 N1.out.lt); clear k2; rw [b2])
    rw [rounds_succ]
    go_wp2_with (go_at_call 53; refine Calls.mono (iHas_any _ L.length (hasI L) 3 _ N1.out (wf5 (by omega) (by omega))) ?_; rintro e w2 ⟨rfl, k2⟩; replace K1 := hideP (K1.out.trans (k2.mono K1.out.size)); replace RB := hideP (RB.out.keep k2 RB.out.lt); clear c0 c1 f0 f1 lt0; obtain ⟨c0, c1, f0, f1, lt0⟩ := RB.out; replace N1 := hideP (N1.out.keep k2 N1.out.lt); clear k2; rw [b3])
    refine bodyPost_ret (v := .agg #[.int .i64 0, .int .i64 3]) (by simp [results, Try.results24, go_sem, *]) rfl ⟨by simp, ?_⟩
    repeat' (first | exact K1.out | (with_reducible refine Below.setCell ?_ ?_ _) | go_size)
  rw [nxt_4 (s := 0) b1 b2 b3]
  go_enter Try.func24, Try.ntmps24
  go_wp2_with (go_at_call 52; refine Calls.mono (C.out _ (by go_grown)) ?_; rintro e w1 ⟨rfl, k1, l1, n1⟩; have K1 := hideP (Below.trans (by go_grown : Below w.heap.size w _) (k1.mono (by simp))); have RB : Hid (Rb w1 w.heap.size (.int .i64 0) (.int .i64 0)) := Rb.keep ⟨by simp, by simp, by simp, by simp, by simp⟩ k1 (by simp); obtain ⟨c0, c1, f0, f1, lt0⟩ := RB.out; simp only [World.size_alloc] at n1; have N1 := hideP n1; clear k1 n1)
  refine wp_loop_rounds 4 ?_
  rw [rounds_succ]
  go_wp2_with (go_at_call 53; refine Calls.mono (iHas_any _ L.length (hasI L) 1 _ N1.out (wf5 (by omega) (by omega))) ?_; rintro e w2 ⟨rfl, k2⟩; replace K1 := hideP (K1.out.trans (k2.mono K1.out.size)); replace RB := hideP (RB.out.keep k2 RB.out.lt); clear c0 c1 f0 f1 lt0; obtain ⟨c0, c1, f0, f1, lt0⟩ := RB.out; replace N1 := hideP (N1.out.keep k2 N1.out.lt); clear k2; rw [b1])
  rw [rounds_succ]
  go_wp2_with (go_at_call 53; refine Calls.mono (iHas_any _ L.length (hasI L) 2 _ N1.out (wf5 (by omega) (by omega))) ?_; rintro e w2 ⟨rfl, k2⟩; replace K1 := hideP (K1.out.trans (k2.mono K1.out.size)); replace RB := hideP (RB.out.keep k2 RB.out.lt); clear c0 c1 f0 f1 lt0; obtain ⟨c0, c1, f0, f1, lt0⟩ := RB.out; replace N1 := hideP (N1.out.keep k2 N1.out.lt); clear k2; rw [b2])
  rw [rounds_succ]
  go_wp2_with (go_at_call 53; refine Calls.mono (iHas_any _ L.length (hasI L) 3 _ N1.out (wf5 (by omega) (by omega))) ?_; rintro e w2 ⟨rfl, k2⟩; replace K1 := hideP (K1.out.trans (k2.mono K1.out.size)); replace RB := hideP (RB.out.keep k2 RB.out.lt); clear c0 c1 f0 f1 lt0; obtain ⟨c0, c1, f0, f1, lt0⟩ := RB.out; replace N1 := hideP (N1.out.keep k2 N1.out.lt); clear k2; rw [b3])
  rw [rounds_succ]
  go_wp2
  refine bodyPost_ret (v := .agg #[.int .i64 7, .int .i64 0]) (by simp [results, Try.results24, go_sem, *]) rfl ⟨by simp, ?_⟩
  repeat' (first | exact K1.out | (with_reducible refine Below.setCell ?_ ?_ _) | go_size)

set_option maxHeartbeats 1000000 in
theorem iNext_1 (lo hi : Nat) (ao : Option Addr) (ca : Nat) (L : List Int) (w : World) (ha : Row .i64 w lo hi ao L) (hs : hi ≤ w.heap.size) (hl : L.length ≤ 1048576) (h0 : askF L 1 = 0) :
    Calls Try.prog 24 #[.slice ao L.length ca, .int .i64 1] w fun e w' => e = .returned (.agg #[.int .i64 (if nxt L 1 = -1 then 7 else 0), .int .i64 (if nxt L 1 = -1 then 0 else nxt L 1)]) ∧ Below w.heap.size w w' := by
  have C := hideP (fun w1 (k : Below w.heap.size w w1) => names_yes (iFor_any lo hi ao ca L 1 w1 (ha.keep k hs) (Nat.le_trans hs k.size) hl) h0)
  clear ha h0
  cases b1 : hasI L 65
  · rw [nxt_1 (s := 1) b1]
    go_enter Try.func24, Try.ntmps24
    go_wp2_with (go_at_call 52; refine Calls.mono (C.out _ (by go_grown)) ?_; rintro e w1 ⟨rfl, k1, l1, n1⟩; have K1 := hideP (Below.trans (by go_grown : Below w.heap.size w _) (k1.mono (by simp))); have RB : Hid (Rb w1 w.heap.size (.int .i64 0) (.int .i64 0)) := Rb.keep ⟨by simp, by simp, by simp, by simp, by simp⟩ k1 (by simp); obtain ⟨c0, c1, f0, f1, lt0⟩ := RB.out; simp only [World.size_alloc] at n1; have N1 := hideP n1; clear k1 n1)
    refine wp_loop_rounds 4 ?_
    rw [rounds_succ]
    go_wp2_with (go_at_call 53; refine Calls.mono (iHas_any _ L.length (hasI L) 65 _ N1.out (wf5 (by omega) (by omega))) ?_; rintro e w2 ⟨rfl, k2⟩; replace K1 := hideP (K1.out.trans (k2.mono K1.out.size)); replace RB := hideP (RB.out.keep k2 RB.out.lt); clear c0 c1 f0 f1 lt0; obtain ⟨c0, c1, f0, f1, lt0⟩ := RB.out; replace N1 := hideP (N1.out.keep k2 N1.out.lt); clear k2; rw [b1])
    refine bodyPost_ret (v := .agg #[.int .i64 0, .int .i64 65]) (by simp [results, Try.results24, go_sem, *]) rfl ⟨by simp, ?_⟩
    repeat' (first | exact K1.out | (with_reducible refine Below.setCell ?_ ?_ _) | go_size)
  cases b2 : hasI L 66
  · rw [nxt_2 (s := 1) b1 b2]
    go_enter Try.func24, Try.ntmps24
    go_wp2_with (go_at_call 52; refine Calls.mono (C.out _ (by go_grown)) ?_; rintro e w1 ⟨rfl, k1, l1, n1⟩; have K1 := hideP (Below.trans (by go_grown : Below w.heap.size w _) (k1.mono (by simp))); have RB : Hid (Rb w1 w.heap.size (.int .i64 0) (.int .i64 0)) := Rb.keep ⟨by simp, by simp, by simp, by simp, by simp⟩ k1 (by simp); obtain ⟨c0, c1, f0, f1, lt0⟩ := RB.out; simp only [World.size_alloc] at n1; have N1 := hideP n1; clear k1 n1)
    refine wp_loop_rounds 4 ?_
    rw [rounds_succ]
    go_wp2_with (go_at_call 53; refine Calls.mono (iHas_any _ L.length (hasI L) 65 _ N1.out (wf5 (by omega) (by omega))) ?_; rintro e w2 ⟨rfl, k2⟩; replace K1 := hideP (K1.out.trans (k2.mono K1.out.size)); replace RB := hideP (RB.out.keep k2 RB.out.lt); clear c0 c1 f0 f1 lt0; obtain ⟨c0, c1, f0, f1, lt0⟩ := RB.out; replace N1 := hideP (N1.out.keep k2 N1.out.lt); clear k2; rw [b1])
    rw [rounds_succ]
    go_wp2_with (go_at_call 53; refine Calls.mono (iHas_any _ L.length (hasI L) 66 _ N1.out (wf5 (by omega) (by omega))) ?_; rintro e w2 ⟨rfl, k2⟩; replace K1 := hideP (K1.out.trans (k2.mono K1.out.size)); replace RB := hideP (RB.out.keep k2 RB.out.lt); clear c0 c1 f0 f1 lt0; obtain ⟨c0, c1, f0, f1, lt0⟩ := RB.out; replace N1 := hideP (N1.out.keep k2 N1.out.lt); clear k2; rw [b2])
    refine bodyPost_ret (v := .agg #[.int .i64 0, .int .i64 66]) (by simp [results, Try.results24, go_sem, *]) rfl ⟨by simp, ?_⟩
    repeat' (first | exact K1.out | (with_reducible refine Below.setCell ?_ ?_ _) | go_size)
  cases b3 : hasI L 67
  · rw [nxt_3 (s := 1) b1 b2 b3]
    go_enter Try.func24, Try.ntmps24
    go_wp2_with (go_at_call 52; refine Calls.mono (C.out _ (by go_grown)) ?_; rintro e w1 ⟨rfl, k1, l1, n1⟩; have K1 := hideP (Below.trans (by go_grown : Below w.heap.size w _) (k1.mono (by simp))); have RB : Hid (Rb w1 w.heap.size (.int .i64 0) (.int .i64 0)) := Rb.keep ⟨by simp, by simp, by simp, by simp, by simp⟩ k1 (by simp); obtain ⟨c0, c1, f0, f1, lt0⟩ := RB.out; simp only [World.size_alloc] at n1; have N1 := hideP n1; clear k1 n1)
    refine wp_loop_rounds 4 ?_
    rw [rounds_succ]
    go_wp2_with (go_at_call 53; refine Calls.mono (iHas_any _ L.length (hasI L) 65 _ N1.out (wf5 (by omega) (by omega))) ?_; rintro e w2 ⟨rfl, k2⟩; replace K1 := hideP (K1.out.trans (k2.mono K1.out.size)); replace RB := hideP (RB.out.keep k2 RB.out.lt); clear c0 c1 f0 f1 lt0; obtain ⟨c0, c1, f0, f1, lt0⟩ := RB.out; replace N1 := hideP (N1.out.keep k2 N1.out.lt); clear k2; rw [b1])
    rw [rounds_succ]
    go_wp2_with (go_at_call 53; refine Calls.mono (iHas_any _ L.length (hasI L) 66 _ N1.out (wf5 (by omega) (by omega))) ?_; rintro e w2 ⟨rfl, k2⟩; replace K1 := hideP (K1.out.trans (k2.mono K1.out.size)); replace RB := hideP (RB.out.keep k2 RB.out.lt); clear c0 c1 f0 f1 lt0; obtain ⟨c0, c1, f0, f1, lt0⟩ := RB.out; replace N1 := hideP (N1.out.keep k2 N1.out.lt); clear k2; rw [b2])
    rw [rounds_succ]
    go_wp2_with (go_at_call 53; refine Calls.mono (iHas_any _ L.length (hasI L) 67 _ N1.out (wf5 (by omega) (by omega))) ?_; rintro e w2 ⟨rfl, k2⟩; replace K1 := hideP (K1.out.trans (k2.mono K1.out.size)); replace RB := hideP (RB.out.keep k2 RB.out.lt); clear c0 c1 f0 f1 lt0; obtain ⟨c0, c1, f0, f1, lt0⟩ := RB.out; replace N1 := hideP (N1.out.keep k2 N1.out.lt); clear k2; rw [b3])
    refine bodyPost_ret (v := .agg #[.int .i64 0, .int .i64 67]) (by simp [results, Try.results24, go_sem, *]) rfl ⟨by simp, ?_⟩
    repeat' (first | exact K1.out | (with_reducible refine Below.setCell ?_ ?_ _) | go_size)
  rw [nxt_4 (s := 1) b1 b2 b3]
  go_enter Try.func24, Try.ntmps24
  go_wp2_with (go_at_call 52; refine Calls.mono (C.out _ (by go_grown)) ?_; rintro e w1 ⟨rfl, k1, l1, n1⟩; have K1 := hideP (Below.trans (by go_grown : Below w.heap.size w _) (k1.mono (by simp))); have RB : Hid (Rb w1 w.heap.size (.int .i64 0) (.int .i64 0)) := Rb.keep ⟨by simp, by simp, by simp, by simp, by simp⟩ k1 (by simp); obtain ⟨c0, c1, f0, f1, lt0⟩ := RB.out; simp only [World.size_alloc] at n1; have N1 := hideP n1; clear k1 n1)
  refine wp_loop_rounds 4 ?_
  rw [rounds_succ]
  go_wp2_with (go_at_call 53; refine Calls.mono (iHas_any _ L.length (hasI L) 65 _ N1.out (wf5 (by omega) (by omega))) ?_; rintro e w2 ⟨rfl, k2⟩; replace K1 := hideP (K1.out.trans (k2.mono K1.out.size)); replace RB := hideP (RB.out.keep k2 RB.out.lt); clear c0 c1 f0 f1 lt0; obtain ⟨c0, c1, f0, f1, lt0⟩ := RB.out; replace N1 := hideP (N1.out.keep k2 N1.out.lt); clear k2; rw [b1])
  rw [rounds_succ]
  go_wp2_with (go_at_call 53; refine Calls.mono (iHas_any _ L.length (hasI L) 66 _ N1.out (wf5 (by omega) (by omega))) ?_; rintro e w2 ⟨rfl, k2⟩; replace K1 := hideP (K1.out.trans (k2.mono K1.out.size)); replace RB := hideP (RB.out.keep k2 RB.out.lt); clear c0 c1 f0 f1 lt0; obtain ⟨c0, c1, f0, f1, lt0⟩ := RB.out; replace N1 := hideP (N1.out.keep k2 N1.out.lt); clear k2; rw [b2])
  rw [rounds_succ]
  go_wp2_with (go_at_call 53; refine Calls.mono (iHas_any _ L.length (hasI L) 67 _ N1.out (wf5 (by omega) (by omega))) ?_; rintro e w2 ⟨rfl, k2⟩; replace K1 := hideP (K1.out.trans (k2.mono K1.out.size)); replace RB := hideP (RB.out.keep k2 RB.out.lt); clear c0 c1 f0 f1 lt0; obtain ⟨c0, c1, f0, f1, lt0⟩ := RB.out; replace N1 := hideP (N1.out.keep k2 N1.out.lt); clear k2; rw [b3])
  rw [rounds_succ]
  go_wp2
  refine bodyPost_ret (v := .agg #[.int .i64 7, .int .i64 0]) (by simp [results, Try.results24, go_sem, *]) rfl ⟨by simp, ?_⟩
  repeat' (first | exact K1.out | (with_reducible refine Below.setCell ?_ ?_ _) | go_size)

set_option maxHeartbeats 1000000 in
theorem iNext_2 (lo hi : Nat) (ao : Option Addr) (ca : Nat) (L : List Int) (w : World) (ha : Row .i64 w lo hi ao L) (hs : hi ≤ w.heap.size) (hl : L.length ≤ 1048576) (h0 : askF L 2 = 0) :
    Calls Try.prog 24 #[.slice ao L.length ca, .int .i64 2] w fun e w' => e = .returned (.agg #[.int .i64 (if nxt L 2 = -1 then 7 else 0), .int .i64 (if nxt L 2 = -1 then 0 else nxt L 2)]) ∧ Below w.heap.size w w' := by
  have C := hideP (fun w1 (k : Below w.heap.size w w1) => names_yes (iFor_any lo hi ao ca L 2 w1 (ha.keep k hs) (Nat.le_trans hs k.size) hl) h0)
  clear ha h0
  cases b1 : hasI L 129
  · rw [nxt_1 (s := 2) b1]
    go_enter Try.func24, Try.ntmps24
    go_wp2_with (go_at_call 52; refine Calls.mono (C.out _ (by go_grown)) ?_; rintro e w1 ⟨rfl, k1, l1, n1⟩; have K1 := hideP (Below.trans (by go_grown : Below w.heap.size w _) (k1.mono (by simp))); have RB : Hid (Rb w1 w.heap.size (.int .i64 0) (.int .i64 0)) := Rb.keep ⟨by simp, by simp, by simp, by simp, by simp⟩ k1 (by simp); obtain ⟨c0, c1, f0, f1, lt0⟩ := RB.out; simp only [World.size_alloc] at n1; have N1 := hideP n1; clear k1 n1)
    refine wp_loop_rounds 4 ?_
    rw [rounds_succ]
    go_wp2_with (go_at_call 53; refine Calls.mono (iHas_any _ L.length (hasI L) 129 _ N1.out (wf5 (by omega) (by omega))) ?_; rintro e w2 ⟨rfl, k2⟩; replace K1 := hideP (K1.out.trans (k2.mono K1.out.size)); replace RB := hideP (RB.out.keep k2 RB.out.lt); clear c0 c1 f0 f1 lt0; obtain ⟨c0, c1, f0, f1, lt0⟩ := RB.out; replace N1 := hideP (N1.out.keep k2 N1.out.lt); clear k2; rw [b1])
    refine bodyPost_ret (v := .agg #[.int .i64 0, .int .i64 129]) (by simp [results, Try.results24, go_sem, *]) rfl ⟨by simp, ?_⟩
    repeat' (first | exact K1.out | (with_reducible refine Below.setCell ?_ ?_ _) | go_size)
  cases b2 : hasI L 130
  · rw [nxt_2 (s := 2) b1 b2]
    go_enter Try.func24, Try.ntmps24
    go_wp2_with (go_at_call 52; refine Calls.mono (C.out _ (by go_grown)) ?_; rintro e w1 ⟨rfl, k1, l1, n1⟩; have K1 := hideP (Below.trans (by go_grown : Below w.heap.size w _) (k1.mono (by simp))); have RB : Hid (Rb w1 w.heap.size (.int .i64 0) (.int .i64 0)) := Rb.keep ⟨by simp, by simp, by simp, by simp, by simp⟩ k1 (by simp); obtain ⟨c0, c1, f0, f1, lt0⟩ := RB.out; simp only [World.size_alloc] at n1; have N1 := hideP n1; clear k1 n1)
    refine wp_loop_rounds 4 ?_
    rw [rounds_succ]
    go_wp2_with (go_at_call 53; refine Calls.mono (iHas_any _ L.length (hasI L) 129 _ N1.out (wf5 (by omega) (by omega))) ?_; rintro e w2 ⟨rfl, k2⟩; replace K1 := hideP (K1.out.trans (k2.mono K1.out.size)); replace RB := hideP (RB.out.keep k2 RB.out.lt); clear c0 c1 f0 f1 lt0; obtain ⟨c0, c1, f0, f1, lt0⟩ := RB.out; replace N1 := hideP (N1.out.keep k2 N1.out.lt); clear k2; rw [b1])
    rw [rounds_succ]
    go_wp2_with (go_at_call 53; refine Calls.mono (iHas_any _ L.length (hasI L) 130 _ N1.out (wf5 (by omega) (by omega))) ?_; rintro e w2 ⟨rfl, k2⟩; replace K1 := hideP (K1.out.trans (k2.mono K1.out.size)); replace RB := hideP (RB.out.keep k2 RB.out.lt); clear c0 c1 f0 f1 lt0; obtain ⟨c0, c1, f0, f1, lt0⟩ := RB.out; replace N1 := hideP (N1.out.keep k2 N1.out.lt); clear k2; rw [b2])
    refine bodyPost_ret (v := .agg #[.int .i64 0, .int .i64 130]) (by simp [results, Try.results24, go_sem, *]) rfl ⟨by simp, ?_⟩
    repeat' (first | exact K1.out | (with_reducible refine Below.setCell ?_ ?_ _) | go_size)
  cases b3 : hasI L 131
  · rw [nxt_3 (s := 2) b1 b2 b3]
    go_enter Try.func24, Try.ntmps24
    go_wp2_with (go_at_call 52; refine Calls.mono (C.out _ (by go_grown)) ?_; rintro e w1 ⟨rfl, k1, l1, n1⟩; have K1 := hideP (Below.trans (by go_grown : Below w.heap.size w _) (k1.mono (by simp))); have RB : Hid (Rb w1 w.heap.size (.int .i64 0) (.int .i64 0)) := Rb.keep ⟨by simp, by simp, by simp, by simp, by simp⟩ k1 (by simp); obtain ⟨c0, c1, f0, f1, lt0⟩ := RB.out; simp only [World.size_alloc] at n1; have N1 := hideP n1; clear k1 n1)
    refine wp_loop_rounds 4 ?_
    rw [rounds_succ]
    go_wp2_with (go_at_call 53; refine Calls.mono (iHas_any _ L.length (hasI L) 129 _ N1.out (wf5 (by omega) (by omega))) ?_; rintro e w2 ⟨rfl, k2⟩; replace K1 := hideP (K1.out.trans (k2.mono K1.out.size)); replace RB := hideP (RB.out.keep k2 RB.out.lt); clear c0 c1 f0 f1 lt0; obtain ⟨c0, c1, f0, f1, lt0⟩ := RB.out; replace N1 := hideP (N1.out.keep k2 N1.out.lt); clear k2; rw [b1])
    rw [rounds_succ]
    go_wp2_with (go_at_call 53; refine Calls.mono (iHas_any _ L.length (hasI L) 130 _ N1.out (wf5 (by omega) (by omega))) ?_; rintro e w2 ⟨rfl, k2⟩; replace K1 := hideP (K1.out.trans (k2.mono K1.out.size)); replace RB := hideP (RB.out.keep k2 RB.out.lt); clear c0 c1 f0 f1 lt0; obtain ⟨c0, c1, f0, f1, lt0⟩ := RB.out; replace N1 := hideP (N1.out.keep k2 N1.out.lt); clear k2; rw [b2])
    rw [rounds_succ]
    go_wp2_with (go_at_call 53; refine Calls.mono (iHas_any _ L.length (hasI L) 131 _ N1.out (wf5 (by omega) (by omega))) ?_; rintro e w2 ⟨rfl, k2⟩; replace K1 := hideP (K1.out.trans (k2.mono K1.out.size)); replace RB := hideP (RB.out.keep k2 RB.out.lt); clear c0 c1 f0 f1 lt0; obtain ⟨c0, c1, f0, f1, lt0⟩ := RB.out; replace N1 := hideP (N1.out.keep k2 N1.out.lt); clear k2; rw [b3])
    refine bodyPost_ret (v := .agg #[.int .i64 0, .int .i64 131]) (by simp [results, Try.results24, go_sem, *]) rfl ⟨by simp, ?_⟩
    repeat' (first | exact K1.out | (with_reducible refine Below.setCell ?_ ?_ _) | go_size)
  rw [nxt_4 (s := 2) b1 b2 b3]
  go_enter Try.func24, Try.ntmps24
  go_wp2_with (go_at_call 52; refine Calls.mono (C.out _ (by go_grown)) ?_; rintro e w1 ⟨rfl, k1, l1, n1⟩; have K1 := hideP (Below.trans (by go_grown : Below w.heap.size w _) (k1.mono (by simp))); have RB : Hid (Rb w1 w.heap.size (.int .i64 0) (.int .i64 0)) := Rb.keep ⟨by simp, by simp, by simp, by simp, by simp⟩ k1 (by simp); obtain ⟨c0, c1, f0, f1, lt0⟩ := RB.out; simp only [World.size_alloc] at n1; have N1 := hideP n1; clear k1 n1)
  refine wp_loop_rounds 4 ?_
  rw [rounds_succ]
  go_wp2_with (go_at_call 53; refine Calls.mono (iHas_any _ L.length (hasI L) 129 _ N1.out (wf5 (by omega) (by omega))) ?_; rintro e w2 ⟨rfl, k2⟩; replace K1 := hideP (K1.out.trans (k2.mono K1.out.size)); replace RB := hideP (RB.out.keep k2 RB.out.lt); clear c0 c1 f0 f1 lt0; obtain ⟨c0, c1, f0, f1, lt0⟩ := RB.out; replace N1 := hideP (N1.out.keep k2 N1.out.lt); clear k2; rw [b1])
  rw [rounds_succ]
  go_wp2_with (go_at_call 53; refine Calls.mono (iHas_any _ L.length (hasI L) 130 _ N1.out (wf5 (by omega) (by omega))) ?_; rintro e w2 ⟨rfl, k2⟩; replace K1 := hideP (K1.out.trans (k2.mono K1.out.size)); replace RB := hideP (RB.out.keep k2 RB.out.lt); clear c0 c1 f0 f1 lt0; obtain ⟨c0, c1, f0, f1, lt0⟩ := RB.out; replace N1 := hideP (N1.out.keep k2 N1.out.lt); clear k2; rw [b2])
  rw [rounds_succ]
  go_wp2_with (go_at_call 53; refine Calls.mono (iHas_any _ L.length (hasI L) 131 _ N1.out (wf5 (by omega) (by omega))) ?_; rintro e w2 ⟨rfl, k2⟩; replace K1 := hideP (K1.out.trans (k2.mono K1.out.size)); replace RB := hideP (RB.out.keep k2 RB.out.lt); clear c0 c1 f0 f1 lt0; obtain ⟨c0, c1, f0, f1, lt0⟩ := RB.out; replace N1 := hideP (N1.out.keep k2 N1.out.lt); clear k2; rw [b3])
  rw [rounds_succ]
  go_wp2
  refine bodyPost_ret (v := .agg #[.int .i64 7, .int .i64 0]) (by simp [results, Try.results24, go_sem, *]) rfl ⟨by simp, ?_⟩
  repeat' (first | exact K1.out | (with_reducible refine Below.setCell ?_ ?_ _) | go_size)

set_option maxHeartbeats 1000000 in
theorem iNext_3 (lo hi : Nat) (ao : Option Addr) (ca : Nat) (L : List Int) (w : World) (ha : Row .i64 w lo hi ao L) (hs : hi ≤ w.heap.size) (hl : L.length ≤ 1048576) (h0 : askF L 3 = 0) :
    Calls Try.prog 24 #[.slice ao L.length ca, .int .i64 3] w fun e w' => e = .returned (.agg #[.int .i64 (if nxt L 3 = -1 then 7 else 0), .int .i64 (if nxt L 3 = -1 then 0 else nxt L 3)]) ∧ Below w.heap.size w w' := by
  have C := hideP (fun w1 (k : Below w.heap.size w w1) => names_yes (iFor_any lo hi ao ca L 3 w1 (ha.keep k hs) (Nat.le_trans hs k.size) hl) h0)
  clear ha h0
  cases b1 : hasI L 193
  · rw [nxt_1 (s := 3) b1]
    go_enter Try.func24, Try.ntmps24
    go_wp2_with (go_at_call 52; refine Calls.mono (C.out _ (by go_grown)) ?_; rintro e w1 ⟨rfl, k1, l1, n1⟩; have K1 := hideP (Below.trans (by go_grown : Below w.heap.size w _) (k1.mono (by simp))); have RB : Hid (Rb w1 w.heap.size (.int .i64 0) (.int .i64 0)) := Rb.keep ⟨by simp, by simp, by simp, by simp, by simp⟩ k1 (by simp); obtain ⟨c0, c1, f0, f1, lt0⟩ := RB.out; simp only [World.size_alloc] at n1; have N1 := hideP n1; clear k1 n1)
    refine wp_loop_rounds 4 ?_
    rw [rounds_succ]
    go_wp2_with (go_at_call 53; refine Calls.mono (iHas_any _ L.length (hasI L) 193 _ N1.out (wf5 (by omega) (by omega))) ?_; rintro e w2 ⟨rfl, k2⟩; replace K1 := hideP (K1.out.trans (k2.mono K1.out.size)); replace RB := hideP (RB.out.keep k2 RB.out.lt); clear c0 c1 f0 f1 lt0; obtain ⟨c0, c1, f0, f1, lt0⟩ := RB.out; replace N1 := hideP (N1.out.keep k2 N1.out.lt); clear k2; rw [b1])
    refine bodyPost_ret (v := .agg #[.int .i64 0, .int .i64 193]) (by simp [results, Try.results24, go_sem, *]) rfl ⟨by simp, ?_⟩
    repeat' (first | exact K1.out | (with_reducible refine Below.setCell ?_ ?_ _) | go_size)
  cases b2 : hasI L 194
  · rw [nxt_2 (s := 3) b1 b2]
    go_enter Try.func24, Try.ntmps24
    go_wp2_with (go_at_call 52; refine Calls.mono (C.out _ (by go_grown)) ?_; rintro e w1 ⟨rfl, k1, l1, n1⟩; have K1 := hideP (Below.trans (by go_grown : Below w.heap.size w _) (k1.mono (by simp))); have RB : Hid (Rb w1 w.heap.size (.int .i64 0) (.int .i64 0)) := Rb.keep ⟨by simp, by simp, by simp, by simp, by simp⟩ k1 (by simp); obtain ⟨c0, c1, f0, f1, lt0⟩ := RB.out; simp only [World.size_alloc] at n1; have N1 := hideP n1; clear k1 n1)
    refine wp_loop_rounds 4 ?_
    rw [rounds_succ]
    go_wp2_with (go_at_call 53; refine Calls.mono (iHas_any _ L.length (hasI L) 193 _ N1.out (wf5 (by omega) (by omega))) ?_; rintro e w2 ⟨rfl, k2⟩; replace K1 := hideP (K1.out.trans (k2.mono K1.out.size)); replace RB := hideP (RB.out.keep k2 RB.out.lt); clear c0 c1 f0 f1 lt0; obtain ⟨c0, c1, f0, f1, lt0⟩ := RB.out; replace N1 := hideP (N1.out.keep k2 N1.out.lt); clear k2; rw [b1])
    rw [rounds_succ]
    go_wp2_with (go_at_call 53; refine Calls.mono (iHas_any _ L.length (hasI L) 194 _ N1.out (wf5 (by omega) (by omega))) ?_; rintro e w2 ⟨rfl, k2⟩; replace K1 := hideP (K1.out.trans (k2.mono K1.out.size)); replace RB := hideP (RB.out.keep k2 RB.out.lt); clear c0 c1 f0 f1 lt0; obtain ⟨c0, c1, f0, f1, lt0⟩ := RB.out; replace N1 := hideP (N1.out.keep k2 N1.out.lt); clear k2; rw [b2])
    refine bodyPost_ret (v := .agg #[.int .i64 0, .int .i64 194]) (by simp [results, Try.results24, go_sem, *]) rfl ⟨by simp, ?_⟩
    repeat' (first | exact K1.out | (with_reducible refine Below.setCell ?_ ?_ _) | go_size)
  cases b3 : hasI L 195
  · rw [nxt_3 (s := 3) b1 b2 b3]
    go_enter Try.func24, Try.ntmps24
    go_wp2_with (go_at_call 52; refine Calls.mono (C.out _ (by go_grown)) ?_; rintro e w1 ⟨rfl, k1, l1, n1⟩; have K1 := hideP (Below.trans (by go_grown : Below w.heap.size w _) (k1.mono (by simp))); have RB : Hid (Rb w1 w.heap.size (.int .i64 0) (.int .i64 0)) := Rb.keep ⟨by simp, by simp, by simp, by simp, by simp⟩ k1 (by simp); obtain ⟨c0, c1, f0, f1, lt0⟩ := RB.out; simp only [World.size_alloc] at n1; have N1 := hideP n1; clear k1 n1)
    refine wp_loop_rounds 4 ?_
    rw [rounds_succ]
    go_wp2_with (go_at_call 53; refine Calls.mono (iHas_any _ L.length (hasI L) 193 _ N1.out (wf5 (by omega) (by omega))) ?_; rintro e w2 ⟨rfl, k2⟩; replace K1 := hideP (K1.out.trans (k2.mono K1.out.size)); replace RB := hideP (RB.out.keep k2 RB.out.lt); clear c0 c1 f0 f1 lt0; obtain ⟨c0, c1, f0, f1, lt0⟩ := RB.out; replace N1 := hideP (N1.out.keep k2 N1.out.lt); clear k2; rw [b1])
    rw [rounds_succ]
    go_wp2_with (go_at_call 53; refine Calls.mono (iHas_any _ L.length (hasI L) 194 _ N1.out (wf5 (by omega) (by omega))) ?_; rintro e w2 ⟨rfl, k2⟩; replace K1 := hideP (K1.out.trans (k2.mono K1.out.size)); replace RB := hideP (RB.out.keep k2 RB.out.lt); clear c0 c1 f0 f1 lt0; obtain ⟨c0, c1, f0, f1, lt0⟩ := RB.out; replace N1 := hideP (N1.out.keep k2 N1.out.lt); clear k2; rw [b2])
    rw [rounds_succ]
    go_wp2_with (go_at_call 53; refine Calls.mono (iHas_any _ L.length (hasI L) 195 _ N1.out (wf5 (by omega) (by omega))) ?_; rintro e w2 ⟨rfl, k2⟩; replace K1 := hideP (K1.out.trans (k2.mono K1.out.size)); replace RB := hideP (RB.out.keep k2 RB.out.lt); clear c0 c1 f0 f1 lt0; obtain ⟨c0, c1, f0, f1, lt0⟩ := RB.out; replace N1 := hideP (N1.out.keep k2 N1.out.lt); clear k2; rw [b3])
    refine bodyPost_ret (v := .agg #[.int .i64 0, .int .i64 195]) (by simp [results, Try.results24, go_sem, *]) rfl ⟨by simp, ?_⟩
    repeat' (first | exact K1.out | (with_reducible refine Below.setCell ?_ ?_ _) | go_size)
  rw [nxt_4 (s := 3) b1 b2 b3]
  go_enter Try.func24, Try.ntmps24
  go_wp2_with (go_at_call 52; refine Calls.mono (C.out _ (by go_grown)) ?_; rintro e w1 ⟨rfl, k1, l1, n1⟩; have K1 := hideP (Below.trans (by go_grown : Below w.heap.size w _) (k1.mono (by simp))); have RB : Hid (Rb w1 w.heap.size (.int .i64 0) (.int .i64 0)) := Rb.keep ⟨by simp, by simp, by simp, by simp, by simp⟩ k1 (by simp); obtain ⟨c0, c1, f0, f1, lt0⟩ := RB.out; simp only [World.size_alloc] at n1; have N1 := hideP n1; clear k1 n1)
  refine wp_loop_rounds 4 ?_
  rw [rounds_succ]
  go_wp2_with (go_at_call 53; refine Calls.mono (iHas_any _ L.length (hasI L) 193 _ N1.out (wf5 (by omega) (by omega))) ?_; rintro e w2 ⟨rfl, k2⟩; replace K1 := hideP (K1.out.trans (k2.mono K1.out.size)); replace RB := hideP (RB.out.keep k2 RB.out.lt); clear c0 c1 f0 f1 lt0; obtain ⟨c0, c1, f0, f1, lt0⟩ := RB.out; replace N1 := hideP (N1.out.keep k2 N1.out.lt); clear k2; rw [b1])
  rw [rounds_succ]
  go_wp2_with (go_at_call 53; refine Calls.mono (iHas_any _ L.length (hasI L) 194 _ N1.out (wf5 (by omega) (by omega))) ?_; rintro e w2 ⟨rfl, k2⟩; replace K1 := hideP (K1.out.trans (k2.mono K1.out.size)); replace RB := hideP (RB.out.keep k2 RB.out.lt); clear c0 c1 f0 f1 lt0; obtain ⟨c0, c1, f0, f1, lt0⟩ := RB.out; replace N1 := hideP (N1.out.keep k2 N1.out.lt); clear k2; rw [b2])
  rw [rounds_succ]
  go_wp2_with (go_at_call 53; refine Calls.mono (iHas_any _ L.length (hasI L) 195 _ N1.out (wf5 (by omega) (by omega))) ?_; rintro e w2 ⟨rfl, k2⟩; replace K1 := hideP (K1.out.trans (k2.mono K1.out.size)); replace RB := hideP (RB.out.keep k2 RB.out.lt); clear c0 c1 f0 f1 lt0; obtain ⟨c0, c1, f0, f1, lt0⟩ := RB.out; replace N1 := hideP (N1.out.keep k2 N1.out.lt); clear k2; rw [b3])
  rw [rounds_succ]
  go_wp2
  refine bodyPost_ret (v := .agg #[.int .i64 7, .int .i64 0]) (by simp [results, Try.results24, go_sem, *]) rfl ⟨by simp, ?_⟩
  repeat' (first | exact K1.out | (with_reducible refine Below.setCell ?_ ?_ _) | go_size)

end Go.Proofs.Ytejgcheddloffaa
