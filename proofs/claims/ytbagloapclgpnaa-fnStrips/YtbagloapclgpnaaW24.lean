/- The lowest free id of a slot: walks, one for each slot and each case. (Written by genid.py.) -/
import Derived.Test.YtbagloapclgpnaaW6
namespace Go.Proofs.Ytbagloapclgpnaa
open Go.RowKit Go.Maps
set_option linter.unusedVariables false
attribute [local go_sem high] fI0 fI1

set_option maxHeartbeats 1000000 in
theorem sNext_0 (lo hi : Nat) (ao : Option Addr) (ca : Nat) (L : List Int) (w : World) (ha : Row .i64 w lo hi ao L) (hl : L.length ≤ 1048576) :
    Calls Try.prog 118 #[.slice ao L.length ca, .int .i64 0] w fun e w' => e = .returned (.int .i64 (nxt L 0)) ∧ w' = w := by
  have C := hideP (fun v => sHas_any lo hi ao ca L v w ha hl)
  clear ha
  cases b1 : hasI L 1
  · have E : Hid (1 = nxt L 0) := (nxt_1 (s := 0) b1).symm
    generalize nxt L 0 = N at *
    go_enter Try.func118, Try.ntmps118
    go_wp2
    refine wp_loop_rounds 4 ?_
    rw [rounds_succ]
    go_wp2_with (go_at_call 108; refine Calls.mono (C.out _) ?_; rintro e w1 ⟨rfl, rfl⟩; rw [b1])
    go_returns
    exact ⟨congrArg (fun x => Ending.returned (.int .i64 x)) E.out, rfl⟩
  cases b2 : hasI L 2
  · have E : Hid (2 = nxt L 0) := (nxt_2 (s := 0) b1 b2).symm
    generalize nxt L 0 = N at *
    go_enter Try.func118, Try.ntmps118
    go_wp2
    refine wp_loop_rounds 4 ?_
    rw [rounds_succ]
    go_wp2_with (go_at_call 108; refine Calls.mono (C.out _) ?_; rintro e w1 ⟨rfl, rfl⟩; rw [b1])
    rw [rounds_succ]
    go_wp2_with (go_at_call 108; refine Calls.mono (C.out _) ?_; rintro e w1 ⟨rfl, rfl⟩; rw [b2])
    go_returns
    exact ⟨congrArg (fun x => Ending.returned (.int .i64 x)) E.out, rfl⟩
  cases b3 : hasI L 3
  · have E : Hid (3 = nxt L 0) := (nxt_3 (s := 0) b1 b2 b3).symm
    generalize nxt L 0 = N at *
    go_enter Try.func118, Try.ntmps118
    go_wp2
    refine wp_loop_rounds 4 ?_
    rw [rounds_succ]
    go_wp2_with (go_at_call 108; refine Calls.mono (C.out _) ?_; rintro e w1 ⟨rfl, rfl⟩; rw [b1])
    rw [rounds_succ]
    go_wp2_with (go_at_call 108; refine Calls.mono (C.out _) ?_; rintro e w1 ⟨rfl, rfl⟩; rw [b2])
    rw [rounds_succ]
    go_wp2_with (go_at_call 108; refine Calls.mono (C.out _) ?_; rintro e w1 ⟨rfl, rfl⟩; rw [b3])
    go_returns
    exact ⟨congrArg (fun x => Ending.returned (.int .i64 x)) E.out, rfl⟩
  have E : Hid (-1 = nxt L 0) := (nxt_4 (s := 0) b1 b2 b3).symm
  generalize nxt L 0 = N at *
  go_enter Try.func118, Try.ntmps118
  go_wp2
  refine wp_loop_rounds 4 ?_
  rw [rounds_succ]
  go_wp2_with (go_at_call 108; refine Calls.mono (C.out _) ?_; rintro e w1 ⟨rfl, rfl⟩; rw [b1])
  rw [rounds_succ]
  go_wp2_with (go_at_call 108; refine Calls.mono (C.out _) ?_; rintro e w1 ⟨rfl, rfl⟩; rw [b2])
  rw [rounds_succ]
  go_wp2_with (go_at_call 108; refine Calls.mono (C.out _) ?_; rintro e w1 ⟨rfl, rfl⟩; rw [b3])
  rw [rounds_succ]
  go_wp2
  go_returns
  exact ⟨congrArg (fun x => Ending.returned (.int .i64 x)) E.out, rfl⟩

set_option maxHeartbeats 1000000 in
theorem sNext_1 (lo hi : Nat) (ao : Option Addr) (ca : Nat) (L : List Int) (w : World) (ha : Row .i64 w lo hi ao L) (hl : L.length ≤ 1048576) :
    Calls Try.prog 118 #[.slice ao L.length ca, .int .i64 1] w fun e w' => e = .returned (.int .i64 (nxt L 1)) ∧ w' = w := by
  have C := hideP (fun v => sHas_any lo hi ao ca L v w ha hl)
  clear ha
  cases b1 : hasI L 65
  · have E : Hid (65 = nxt L 1) := (nxt_1 (s := 1) b1).symm
    generalize nxt L 1 = N at *
    go_enter Try.func118, Try.ntmps118
    go_wp2
    refine wp_loop_rounds 4 ?_
    rw [rounds_succ]
    go_wp2_with (go_at_call 108; refine Calls.mono (C.out _) ?_; rintro e w1 ⟨rfl, rfl⟩; rw [b1])
    go_returns
    exact ⟨congrArg (fun x => Ending.returned (.int .i64 x)) E.out, rfl⟩
  cases b2 : hasI L 66
  · have E : Hid (66 = nxt L 1) := (nxt_2 (s := 1) b1 b2).symm
    generalize nxt L 1 = N at *
    go_enter Try.func118, Try.ntmps118
    go_wp2
    refine wp_loop_rounds 4 ?_
    rw [rounds_succ]
    go_wp2_with (go_at_call 108; refine Calls.mono (C.out _) ?_; rintro e w1 ⟨rfl, rfl⟩; rw [b1])
    rw [rounds_succ]
    go_wp2_with (go_at_call 108; refine Calls.mono (C.out _) ?_; rintro e w1 ⟨rfl, rfl⟩; rw [b2])
    go_returns
    exact ⟨congrArg (fun x => Ending.returned (.int .i64 x)) E.out, rfl⟩
  cases b3 : hasI L 67
  · have E : Hid (67 = nxt L 1) := (nxt_3 (s := 1) b1 b2 b3).symm
    generalize nxt L 1 = N at *
    go_enter Try.func118, Try.ntmps118
    go_wp2
    refine wp_loop_rounds 4 ?_
    rw [rounds_succ]
    go_wp2_with (go_at_call 108; refine Calls.mono (C.out _) ?_; rintro e w1 ⟨rfl, rfl⟩; rw [b1])
    rw [rounds_succ]
    go_wp2_with (go_at_call 108; refine Calls.mono (C.out _) ?_; rintro e w1 ⟨rfl, rfl⟩; rw [b2])
    rw [rounds_succ]
    go_wp2_with (go_at_call 108; refine Calls.mono (C.out _) ?_; rintro e w1 ⟨rfl, rfl⟩; rw [b3])
    go_returns
    exact ⟨congrArg (fun x => Ending.returned (.int .i64 x)) E.out, rfl⟩
  have E : Hid (-1 = nxt L 1) := (nxt_4 (s := 1) b1 b2 b3).symm
  generalize nxt L 1 = N at *
  go_enter Try.func118, Try.ntmps118
  go_wp2
  refine wp_loop_rounds 4 ?_
  rw [rounds_succ]
  go_wp2_with (go_at_call 108; refine Calls.mono (C.out _) ?_; rintro e w1 ⟨rfl, rfl⟩; rw [b1])
  rw [rounds_succ]
  go_wp2_with (go_at_call 108; refine Calls.mono (C.out _) ?_; rintro e w1 ⟨rfl, rfl⟩; rw [b2])
  rw [rounds_succ]
  go_wp2_with (go_at_call 108; refine Calls.mono (C.out _) ?_; rintro e w1 ⟨rfl, rfl⟩; rw [b3])
  rw [rounds_succ]
  go_wp2
  go_returns
  exact ⟨congrArg (fun x => Ending.returned (.int .i64 x)) E.out, rfl⟩

set_option maxHeartbeats 1000000 in
theorem sNext_2 (lo hi : Nat) (ao : Option Addr) (ca : Nat) (L : List Int) (w : World) (ha : Row .i64 w lo hi ao L) (hl : L.length ≤ 1048576) :
    Calls Try.prog 118 #[.slice ao L.length ca, .int .i64 2] w fun e w' => e = .returned (.int .i64 (nxt L 2)) ∧ w' = w := by
  have C := hideP (fun v => sHas_any lo hi ao ca L v w ha hl)
  clear ha
  cases b1 : hasI L 129
  · have E : Hid (129 = nxt L 2) := (nxt_1 (s := 2) b1).symm
    generalize nxt L 2 = N at *
    go_enter Try.func118, Try.ntmps118
    go_wp2
    refine wp_loop_rounds 4 ?_
    rw [rounds_succ]
    go_wp2_with (go_at_call 108; refine Calls.mono (C.out _) ?_; rintro e w1 ⟨rfl, rfl⟩; rw [b1])
    go_returns
    exact ⟨congrArg (fun x => Ending.returned (.int .i64 x)) E.out, rfl⟩
  cases b2 : hasI L 130
  · have E : Hid (130 = nxt L 2) := (nxt_2 (s := 2) b1 b2).symm
    generalize nxt L 2 = N at *
    go_enter Try.func118, Try.ntmps118
    go_wp2
    refine wp_loop_rounds 4 ?_
    rw [rounds_succ]
    go_wp2_with (go_at_call 108; refine Calls.mono (C.out _) ?_; rintro e w1 ⟨rfl, rfl⟩; rw [b1])
    rw [rounds_succ]
    go_wp2_with (go_at_call 108; refine Calls.mono (C.out _) ?_; rintro e w1 ⟨rfl, rfl⟩; rw [b2])
    go_returns
    exact ⟨congrArg (fun x => Ending.returned (.int .i64 x)) E.out, rfl⟩
  cases b3 : hasI L 131
  · have E : Hid (131 = nxt L 2) := (nxt_3 (s := 2) b1 b2 b3).symm
    generalize nxt L 2 = N at *
    go_enter Try.func118, Try.ntmps118
    go_wp2
    refine wp_loop_rounds 4 ?_
    rw [rounds_succ]
    go_wp2_with (go_at_call 108; refine Calls.mono (C.out _) ?_; rintro e w1 ⟨rfl, rfl⟩; rw [b1])
    rw [rounds_succ]
    go_wp2_with (go_at_call 108; refine Calls.mono (C.out _) ?_; rintro e w1 ⟨rfl, rfl⟩; rw [b2])
    rw [rounds_succ]
    go_wp2_with (go_at_call 108; refine Calls.mono (C.out _) ?_; rintro e w1 ⟨rfl, rfl⟩; rw [b3])
    go_returns
    exact ⟨congrArg (fun x => Ending.returned (.int .i64 x)) E.out, rfl⟩
  have E : Hid (-1 = nxt L 2) := (nxt_4 (s := 2) b1 b2 b3).symm
  generalize nxt L 2 = N at *
  go_enter Try.func118, Try.ntmps118
  go_wp2
  refine wp_loop_rounds 4 ?_
  rw [rounds_succ]
  go_wp2_with (go_at_call 108; refine Calls.mono (C.out _) ?_; rintro e w1 ⟨rfl, rfl⟩; rw [b1])
  rw [rounds_succ]
  go_wp2_with (go_at_call 108; refine Calls.mono (C.out _) ?_; rintro e w1 ⟨rfl, rfl⟩; rw [b2])
  rw [rounds_succ]
  go_wp2_with (go_at_call 108; refine Calls.mono (C.out _) ?_; rintro e w1 ⟨rfl, rfl⟩; rw [b3])
  rw [rounds_succ]
  go_wp2
  go_returns
  exact ⟨congrArg (fun x => Ending.returned (.int .i64 x)) E.out, rfl⟩

set_option maxHeartbeats 1000000 in
theorem sNext_3 (lo hi : Nat) (ao : Option Addr) (ca : Nat) (L : List Int) (w : World) (ha : Row .i64 w lo hi ao L) (hl : L.length ≤ 1048576) :
    Calls Try.prog 118 #[.slice ao L.length ca, .int .i64 3] w fun e w' => e = .returned (.int .i64 (nxt L 3)) ∧ w' = w := by
  have C := hideP (fun v => sHas_any lo hi ao ca L v w ha hl)
  clear ha
  cases b1 : hasI L 193
  · have E : Hid (193 = nxt L 3) := (nxt_1 (s := 3) b1).symm
    generalize nxt L 3 = N at *
    go_enter Try.func118, Try.ntmps118
    go_wp2
    refine wp_loop_rounds 4 ?_
    rw [rounds_succ]
    go_wp2_with (go_at_call 108; refine Calls.mono (C.out _) ?_; rintro e w1 ⟨rfl, rfl⟩; rw [b1])
    go_returns
    exact ⟨congrArg (fun x => Ending.returned (.int .i64 x)) E.out, rfl⟩
  cases b2 : hasI L 194
  · have E : Hid (194 = nxt L 3) := (nxt_2 (s := 3) b1 b2).symm
    generalize nxt L 3 = N at *
    go_enter Try.func118, Try.ntmps118
    go_wp2
    refine wp_loop_rounds 4 ?_
    rw [rounds_succ]
    go_wp2_with (go_at_call 108; refine Calls.mono (C.out _) ?_; rintro e w1 ⟨rfl, rfl⟩; rw [b1])
    rw [rounds_succ]
    go_wp2_with (go_at_call 108; refine Calls.mono (C.out _) ?_; rintro e w1 ⟨rfl, rfl⟩; rw [b2])
    go_returns
    exact ⟨congrArg (fun x => Ending.returned (.int .i64 x)) E.out, rfl⟩
  cases b3 : hasI L 195
  · have E : Hid (195 = nxt L 3) := (nxt_3 (s := 3) b1 b2 b3).symm
    generalize nxt L 3 = N at *
    go_enter Try.func118, Try.ntmps118
    go_wp2
    refine wp_loop_rounds 4 ?_
    rw [rounds_succ]
    go_wp2_with (go_at_call 108; refine Calls.mono (C.out _) ?_; rintro e w1 ⟨rfl, rfl⟩; rw [b1])
    rw [rounds_succ]
    go_wp2_with (go_at_call 108; refine Calls.mono (C.out _) ?_; rintro e w1 ⟨rfl, rfl⟩; rw [b2])
    rw [rounds_succ]
    go_wp2_with (go_at_call 108; refine Calls.mono (C.out _) ?_; rintro e w1 ⟨rfl, rfl⟩; rw [b3])
    go_returns
    exact ⟨congrArg (fun x => Ending.returned (.int .i64 x)) E.out, rfl⟩
  have E : Hid (-1 = nxt L 3) := (nxt_4 (s := 3) b1 b2 b3).symm
  generalize nxt L 3 = N at *
  go_enter Try.func118, Try.ntmps118
  go_wp2
  refine wp_loop_rounds 4 ?_
  rw [rounds_succ]
  go_wp2_with (go_at_call 108; refine Calls.mono (C.out _) ?_; rintro e w1 ⟨rfl, rfl⟩; rw [b1])
  rw [rounds_succ]
  go_wp2_with (go_at_call 108; refine Calls.mono (C.out _) ?_; rintro e w1 ⟨rfl, rfl⟩; rw [b2])
  rw [rounds_succ]
  go_wp2_with (go_at_call 108; refine Calls.mono (C.out _) ?_; rintro e w1 ⟨rfl, rfl⟩; rw [b3])
  rw [rounds_succ]
  go_wp2
  go_returns
  exact ⟨congrArg (fun x => Ending.returned (.int .i64 x)) E.out, rfl⟩

theorem sNext_any (lo hi : Nat) (ao : Option Addr) (ca : Nat) (L : List Int) (s : Int) (w : World) (ha : Row .i64 w lo hi ao L) (hl : L.length ≤ 1048576) (h0 : 0 ≤ s) (h3 : s ≤ 3) :
    Calls Try.prog 118 #[.slice ao L.length ca, .int .i64 s] w fun e w' => e = .returned (.int .i64 (nxt L s)) ∧ w' = w := by
  obtain rfl | rfl | rfl | rfl : s = 0 ∨ s = 1 ∨ s = 2 ∨ s = 3 := by omega
  · exact sNext_0 lo hi ao ca L w ha hl
  · exact sNext_1 lo hi ao ca L w ha hl
  · exact sNext_2 lo hi ao ca L w ha hl
  · exact sNext_3 lo hi ao ca L w ha hl

end Go.Proofs.Ytbagloapclgpnaa
