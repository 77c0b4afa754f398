/- The lowest free id of a slot: walks, one for each slot and each case. (Written by genid.py.) A window made: what it is; where there is none, by the specification. -/
import Derived.Test.YtmmjannkfmiohaaTs13
import Derived.Test.YtmmjannkfmiohaaTs18
import Derived.Test.YtmmjannkfmiohaaTs15
namespace Go.Proofs.Ytmmjannkfmiohaa
open Go.RowKit Go.Maps
set_option linter.unusedVariables false
attribute [local go_sem high] fI0 fI1

set_option maxHeartbeats 1000000 in
theorem sNext_0 (lo hi : Nat) (ao : Option Addr) (ca : Nat) (L : List Int) (w : World) (ha : Row .i64 w lo hi ao L) (hl : L.length ≤ 1048576) :
    Calls Try.prog 79 #[.slice ao L.length ca, .int .i64 0] w fun e w' => e = .returned (.int .i64 (nxt L 0)) ∧ w' = w := by
  have C := hideP (fun v => sHas_any lo hi ao ca L v w ha hl)
  clear ha
  cases b1 : hasI L 1
  · have E : Hid (1 = nxt L 0) := (nxt_1 (s := 0) b1).symm
    generalize nxt L 0 = N at *
    go_enter Try.func79, Try.ntmps79
    go_wp2
    refine wp_loop_rounds 4 ?_
    rw [rounds_succ]
    go_wp2_with (go_at_call 68; refine Calls.mono (C.out _) ?_; rintro e w1 ⟨rfl, rfl⟩; rw [b1])
    go_returns
    exact ⟨congrArg (fun x => Ending.returned (.int .i64 x)) E.out, rfl⟩
  cases b2 : hasI L 2
  · have E : Hid (2 = nxt L 0) := (nxt_2 (s := 0) b1 b2).symm
    generalize nxt L 0 = N at *
    go_enter Try.func79, Try.ntmps79
    go_wp2
    refine wp_loop_rounds 4 ?_
    rw [rounds_succ]
    go_wp2_with (go_at_call 68; refine Calls.mono (C.out _) ?_; rintro e w1 ⟨rfl, rfl⟩; rw [b1])
    rw [rounds_succ]
    go_wp2_with (go_at_call 68; refine Calls.mono (C.out _) ?_; rintro e w1 ⟨rfl, rfl⟩; rw [b2])
    go_returns
    exact ⟨congrArg (fun x => Ending.returned (.int .i64 x)) E.out, rfl⟩
  cases b3 : hasI L 3
  · have E : Hid (3 = nxt L 0) := (nxt_3 (s := 0) b1 b2 b3).symm
    generalize nxt L 0 = N at *
    go_enter Try.func79, Try.ntmps79
    go_wp2
    refine wp_loop_rounds 4 ?_
    rw [rounds_succ]
    go_wp2_with (go_at_call 68; refine Calls.mono (C.out _) ?_; rintro e w1 ⟨rfl, rfl⟩; rw [b1])
    rw [rounds_succ]
    go_wp2_with (go_at_call 68; refine Calls.mono (C.out _) ?_; rintro e w1 ⟨rfl, rfl⟩; rw [b2])
    rw [rounds_succ]
    go_wp2_with (go_at_call 68; refine Calls.mono (C.out _) ?_; rintro e w1 ⟨rfl, rfl⟩; rw [b3])
    go_returns
    exact ⟨congrArg (fun x => Ending.returned (.int .i64 x)) E.out, rfl⟩
  have E : Hid (-1 = nxt L 0) := (nxt_4 (s := 0) b1 b2 b3).symm
  generalize nxt L 0 = N at *
  go_enter Try.func79, Try.ntmps79
  go_wp2
  refine wp_loop_rounds 4 ?_
  rw [rounds_succ]
  go_wp2_with (go_at_call 68; refine Calls.mono (C.out _) ?_; rintro e w1 ⟨rfl, rfl⟩; rw [b1])
  rw [rounds_succ]
  go_wp2_with (go_at_call 68; refine Calls.mono (C.out _) ?_; rintro e w1 ⟨rfl, rfl⟩; rw [b2])
  rw [rounds_succ]
  go_wp2_with (go_at_call 68; refine Calls.mono (C.out _) ?_; rintro e w1 ⟨rfl, rfl⟩; rw [b3])
  rw [rounds_succ]
  go_wp2
  go_returns
  exact ⟨congrArg (fun x => Ending.returned (.int .i64 x)) E.out, rfl⟩

set_option maxHeartbeats 1000000 in
theorem sNext_1 (lo hi : Nat) (ao : Option Addr) (ca : Nat) (L : List Int) (w : World) (ha : Row .i64 w lo hi ao L) (hl : L.length ≤ 1048576) :
    Calls Try.prog 79 #[.slice ao L.length ca, .int .i64 1] w fun e w' => e = .returned (.int .i64 (nxt L 1)) ∧ w' = w := by
  have C := hideP (fun v => sHas_any lo hi ao ca L v w ha hl)
  clear ha
  cases b1 : hasI L 65
  · have E : Hid (65 = nxt L 1) := (nxt_1 (s := 1) b1).symm
    generalize nxt L 1 = N at *
    go_enter Try.func79, Try.ntmps79
    go_wp2
    refine wp_loop_rounds 4 ?_
    rw [rounds_succ]
    go_wp2_with (go_at_call 68; refine Calls.mono (C.out _) ?_; rintro e w1 ⟨rfl, rfl⟩; rw [b1])
    go_returns
    exact ⟨congrArg (fun x => Ending.returned (.int .i64 x)) E.out, rfl⟩
  cases b2 : hasI L 66
  · have E : Hid (66 = nxt L 1) := (nxt_2 (s := 1) b1 b2).symm
    generalize nxt L 1 = N at *
    go_enter Try.func79, Try.ntmps79
    go_wp2
    refine wp_loop_rounds 4 ?_
    rw [rounds_succ]
    go_wp2_with (go_at_call 68; refine Calls.mono (C.out _) ?_; rintro e w1 ⟨rfl, rfl⟩; rw [b1])
    rw [rounds_succ]
    go_wp2_with (go_at_call 68; refine Calls.mono (C.out _) ?_; rintro e w1 ⟨rfl, rfl⟩; rw [b2])
    go_returns
    exact ⟨congrArg (fun x => Ending.returned (.int .i64 x)) E.out, rfl⟩
  cases b3 : hasI L 67
  · have E : Hid (67 = nxt L 1) := (nxt_3 (s := 1) b1 b2 b3).symm
    generalize nxt L 1 = N at *
    go_enter Try.func79, Try.ntmps79
    go_wp2
    refine wp_loop_rounds 4 ?_
    rw [rounds_succ]
    go_wp2_with (go_at_call 68; refine Calls.mono (C.out _) ?_; rintro e w1 ⟨rfl, rfl⟩; rw [b1])
    rw [rounds_succ]
    go_wp2_with (go_at_call 68; refine Calls.mono (C.out _) ?_; rintro e w1 ⟨rfl, rfl⟩; rw [b2])
    rw [rounds_succ]
    go_wp2_with (go_at_call 68; refine Calls.mono (C.out _) ?_; rintro e w1 ⟨rfl, rfl⟩; rw [b3])
    go_returns
    exact ⟨congrArg (fun x => Ending.returned (.int .i64 x)) E.out, rfl⟩
  have E : Hid (-1 = nxt L 1) := (nxt_4 (s := 1) b1 b2 b3).symm
  generalize nxt L 1 = N at *
  go_enter Try.func79, Try.ntmps79
  go_wp2
  refine wp_loop_rounds 4 ?_
  rw [rounds_succ]
  go_wp2_with (go_at_call 68; refine Calls.mono (C.out _) ?_; rintro e w1 ⟨rfl, rfl⟩; rw [b1])
  rw [rounds_succ]
  go_wp2_with (go_at_call 68; refine Calls.mono (C.out _) ?_; rintro e w1 ⟨rfl, rfl⟩; rw [b2])
  rw [rounds_succ]
  go_wp2_with (go_at_call 68; refine Calls.mono (C.out _) ?_; rintro e w1 ⟨rfl, rfl⟩; rw [b3])
  rw [rounds_succ]
  go_wp2
  go_returns
  exact ⟨congrArg (fun x => Ending.returned (.int .i64 x)) E.out, rfl⟩

set_option maxHeartbeats 1000000 in
theorem sNext_2 (lo hi : Nat) (ao : Option Addr) (ca : Nat) (L : List Int) (w : World) (ha : Row .i64 w lo hi ao L) (hl : L.length ≤ 1048576) :
    Calls Try.prog 79 #[.slice ao L.length ca, .int .i64 2] w fun e w' => e = .returned (.int .i64 (nxt L 2)) ∧ w' = w := by
  have C := hideP (fun v => sHas_any lo hi ao ca L v w ha hl)
  clear ha
  cases b1 : hasI L 129
  · have E : Hid (129 = nxt L 2) := (nxt_1 (s := 2) b1).symm
    generalize nxt L 2 = N at *
    go_enter Try.func79, Try.ntmps79
    go_wp2
    refine wp_loop_rounds 4 ?_
    rw [rounds_succ]
    go_wp2_with (go_at_call 68; refine Calls.mono (C.out _) ?_; rintro e w1 ⟨rfl, rfl⟩; rw [b1])
    go_returns
    exact ⟨congrArg (fun x => Ending.returned (.int .i64 x)) E.out, rfl⟩
  cases b2 : hasI L 130
  · have E : Hid (130 = nxt L 2) := (nxt_2 (s := 2) b1 b2).symm
    generalize nxt L 2 = N at *
    go_enter Try.func79, Try.ntmps79
    go_wp2
    refine wp_loop_rounds 4 ?_
    rw [rounds_succ]
    go_wp2_with (go_at_call 68; refine Calls.mono (C.out _) ?_; rintro e w1 ⟨rfl, rfl⟩; rw [b1])
    rw [rounds_succ]
    go_wp2_with (go_at_call 68; refine Calls.mono (C.out _) ?_; rintro e w1 ⟨rfl, rfl⟩; rw [b2])
    go_returns
    exact ⟨congrArg (fun x => Ending.returned (.int .i64 x)) E.out, rfl⟩
  cases b3 : hasI L 131
  · have E : Hid (131 = nxt L 2) := (nxt_3 (s := 2) b1 b2 b3).symm
    generalize nxt L 2 = N at *
    go_enter Try.func79, Try.ntmps79
    go_wp2
    refine wp_loop_rounds 4 ?_
    rw [rounds_succ]
    go_wp2_with (go_at_call 68; refine Calls.mono (C.out _) ?_; rintro e w1 ⟨rfl, rfl⟩; rw [b1])
    rw [rounds_succ]
    go_wp2_with (go_at_call 68; refine Calls.mono (C.out _) ?_; rintro e w1 ⟨rfl, rfl⟩; rw [b2])
    rw [rounds_succ]
    go_wp2_with (go_at_call 68; refine Calls.mono (C.out _) ?_; rintro e w1 ⟨rfl, rfl⟩; rw [b3])
    go_returns
    exact ⟨congrArg (fun x => Ending.returned (.int .i64 x)) E.out, rfl⟩
  have E : Hid (-1 = nxt L 2) := (nxt_4 (s := 2) b1 b2 b3).symm
  generalize nxt L 2 = N at *
  go_enter Try.func79, Try.ntmps79
  go_wp2
  refine wp_loop_rounds 4 ?_
  rw [rounds_succ]
  go_wp2_with (go_at_call 68; refine Calls.mono (C.out _) ?_; rintro e w1 ⟨rfl, rfl⟩; rw [b1])
  rw [rounds_succ]
  go_wp2_with (go_at_call 68; refine Calls.mono (C.out _) ?_; rintro e w1 ⟨rfl, rfl⟩; rw [b2])
  rw [rounds_succ]
  go_wp2_with (go_at_call 68; refine Calls.mono (C.out _) ?_; rintro e w1 ⟨rfl, rfl⟩; rw [b3])
  rw [rounds_succ]
  go_wp2
  go_returns
  exact ⟨congrArg (fun x => Ending.returned (.int .i64 x)) E.out, rfl⟩

set_option maxHeartbeats 1000000 in
theorem sNext_3 (lo hi : Nat) (ao : Option Addr) (ca : Nat) (L : List Int) (w : World) (ha : Row .i64 w lo hi ao L) (hl : L.length ≤ 1048576) :
    Calls Try.prog 79 #[.slice ao L.length ca, .int .i64 3] w fun e w' => e = .returned (.int .i64 (nxt L 3)) ∧ w' = w := by
  have C := hideP (fun v => sHas_any lo hi ao ca L v w ha hl)
  clear ha
  cases b1 : hasI L 193
  · have E : Hid (193 = nxt L 3) := (nxt_1 (s := 3) b1).symm
    generalize nxt L 3 = N at *
    go_enter Try.func79, Try.ntmps79
    go_wp2
    refine wp_loop_rounds 4 ?_
    rw [rounds_succ]
    go_wp2_with (go_at_call 68; refine Calls.mono (C.out _) ?_; rintro e w1 ⟨rfl, rfl⟩; rw [b1])
    go_returns
    exact ⟨congrArg (fun x => Ending.returned (.int .i64 x)) E.out, rfl⟩
  cases b2 : hasI L 194
  · have E : Hid (194 = nxt L 3) := (nxt_2 (s := 3) b1 b2).symm
    generalize nxt L 3 = N at *
    go_enter Try.func79, Try.ntmps79
    go_wp2
    refine wp_loop_rounds 4 ?_
    rw [rounds_succ]
    go_wp2_with (go_at_call 68; refine Calls.mono (C.out _) ?_; rintro e w1 ⟨rfl, rfl⟩; rw [b1])
    rw [rounds_succ]
    go_wp2_with (go_at_call 68; refine Calls.mono (C.out _) ?_; rintro e w1 ⟨rfl, rfl⟩; rw [b2])
    go_returns
    exact ⟨congrArg (fun x => Ending.returned (.int .i64 x)) E.out, rfl⟩
  cases b3 : hasI L 195
  · have E : Hid (195 = nxt L 3) := (nxt_3 (s := 3) b1 b2 b3).symm
    generalize nxt L 3 = N at *
    go_enter Try.func79, Try.ntmps79
    go_wp2
    refine wp_loop_rounds 4 ?_
    rw [rounds_succ]
    go_wp2_with (go_at_call 68; refine Calls.mono (C.out _) ?_; rintro e w1 ⟨rfl, rfl⟩; rw [b1])
    rw [rounds_succ]
    go_wp2_with (go_at_call 68; refine Calls.mono (C.out _) ?_; rintro e w1 ⟨rfl, rfl⟩; rw [b2])
    rw [rounds_succ]
    go_wp2_with (go_at_call 68; refine Calls.mono (C.out _) ?_; rintro e w1 ⟨rfl, rfl⟩; rw [b3])
    go_returns
    exact ⟨congrArg (fun x => Ending.returned (.int .i64 x)) E.out, rfl⟩
  have E : Hid (-1 = nxt L 3) := (nxt_4 (s := 3) b1 b2 b3).symm
  generalize nxt L 3 = N at *
  go_enter Try.func79, Try.ntmps79
  go_wp2
  refine wp_loop_rounds 4 ?_
  rw [rounds_succ]
  go_wp2_with (go_at_call 68; refine Calls.mono (C.out _) ?_; rintro e w1 ⟨rfl, rfl⟩; rw [b1])
  rw [rounds_succ]
  go_wp2_with (go_at_call 68; refine Calls.mono (C.out _) ?_; rintro e w1 ⟨rfl, rfl⟩; rw [b2])
  rw [rounds_succ]
  go_wp2_with (go_at_call 68; refine Calls.mono (C.out _) ?_; rintro e w1 ⟨rfl, rfl⟩; rw [b3])
  rw [rounds_succ]
  go_wp2
  go_returns
  exact ⟨congrArg (fun x => Ending.returned (.int .i64 x)) E.out, rfl⟩

theorem sNext_any (lo hi : Nat) (ao : Option Addr) (ca : Nat) (L : List Int) (s : Int) (w : World) (ha : Row .i64 w lo hi ao L) (hl : L.length ≤ 1048576) (h0 : 0 ≤ s) (h3 : s ≤ 3) :
    Calls Try.prog 79 #[.slice ao L.length ca, .int .i64 s] w fun e w' => e = .returned (.int .i64 (nxt L s)) ∧ w' = w := by
  obtain rfl | rfl | rfl | rfl : s = 0 ∨ s = 1 ∨ s = 2 ∨ s = 3 := by omega
  · exact sNext_0 lo hi ao ca L w ha hl
  · exact sNext_1 lo hi ao ca L w ha hl
  · exact sNext_2 lo hi ao ca L w ha hl
  · exact sNext_3 lo hi ao ca L w ha hl

end Go.Proofs.Ytmmjannkfmiohaa

namespace Go.Proofs.Ytmmjannkfmiohaa
open Go.RowKit Go.Maps
set_option linter.unusedVariables false

def mkZ (C : List Wc) (s x y p h : Int) : Int := if askS C s = 0 then (if wrB x y p h = true then 3 else if nxt (C.map Wc.i) s < 0 then 7 else 0) else askS C s
def mkV (C : List Wc) (s x y p h : Int) : Int := if mkZ C s x y p h = 0 then nxt (C.map Wc.i) s else 0
def mkP (C : List Wc) (s x y p h : Int) : List Wc := if mkZ C s x y p h = 0 then C ++ [⟨nxt (C.map Wc.i) s, x, y, p, h, false, List.replicate (p * h).toNat 0⟩] else []
theorem mkV_no {C : List Wc} {s x y p h : Int} (e : mkZ C s x y p h ≠ 0) : mkV C s x y p h = 0 := by unfold mkV; rw [if_neg e]
theorem mkP_no {C : List Wc} {s x y p h : Int} (e : mkZ C s x y p h ≠ 0) : mkP C s x y p h = [] := by unfold mkP; rw [if_neg e]

set_option maxRecDepth 100000 in
set_option maxHeartbeats 1000000 in
theorem sMake_no (so : Option Addr) (sc : Nat) (L : List Wn) (s x y p h : Int) (w : World) (hL : Ws w 0 w.heap.size so L) (hn : L.length + wzs L ≤ 1048576) (hz : mkZ (L.map Wn.ct) s x y p h ≠ 0) :
    Calls Try.prog 64 #[.slice so L.length sc, .int .i64 s, .agg #[.int .i64 x, .int .i64 y, .int .i64 p, .int .i64 h]] w (SAns (mkZ (L.map Wn.ct) s x y p h) 0 [] 0 w) := by
  have SF := fun w1 (kk : Below w.heap.size w w1) => l7F_any 0 w.heap.size so sc L w1 (hL.keep kk (Nat.le_refl _)) kk.size hn
  by_cases hst : stF (L.map Wn.ct) = 0
  · rw [hst] at SF
    have SF' := hideP SF
    by_cases hs : 0 ≤ s ∧ s ≤ 3
    · have ha := askS_yes hst hs
      have hd : decide (0 ≤ s ∧ s ≤ 3) = true := decide_eq_true hs
      cases hr : wrB x y p h
      · have hz2 : mkZ (L.map Wn.ct) s x y p h = if nxt ((L.map Wn.ct).map Wc.i) s < 0 then 7 else 0 := by unfold mkZ; rw [if_pos ha, hr]; rfl
        have hneg : nxt ((L.map Wn.ct).map Wc.i) s < 0 := Classical.byContradiction fun e => hz (by rw [hz2, if_neg e])
        rw [hz2, if_pos hneg]
        have ID := hideP (fun w1 (kk : Below w.heap.size w w1) => l7Ids_any 0 w.heap.size so sc L w1 (hL.keep kk (Nat.le_refl _)) kk.size (by omega))
        rw [mapI] at hneg
        have hIl : (L.map Wn.i).length = L.length := by simp
        have HI := hideP hIl
        have HN := hideP hneg
        have hs1 := hs.1
        have hs2 := hs.2
        clear SF hL hst ha hz hz2 hneg hs
        go_enter Try.func64, Try.ntmps64
        go_wp2_with fail
        refine Calls.mono (SF'.out _ (by go_grown)) ?_
        rintro e w1 ⟨rfl, k1⟩
        have n1 := k1.size
        simp only [World.size_alloc] at n1
        have K1 : Hid (Below w.heap.size w w1) := hideP (Below.trans (by go_grown) (k1.mono (by simp; omega)))
        have R1 : Hid (IsRect w1 w.heap.size 0 x y p h) := hideP ⟨(k1.cell (p := ⟨w.heap.size, 0, none⟩) (by simp; omega)).trans (by simp [go_sem]), (k1.cell (p := ⟨w.heap.size, 1, none⟩) (by simp; omega)).trans (by simp [go_sem]), (k1.cell (p := ⟨w.heap.size, 2, none⟩) (by simp; omega)).trans (by simp [go_sem]), (k1.cell (p := ⟨w.heap.size, 3, none⟩) (by simp; omega)).trans (by simp [go_sem])⟩
        have X1 : R3 w1 (w.heap.size + 1) (.int .i64 0) (.int .i64 0) (.slice none 0 0) := R3.keep ⟨by simp [go_sem], by simp [go_sem], by simp [go_sem], by simp [go_sem], by simp⟩ k1 (by simp)
        clear k1
        go_wp2_with fail
        refine Calls.mono (sSlot5_any s w1) ?_
        rintro e w2 ⟨rfl, hw⟩
        subst hw
        rw [hd]
        go_wp2_with fail
        refine Calls.mono (l7Rect_any _ _ x y p h w2 R1.out) ?_
        rintro e w3 ⟨rfl, hw⟩
        subst hw
        rw [hr]
        go_wp2_with fail
        refine Calls.mono (ID.out w3 K1.out) ?_
        rintro e w4 ⟨ao4, cap4, rfl, O4, k4⟩
        have K4 := hideP (K1.out.trans (k4.mono K1.out.size))
        have X4 := X1.keep k4 X1.lt
        have NX := sNext_any w3.heap.size w4.heap.size ao4 cap4 (L.map Wn.i) s w4 (OwnR.wrt O4).row (by rw [HI.out]; omega) hs1 hs2
        rw [HI.out] at NX
        have NX' := hideP NX
        rw [HI.out]
        obtain ⟨v, hv⟩ : ∃ v, nxt (L.map Wn.i) s = v := ⟨_, rfl⟩
        rw [hv] at NX' HN
        have hneg := HN.out
        clear k4 O4 NX X1 ID hv
        go_wp2_with fail
        refine Calls.mono NX'.out ?_
        rintro e w5 ⟨rfl, hw⟩
        subst hw
        go_wp2_with fail
        refine Calls.mono (l7Bad_any 7 w5) ?_
        rintro e w9 ⟨rfl, k9⟩
        have K9 := hideP (K4.out.trans (k9.mono K4.out.size))
        obtain ⟨x0, x1, x2, x3, x4⟩ := X4.keep k9 X4.lt
        clear k9 X4
        go_wp2
        have K3 := (((K9.out.setCell (p := ⟨w.heap.size + 1, 0, none⟩) (by show w.heap.size ≤ w.heap.size + 1; omega) (.int .i64 7)).setCell (p := ⟨w.heap.size + 1, 1, none⟩) (by show w.heap.size ≤ w.heap.size + 1; omega) (.int .i64 0)).setCell (p := ⟨w.heap.size + 1, 2, none⟩) (by show w.heap.size ≤ w.heap.size + 1; omega) (.slice none 0 0))
        exact bodyPost_ret (v := .agg #[.int .i64 7, .int .i64 0, .slice none 0 0]) (by simp [results, Try.results64, go_sem, *]) rfl (sans_bad K3)
      · have hz2 : mkZ (L.map Wn.ct) s x y p h = 3 := by unfold mkZ; rw [if_pos ha, hr]; rfl
        rw [hz2]
        clear hz2
        clear SF hL hst ha hz hs
        go_enter Try.func64, Try.ntmps64
        go_wp2_with fail
        refine Calls.mono (SF'.out _ (by go_grown)) ?_
        rintro e w1 ⟨rfl, k1⟩
        have n1 := k1.size
        simp only [World.size_alloc] at n1
        have K1 : Hid (Below w.heap.size w w1) := hideP (Below.trans (by go_grown) (k1.mono (by simp; omega)))
        have R1 : Hid (IsRect w1 w.heap.size 0 x y p h) := hideP ⟨(k1.cell (p := ⟨w.heap.size, 0, none⟩) (by simp; omega)).trans (by simp [go_sem]), (k1.cell (p := ⟨w.heap.size, 1, none⟩) (by simp; omega)).trans (by simp [go_sem]), (k1.cell (p := ⟨w.heap.size, 2, none⟩) (by simp; omega)).trans (by simp [go_sem]), (k1.cell (p := ⟨w.heap.size, 3, none⟩) (by simp; omega)).trans (by simp [go_sem])⟩
        have X1 : R3 w1 (w.heap.size + 1) (.int .i64 0) (.int .i64 0) (.slice none 0 0) := R3.keep ⟨by simp [go_sem], by simp [go_sem], by simp [go_sem], by simp [go_sem], by simp⟩ k1 (by simp)
        clear k1
        go_wp2_with fail
        refine Calls.mono (sSlot5_any s w1) ?_
        rintro e w2 ⟨rfl, hw⟩
        subst hw
        rw [hd]
        go_wp2_with fail
        refine Calls.mono (l7Rect_any _ _ x y p h w2 R1.out) ?_
        rintro e w3 ⟨rfl, hw⟩
        subst hw
        rw [hr]
        go_wp2_with fail
        refine Calls.mono (l7Bad_any 3 w3) ?_
        rintro e w9 ⟨rfl, k9⟩
        have K9 := hideP (K1.out.trans (k9.mono K1.out.size))
        obtain ⟨x0, x1, x2, x3, x4⟩ := X1.keep k9 X1.lt
        clear k9 X1
        go_wp2
        have K3 := (((K9.out.setCell (p := ⟨w.heap.size + 1, 0, none⟩) (by show w.heap.size ≤ w.heap.size + 1; omega) (.int .i64 3)).setCell (p := ⟨w.heap.size + 1, 1, none⟩) (by show w.heap.size ≤ w.heap.size + 1; omega) (.int .i64 0)).setCell (p := ⟨w.heap.size + 1, 2, none⟩) (by show w.heap.size ≤ w.heap.size + 1; omega) (.slice none 0 0))
        exact bodyPost_ret (v := .agg #[.int .i64 3, .int .i64 0, .slice none 0 0]) (by simp [results, Try.results64, go_sem, *]) rfl (sans_bad K3)
    · have ha := askS_out hst hs
      have hd : decide (0 ≤ s ∧ s ≤ 3) = false := decide_eq_false hs
      · have hz2 : mkZ (L.map Wn.ct) s x y p h = 3 := by unfold mkZ; rw [if_neg (by rw [ha]; decide), ha]
        rw [hz2]
        clear hz2
        clear SF hL hst ha hz hs
        go_enter Try.func64, Try.ntmps64
        go_wp2_with fail
        refine Calls.mono (SF'.out _ (by go_grown)) ?_
        rintro e w1 ⟨rfl, k1⟩
        have n1 := k1.size
        simp only [World.size_alloc] at n1
        have K1 : Hid (Below w.heap.size w w1) := hideP (Below.trans (by go_grown) (k1.mono (by simp; omega)))
        have R1 : Hid (IsRect w1 w.heap.size 0 x y p h) := hideP ⟨(k1.cell (p := ⟨w.heap.size, 0, none⟩) (by simp; omega)).trans (by simp [go_sem]), (k1.cell (p := ⟨w.heap.size, 1, none⟩) (by simp; omega)).trans (by simp [go_sem]), (k1.cell (p := ⟨w.heap.size, 2, none⟩) (by simp; omega)).trans (by simp [go_sem]), (k1.cell (p := ⟨w.heap.size, 3, none⟩) (by simp; omega)).trans (by simp [go_sem])⟩
        have X1 : R3 w1 (w.heap.size + 1) (.int .i64 0) (.int .i64 0) (.slice none 0 0) := R3.keep ⟨by simp [go_sem], by simp [go_sem], by simp [go_sem], by simp [go_sem], by simp⟩ k1 (by simp)
        clear k1
        go_wp2_with fail
        refine Calls.mono (sSlot5_any s w1) ?_
        rintro e w2 ⟨rfl, hw⟩
        subst hw
        rw [hd]
        go_wp2_with fail
        refine Calls.mono (l7Bad_any 3 w2) ?_
        rintro e w9 ⟨rfl, k9⟩
        have K9 := hideP (K1.out.trans (k9.mono K1.out.size))
        obtain ⟨x0, x1, x2, x3, x4⟩ := X1.keep k9 X1.lt
        clear k9 X1
        go_wp2
        have K3 := (((K9.out.setCell (p := ⟨w.heap.size + 1, 0, none⟩) (by show w.heap.size ≤ w.heap.size + 1; omega) (.int .i64 3)).setCell (p := ⟨w.heap.size + 1, 1, none⟩) (by show w.heap.size ≤ w.heap.size + 1; omega) (.int .i64 0)).setCell (p := ⟨w.heap.size + 1, 2, none⟩) (by show w.heap.size ≤ w.heap.size + 1; omega) (.slice none 0 0))
        exact bodyPost_ret (v := .agg #[.int .i64 3, .int .i64 0, .slice none 0 0]) (by simp [results, Try.results64, go_sem, *]) rfl (sans_bad K3)
  · have ha := askS_bad (s := s) hst
    · · have hz2 : mkZ (L.map Wn.ct) s x y p h = stF (L.map Wn.ct) := by unfold mkZ; rw [if_neg (by rw [ha]; exact hst), ha]
        rw [hz2]
        obtain ⟨F, hF⟩ : ∃ F, stF (L.map Wn.ct) = F := ⟨_, rfl⟩
        rw [hF] at SF hst ⊢
        have hne' : (F != 0) = true := by simpa using hst
        have SF' := hideP SF
        have hs := hF
        clear hz2 hF
        clear SF hL hst ha hz hs
        go_enter Try.func64, Try.ntmps64
        go_wp2_with fail
        refine Calls.mono (SF'.out _ (by go_grown)) ?_
        rintro e w1 ⟨rfl, k1⟩
        have n1 := k1.size
        simp only [World.size_alloc] at n1
        have K1 : Hid (Below w.heap.size w w1) := hideP (Below.trans (by go_grown) (k1.mono (by simp; omega)))
        have R1 : Hid (IsRect w1 w.heap.size 0 x y p h) := hideP ⟨(k1.cell (p := ⟨w.heap.size, 0, none⟩) (by simp; omega)).trans (by simp [go_sem]), (k1.cell (p := ⟨w.heap.size, 1, none⟩) (by simp; omega)).trans (by simp [go_sem]), (k1.cell (p := ⟨w.heap.size, 2, none⟩) (by simp; omega)).trans (by simp [go_sem]), (k1.cell (p := ⟨w.heap.size, 3, none⟩) (by simp; omega)).trans (by simp [go_sem])⟩
        have X1 : R3 w1 (w.heap.size + 1) (.int .i64 0) (.int .i64 0) (.slice none 0 0) := R3.keep ⟨by simp [go_sem], by simp [go_sem], by simp [go_sem], by simp [go_sem], by simp⟩ k1 (by simp)
        clear k1
        go_wp2_with fail
        refine Calls.mono (l7Bad_any F w1) ?_
        rintro e w9 ⟨rfl, k9⟩
        have K9 := hideP (K1.out.trans (k9.mono K1.out.size))
        obtain ⟨x0, x1, x2, x3, x4⟩ := X1.keep k9 X1.lt
        clear k9 X1
        go_wp2
        have K3 := (((K9.out.setCell (p := ⟨w.heap.size + 1, 0, none⟩) (by show w.heap.size ≤ w.heap.size + 1; omega) (.int .i64 F)).setCell (p := ⟨w.heap.size + 1, 1, none⟩) (by show w.heap.size ≤ w.heap.size + 1; omega) (.int .i64 0)).setCell (p := ⟨w.heap.size + 1, 2, none⟩) (by show w.heap.size ≤ w.heap.size + 1; omega) (.slice none 0 0))
        exact bodyPost_ret (v := .agg #[.int .i64 F, .int .i64 0, .slice none 0 0]) (by simp [results, Try.results64, go_sem, *]) rfl (sans_bad K3)
end Go.Proofs.Ytmmjannkfmiohaa
