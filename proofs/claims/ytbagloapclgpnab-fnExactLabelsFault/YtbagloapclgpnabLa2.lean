/- LabelsFault: the law's walk. -/
import Derived.Test.YtbagloapclgpnabLa1
namespace Go.Proofs.Ytbagloapclgpnab
open Go.RowKit
set_option linter.unusedVariables false

set_option maxHeartbeats 400000 in
theorem labels_big (ao : Option Addr) (n ca : Nat) (w : World) (hn : n ≤ maxLen) (h : ¬ n ≤ 1048576) :
    Calls Try.prog 3 #[.slice ao n ca] w fun e w' => e = .returned (.bool true) ∧ Below w.heap.size w w' := by
  have h' : ¬ (n : Int) ≤ 1048576 := by omega
  go_enter Try.func3, Try.ntmps3
  go_wp2_with fail
  refine Calls.mono (szL_any ao n ca 1048576 w hn (by omega)) ?_
  rintro e w1 ⟨rfl, rfl⟩
  rw [if_neg (show ¬ (n : Int) ≤ 1048576 by omega)]
  go_wp2
  go_returns
  exact ⟨rfl, Below.refl _ _⟩

set_option maxHeartbeats 2000000 in
theorem labels_small (lo hi : Nat) (ao : Option Addr) (ca : Nat) (L : List La) (w : World) (ha : Las w lo hi ao L) (h1 : hi ≤ w.heap.size) (hl : L.length ≤ 1048576) :
    Calls Try.prog 3 #[.slice ao L.length ca] w fun e w' => e = .returned (.bool true) ∧ Below w.heap.size w w' := by
  have hl' : (L.length : Int) ≤ 1048576 := by omega
  have HA := hideP ha
  clear ha
  go_enter Try.func3, Try.ntmps3
  go_wp2_with fail
  refine Calls.mono (szL_any ao L.length ca 1048576 w (by unfold maxLen; omega) (by omega)) ?_
  rintro e w1 ⟨rfl, rfl⟩
  rw [if_pos hl']
  go_wp2_with fail
  refine Calls.mono (toLS_any lo hi ao ca L w1 HA.out h1 hl) ?_
  rintro e w2 ⟨g2, rfl, hg2, F2⟩
  have K2 := F2.below
  go_wp2_with fail
  refine Calls.mono (sLF_any _ _ _ L.length L w2 F2.las (Nat.le_refl _) hl) ?_
  rintro e w3 ⟨rfl, k3⟩
  have K3 := hideP (K2.trans (k3.mono K2.size))
  clear K2 k3 F2
  go_wp2_with fail
  refine Calls.mono (toLS_any lo hi ao ca L w3 (HA.out.keep (B := w1.heap.size) K3.out h1) (by have := K3.out.size; omega) hl) ?_
  rintro e w5 ⟨g5, rfl, hg5, F5⟩
  have Q5 := hideP F5.las
  have K5 := hideP (K3.out.trans (F5.below.mono K3.out.size))
  clear F5
  go_wp2_with fail
  refine Calls.mono (iLabels_any _ _ _ L.length L w5 Q5.out (Nat.le_refl _) hl) ?_
  rintro e w6 ⟨rfl, k6⟩
  have K6 := hideP (K5.out.trans (k6.mono K5.out.size))
  have Q6 := hideP (Q5.out.keep k6 (Nat.le_refl _))
  have n6 := k6.size
  clear k6
  go_wp2_with fail
  refine Calls.mono (toLS_any lo hi ao ca L w6 (HA.out.keep (B := w1.heap.size) K6.out h1) (by have := K6.out.size; omega) hl) ?_
  rintro e w9 ⟨g9, rfl, hg9, F9⟩
  have n9 := F9.below.size
  go_wp2_with fail
  refine Calls.mono (eqLS_same _ _ _ _ _ _ L.length L.length L w9 (Q6.out.keep F9.below n6) F9.las (by omega) (Nat.le_refl _) hl) ?_
  rintro e w10 ⟨rfl, k10⟩
  have K10 := hideP ((K6.out.trans (F9.below.mono K6.out.size)).trans (k10.mono (by have := K6.out.size; omega)))
  clear F9 k10
  go_wp2
  go_returns
  exact ⟨rfl, K10.out⟩

theorem labels_law (ao : Option Addr) (ca : Nat) (L : List La) (w : World) (hm : L.length ≤ maxLen) (ha : Las w 0 w.heap.size ao L) :
    Calls Try.prog 3 #[.slice ao L.length ca] w fun e w' => e = .returned (.bool true) ∧ Below w.heap.size w w' := by
  by_cases h : L.length ≤ 1048576
  · exact labels_small 0 w.heap.size ao ca L w ha (Nat.le_refl _) h
  · exact labels_big ao L.length ca w hm h
end Go.Proofs.Ytbagloapclgpnab
