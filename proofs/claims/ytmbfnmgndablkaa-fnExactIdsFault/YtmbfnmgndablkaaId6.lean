/- IdsFault: the law's walk. -/
import Derived.Test.YtmbfnmgndablkaaId4
import Derived.Test.YtmbfnmgndablkaaRowI
namespace Go.Proofs.Ytmbfnmgndablkaa
open Go.RowKit Go.Maps
set_option linter.unusedVariables false

set_option maxHeartbeats 400000 in
theorem ids_big (ao : Option Addr) (n ca : Nat) (w : World) (hn : n ≤ maxLen) (h : 1048576 < n) :
    Calls Try.prog 6 #[.slice ao n ca] w fun e w' => e = .returned (.bool true) ∧ Below w.heap.size w w' := by
  unfold maxLen at hn
  have h' : (1048576 : Int) < (n : Int) := by omega
  have h2 : (n : Int) ≤ 9223372036854775807 := by omega
  go_enter Try.func6, Try.ntmps6
  go_wp2
  go_returns
  exact ⟨rfl, Below.refl _ _⟩

set_option maxHeartbeats 1000000 in
theorem ids_small (ao : Option Addr) (ca : Nat) (L : List Int) (w : World) (hL : Row .i64 w 0 w.heap.size ao L) (h : L.length ≤ 1048576) :
    Calls Try.prog 6 #[.slice ao L.length ca] w fun e w' => e = .returned (.bool true) ∧ Below w.heap.size w w' := by
  have HL := hideP hL
  have h' : (L.length : Int) ≤ 1048576 := by omega
  obtain ⟨C, hC⟩ : ∃ C, idsF L = C := ⟨_, rfl⟩
  have HC := hideP hC
  have hcc : (C != C) = false := by simp
  clear hL hC
  go_enter Try.func6, Try.ntmps6
  go_wp2_with fail
  refine Calls.mono (toI_any 0 w.heap.size ao ca L w HL.out (Nat.le_refl _) h) ?_
  rintro e w1 ⟨rfl, k1, n1, W1⟩
  have K1 := hideP k1
  have H1 := hideP W1
  clear k1 W1
  go_wp2_with fail
  refine Calls.mono (sIds_any _ _ _ _ L w1 H1.out.row (by omega) h (Nat.le_refl _)) ?_
  rintro e w2 ⟨rfl, k2⟩
  have K2 := hideP (K1.out.trans (k2.mono (by omega)))
  have hs2 := k2.size
  clear k2
  rw [HC.out]
  go_wp2_with fail
  refine Calls.mono (toI_any 0 w.heap.size ao ca L _ (HL.out.keep K2.out (Nat.le_refl _)) (by omega) h) ?_
  rintro e w3 ⟨rfl, k3, n3, W3⟩
  have K3 := hideP (K2.out.trans (k3.mono (by omega)))
  have H3 := hideP W3
  clear k3 W3
  go_wp2_with fail
  refine Calls.mono (iIds_any _ _ _ _ L w3 H3.out.row (by omega) h) ?_
  rintro e w4 ⟨rfl, k4⟩
  have K4 := hideP (K3.out.trans (k4.mono (by omega)))
  have H4 := hideP (H3.out.keep k4 (by omega))
  have hs4 := k4.size
  clear k4
  rw [HC.out]
  go_wp2_with fail
  refine Calls.mono (toI_any 0 w.heap.size ao ca L _ (HL.out.keep K4.out (Nat.le_refl _)) (by omega) h) ?_
  rintro e w5 ⟨rfl, k5, n5, W5⟩
  have K5 := hideP (K4.out.trans (k5.mono (by omega)))
  have H5 := hideP W5
  have H35 := hideP (H4.out.keep k5 (by omega))
  clear k5 W5
  go_wp2_with fail
  refine Calls.mono (eqI_same _ _ _ _ _ _ _ _ L w5 H35.out.row H5.out.row (by omega) (by omega) h) ?_
  rintro e w6 ⟨rfl, k6⟩
  have K6 := hideP (K5.out.trans (k6.mono (by omega)))
  clear k6
  go_wp2
  go_returns
  exact ⟨rfl, K6.out⟩

theorem ids_law (ao : Option Addr) (ca : Nat) (L : List Int) (w : World) (hm : L.length ≤ maxLen) (hL : Row .i64 w 0 w.heap.size ao L) (hw : ∀ n ∈ L, (Lit.int .i64 n).wf = true) :
    Calls Try.prog 6 #[.slice ao L.length ca] w fun e w' => e = .returned (.bool true) ∧ Below w.heap.size w w' := by
  by_cases h : L.length ≤ 1048576
  · exact ids_small ao ca L w hL h
  · exact ids_big ao L.length ca w hm (by omega)
end Go.Proofs.Ytmbfnmgndablkaa
