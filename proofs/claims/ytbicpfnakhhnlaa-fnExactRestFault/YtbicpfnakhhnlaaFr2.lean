/- RestFault: the law's walk. -/
import Derived.Test.YtbicpfnakhhnlaaFr1
namespace Go.Proofs.Ytbicpfnakhhnlaa
open Go.RowKit
set_option linter.unusedVariables false

set_option maxHeartbeats 400000 in
theorem rest_big (ao : Option Addr) (n ca : Nat) (w : World) (hn : n ≤ maxLen) (h : 1048576 < n) :
    Calls Try.prog 6 #[.slice ao n ca] w fun e w' => e = .returned (.bool true) ∧ Below w.heap.size w w' := by
  unfold maxLen at hn
  have h' : (1048576 : Int) < (n : Int) := by omega
  have h2 : (n : Int) ≤ 9223372036854775807 := by omega
  go_enter Try.func6, Try.ntmps6
  go_wp2
  go_returns
  exact ⟨rfl, Below.refl _ _⟩

set_option maxHeartbeats 1000000 in
theorem rest_small (ao : Option Addr) (ca : Nat) (L : List Int) (w : World) (hL : Row .u8 w 0 w.heap.size ao L) (hB : byts L) (h : L.length ≤ 1048576) :
    Calls Try.prog 6 #[.slice ao L.length ca] w fun e w' => e = .returned (.bool true) ∧ Below w.heap.size w w' := by
  have HL := hideP hL
  have HB := hideP hB
  have h' : (L.length : Int) ≤ 1048576 := by omega
  obtain ⟨C, hC⟩ : ∃ C, rsF L = C := ⟨_, rfl⟩
  have HC := hideP hC
  have hcc : (C != C) = false := by simp
  clear hL hB hC
  go_enter Try.func6, Try.ntmps6
  go_wp2_with fail
  refine Calls.mono (toB_any 0 w.heap.size ao ca L w HL.out (Nat.le_refl _) h) ?_
  rintro e w1 ⟨rfl, k1, n1, W1⟩
  have K1 := hideP k1
  have H1 := hideP W1
  clear k1 W1
  go_wp2_with fail
  refine Calls.mono (sRest_any _ _ _ _ L w1 H1.out.row HB.out h) ?_
  rintro e w2 ⟨rfl, rfl⟩
  rw [HC.out]
  go_wp2_with fail
  refine Calls.mono (toB_any 0 w.heap.size ao ca L _ (HL.out.keep K1.out (Nat.le_refl _)) (by omega) h) ?_
  rintro e w3 ⟨rfl, k3, n3, W3⟩
  have K3 := hideP (K1.out.trans (k3.mono (by omega)))
  have H3 := hideP W3
  clear k3 W3
  go_wp2_with fail
  refine Calls.mono (iRest_any _ _ _ _ L w3 H3.out.row HB.out h) ?_
  rintro e w4 ⟨rfl, rfl⟩
  rw [HC.out]
  go_wp2_with fail
  refine Calls.mono (toB_any 0 w.heap.size ao ca L _ (HL.out.keep K3.out (Nat.le_refl _)) (by omega) h) ?_
  rintro e w5 ⟨rfl, k5, n5, W5⟩
  have K5 := hideP (K3.out.trans (k5.mono (by omega)))
  have H5 := hideP W5
  have H35 := hideP (H3.out.keep k5 (by omega))
  clear k5 W5
  go_wp2_with fail
  refine Calls.mono (eqB_same _ _ _ _ _ _ _ _ L w5 H35.out.row H5.out.row (by omega) (by omega) h) ?_
  rintro e w6 ⟨rfl, k6⟩
  have K6 := hideP (K5.out.trans (k6.mono (by omega)))
  clear k6
  go_wp2
  go_returns
  exact ⟨rfl, K6.out⟩

theorem rest_law (ao : Option Addr) (ca : Nat) (L : List Int) (w : World) (hm : L.length ≤ maxLen) (hL : Row .u8 w 0 w.heap.size ao L) (hw : ∀ n ∈ L, (Lit.int .u8 n).wf = true) :
    Calls Try.prog 6 #[.slice ao L.length ca] w fun e w' => e = .returned (.bool true) ∧ Below w.heap.size w w' := by
  by_cases h : L.length ≤ 1048576
  · exact rest_small ao ca L w hL (byts_of hw) h
  · exact rest_big ao L.length ca w hm (by omega)

end Go.Proofs.Ytbicpfnakhhnlaa
