/- CountFrames: the law's walk. -/
import Derived.Test.YtbicpfnakhhnlabCn1
namespace Go.Proofs.Ytbicpfnakhhnlab
open Go.RowKit
set_option linter.unusedVariables false

set_option maxHeartbeats 400000 in
theorem eqIR_count (c v : Int) (w : World) :
    Calls Try.prog 7 #[.agg #[.int .i64 c, .int .i64 v], .agg #[.int .i64 c, .int .i64 v]] w fun e w' => e = .returned (.bool true) ∧ Below w.heap.size w w' := by
  go_enter Try.func7, Try.ntmps7
  go_wp2
  go_returns
  exact ⟨rfl, by go_grown⟩

set_option maxHeartbeats 400000 in
theorem count_big (ao : Option Addr) (n ca : Nat) (w : World) (hn : n ≤ maxLen) (h : 1048576 < n) :
    Calls Try.prog 3 #[.slice ao n ca] w fun e w' => e = .returned (.bool true) ∧ Below w.heap.size w w' := by
  unfold maxLen at hn
  have h' : (1048576 : Int) < (n : Int) := by omega
  have h2 : (n : Int) ≤ 9223372036854775807 := by omega
  go_enter Try.func3, Try.ntmps3
  go_wp2
  go_returns
  exact ⟨rfl, Below.refl _ _⟩

set_option maxHeartbeats 1000000 in
theorem count_small (ao : Option Addr) (ca : Nat) (L : List Int) (w : World) (hL : Row .u8 w 0 w.heap.size ao L) (hB : byts L) (h : L.length ≤ 1048576) :
    Calls Try.prog 3 #[.slice ao L.length ca] w fun e w' => e = .returned (.bool true) ∧ Below w.heap.size w w' := by
  have HL := hideP hL
  have h' : (L.length : Int) ≤ 1048576 := by omega
  have SC := fun lo hi bo cb w a b => sCount_any lo hi bo cb L w a b hB h
  have IC := fun lo hi bo cb w a b => iCount_any lo hi bo cb L w a b hB h
  generalize frC [] L = C at *
  generalize cnV L = V at *
  have SC' := hideP SC
  have IC' := hideP IC
  clear hL hB SC IC
  go_enter Try.func3, Try.ntmps3
  go_wp2_with fail
  refine Calls.mono (toB_any 0 w.heap.size ao ca L w HL.out (Nat.le_refl _) h) ?_
  rintro e w1 ⟨rfl, k1, n1, W1⟩
  have K1 := hideP k1
  have H1 := hideP W1
  clear k1 W1
  go_wp2_with fail
  refine Calls.mono (SC'.out _ _ _ _ w1 H1.out.row (by omega)) ?_
  rintro e w2 ⟨rfl, k2⟩
  have K2 := hideP (K1.out.trans (k2.mono (by omega)))
  have X2 : Hid (Rb (w2.alloc (.cells #[.int .i64 C, .int .i64 V] 24)) w2.heap.size (.int .i64 C) (.int .i64 V)) := hideP ⟨by simp, by simp, by simp, by simp, by simp⟩
  have n2 := k2.size
  clear k2 H1 K1
  go_wp2_with fail
  have K3 := hideP (K2.out.trans ((kalF w2 (.cells #[.int .i64 C, .int .i64 V] 24)).mono (by omega)))
  clear K2
  have n3 : w2.heap.size < (w2.alloc (.cells #[.int .i64 C, .int .i64 V] 24)).heap.size := by simp
  generalize w2.alloc (.cells #[.int .i64 C, .int .i64 V] 24) = w3 at *
  refine Calls.mono (toB_any 0 w.heap.size ao ca L _ (HL.out.keep K3.out (Nat.le_refl _)) (by omega) h) ?_
  rintro e w4 ⟨rfl, k4, n4, W4⟩
  have K4 := hideP (K3.out.trans (k4.mono (by omega)))
  have X4 := hideP (X2.out.keep k4 (by omega))
  have H4 := hideP W4
  clear k4 W4 K3 X2
  go_wp2_with fail
  refine Calls.mono (IC'.out _ _ _ _ w4 H4.out.row (by omega)) ?_
  rintro e w5 ⟨rfl, k5⟩
  have K5 := hideP (K4.out.trans (k5.mono (by omega)))
  have X5 := hideP (X4.out.keep k5 (by omega))
  have H5 := hideP (H4.out.keep k5 (by omega))
  have n5 := k5.size
  clear k5 K4 X4 H4
  obtain ⟨a0, a1, a2, a3, a4⟩ := X5.out
  go_wp2_with fail
  clear a0 a1 a2 a3 a4
  have ka := kalF w5 (.cells #[.int .i64 C, .int .i64 V] 24)
  have K6 := hideP (K5.out.trans (ka.mono (by omega)))
  have H6 := hideP (H5.out.keep ka (by omega))
  have n6 : w5.heap.size < (w5.alloc (.cells #[.int .i64 C, .int .i64 V] 24)).heap.size := by simp
  clear ka K5 H5 X5
  generalize w5.alloc (.cells #[.int .i64 C, .int .i64 V] 24) = w6 at *
  refine Calls.mono (eqIR_count C V w6) ?_
  rintro e w7 ⟨rfl, k7⟩
  have K7 := hideP (K6.out.trans (k7.mono (by omega)))
  have H7 := hideP (H6.out.keep k7 (by omega))
  have n7 := k7.size
  clear k7 K6 H6
  go_wp2_with fail
  refine Calls.mono (toB_any 0 w.heap.size ao ca L _ (HL.out.keep K7.out (Nat.le_refl _)) (by omega) h) ?_
  rintro e w8 ⟨rfl, k8, n8, W8⟩
  have K8 := hideP (K7.out.trans (k8.mono (by omega)))
  have T8 := hideP W8
  have H8 := hideP (H7.out.keep k8 (by omega))
  clear k8 W8 H7 K7
  go_wp2_with fail
  refine Calls.mono (eqB_same _ _ _ _ _ _ _ _ L w8 H8.out.row T8.out.row (by omega) (by omega) h) ?_
  rintro e w9 ⟨rfl, k9⟩
  have K9 := hideP (K8.out.trans (k9.mono (by omega)))
  clear k9 K8
  go_wp2
  go_returns
  exact ⟨rfl, K9.out⟩

theorem count_law (ao : Option Addr) (ca : Nat) (L : List Int) (w : World) (hm : L.length ≤ maxLen) (hL : Row .u8 w 0 w.heap.size ao L) (hw : ∀ n ∈ L, (Lit.int .u8 n).wf = true) :
    Calls Try.prog 3 #[.slice ao L.length ca] w fun e w' => e = .returned (.bool true) ∧ Below w.heap.size w w' := by
  by_cases h : L.length ≤ 1048576
  · exact count_small ao ca L w hL (byts_of hw) h
  · exact count_big ao L.length ca w hm (by omega)

end Go.Proofs.Ytbicpfnakhhnlab
