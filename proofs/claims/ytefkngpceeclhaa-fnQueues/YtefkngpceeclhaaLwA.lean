/- What the laws over streams call beside the program: lwBig, lwAt, lwBytes. -/
import Derived.Test.YtefkngpceeclhaaDraw1
import Derived.Test.YtefkngpceeclhaaRd0
import Derived.Laws.BytesArg
import Derived.Laws.IdiomStrings
namespace Go.Proofs.Ytefkngpceeclhaa
open Go.RowKit
set_option linter.unusedVariables false

set_option maxHeartbeats 400000 in
theorem bigQ (w : World) (a : Option Addr) (len cap : Nat) (hl : len ≤ maxLen) :
    Calls Try.prog 9 #[.slice a len cap] w fun e w' => e = .returned (.bool (decide ((1048576 : Int) < (len : Int)))) ∧ w' = w := by
  go_enter Try.func9, Try.ntmps9
  go_wp2
  go_returns
  exact ⟨rfl, rfl⟩

theorem conv_rowL {w : World} {lo hi : Nat} {ao : Option Addr} {ca : Nat} {L : List Int} (h : Row .u8 w lo hi ao L) : (convert 22 9 (.slice ao L.length ca)).run Try.prog w = .ok (.string (strOfNums L)) w := by
  rcases h with rfl | ⟨g, o, rfl, _, _, hc⟩
  · cases ao with
    | none => exact run_convert_bytes_nil w 22 5 Try.underlying22 Try.underlying5 _ _ 9 Try.underlying9
    | some ad => exact run_convert_bytes_back w 22 9 5 ad ca [] Try.underlying22 Try.underlying5 Try.underlying9 (fun j hj => by simp at hj)
  · exact run_convert_bytes_arg w 22 5 Try.underlying22 Try.underlying5 g o L.length ca L rfl (fun i hi => by rw [hc i hi]; simp [List.getD, hi]) 9 Try.underlying9

set_option maxHeartbeats 400000 in
theorem bytes_same (lo hi lo2 hi2 : Nat) (ao bo : Option Addr) (ca cb : Nat) (L : List Int) (w : World) (ha : Row .u8 w lo hi ao L) (hb : Row .u8 w lo2 hi2 bo L) :
    Calls Try.prog 20 #[.slice ao L.length ca, .slice bo L.length cb] w fun e w' => e = .returned (.bool true) ∧ w' = w := by
  have h1 := conv_rowL (ca := ca) ha
  have h2 := conv_rowL (ca := cb) hb
  clear ha hb
  generalize strOfNums L = s at *
  go_enter Try.func20, Try.ntmps20
  go_wp2
  go_returns
  exact ⟨rfl, rfl⟩

set_option maxHeartbeats 1600000 in
theorem atQ (w : World) (a : Option Addr) (len cap B : Nat) (f : Nat → Int) (i n : Int) (hB : Bytes w B a len f) (hl : len ≤ 1048576) (i0 : 0 ≤ i) (i1 : i ≤ 1000) (n0 : 1 ≤ n) (n1 : n ≤ 1000) :
    Calls Try.prog 27 #[.slice a len cap, .int .i64 i, .int .i64 n] w fun e w' => ∃ r : Int, e = .returned (.int .i64 r) ∧ 0 ≤ r ∧ r < n ∧ Below w.heap.size w w' := by
  have hl1 : (len : Int) ≤ 1048576 := by omega
  by_cases hn1 : n ≤ 1
  · clear hB
    go_enter Try.func27, Try.ntmps27
    go_wp2
    go_returns
    exact ⟨0, rfl, by omega, by omega, Below.refl _ _⟩
  have hn : ¬ n ≤ 1 := by omega
  by_cases h0 : len = 0
  · subst h0
    go_enter Try.func27, Try.ntmps27
    go_wp2
    go_returns
    exact ⟨_, rfl, Int.emod_nonneg _ (by omega), Int.emod_lt_of_pos _ (by omega), Below.refl _ _⟩
  · rcases hB with h | ⟨xb, xo, rfl, hx, hc⟩
    · omega
    · have hne : ((len : Int) == 0) = false := by simp; omega
      have hl0 : (0 : Int) < (len : Int) := by omega
      have j0 : 0 ≤ i % (len : Int) := Int.emod_nonneg _ (by omega)
      have j1 : i % (len : Int) < (len : Int) := Int.emod_lt_of_pos _ hl0
      obtain ⟨hv, v0, v1⟩ := hc (i % (len : Int)).toNat (by omega)
      generalize f (i % (len : Int)).toNat = v at hv v0 v1
      have j0' : 0 ≤ (i + 1) % (len : Int) := Int.emod_nonneg _ (by omega)
      have j1' : (i + 1) % (len : Int) < (len : Int) := Int.emod_lt_of_pos _ hl0
      obtain ⟨hu, u0, u1⟩ := hc ((i + 1) % (len : Int)).toNat (by omega)
      generalize f ((i + 1) % (len : Int)).toNat = u at hu u0 u1
      have q0 : 0 ≤ i / (len : Int) := Int.ediv_nonneg i0 (by omega)
      have q1 : i / (len : Int) ≤ 1000 := by have := Int.ediv_le_self (len : Int) i0; omega
      clear hc
      by_cases h2 : 200 < n
      · go_enter Try.func27, Try.ntmps27
        go_wp2
        go_quiet (fail)
        go_wp2
        go_returns
        exact ⟨_, rfl, Int.emod_nonneg _ (by omega), Int.emod_lt_of_pos _ (by omega), ⟨rfl, rfl, rfl, Nat.le_refl _, fun _ _ => rfl⟩⟩
      · go_enter Try.func27, Try.ntmps27
        go_wp2
        go_quiet (fail)
        go_wp2
        go_returns
        exact ⟨_, rfl, Int.emod_nonneg _ (by omega), Int.emod_lt_of_pos _ (by omega), ⟨rfl, rfl, rfl, Nat.le_refl _, fun _ _ => rfl⟩⟩

end Go.Proofs.Ytefkngpceeclhaa
