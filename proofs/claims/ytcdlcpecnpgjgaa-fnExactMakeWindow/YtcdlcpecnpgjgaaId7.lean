/- NextId: both, and the law's walk. -/
import Derived.Test.YtcdlcpecnpgjgaaId5
import Derived.Test.YtcdlcpecnpgjgaaRowI
namespace Go.Proofs.Ytcdlcpecnpgjgaa
open Go.RowKit Go.Maps
set_option linter.unusedVariables false
attribute [local go_sem high] fI0 fI1

theorem nxC_no {L : List Int} {s : Int} (h : ¬ askF L s = 0) : nxC L s = askF L s := by unfold nxC; rw [if_neg h]
theorem nxV_no {L : List Int} {s : Int} (h : ¬ askF L s = 0) : nxV L s = 0 := by unfold nxV; rw [if_neg h]
theorem nxC_yes {L : List Int} {s : Int} (h : askF L s = 0) : nxC L s = if nxt L s = -1 then 7 else 0 := by unfold nxC; rw [if_pos h]
theorem nxV_yes {L : List Int} {s : Int} (h : askF L s = 0) : nxV L s = if nxt L s = -1 then 0 else nxt L s := by unfold nxV; rw [if_pos h]

set_option maxHeartbeats 800000 in
theorem iNextId_any (lo hi : Nat) (ao : Option Addr) (ca : Nat) (L : List Int) (s : Int) (w : World) (ha : Row .i64 w lo hi ao L) (hs : hi ≤ w.heap.size) (hl : L.length ≤ 1048576) :
    Calls Try.prog 48 #[.slice ao L.length ca, .int .i64 s] w fun e w' => e = .returned (.agg #[.int .i64 (nxC L s), .int .i64 (nxV L s)]) ∧ Below w.heap.size w w' := by
  by_cases h0 : askF L s = 0
  · obtain ⟨_, h1, h2⟩ := askF_ok h0
    rw [nxC_yes h0, nxV_yes h0]
    obtain rfl | rfl | rfl | rfl : s = 0 ∨ s = 1 ∨ s = 2 ∨ s = 3 := by omega
    · exact iNext_0 lo hi ao ca L w ha hs hl h0
    · exact iNext_1 lo hi ao ca L w ha hs hl h0
    · exact iNext_2 lo hi ao ca L w ha hs hl h0
    · exact iNext_3 lo hi ao ca L w ha hs hl h0
  · rw [nxC_no h0, nxV_no h0]
    have C := hideP (fun w1 (k : Below w.heap.size w w1) => names_no (iFor_any lo hi ao ca L s w1 (ha.keep k hs) (Nat.le_trans hs k.size) hl) h0)
    clear ha
    generalize askF L s = c at *
    have hb : (c == 0) = false := by simpa using h0
    go_enter Try.func48, Try.ntmps48
    go_wp2_with (go_at_call 83; refine Calls.mono (C.out _ (by go_grown)) ?_; rintro e w1 ⟨rfl, k1⟩; have K1 := hideP (Below.trans (by go_grown : Below w.heap.size w _) (k1.mono (by simp))); obtain ⟨c0, c1, f0, f1, lt0⟩ : Rb w1 w.heap.size (.int .i64 0) (.int .i64 0) := Rb.keep ⟨by simp, by simp, by simp, by simp, by simp⟩ k1 (by simp); clear k1)
    refine bodyPost_ret (v := .agg #[.int .i64 c, .int .i64 0]) (by simp [results, Try.results48, go_sem, *]) rfl ⟨rfl, ?_⟩
    repeat' (first | exact K1.out | (with_reducible refine Below.setCell ?_ ?_ _) | go_size)

end Go.Proofs.Ytcdlcpecnpgjgaa
