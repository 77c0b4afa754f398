/- OwnersOf of both sides, at every stack. -/
import Derived.Test.YtbagloapclgpnaaU46
namespace Go.Proofs.Ytbagloapclgpnaa
open Go.RowKit Go.Maps
set_option linter.unusedVariables false

set_option maxHeartbeats 1000000 in
theorem sOwners_bad (so : Option Addr) (sc : Nat) (L : List Wn) (w : World) (hL : Ws w 0 w.heap.size so L) (hn : L.length + wzs L ≤ 1048576) (h : ¬ stF (L.map Wn.ct) = 0) :
    Calls Try.prog 26 #[.slice so L.length sc] w (IsA w (stF (L.map Wn.ct)) []) := by
  have SF := fun w1 (kk : Below w.heap.size w w1) => l7F_any 0 w.heap.size so sc L w1 (hL.keep kk (Nat.le_refl _)) kk.size hn
  obtain ⟨F, hF⟩ : ∃ F, stF (L.map Wn.ct) = F := ⟨_, rfl⟩
  rw [hF] at SF h ⊢
  have hne' : (F != 0) = true := by simpa using h
  have AN' := hideP SF
  clear SF hL h hF
  go_enter Try.func26, Try.ntmps26
  go_wp2_with fail
  refine Calls.mono (AN'.out _ (by go_grown)) ?_
  rintro e w1 ⟨rfl, k1⟩
  have K1 : Hid (Below w.heap.size w w1) := hideP (Below.trans (by go_grown) (k1.mono (by simp)))
  have X1 : Rb w1 w.heap.size (.int .i64 0) (.slice none 0 0) := Rb.keep ⟨by simp [go_sem], by simp [go_sem], by simp [go_sem], by simp [go_sem], by simp⟩ k1 (by simp)
  obtain ⟨x0, x1, x2, x3, x4⟩ := X1
  clear k1 AN'
  go_wp2
  exact bodyPost_ret (v := .agg #[.int .i64 F, .slice none 0 0]) (by simp [results, Try.results26, go_sem, *]; done) rfl (IsA.nil w F rfl ((K1.out.setCell (p := ⟨w.heap.size, 0, none⟩) (Nat.le_refl _) _).setCell (p := ⟨w.heap.size, 1, none⟩) (Nat.le_refl _) _))

set_option maxHeartbeats 1000000 in
theorem iOwnersOf_bad (so : Option Addr) (sc : Nat) (L : List Wn) (w : World) (hL : Ws w 0 w.heap.size so L) (hn : L.length + wzs L ≤ 1048576) (h : ¬ stF (L.map Wn.ct) = 0) :
    Calls Try.prog 19 #[.slice so L.length sc] w (IsA w (stF (L.map Wn.ct)) []) := by
  have SF := fun w1 (kk : Below w.heap.size w w1) => iStack_any 0 w.heap.size so sc L w1 (hL.keep kk (Nat.le_refl _)) kk.size hn
  obtain ⟨F, hF⟩ : ∃ F, stF (L.map Wn.ct) = F := ⟨_, rfl⟩
  rw [hF] at SF h ⊢
  have hne' : (F != 0) = true := by simpa using h
  have AN' := hideP SF
  clear SF hL h hF
  go_enter Try.func19, Try.ntmps19
  go_wp2_with fail
  refine Calls.mono (AN'.out _ (by go_grown)) ?_
  rintro e w1 ⟨rfl, k1⟩
  have K1 : Hid (Below w.heap.size w w1) := hideP (Below.trans (by go_grown) (k1.mono (by simp; omega)))
  have X1 : Rb w1 (w.heap.size + 1) (.int .i64 0) (.slice none 0 0) := Rb.keep ⟨by simp [go_sem], by simp [go_sem], by simp [go_sem], by simp [go_sem], by simp⟩ k1 (by simp)
  obtain ⟨x0, x1, x2, x3, x4⟩ := X1
  clear k1 AN'
  go_wp2
  exact bodyPost_ret (v := .agg #[.int .i64 F, .slice none 0 0]) (by simp [results, Try.results19, go_sem, *]; done) rfl (IsA.nil w F rfl ((K1.out.setCell (p := ⟨w.heap.size + 1, 0, none⟩) (by show w.heap.size ≤ w.heap.size + 1; omega) _).setCell (p := ⟨w.heap.size + 1, 1, none⟩) (by show w.heap.size ≤ w.heap.size + 1; omega) _))

theorem sOwners_any (so : Option Addr) (sc : Nat) (L : List Wn) (w : World) (hL : Ws w 0 w.heap.size so L) (hn : L.length + wzs L ≤ 1048576) :
    Calls Try.prog 26 #[.slice so L.length sc] w (IsA w (stF (L.map Wn.ct)) (oscL (L.map Wn.ct))) := by
  by_cases h : stF (L.map Wn.ct) = 0
  · rw [oscL_yes h, h]; exact sOwners_ok so sc L w hL hn h
  · rw [oscL_no h]; exact sOwners_bad so sc L w hL hn h
theorem iOwnersOf_any (so : Option Addr) (sc : Nat) (L : List Wn) (w : World) (hL : Ws w 0 w.heap.size so L) (hn : L.length + wzs L ≤ 1048576) :
    Calls Try.prog 19 #[.slice so L.length sc] w (IsA w (stF (L.map Wn.ct)) (oscL (L.map Wn.ct))) := by
  by_cases h : stF (L.map Wn.ct) = 0
  · rw [oscL_yes h, h]; exact iOwnersOf_ok so sc L w hL hn h
  · rw [oscL_no h]; exact iOwnersOf_bad so sc L w hL hn h
end Go.Proofs.Ytbagloapclgpnaa
