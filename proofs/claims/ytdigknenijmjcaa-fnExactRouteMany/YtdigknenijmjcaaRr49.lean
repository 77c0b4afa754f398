/- RouteMany, by the model: where none is asked. -/
import Derived.Test.YtdigknenijmjcaaRr48
namespace Go.Proofs.Ytdigknenijmjcaa
open Go.RowKit Go.Maps
set_option linter.unusedVariables false

set_option maxHeartbeats 1000000 in
theorem sMany_bad (t : Bool) (f : Int) (so : Option Addr) (sc : Nat) (L : List Wn) (lo : Option Addr) (lc ln : Nat) (w : World) (hL : Ws w 0 w.heap.size so L) (hn : L.length + wzs L ≤ 1048576) (h : ¬ inpF (L.map Wn.ct) f = 0) :
    Calls Try.prog 6 #[.agg #[.bool t, .int .i64 f], .slice so L.length sc, .slice lo ln lc] w (IsA w (inpF (L.map Wn.ct) f) []) := by
  have SF := fun w1 (hi : I2 w1 w.heap.size t f) (kk : Below w.heap.size w w1) => l10Input_any 0 w.heap.size w.heap.size t f so sc L w1 hi (hL.keep kk (Nat.le_refl _)) kk.size hn
  obtain ⟨F, hF⟩ : ∃ F, inpF (L.map Wn.ct) f = F := ⟨_, rfl⟩
  rw [hF] at SF h ⊢
  have hne' : (F != 0) = true := by simpa using h
  have AN' := hideP SF
  clear SF hL h hF
  go_enter Try.func6, Try.ntmps6
  go_wp2_with fail
  refine Calls.mono (AN'.out _ ⟨by simp [go_sem], by simp [go_sem], by simp; omega⟩ (by go_grown)) ?_
  rintro e w1 ⟨rfl, k1⟩
  have K1 : Hid (Below w.heap.size w w1) := hideP (Below.trans (by go_grown) (k1.mono (by simp; omega)))
  have X1 : Rb w1 (w.heap.size + 1) (.int .i64 0) (.slice none 0 0) := Rb.keep ⟨by simp [go_sem], by simp [go_sem], by simp [go_sem], by simp [go_sem], by simp⟩ k1 (by simp)
  obtain ⟨x0, x1, x2, x3, x4⟩ := X1
  clear k1 AN'
  go_wp2
  exact bodyPost_ret (v := .agg #[.int .i64 F, .slice none 0 0]) (by simp [results, Try.results6, go_sem, *]; done) rfl (IsA.nil w F rfl ((K1.out.setCell (p := ⟨w.heap.size + 1, 0, none⟩) (by show w.heap.size ≤ w.heap.size + 1; omega) _).setCell (p := ⟨w.heap.size + 1, 1, none⟩) (by show w.heap.size ≤ w.heap.size + 1; omega) _))

set_option maxHeartbeats 1000000 in
theorem sMany_long (t : Bool) (f : Int) (so : Option Addr) (sc : Nat) (L : List Wn) (lo : Option Addr) (lc ln : Nat) (w : World) (hL : Ws w 0 w.heap.size so L) (hn : L.length + wzs L ≤ 1048576) (h : inpF (L.map Wn.ct) f = 0) (hl : 20 < ln) :
    Calls Try.prog 6 #[.agg #[.bool t, .int .i64 f], .slice so L.length sc, .slice lo ln lc] w (IsA w 2 []) := by
  have SF := fun w1 (hi : I2 w1 w.heap.size t f) (kk : Below w.heap.size w w1) => l10Input_any 0 w.heap.size w.heap.size t f so sc L w1 hi (hL.keep kk (Nat.le_refl _)) kk.size hn
  rw [h] at SF
  have hl' : 20 < (ln : Int) := by omega
  have AN' := hideP SF
  clear SF hL h
  go_enter Try.func6, Try.ntmps6
  go_wp2_with fail
  refine Calls.mono (AN'.out _ ⟨by simp [go_sem], by simp [go_sem], by simp; omega⟩ (by go_grown)) ?_
  rintro e w1 ⟨rfl, k1⟩
  have K1 : Hid (Below w.heap.size w w1) := hideP (Below.trans (by go_grown) (k1.mono (by simp; omega)))
  have X1 : Rb w1 (w.heap.size + 1) (.int .i64 0) (.slice none 0 0) := Rb.keep ⟨by simp [go_sem], by simp [go_sem], by simp [go_sem], by simp [go_sem], by simp⟩ k1 (by simp)
  obtain ⟨x0, x1, x2, x3, x4⟩ := X1
  clear k1 AN'
  go_wp2
  exact bodyPost_ret (v := .agg #[.int .i64 2, .slice none 0 0]) (by simp [results, Try.results6, go_sem, *]; done) rfl (IsA.nil w 2 rfl ((K1.out.setCell (p := ⟨w.heap.size + 1, 0, none⟩) (by show w.heap.size ≤ w.heap.size + 1; omega) _).setCell (p := ⟨w.heap.size + 1, 1, none⟩) (by show w.heap.size ≤ w.heap.size + 1; omega) _))

theorem sMany_any (t : Bool) (f : Int) (so : Option Addr) (sc : Nat) (L : List Wn) (lo : Option Addr) (lc : Nat) (LL : List Hd) (w : World) (hL : Ws w 0 w.heap.size so L) (hn : L.length + wzs L ≤ 1048576) (hH : Hds w 0 w.heap.size lo LL) :
    Calls Try.prog 6 #[.agg #[.bool t, .int .i64 f], .slice so L.length sc, .slice lo LL.length lc] w (IsA w (manyR (L.map Wn.ct) t f LL).1 (manyR (L.map Wn.ct) t f LL).2) := by
  by_cases h : inpF (L.map Wn.ct) f = 0
  · by_cases hl : LL.length ≤ 20
    · rw [show manyR (L.map Wn.ct) t f LL = goM (L.map Wn.ct) LL t f [] by unfold manyR; rw [if_pos h, if_pos hl]]
      exact sMany_ok t f so sc L lo lc LL w hL hn hH hl h
    · rw [show manyR (L.map Wn.ct) t f LL = (2, []) by unfold manyR; rw [if_pos h, if_neg hl]]
      exact sMany_long t f so sc L lo lc LL.length w hL hn h (by omega)
  · rw [show manyR (L.map Wn.ct) t f LL = (inpF (L.map Wn.ct) f, []) by unfold manyR; rw [if_neg h]]
    exact sMany_bad t f so sc L lo lc LL.length w hL hn h
end Go.Proofs.Ytdigknenijmjcaa
