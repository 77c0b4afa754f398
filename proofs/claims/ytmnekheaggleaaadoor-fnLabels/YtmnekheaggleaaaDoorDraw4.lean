/- What FnLabels draws: a label, a code, a text. -/
import Derived.Test.YtmnekheaggleaaaDoorDraw3
import Derived.Lib.ConvBytes
import Derived.Laws.BytesArg
namespace Go.Proofs.YtmnekheaggleaaaDoor
open Go.RowKit
set_option linter.unusedVariables false

theorem Src.new (w W : World) (b : Nat) (a : Option Addr) (len cap : Nat) (f : Nat → Int) (T : TypeId) (hB : Bytes w w.heap.size a len f) (hl : len ≤ 1048576) (hW : Below w.heap.size w W) (hb : b = W.heap.size) :
    Src (W.alloc (.cells #[.slice a len cap, .int .i64 0] T)) w.heap.size b a len cap f 0 := by
  subst hb
  exact ⟨by simp, hW.size, by simp [go_sem], by simp [go_sem], by simp [go_sem], hB.stay (Nat.le_refl _) (Turn.of_below (b := w.heap.size) (hW.alloc hW.size _)) (Nat.le_refl _), hl⟩

set_option maxHeartbeats 800000 in
theorem dlt_any (w : World) (a : Option Addr) (len cap : Nat) (f : Nat → Int) (hB : Bytes w w.heap.size a len f) (hl : len ≤ 1048576) :
    Calls Tryd.prog 13 #[.slice a len cap] w fun e w' => ∃ l p : Int, e = .returned (.agg #[.int .i64 l, .int .i64 p]) ∧ Below w.heap.size w w' := by
  have hsz : Below w.heap.size w (w.alloc (.cells #[.int .i64 0, .int .i64 0] 26)) := by go_grown
  have S0 := Src.new w _ (w.heap.size + 1) a len cap f 58 hB hl hsz (by simp)
  go_enter Tryd.func13, Tryd.ntmps13
  go_wp2_with (first | (go_at_call 16; go_in))
  refine Calls.mono (bent_any _ w.heap.size (w.heap.size + 1) a len cap f 0 S0 (by omega) (by omega)) ?_
  rintro e w1 ⟨l1, p1, t1, rfl, ht1, t10, t11, hs1⟩
  have hz1 := ht1.size
  simp only [World.size_alloc] at hz1
  have g0 : w1.cell? ⟨w.heap.size, 0, none⟩ = some (.int .i64 0) := by rw [ht1.cell _ _ (by simp; omega) (by omega)]; simp [go_sem]
  have g1 : w1.cell? ⟨w.heap.size, 1, none⟩ = some (.int .i64 0) := by rw [ht1.cell _ _ (by simp; omega) (by omega)]; simp [go_sem]
  have z0 : w1.frozen? ⟨w.heap.size, 0, none⟩ = false := by rw [ht1.frozen _ _ (by simp; omega) (by omega)]; simp [go_sem]
  have z1 : w1.frozen? ⟨w.heap.size, 1, none⟩ = false := by rw [ht1.frozen _ _ (by simp; omega) (by omega)]; simp [go_sem]
  have hb := Turn.below (hsz.alloc (by simp) (.cells #[.slice a len cap, .int .i64 0] 58)) (by omega) (by simp; omega) ht1
  have HB := hideP hb
  clear hb
  go_wp2
  refine bodyPost_ret (v := .agg #[.int .i64 l1, .int .i64 p1]) (by simp [results, Tryd.results13, go_sem, *]) rfl ⟨l1, p1, rfl, ?_⟩
  have hb := HB.out
  clear g0 g1 z0 z1
  repeat' (first | exact hb | (with_reducible refine Below.setCell ?_ ?_ _) | go_size)

set_option maxHeartbeats 800000 in
theorem dlo_any (w : World) (a : Option Addr) (len cap : Nat) (f : Nat → Int) (hB : Bytes w w.heap.size a len f) (hl : len ≤ 1048576) :
    Calls Tryd.prog 7 #[.slice a len cap] w fun e w' => ∃ c : Int, e = .returned (.int .i64 c) ∧ Below w.heap.size w w' := by
  have S0 := Src.new w w w.heap.size a len cap f 58 hB hl (Below.refl _ _) rfl
  go_enter Tryd.func7, Tryd.ntmps7
  go_wp2_with (first | (go_at_call 16; go_in))
  refine Calls.mono (next_any _ w.heap.size w.heap.size a len cap f 0 64 S0 (by omega) (by omega) (by omega) (by omega)) ?_
  rintro e w1 ⟨r1, rfl, _, _, ht1, hs1⟩
  have hz1 := ht1.size
  simp only [World.size_alloc] at hz1
  go_wp2_with fail
  refine Calls.mono (next_any _ w.heap.size w.heap.size a len cap f (0 + 1) 64 hs1 (by omega) (by omega) (by omega) (by omega)) ?_
  rintro e w2 ⟨r2, rfl, _, _, ht2, hs2⟩
  go_wp2_with fail
  refine Calls.mono (pick_b (fun _ => True) _ w.heap.size w.heap.size a len cap f (0 + 1 + 1) _ _ _ _ (by simp) (inb5 trivial trivial trivial trivial trivial) hs2 (by omega) (by omega) (by omega) (by omega)) ?_
  rintro e w3 ⟨r3, rfl, _, ht3, hs3⟩
  have HB := hideP (Turn.below ((Below.refl w.heap.size w).alloc (Nat.le_refl _) (.cells #[.slice a len cap, .int .i64 0] 58)) (by omega) (by simp) ((ht1.trans ht2).trans ht3))
  go_wp2
  go_returns
  exact ⟨r3, rfl, HB.out⟩

end Go.Proofs.YtmnekheaggleaaaDoor
