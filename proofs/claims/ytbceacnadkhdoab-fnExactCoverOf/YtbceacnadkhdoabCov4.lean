/- CoverOf: the law's walk. -/
import Derived.Test.YtbceacnadkhdoabCov3
import Derived.Test.YtbceacnadkhdoabLawR
import Derived.Test.YtbceacnadkhdoabLst2
namespace Go.Proofs.Ytbceacnadkhdoab
open Go.RowKit
set_option linter.unusedVariables false

set_option maxHeartbeats 400000 in
theorem cover_big (ao : Option Addr) (n ca : Nat) (x y : Int) (w : World) (hn : n ≤ maxLen) (h : ¬ n ≤ 1048576) :
    Calls Try.prog 5 #[.slice ao n ca, .int .i64 x, .int .i64 y] w fun e w' => e = .returned (.bool true) ∧ Below w.heap.size w w' := by
  go_enter Try.func5, Try.ntmps5
  go_wp2_with fail
  refine Calls.mono (sz_any ao n ca w hn) ?_
  rintro e w1 ⟨rfl, rfl⟩
  rw [if_neg h]
  go_wp2
  go_returns
  exact ⟨rfl, Below.refl _ _⟩

set_option maxHeartbeats 2000000 in
theorem cover_small (lo hi : Nat) (ao : Option Addr) (ca : Nat) (L : List Rc) (x y : Int) (w : World) (ha : Lst w lo hi ao L) (h1 : hi ≤ w.heap.size) (hl : L.length ≤ 1048576) :
    Calls Try.prog 5 #[.slice ao L.length ca, .int .i64 x, .int .i64 y] w fun e w' => e = .returned (.bool true) ∧ Below w.heap.size w w' := by
  have hl' : (L.length : Int) ≤ 1048576 := by omega
  have HA := hideP ha
  clear ha
  go_enter Try.func5, Try.ntmps5
  go_wp2_with fail
  refine Calls.mono (sz_any ao L.length ca w (by unfold maxLen; omega)) ?_
  rintro e w1 ⟨rfl, rfl⟩
  rw [if_pos hl]
  go_wp2_with fail
  refine Calls.mono (toS_any lo hi ao ca L w1 HA.out h1 hl) ?_
  rintro e w2 ⟨g2, rfl, k2, L2⟩
  go_wp2_with fail
  refine Calls.mono (sCov_any _ _ _ L.length L x y w2 L2 (Nat.le_refl _) hl) ?_
  rintro e w3 ⟨rfl, k3⟩
  have K3 := hideP (k2.trans (k3.mono k2.size))
  clear k2 k3 L2
  go_wp2_with fail
  refine Calls.mono (toS_any lo hi ao ca L _ (HA.out.keep (B := w1.heap.size) (K3.out.alloc K3.out.size _) h1) (by have := K3.out.size; simp; omega) hl) ?_
  rintro e w5 ⟨g5, rfl, k5, L5⟩
  have Q5 := hideP L5
  clear L5
  have K5 := hideP ((K3.out.alloc K3.out.size _).trans (k5.mono (by have := K3.out.size; simp; omega)))
  replace k5 := Kept.below k5
  have hc5 := Kept.cell k5
  have hf5 := Kept.frozen k5
  have hz5 := k5.size
  try simp only [World.size_alloc] at hz5
  try simp only [World.size_setCell] at hz5
  try simp only [World.size_drew] at hz5
  have hb5_0 : w3.heap.size < w5.heap.size ∧ w3.heap.size ≤ w5.heap.size ∧ w3.heap.size ≤ w5.heap.size + 1 ∧ ¬ w3.heap.size = w5.heap.size ∧ ¬ w3.heap.size = w5.heap.size + 1 := by omega
  go_wp2_with fail
  refine Calls.mono (iCov_any _ _ _ L.length L x y w5 Q5.out (Nat.le_refl _) hl) ?_
  rintro e w6 ⟨rfl, k6⟩
  have K6 := hideP (K5.out.trans (k6.mono K5.out.size))
  have Q6 := hideP (Q5.out.keep k6 (Nat.le_refl _))
  replace k6 := Kept.below k6
  have hc6 := Kept.cell k6
  have hf6 := Kept.frozen k6
  have hz6 := k6.size
  try simp only [World.size_alloc] at hz6
  try simp only [World.size_setCell] at hz6
  try simp only [World.size_drew] at hz6
  have hb6_0 : w3.heap.size < w6.heap.size ∧ w3.heap.size ≤ w6.heap.size ∧ w3.heap.size ≤ w6.heap.size + 1 ∧ ¬ w3.heap.size = w6.heap.size ∧ ¬ w3.heap.size = w6.heap.size + 1 := by omega
  go_wp2_with fail
  refine Calls.mono (eqIR_same _ _ _) ?_
  rintro e w8 ⟨rfl, k8⟩
  have s5 := K5.out.size
  have s6 := K6.out.size
  have s8 := k8.size
  simp only [World.size_alloc] at s8
  have K8 := hideP ((K6.out.alloc K6.out.size _).trans (k8.mono (by simp; omega)))
  have Q8 := hideP ((Q6.out.keep (B := w6.heap.size) ((Below.refl _ _).alloc (Nat.le_refl _) _) hz6).keep k8 (by simp; omega))
  clear k5 k6 k8 hc5 hc6 hf5 hf6
  go_wp2_with fail
  refine Calls.mono (toS_any lo hi ao ca L w8 (HA.out.keep K8.out h1) (by omega) hl) ?_
  rintro e w9 ⟨g9, rfl, k9, L9⟩
  go_wp2_with fail
  refine Calls.mono (eqS_same _ _ _ _ _ _ L.length L.length L w9 (Q8.out.keep k9 (by omega)) L9 (by have := k9.size; omega) (Nat.le_refl _) hl) ?_
  rintro e w10 ⟨rfl, k10⟩
  have K10 := hideP ((K8.out.trans (k9.mono K8.out.size)).trans (k10.mono (by have := k9.size; have := K8.out.size; omega)))
  clear k9 k10 L9 hb5_0 hb6_0
  go_wp2
  go_returns
  exact ⟨rfl, K10.out⟩

theorem cover_law (ao : Option Addr) (ca : Nat) (L : List Rc) (x y : Int) (w : World) (hm : L.length ≤ maxLen) (ha : Lst w 0 w.heap.size ao L) :
    Calls Try.prog 5 #[.slice ao L.length ca, .int .i64 x, .int .i64 y] w fun e w' => e = .returned (.bool true) ∧ Below w.heap.size w w' := by
  by_cases h : L.length ≤ 1048576
  · exact cover_small 0 w.heap.size ao ca L x y w ha (Nat.le_refl _) h
  · exact cover_big ao L.length ca x y w hm h

end Go.Proofs.Ytbceacnadkhdoab
