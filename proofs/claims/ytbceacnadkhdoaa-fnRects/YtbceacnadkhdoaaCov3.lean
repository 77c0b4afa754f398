/- CoverOf of the program at every list and point. -/
import Derived.Test.YtbceacnadkhdoaaCov2
namespace Go.Proofs.Ytbceacnadkhdoaa
open Go.RowKit Go.Shelf
set_option linter.unusedVariables false

set_option maxHeartbeats 1000000 in
theorem iCov_no (lo hi : Nat) (ao : Option Addr) (ca : Nat) (L : List Rc) (x y : Int) (w : World) (ha : Lst w lo hi ao L) (h1 : hi ≤ w.heap.size) (hl : L.length ≤ 1048576) (hm : manyC L ≠ 0) :
    Calls Try.prog 13 #[.slice ao L.length ca, .int .i64 x, .int .i64 y] w fun e w' => e = .returned (.agg #[.int .i64 (covC L x y), .int .i64 (covV L x y)]) ∧ Below w.heap.size w w' := by
  have HA := hideP ha
  have HV := hideP (cov_bad (x := x) (y := y) hm)
  clear ha
  obtain ⟨c, hc⟩ : ∃ c, manyC L = c := ⟨_, rfl⟩
  have hb : (c != 0) = true := by rw [← hc]; simpa using hm
  have HC := hideP hc
  clear hm hc
  go_enter Try.func13, Try.ntmps13
  go_wp2
  refine wp_scope_straight ?_
  go_wp2_with fail
  refine Calls.mono (fol_any lo hi ao ca L _ (HA.out.keep (B := w.heap.size) (by go_grown) h1) (by first | (simp; done) | (simp; omega) | omega) hl) ?_
  rintro e w1 ⟨rfl, k1⟩
  rw [HC.out]
  replace k1 := Kept.below k1
  have hc1 := Kept.cell k1
  have hf1 := Kept.frozen k1
  have hz1 := k1.size
  try simp only [World.size_alloc] at hz1
  try simp only [World.size_setCell] at hz1
  try simp only [World.size_drew] at hz1
  have hb1_0 : w.heap.size < w1.heap.size ∧ w.heap.size ≤ w1.heap.size ∧ w.heap.size ≤ w1.heap.size + 1 ∧ ¬ w.heap.size = w1.heap.size ∧ ¬ w.heap.size = w1.heap.size + 1 := by omega
  have hb1_1 : w.heap.size + 1 < w1.heap.size ∧ w.heap.size + 1 ≤ w1.heap.size ∧ w.heap.size + 1 ≤ w1.heap.size + 1 ∧ ¬ w.heap.size + 1 = w1.heap.size ∧ ¬ w.heap.size + 1 = w1.heap.size + 1 := by omega
  have hb1_2 : w.heap.size + 2 < w1.heap.size ∧ w.heap.size + 2 ≤ w1.heap.size ∧ w.heap.size + 2 ≤ w1.heap.size + 1 ∧ ¬ w.heap.size + 2 = w1.heap.size ∧ ¬ w.heap.size + 2 = w1.heap.size + 1 := by omega
  go_wp2
  show bodyPost Try.prog Try.f13 (fun e w' => e = .returned (.agg #[.int .i64 (covC L x y), .int .i64 (covV L x y)]) ∧ Below w.heap.size w w') Exit.ret _ _
  refine bodyPost_ret (v := .agg #[.int .i64 c, .int .i64 0]) (by simp [results, Try.results13, go_sem, *]; done) rfl ⟨by rw [HV.out.1, HV.out.2, HC.out], ?_⟩
  repeat' (first | (with_reducible exact Below.refl _ _) | (with_reducible refine kept_below ?_ (by assumption) ?_) | (with_reducible refine Below.alloc ?_ ?_ _) | (with_reducible refine Below.drew ?_) | (with_reducible refine Below.setCell ?_ ?_ _) | go_size)

theorem iCov_any (lo hi : Nat) (ao : Option Addr) (ca : Nat) (L : List Rc) (x y : Int) (w : World) (ha : Lst w lo hi ao L) (h1 : hi ≤ w.heap.size) (hl : L.length ≤ 1048576) :
    Calls Try.prog 13 #[.slice ao L.length ca, .int .i64 x, .int .i64 y] w fun e w' => e = .returned (.agg #[.int .i64 (covC L x y), .int .i64 (covV L x y)]) ∧ Below w.heap.size w w' := by
  by_cases hm : manyC L = 0
  · exact iCov_ok lo hi ao ca L x y w ha h1 hl hm
  · exact iCov_no lo hi ao ca L x y w ha h1 hl hm

end Go.Proofs.Ytbceacnadkhdoaa
