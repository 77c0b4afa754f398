/- FnExactLabelText: the walk at every label. -/
import Derived.Test.YtodiekkehbeojagDoorTxt2
namespace Go.Proofs.YtodiekkehbeojagDoor
open Go.RowKit
set_option linter.unusedVariables false

set_option maxHeartbeats 1000000 in
theorem sText_no (l p : Int) (w : World) (h : fltB l p = true) :
    Calls Tryd.prog 4 #[.agg #[.int .i64 l, .int .i64 p]] w fun e w' => e = .returned (.agg #[.int .i64 3, .string ByteArray.empty]) ∧ Below w.heap.size w w' := by
  go_enter Tryd.func4, Tryd.ntmps4
  go_wp2_with (first | (go_at_call 8; refine Calls.mono (sf_no _ _ _ ?_) ?_; (all_goals try (first | (with_reducible assumption) | omega)); rintro e w1 ⟨rfl, k1⟩; (try replace k1 := kept_join (by assumption) k1); have hc1 := Kept.cell k1; have hf1 := Kept.frozen k1; have hz1 := k1.size; (try simp only [World.size_alloc] at hz1); (try simp only [World.size_setCell] at hz1); (try simp only [World.size_drew] at hz1); (try (first | have hs1 := sz12 hz1 | have hs1 := sz11 hz1 | have hs1 := sz10 hz1 | have hs1 := sz9 hz1 | have hs1 := sz8 hz1 | have hs1 := sz7 hz1 | have hs1 := sz6 hz1 | have hs1 := sz5 hz1 | have hs1 := sz4 hz1 | have hs1 := sz3 hz1 | have hs1 := sz2 hz1 | have hs1 := sz1 hz1))))
  refine bodyPost_ret (v := .agg #[.int .i64 3, .string ByteArray.empty]) (by simp [results, Tryd.results4, go_sem, *]; rfl) rfl ⟨rfl, ?_⟩
  repeat' (first | (with_reducible exact Below.refl _ _) | (with_reducible refine kept_below ?_ (by assumption) ?_) | (with_reducible refine Below.alloc ?_ ?_ _) | (with_reducible refine Below.drew ?_) | (with_reducible refine Below.setCell ?_ ?_ _) | go_size)

set_option maxHeartbeats 1000000 in
theorem sText_ok (l p : Int) (w : World) (h : fltB l p = false) :
    Calls Tryd.prog 4 #[.agg #[.int .i64 l, .int .i64 p]] w fun e w' => e = .returned (.agg #[.int .i64 0, .string (strOfNums (tx l p 4))]) ∧ Below w.heap.size w w' := by
  go_enter Tryd.func4, Tryd.ntmps4
  go_wp2_with (first | (go_at_call 8; refine Calls.mono (sf_ok _ _ _ ?_) ?_; (all_goals try (first | (with_reducible assumption) | omega)); rintro e w1 ⟨rfl, k1⟩; (try replace k1 := kept_join (by assumption) k1); have hc1 := Kept.cell k1; have hf1 := Kept.frozen k1; have hz1 := k1.size; (try simp only [World.size_alloc] at hz1); (try simp only [World.size_setCell] at hz1); (try simp only [World.size_drew] at hz1); (try (first | have hs1 := sz12 hz1 | have hs1 := sz11 hz1 | have hs1 := sz10 hz1 | have hs1 := sz9 hz1 | have hs1 := sz8 hz1 | have hs1 := sz7 hz1 | have hs1 := sz6 hz1 | have hs1 := sz5 hz1 | have hs1 := sz4 hz1 | have hs1 := sz3 hz1 | have hs1 := sz2 hz1 | have hs1 := sz1 hz1))) | (go_at_call 9; refine Calls.mono (text_any _ _ _ ?_) ?_; (all_goals try (first | (with_reducible assumption) | omega)); rintro e w1 ⟨rfl, k1⟩; (try replace k1 := kept_join (by assumption) k1); have hc1 := Kept.cell k1; have hf1 := Kept.frozen k1; have hz1 := k1.size; (try simp only [World.size_alloc] at hz1); (try simp only [World.size_setCell] at hz1); (try simp only [World.size_drew] at hz1); (try (first | have hs1 := sz12 hz1 | have hs1 := sz11 hz1 | have hs1 := sz10 hz1 | have hs1 := sz9 hz1 | have hs1 := sz8 hz1 | have hs1 := sz7 hz1 | have hs1 := sz6 hz1 | have hs1 := sz5 hz1 | have hs1 := sz4 hz1 | have hs1 := sz3 hz1 | have hs1 := sz2 hz1 | have hs1 := sz1 hz1))))
  refine bodyPost_ret (v := .agg #[.int .i64 0, .string (strOfNums (tx l p 4))]) (by simp [results, Tryd.results4, go_sem, *]) rfl ⟨rfl, ?_⟩
  repeat' (first | (with_reducible exact Below.refl _ _) | (with_reducible refine kept_below ?_ (by assumption) ?_) | (with_reducible refine Below.alloc ?_ ?_ _) | (with_reducible refine Below.drew ?_) | (with_reducible refine Below.setCell ?_ ?_ _) | go_size)

def ltC (l p : Int) : Int := if fltB l p then 3 else 0
def ltT (l p : Int) : ByteArray := if fltB l p then ByteArray.empty else strOfNums (tx l p 4)

theorem sText_any (l p : Int) (w : World) :
    Calls Tryd.prog 4 #[.agg #[.int .i64 l, .int .i64 p]] w fun e w' => e = .returned (.agg #[.int .i64 (ltC l p), .string (ltT l p)]) ∧ Below w.heap.size w w' := by
  unfold ltC ltT
  cases h : fltB l p
  · exact sText_ok l p w h
  · exact sText_no l p w h

theorem iText_any (l p : Int) (w : World) (T : Tab w) :
    Calls Tryd.prog 6 #[.agg #[.int .i64 l, .int .i64 p]] w fun e w' => e = .returned (.agg #[.int .i64 (ltC l p), .string (ltT l p)]) ∧ Below w.heap.size w w' := by
  unfold ltC ltT
  cases h : fltB l p
  · exact iText_ok l p w h T
  · exact iText_no l p w h

set_option maxHeartbeats 400000 in
theorem eqTR_same (c : Int) (s : ByteArray) (w : World) : Calls Tryd.prog 7 #[.agg #[.int .i64 c, .string s], .agg #[.int .i64 c, .string s]] w fun e w' => e = .returned (.bool true) ∧ Below w.heap.size w w' := by
  go_enter Tryd.func7, Tryd.ntmps7
  go_wp2
  go_returns
  exact ⟨rfl, by go_grown⟩

set_option maxHeartbeats 1000000 in
theorem lt_law (l p : Int) (w : World) (T : Tab w) :
    Calls Tryd.prog 3 #[.agg #[.int .i64 l, .int .i64 p]] w fun e w' => e = .returned (.bool true) ∧ Below w.heap.size w w' := by
  go_enter Tryd.func3, Tryd.ntmps3
  go_wp2_with fail
  refine Calls.mono (toLabel_any _ _ _) ?_
  rintro e w1 ⟨rfl, k1⟩
  replace k1 := Kept.below k1
  have hc1 := Kept.cell k1
  have hf1 := Kept.frozen k1
  have hz1 := k1.size
  try simp only [World.size_alloc] at hz1
  try simp only [World.size_setCell] at hz1
  try simp only [World.size_drew] at hz1
  have hb1_0 : w.heap.size < w1.heap.size ∧ w.heap.size ≤ w1.heap.size ∧ w.heap.size ≤ w1.heap.size + 1 ∧ ¬ w.heap.size = w1.heap.size ∧ ¬ w.heap.size = w1.heap.size + 1 := by omega
  go_wp2_with fail
  refine Calls.mono (sText_any _ _ _) ?_
  rintro e w2 ⟨rfl, k2⟩
  replace k2 := Kept.below k2
  have hc2 := Kept.cell k2
  have hf2 := Kept.frozen k2
  have hz2 := k2.size
  try simp only [World.size_alloc] at hz2
  try simp only [World.size_setCell] at hz2
  try simp only [World.size_drew] at hz2
  have hb2_0 : w.heap.size < w2.heap.size ∧ w.heap.size ≤ w2.heap.size ∧ w.heap.size ≤ w2.heap.size + 1 ∧ ¬ w.heap.size = w2.heap.size ∧ ¬ w.heap.size = w2.heap.size + 1 := by omega
  generalize hS : ltT l p = s
  generalize hC : ltC l p = c
  have HS := hideP hS
  have HC := hideP hC
  clear hS hC
  go_wp2_with fail
  refine Calls.mono (toLabel_any _ _ _) ?_
  rintro e w3 ⟨rfl, k3⟩
  replace k3 := Kept.below k3
  have hc3 := Kept.cell k3
  have hf3 := Kept.frozen k3
  have hz3 := k3.size
  try simp only [World.size_alloc] at hz3
  try simp only [World.size_setCell] at hz3
  try simp only [World.size_drew] at hz3
  have hb3_0 : w.heap.size < w3.heap.size ∧ w.heap.size ≤ w3.heap.size ∧ w.heap.size ≤ w3.heap.size + 1 ∧ ¬ w.heap.size = w3.heap.size ∧ ¬ w.heap.size = w3.heap.size + 1 := by omega
  have hb3_1 : w2.heap.size < w3.heap.size ∧ w2.heap.size ≤ w3.heap.size ∧ w2.heap.size ≤ w3.heap.size + 1 ∧ ¬ w2.heap.size = w3.heap.size ∧ ¬ w2.heap.size = w3.heap.size + 1 := by omega
  go_wp2_with fail
  have T' := T.keep (show Below w.heap.size w w3 from by repeat' (first | (with_reducible exact Below.refl _ _) | (with_reducible refine kept_below ?_ (by assumption) ?_) | (with_reducible refine Below.alloc ?_ ?_ _) | (with_reducible refine Below.drew ?_) | (with_reducible refine Below.setCell ?_ ?_ _) | go_size))
  refine Calls.mono (iText_any _ _ _ T') ?_
  rw [HS.out, HC.out]
  rintro e w4 ⟨rfl, k4⟩
  replace k4 := Kept.below k4
  have hc4 := Kept.cell k4
  have hf4 := Kept.frozen k4
  have hz4 := k4.size
  try simp only [World.size_alloc] at hz4
  try simp only [World.size_setCell] at hz4
  try simp only [World.size_drew] at hz4
  have hb4_0 : w.heap.size < w4.heap.size ∧ w.heap.size ≤ w4.heap.size ∧ w.heap.size ≤ w4.heap.size + 1 ∧ ¬ w.heap.size = w4.heap.size ∧ ¬ w.heap.size = w4.heap.size + 1 := by omega
  have hb4_1 : w2.heap.size < w4.heap.size ∧ w2.heap.size ≤ w4.heap.size ∧ w2.heap.size ≤ w4.heap.size + 1 ∧ ¬ w2.heap.size = w4.heap.size ∧ ¬ w2.heap.size = w4.heap.size + 1 := by omega
  clear T T'
  go_wp2_with fail
  refine Calls.mono (eqTR_same _ _ _) ?_
  rintro e w5 ⟨rfl, k5⟩
  replace k5 := Kept.below k5
  have hc5 := Kept.cell k5
  have hf5 := Kept.frozen k5
  have hz5 := k5.size
  try simp only [World.size_alloc] at hz5
  try simp only [World.size_setCell] at hz5
  try simp only [World.size_drew] at hz5
  have hb5_0 : w.heap.size < w5.heap.size ∧ w.heap.size ≤ w5.heap.size ∧ w.heap.size ≤ w5.heap.size + 1 ∧ ¬ w.heap.size = w5.heap.size ∧ ¬ w.heap.size = w5.heap.size + 1 := by omega
  have hb5_1 : w2.heap.size < w5.heap.size ∧ w2.heap.size ≤ w5.heap.size ∧ w2.heap.size ≤ w5.heap.size + 1 ∧ ¬ w2.heap.size = w5.heap.size ∧ ¬ w2.heap.size = w5.heap.size + 1 := by omega
  go_wp2
  go_returns
  refine ⟨rfl, ?_⟩
  repeat' (first | (with_reducible exact Below.refl _ _) | (with_reducible refine kept_below ?_ (by assumption) ?_) | (with_reducible refine Below.alloc ?_ ?_ _) | (with_reducible refine Below.drew ?_) | (with_reducible refine Below.setCell ?_ ?_ _) | go_size)

end Go.Proofs.YtodiekkehbeojagDoor
