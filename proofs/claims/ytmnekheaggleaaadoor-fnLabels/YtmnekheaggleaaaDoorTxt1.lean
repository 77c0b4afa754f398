/- Texts of labels: the model's. -/
import Derived.Test.YtmnekheaggleaaaDoorLab2
import Derived.Test.YtmnekheaggleaaaDoorGrow2
namespace Go.Proofs.YtmnekheaggleaaaDoor
open Go.RowKit
set_option linter.unusedVariables false

theorem hideP {p : Prop} (h : p) : Hid p := h

/-- The table of letters lies in block 0. -/
def Tab (w : World) : Prop := 0 < w.heap.size ∧ w.cell? ⟨0, 0, none⟩ = some (.int .u8 97) ∧ w.cell? ⟨0, 1, none⟩ = some (.int .u8 98) ∧ w.cell? ⟨0, 2, none⟩ = some (.int .u8 99) ∧ w.cell? ⟨0, 3, none⟩ = some (.int .u8 100)
theorem Tab.keep {w w' : World} (h : Tab w) (k : Below w.heap.size w w') : Tab w' := by
  obtain ⟨h0, h1, h2, h3, h4⟩ := h
  refine ⟨Nat.lt_of_lt_of_le h0 k.size, ?_, ?_, ?_, ?_⟩ <;> (rw [Kept.cell k 0 _ h0]; assumption)

set_option maxHeartbeats 400000 in
theorem digits_any (n : Int) (w : World) (h0 : 0 ≤ n) (h1 : n < 10) :
    Calls Tryd.prog 32 #[.int .i64 n] w fun e w' => e = .returned (.string (strOfNums [48 + n])) ∧ Below w.heap.size w w' := by
  have hcv := run_convert_bytes_arg (P := Tryd.prog) (w.alloc (.cells #[.int .u8 (48 + n)] 5)) 22 5 Tryd.underlying22 Tryd.underlying5 w.heap.size 0 1 1 [48 + n] rfl (by
    intro i hi
    have hi0 : i = 0 := by omega
    subst hi0
    simp) 9 Tryd.underlying9
  go_enter Tryd.func32, Tryd.ntmps32
  go_wp2
  go_returns
  exact ⟨rfl, by go_grown⟩

/-- Has p the bit of place k? -/
def bt (p : Int) (k : Nat) : Bool := p / 2 ^ k % 2 == 1
/-- The text's bytes behind k places. -/
def tx (l p : Int) : Nat → List Int
  | 0 => [76, 48 + l]
  | k + 1 => tx l p k ++ (if bt p k then [43, 97 + (k : Int)] else [])

theorem tx_len (l p : Int) (k : Nat) : (tx l p k).length ≤ 2 * k + 2 := by
  induction k with
  | zero => simp [tx]
  | succ k ih => simp only [tx, List.length_append]; split <;> simp <;> omega
theorem str_app (xs ys : List Int) : strOfNums (xs ++ ys) = strOfNums xs ++ strOfNums ys := by
  apply ByteArray.ext
  simp [strOfNums]
theorem tx_no {l p : Int} {k : Nat} (h : bt p k = false) : tx l p (k + 1) = tx l p k := by simp [tx, h]
theorem tx_yes {l p : Int} {k : Nat} (h : bt p k = true) : strOfNums (tx l p (k + 1)) = strOfNums (tx l p k) ++ strOfNums [43, 97 + (k : Int)] := by
  rw [← str_app]; simp [tx, h]
theorem app3 (s a b c : ByteArray) (h : a ++ b = c) : s ++ a ++ b = s ++ c := by
  rw [← h]
  apply ByteArray.ext
  simp
theorem bt0 (p : Int) : bt p 0 = (p % 2 == 1) := by unfold bt; simp
theorem step0 {l p : Int} (h : (p % 2 == 1) = true) : strOfNums (tx l p 0) ++ ⟨#[43]⟩ ++ (⟨#[97, 98, 99, 100]⟩ : ByteArray).extract 0 1 = strOfNums (tx l p 1) := by
  rw [tx_yes (k := 0) (by rw [bt0]; exact h)]
  exact app3 _ _ _ _ (by rfl)
theorem stay0 {l p : Int} (h : (p % 2 == 1) = false) : tx l p 1 = tx l p 0 := tx_no (by rw [bt0]; exact h)
theorem bt1 (p : Int) : bt p 1 = (p / 2 % 2 == 1) := by unfold bt; simp
theorem step1 {l p : Int} (h : (p / 2 % 2 == 1) = true) : strOfNums (tx l p 1) ++ ⟨#[43]⟩ ++ (⟨#[97, 98, 99, 100]⟩ : ByteArray).extract 1 2 = strOfNums (tx l p 2) := by
  rw [tx_yes (k := 1) (by rw [bt1]; exact h)]
  exact app3 _ _ _ _ (by rfl)
theorem stay1 {l p : Int} (h : (p / 2 % 2 == 1) = false) : tx l p 2 = tx l p 1 := tx_no (by rw [bt1]; exact h)
theorem bt2 (p : Int) : bt p 2 = (p / 4 % 2 == 1) := by unfold bt; simp
theorem step2 {l p : Int} (h : (p / 4 % 2 == 1) = true) : strOfNums (tx l p 2) ++ ⟨#[43]⟩ ++ (⟨#[97, 98, 99, 100]⟩ : ByteArray).extract 2 3 = strOfNums (tx l p 3) := by
  rw [tx_yes (k := 2) (by rw [bt2]; exact h)]
  exact app3 _ _ _ _ (by rfl)
theorem stay2 {l p : Int} (h : (p / 4 % 2 == 1) = false) : tx l p 3 = tx l p 2 := tx_no (by rw [bt2]; exact h)
theorem bt3 (p : Int) : bt p 3 = (p / 8 % 2 == 1) := by unfold bt; simp
theorem step3 {l p : Int} (h : (p / 8 % 2 == 1) = true) : strOfNums (tx l p 3) ++ ⟨#[43]⟩ ++ (⟨#[97, 98, 99, 100]⟩ : ByteArray).extract 3 4 = strOfNums (tx l p 4) := by
  rw [tx_yes (k := 3) (by rw [bt3]; exact h)]
  exact app3 _ _ _ _ (by rfl)
theorem stay3 {l p : Int} (h : (p / 8 % 2 == 1) = false) : tx l p 4 = tx l p 3 := tx_no (by rw [bt3]; exact h)

set_option maxHeartbeats 1000000 in
theorem text_any (l p : Int) (w : World) (h : fltB l p = false) :
    Calls Tryd.prog 17 #[.agg #[.int .i64 l, .int .i64 p]] w fun e w' => e = .returned (.string (strOfNums (tx l p 4))) ∧ Below w.heap.size w w' := by
  obtain ⟨h1, h2, h3, h4⟩ := fltB_no h
  clear h
  have hd1 : (strOfNums [48 + l]).size ≤ 10 := by rw [strOfNums_size]; simp
  go_enter Tryd.func17, Tryd.ntmps17
  go_wp2_with (first | (go_at_call 32; refine Calls.mono (digits_any _ _ ?_ ?_) ?_; (all_goals try (first | (with_reducible assumption) | omega)); rintro e w1 ⟨rfl, k1⟩; (try replace k1 := kept_join (by assumption) k1); have hc1 := Kept.cell k1; have hf1 := Kept.frozen k1; have hz1 := k1.size; (try simp only [World.size_alloc] at hz1); (try simp only [World.size_setCell] at hz1); (try simp only [World.size_drew] at hz1); (try (first | have hs1 := sz12 hz1 | have hs1 := sz11 hz1 | have hs1 := sz10 hz1 | have hs1 := sz9 hz1 | have hs1 := sz8 hz1 | have hs1 := sz7 hz1 | have hs1 := sz6 hz1 | have hs1 := sz5 hz1 | have hs1 := sz4 hz1 | have hs1 := sz3 hz1 | have hs1 := sz2 hz1 | have hs1 := sz1 hz1))))
  go_loop [3, 5] (fun s i => ∃ k : Nat, k ≤ 4 ∧ i = .int .i64 k ∧ s = .string (strOfNums (tx l p k))) (fun _ i => 4 - (intOf i).toNat)
  case atStart => exact ⟨0, Nat.zero_le _, rfl, rfl⟩
  case round =>
    obtain ⟨k, hk, rfl, rfl⟩ := hrel
    have hsz : (strOfNums (tx l p k)).size ≤ 10 := by rw [strOfNums_size]; have := tx_len l p k; omega
    have hcases : k = 0 ∨ k = 1 ∨ k = 2 ∨ k = 3 ∨ k = 4 := by omega
    rcases hcases with rfl | rfl | rfl | rfl | rfl
    · cases hb : (p % 2 == 1)
      · have HS : Hid (tx l p 1 = tx l p 0) := stay0 hb
        go_wp2
        go_round
        case rel => exact ⟨1, by omega, rfl, by rw [HS.out]⟩
        case measure => simp [intOf]
      · have HS : Hid (strOfNums (tx l p 0) ++ ⟨#[43]⟩ ++ (⟨#[97, 98, 99, 100]⟩ : ByteArray).extract 0 1 = strOfNums (tx l p 1)) := step0 hb
        go_wp2
        go_round
        case rel => exact ⟨1, by omega, rfl, by rw [HS.out]⟩
        case measure => simp [intOf]
    · cases hb : (p / 2 % 2 == 1)
      · have HS : Hid (tx l p 2 = tx l p 1) := stay1 hb
        go_wp2
        go_round
        case rel => exact ⟨2, by omega, rfl, by rw [HS.out]⟩
        case measure => simp [intOf]
      · have HS : Hid (strOfNums (tx l p 1) ++ ⟨#[43]⟩ ++ (⟨#[97, 98, 99, 100]⟩ : ByteArray).extract 1 2 = strOfNums (tx l p 2)) := step1 hb
        go_wp2
        go_round
        case rel => exact ⟨2, by omega, rfl, by rw [HS.out]⟩
        case measure => simp [intOf]
    · cases hb : (p / 4 % 2 == 1)
      · have HS : Hid (tx l p 3 = tx l p 2) := stay2 hb
        go_wp2
        go_round
        case rel => exact ⟨3, by omega, rfl, by rw [HS.out]⟩
        case measure => simp [intOf]
      · have HS : Hid (strOfNums (tx l p 2) ++ ⟨#[43]⟩ ++ (⟨#[97, 98, 99, 100]⟩ : ByteArray).extract 2 3 = strOfNums (tx l p 3)) := step2 hb
        go_wp2
        go_round
        case rel => exact ⟨3, by omega, rfl, by rw [HS.out]⟩
        case measure => simp [intOf]
    · cases hb : (p / 8 % 2 == 1)
      · have HS : Hid (tx l p 4 = tx l p 3) := stay3 hb
        go_wp2
        go_round
        case rel => exact ⟨4, by omega, rfl, by rw [HS.out]⟩
        case measure => simp [intOf]
      · have HS : Hid (strOfNums (tx l p 3) ++ ⟨#[43]⟩ ++ (⟨#[97, 98, 99, 100]⟩ : ByteArray).extract 3 4 = strOfNums (tx l p 4)) := step3 hb
        go_wp2
        go_round
        case rel => exact ⟨4, by omega, rfl, by rw [HS.out]⟩
        case measure => simp [intOf]
    · go_wp2
      go_returns
      refine ⟨rfl, ?_⟩
      repeat' (first | (with_reducible exact Below.refl _ _) | (with_reducible refine kept_below ?_ (by assumption) ?_) | (with_reducible refine Below.alloc ?_ ?_ _) | (with_reducible refine Below.drew ?_) | (with_reducible refine Below.setCell ?_ ?_ _) | go_size)

end Go.Proofs.YtmnekheaggleaaaDoor
