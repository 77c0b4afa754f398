/- DrawParseLabel: some text of at most ten bytes. -/
import Derived.Test.YtmnekheaggleaaaDoorDraw4
namespace Go.Proofs.YtmnekheaggleaaaDoor
open Go.RowKit
set_option linter.unusedVariables false

theorem tx_two (l p : Int) : ∀ k, 2 ≤ (tx l p k).length := by
  intro k
  induction k with
  | zero => simp [tx]
  | succ k ih => simp only [tx, List.length_append]; omega

/-- '[]byte(s)': a new row that holds s, and may be written. -/
theorem conv_new (w : World) (s : ByteArray) : ∃ (W : World) (c : Nat) (F : Nat → Int), (convert 9 22 (.string s)).run Tryd.prog w = .ok (.slice (some ⟨w.heap.size, 0, none⟩) s.size c) W ∧ Below w.heap.size w W ∧ W.heap.size = w.heap.size + 1 ∧
    (∀ j, j < s.size → W.cell? ⟨w.heap.size, j, none⟩ = some (.int .u8 (F j))) ∧ (∀ j, j < s.size → W.frozen? ⟨w.heap.size, j, none⟩ = false) := by
  refine ⟨_, _, fun j => ((s.data.toList.getD j 0).toNat : Int), Lib.run_convert_string_bytes w 9 22 5 s Tryd.underlying9 Tryd.underlying22 Tryd.underlying5, ⟨rfl, rfl, rfl, ?_, fun i hi => ?_⟩, Lib.bytesWorld_size _ _ _, fun j hj => Lib.bytesWorld_cell w 5 s j hj, fun j hj => ?_⟩
  · rw [Lib.bytesWorld_size]; omega
  · exact Lib.bytesWorld_at_old w _ s i hi
  · simp [World.frozen?, Lib.bytesWorld_at_new, Lib.bytesCells]
    omega

/-- 'string(t)' of a row whose first n cells are bytes. -/
theorem conv_back (W : World) (b n c : Nat) (F : Nat → Int) (h : ∀ j, j < n → W.cell? ⟨b, j, none⟩ = some (.int .u8 (F j))) : (convert 22 9 (.slice (some ⟨b, 0, none⟩) n c)).run Tryd.prog W = .ok (.string (strOfNums ((List.range n).map F))) W := by
  refine run_convert_bytes_arg (P := Tryd.prog) W 22 5 Tryd.underlying22 Tryd.underlying5 b 0 n c ((List.range n).map F) (by simp) (fun i hi => ?_) 9 Tryd.underlying9
  rw [Nat.zero_add, h i hi]
  simp [List.getD, hi]

set_option maxHeartbeats 1000000 in
theorem dpl_any (w : World) (a : Option Addr) (len cap : Nat) (f : Nat → Int) (hB : Bytes w w.heap.size a len f) (hl : len ≤ 1048576) :
    Calls Tryd.prog 5 #[.slice a len cap] w fun e w' => ∃ s : ByteArray, e = .returned (.string s) ∧ s.size ≤ 10 ∧ Below w.heap.size w w' := by
  have S0 := Src.new w w w.heap.size a len cap f 58 hB hl (Below.refl _ _) rfl
  go_enter Tryd.func5, Tryd.ntmps5
  go_wp2_with (first | (go_at_call 16; go_in))
  refine Calls.mono (draw_b _ w.heap.size w.heap.size a len cap f 0 S0 (by omega) (by omega)) ?_
  rintro e w1 ⟨l, p, rfl, hlp, ht1, hs1⟩
  have hz1 := ht1.size
  simp only [World.size_alloc] at hz1
  have hv : fltB l p = false := by unfold fltB; simp; omega
  go_wp2_with fail
  refine Calls.mono (text_any l p _ hv) ?_
  rintro e w2 ⟨rfl, k2⟩
  have hs2 := hs1.grow k2
  have hsz : 2 ≤ (strOfNums (tx l p 4)).size ∧ (strOfNums (tx l p 4)).size ≤ 10 := by rw [strOfNums_size]; exact ⟨tx_two l p 4, tx_len l p 4⟩
  have hz2 := k2.size
  generalize strOfNums (tx l p 4) = s at hsz
  obtain ⟨w3, c3, F, hcv, k3, hz3, hcell, hfr⟩ := conv_new w2 s
  have hs3 := hs2.grow k3
  have T3 := (ht1.trans (Turn.of_below k2)).trans (Turn.of_below k3)
  have HT3 := hideP T3
  have HC := hideP hcell
  have HF := hideP hfr
  clear T3 hcell hfr
  have n0 : (1 : Int) ≤ (s.size : Int) := by omega
  have n1 : (s.size : Int) ≤ 10 := by omega
  go_wp2_with fail
  refine Calls.mono (chance_any _ w.heap.size w.heap.size a len cap f (0 + 1 + 1) 3 hs3 (by omega) (by omega) (by omega) (by omega)) ?_
  rintro e w4 ⟨r, rfl, ht4, hs4⟩
  have hz4 := ht4.size
  have HC4 : Hid (∀ j, j < s.size → w4.cell? ⟨w2.heap.size, j, none⟩ = some (.int .u8 (F j))) := hideP fun j hj => by rw [ht4.cell _ _ (by omega) (by omega)]; exact HC.out j hj
  have HF4 : Hid (∀ j, j < s.size → w4.frozen? ⟨w2.heap.size, j, none⟩ = false) := hideP fun j hj => by rw [ht4.frozen _ _ (by omega) (by omega)]; exact HF.out j hj
  cases r
  · have hcb := conv_back w4 w2.heap.size s.size c3 F HC4.out
    go_wp2
    go_returns
    refine ⟨_, rfl, ?_, ?_⟩
    · rw [strOfNums_size]; simp; omega
    · exact Turn.below ((Below.refl w.heap.size w).alloc (Nat.le_refl _) (.cells #[.slice a len cap, .int .i64 0] 58)) (by omega) (by simp) (HT3.out.trans ht4)
  · go_wp2_with fail
    refine Calls.mono (next_any _ w.heap.size w.heap.size a len cap f (0 + 1 + 1 + 1) _ hs4 (by omega) (by omega) n0 (by omega)) ?_
    rintro e w5 ⟨r5, rfl, r50, r51, ht5, hs5⟩
    go_wp2_with fail
    refine Calls.mono (pick_b (fun n => 0 ≤ n ∧ n ≤ 255) _ w.heap.size w.heap.size a len cap f (0 + 1 + 1 + 1 + 1) _ _ _ _ (by simp) (inb6 (by omega) (by omega) (by omega) (by omega) (by omega) (by omega)) hs5 (by omega) (by omega) (by omega) (by omega)) ?_
    rintro e w6 ⟨r6, rfl, hr6, ht6, hs6⟩
    have ht56 := ht5.trans ht6
    have hz6 := ht56.size
    obtain ⟨r60, r61⟩ := hr6
    have hix : r5.toNat < s.size := by omega
    have HC6 : ∀ j, j < s.size → w6.cell? ⟨w2.heap.size, j, none⟩ = some (.int .u8 (F j)) := fun j hj => by rw [ht56.cell _ _ (by omega) (by omega)]; exact HC4.out j hj
    have hf6 : w6.frozen? ⟨w2.heap.size, r5.toNat, none⟩ = false := by rw [ht56.frozen _ _ (by omega) (by omega)]; exact HF4.out _ hix
    have hc6 := HC6 _ hix
    have hcb := conv_back (w6.setCell ⟨w2.heap.size, r5.toNat, none⟩ (.int .u8 r6)) w2.heap.size s.size c3 (fun j => if j = r5.toNat then r6 else F j) (by
      intro j hj
      by_cases e : j = r5.toNat
      · subst e; rw [if_pos rfl]; exact World.cell?_setCell_same _ _ _ hc6
      · rw [if_neg e, World.cell?_setCell_other _ _ _ _ (by intro h; cases h; exact e rfl)]; exact HC6 j hj)
    have HH := hideP HC6
    clear HC6
    go_wp2
    go_returns
    refine ⟨_, rfl, ?_, ?_⟩
    · rw [strOfNums_size]; simp; omega
    · have hb := Turn.below ((Below.refl w.heap.size w).alloc (Nat.le_refl _) (.cells #[.slice a len cap, .int .i64 0] 58)) (by omega) (by simp) ((HT3.out.trans ht4).trans ht56)
      exact hb.setCell (by simp; omega) _

end Go.Proofs.YtmnekheaggleaaaDoor
