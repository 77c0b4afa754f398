/- What FnRequests draws: a text. -/
import Derived.Test.YtbceacnadkhdoaaGreatDoorV19
import Derived.Test.YtbceacnadkhdoaaGreatDoorV26
import Derived.Lib.ConvBytes
import Derived.Laws.BytesArg
namespace Go.Proofs.YtbceacnadkhdoaaGreatDoor
open Go.RowKit
set_option linter.unusedVariables false
attribute [local go_sem high] sl_from sl_upto

theorem tS_pos (k : Int) (L : List Int) : 1 ≤ (tS (k :: L)).size := by
  unfold tS
  rw [txt_cons]
  have h : 1 ≤ (d3 k.toNat).length := by unfold d3; split <;> (try split) <;> simp
  simp [ByteArray.size]; omega

/-- '[]byte(s)': a new row that holds s, and may be written. -/
theorem conv_newP (w : World) (s : ByteArray) : ∃ (W : World) (c : Nat) (F : Nat → Int), (convert 9 22 (.string s)).run Tryz.prog w = .ok (.slice (some ⟨w.heap.size, 0, none⟩) s.size c) W ∧ Below w.heap.size w W ∧ W.heap.size = w.heap.size + 1 ∧ s.size ≤ c ∧
    (∀ j, j < s.size → W.cell? ⟨w.heap.size, j, none⟩ = some (.int .u8 (F j))) ∧ (∀ j, j < s.size → W.frozen? ⟨w.heap.size, j, none⟩ = false) := by
  refine ⟨_, _, fun j => ((s.data.toList.getD j 0).toNat : Int), Lib.run_convert_string_bytes w 9 22 5 s Tryz.underlying9 Tryz.underlying22 Tryz.underlying5, ⟨rfl, rfl, rfl, ?_, fun i hi => ?_⟩, Lib.bytesWorld_size _ _ _, ?_, fun j hj => Lib.bytesWorld_cell w 5 s j hj, fun j hj => ?_⟩
  · rw [Lib.bytesWorld_size]; omega
  · exact Lib.bytesWorld_at_old w _ s i hi
  · exact grownCap_ge w _ _ _
  · simp [World.frozen?, Lib.bytesWorld_at_new, Lib.bytesCells]
    omega

/-- 'string(t)' of a row whose first n cells are bytes. -/
theorem conv_backP (W : World) (b n c : Nat) (F : Nat → Int) (h : ∀ j, j < n → W.cell? ⟨b, j, none⟩ = some (.int .u8 (F j))) : (convert 22 9 (.slice (some ⟨b, 0, none⟩) n c)).run Tryz.prog W = .ok (.string (strOfNums ((List.range n).map F))) W := by
  refine run_convert_bytes_arg (P := Tryz.prog) W 22 5 Tryz.underlying22 Tryz.underlying5 b 0 n c ((List.range n).map F) (by simp) (fun i hi => ?_) 9 Tryz.underlying9
  rw [Nat.zero_add, h i hi]
  simp [List.getD, hi]

set_option maxRecDepth 100000 in
set_option maxHeartbeats 4000000 in
theorem drawText_any (w : World) (a : Option Addr) (len cap : Nat) (f : Nat → Int) (hB : Bytes w w.heap.size a len f) (hl : len ≤ 1048576) :
    Calls Tryz.prog 7 #[.slice a len cap] w fun e w' => ∃ s : ByteArray, e = .returned (.string s) ∧ s.size ≤ 200 ∧ Below w.heap.size w w' := by
  have S0 := hideP (Src.newP w w w.heap.size a len cap f 73 hB hl (Below.refl _ _) rfl)
  have K0 : Hid (Below w.heap.size w (w.alloc (.cells #[.slice a len cap, .int .i64 0] 73))) := hideP ((Below.refl _ _).alloc (Nat.le_refl _) _)
  clear hB
  go_enter Tryz.func7, Tryz.ntmps7
  go_wp2_with (first | (go_at_call 21; go_in))
  have n0 : w.heap.size < (w.alloc (.cells #[.slice a len cap, .int .i64 0] 73)).heap.size := by simp
  generalize w.alloc (.cells #[.slice a len cap, .int .i64 0] 73) = w1 at *
  refine Calls.mono (draw3_any w1 _ _ a len cap f 0 1 S0.out (by omega) (by omega) (by omega) (by omega)) ?_
  rintro e w2 ⟨k, ao, ca, A, bo, cb, D, u, rfl, hF, hDB, T2, u0, u1, S2, RA, RD, -, -⟩
  obtain ⟨l1, l2, q1, q2, q3⟩ := rF_lens hF
  have hDa : D.all isB = true := by
    rw [List.all_eq_true]
    intro x hx
    obtain ⟨i, hi, rfl⟩ := List.getElem_of_mem hx
    have := hDB i hi
    simp [isB]; omega
  have n2 := T2.size
  have ka : Below w2.heap.size w2 (w2.alloc (.cells #[.int .i64 k, .slice ao A.length ca, .slice bo D.length cb] 27)) := (Below.refl _ _).alloc (Nat.le_refl _) _
  have TX := hideP (l3Text_any _ w2.heap.size w2.heap.size 0 k ao bo ca cb A D (w2.alloc (.cells #[.int .i64 k, .slice ao A.length ca, .slice bo D.length cb] 27)) ⟨by simp, by simp, by simp⟩ (RA.keep ka (Nat.le_refl _)) (RD.keep ka (Nat.le_refl _)) (by simp) (by simp) (by omega) (by omega) (by omega) (by omega) q3 hDa)
  have T3 := hideP (T2.trans (Turn.of_below (b := w.heap.size) ka))
  have S3 := hideP (S2.grow ka)
  have hs0 := tS_pos k (A ++ D)
  have hs1 := tS_size (k :: (A ++ D))
  simp only [List.length_cons, List.length_append] at hs1
  generalize tS (k :: (A ++ D)) = s at *
  clear T2 S2 RA RD hF hDB ka q3 S0 hDa
  go_wp2_with fail
  generalize w2.alloc (.cells #[.int .i64 k, .slice ao A.length ca, .slice bo D.length cb] 27) = w3 at *
  refine Calls.mono TX.out ?_
  rintro e w4 ⟨rfl, k4⟩
  obtain ⟨w5, c5, F, hcv, k5, hz5, hcp, hcell, hfr⟩ := conv_newP w4 s
  have n4 := k4.size
  have n3 := T3.out.size
  have T5 := hideP ((T3.out.trans (Turn.of_below (b := w.heap.size) k4)).trans (Turn.of_below (b := w.heap.size) k5))
  have S5 := hideP ((S3.out.grow k4).grow k5)
  have HC := hideP hcell
  have HF := hideP hfr
  have m0 : (1 : Int) ≤ (s.size : Int) := by omega
  have m1 : (s.size : Int) ≤ 200 := by omega
  have m2 : s.size ≤ 200 := by omega
  clear hcell hfr k4 k5 T3 S3 TX hs1
  go_wp2_with fail
  refine Calls.mono (next_any _ _ _ _ _ _ _ _ 5 S5.out (by omega) (by omega) (by omega) (by omega)) ?_
  rintro e w6 ⟨y, rfl, y0, y1, ht, hs⟩
  have T6 := hideP (T5.out.trans ht)
  have S6 := hideP hs
  have z6 := ht.size
  have HC6 : Hid (∀ j, j < s.size → w6.cell? ⟨w4.heap.size, j, none⟩ = some (.int .u8 (F j))) := hideP fun j hj => by rw [ht.cell _ _ (by omega) (by omega)]; exact HC.out j hj
  have HF6 : Hid (∀ j, j < s.size → w6.frozen? ⟨w4.heap.size, j, none⟩ = false) := hideP fun j hj => by rw [ht.frozen _ _ (by omega) (by omega)]; exact HF.out j hj
  have K6 := hideP (K0.out.trans ⟨T6.out.os, T6.out.tape, T6.out.output, T6.out.size, fun q hq => T6.out.block q (by omega) (by omega)⟩)
  clear ht hs T5 S5 HC HF hcv K0
  by_cases e0 : y = 0
  · subst e0
    go_wp2_with fail
    refine Calls.mono (next_any _ _ _ _ _ _ _ _ _ S6.out (by omega) (by omega) m0 (by omega)) ?_
    rintro e w7 ⟨x, rfl, x0, x1, ht, hs⟩
    have S7 := hideP hs
    have ht7 := hideP ht
    clear ht hs
    go_wp2_with fail
    refine Calls.mono (pickQ (fun n => 0 ≤ n ∧ n ≤ 255) _ _ _ a len cap f _ _ _ _ _ rfl (inbL [44, 48, 57, 120] (by simp)) S7.out (by omega) (by omega) (by decide) (by decide)) ?_
    rintro e w8 ⟨r, rfl, ⟨r0, r1⟩, ht, hs⟩
    have ht78 := ht7.out.trans ht
    have z8 := ht78.size
    have hix : x.toNat < s.size := by omega
    have HC8 : ∀ j, j < s.size → w8.cell? ⟨w4.heap.size, j, none⟩ = some (.int .u8 (F j)) := fun j hj => by rw [ht78.cell _ _ (by omega) (by omega)]; exact HC6.out j hj
    have hf8 : w8.frozen? ⟨w4.heap.size, x.toNat, none⟩ = false := by rw [ht78.frozen _ _ (by omega) (by omega)]; exact HF6.out _ hix
    have hc8 := HC8 _ hix
    have hcb := conv_backP (w8.setCell ⟨w4.heap.size, x.toNat, none⟩ (.int .u8 r)) w4.heap.size s.size c5 (fun j => if j = x.toNat then r else F j) (by
      intro j hj
      by_cases e : j = x.toNat
      · subst e; rw [if_pos rfl]; exact World.cell?_setCell_same _ _ _ hc8
      · rw [if_neg e, World.cell?_setCell_other _ _ _ _ (by intro h; cases h; exact e rfl)]; exact HC8 j hj)
    have K8 := hideP ((K6.out.trans ⟨ht78.os, ht78.tape, ht78.output, ht78.size, fun q hq => ht78.block q (by omega) (by omega)⟩).setCell (p := ⟨w4.heap.size, x.toNat, none⟩) (by show w.heap.size ≤ w4.heap.size; omega) (.int .u8 r))
    have hrm : r % 256 = r := by omega
    clear HC8 ht hs ht78 ht7 S7 S6 HC6 HF6 K6 T6
    go_wp2
    go_returns
    exact ⟨_, rfl, by rw [strOfNums_size]; simp; omega, K8.out⟩
  by_cases e1 : y = 1
  · subst e1
    go_wp2_with fail
    refine Calls.mono (next_any _ _ _ _ _ _ _ _ _ S6.out (by omega) (by omega) m0 (by omega)) ?_
    rintro e w7 ⟨x, rfl, x0, x1, ht, hs⟩
    obtain ⟨n, rfl⟩ : ∃ n : Nat, x = n := ⟨x.toNat, by omega⟩
    have hcb := conv_backP w7 w4.heap.size n c5 F (fun j hj => by rw [ht.cell _ _ (by omega) (by omega)]; exact HC6.out j (by omega))
    have K7 := hideP (K6.out.trans ⟨ht.os, ht.tape, ht.output, ht.size, fun q hq => ht.block q (by omega) (by omega)⟩)
    have hnc : (n : Int) ≤ (c5 : Int) := by omega
    clear ht hs S6 HC6 HF6 K6 T6
    go_wp2
    go_returns
    exact ⟨_, rfl, by rw [strOfNums_size]; simp; omega, K7.out⟩
  · have d0 : (y == 0) = false := by simp [e0]
    have d1 : (y == 1) = false := by simp [e1]
    have hcb := conv_backP w6 w4.heap.size s.size c5 F HC6.out
    clear S6 HC6 HF6 T6
    go_wp2
    go_returns
    exact ⟨_, rfl, by rw [strOfNums_size]; simp; omega, K6.out⟩

end Go.Proofs.YtbceacnadkhdoaaGreatDoor
