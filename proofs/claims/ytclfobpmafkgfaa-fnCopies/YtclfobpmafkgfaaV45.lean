/- An array of cells: the picture of a window. -/
import Derived.Test.YtclfobpmafkgfaaV13
import Derived.Laws.Rows
import Derived.Laws.CopyOwn
import Derived.Deep.WholeRow
namespace Go.Proofs.Ytclfobpmafkgfaa
open Go.RowKit Go.Maps
set_option linter.unusedVariables false

/-- Numbers as the cells of an array. -/
def arr (L : List Int) : Array Value := (L.map (Value.int .i64)).toArray
theorem arr_size (L : List Int) : (arr L).size = L.length := by simp [arr]
theorem arr_one (L : List Int) : (arr L).all (·.oneCell') = true := by
  rw [Array.all_eq_true_iff_forall_mem]
  intro v hv
  simp only [arr, List.mem_toArray, List.mem_map] at hv
  obtain ⟨x, _, rfl⟩ := hv
  rfl
/-- A block that is an array of numbers. -/
def AR (w : World) (B : Nat) (L : List Int) : Prop := w.heap[B]? = some (.cells (arr L) 120 (0, 0))
section
variable {w w' : World} {B n : Nat} {L : List Int}
theorem AR.lt (h : AR w B L) : B < w.heap.size := (Array.getElem?_eq_some_iff.1 h).1
theorem AR.keep (h : AR w B L) (k : Below n w w') (hb : B < n) : AR w' B L := (k.block B hb).trans h
theorem AR.cell (h : AR w B L) {i : Nat} (hi : i < L.length) : w.cell? ⟨B, i, none⟩ = some (.int .i64 L[i]) := by
  rw [cell_of_row w B i _ _ _ h]
  simp [arr, hi]
theorem AR.free (h : AR w B L) (c : Nat) : w.frozen? ⟨B, c, none⟩ = false := frozen_of_row w B c _ _ h
theorem AR.one (h : AR w B L) (i : Nat) (v : Int) : AR (w.setCell ⟨B, i, none⟩ (.int .i64 v)) B (L.set i v) := by
  have e := heap_setCell_same w B i (arr L) 120 (.int .i64 v) h
  show _ = _
  rw [e]
  congr 2
  simp only [arr, List.map_set]
  exact List.setIfInBounds_toArray _ _ _
theorem AR.other (h : AR w B L) (a : Addr) (v : Value) (hne : B ≠ a.block) : AR (w.setCell a v) B L := (heap_setCell_other w a B v hne).trans h
end
theorem Try.infoPic : (Try.prog.info? 120).map (·.size) = some 48 := by kernel_rfl
theorem Try.infoI64p : (Try.prog.info? 2).map (·.size) = some 1 := by kernel_rfl
/-- The cells of a picture: those of the window, then nothing. -/
def pic (D : List Int) : List Int := D ++ List.replicate (48 - D.length) 0
theorem pic_len {D : List Int} (h : D.length ≤ 48) : (pic D).length = 48 := by simp [pic]; omega
theorem row_over (n : Nat) (D : List Int) : ((arr (List.replicate n 0)).toList.take 0 ++ (D.map (Value.int .i64) ++ (arr (List.replicate n 0)).toList.drop (0 + (D.map (Value.int .i64)).length))).toArray = arr (D ++ List.replicate (n - D.length) 0) := by
  simp [arr, List.drop_replicate]
theorem ar_new (w : World) : AR (w.alloc (.cells (arr (List.replicate 48 0)) 120)) w.heap.size (List.replicate 48 0) := by
  show _ = _
  exact heap_alloc_new w _
theorem arr_zeros : arr (List.replicate 48 0) = #[.int .i64 0, .int .i64 0, .int .i64 0, .int .i64 0, .int .i64 0, .int .i64 0, .int .i64 0, .int .i64 0, .int .i64 0, .int .i64 0, .int .i64 0, .int .i64 0, .int .i64 0, .int .i64 0, .int .i64 0, .int .i64 0, .int .i64 0, .int .i64 0, .int .i64 0, .int .i64 0, .int .i64 0, .int .i64 0, .int .i64 0, .int .i64 0, .int .i64 0, .int .i64 0, .int .i64 0, .int .i64 0, .int .i64 0, .int .i64 0, .int .i64 0, .int .i64 0, .int .i64 0, .int .i64 0, .int .i64 0, .int .i64 0, .int .i64 0, .int .i64 0, .int .i64 0, .int .i64 0, .int .i64 0, .int .i64 0, .int .i64 0, .int .i64 0, .int .i64 0, .int .i64 0, .int .i64 0, .int .i64 0] := rfl

set_option maxRecDepth 100000 in
set_option maxHeartbeats 2000000 in
theorem picture_any (g o bg ca : Nat) (x y p h : Int) (D : List Int) (w : World) (I : Pip w g o bg ca x y p h D.length) (hW : Wrt .i64 w bg (bg + 1) (some ⟨bg, 0, none⟩) D) (hl : D.length ≤ 48) (hD : D ≠ []) :
    Calls Try.prog 85 #[.pointer (some ⟨g, o, none⟩)] w fun e w' => e = .returned (.agg (arr (pic D))) ∧ Below w.heap.size w w' := by
  have hlt0 : 0 < D.length := List.length_pos_iff.2 hD
  have hbg : bg < w.heap.size := World.block_lt_of_cell? w _ (hW.cells hlt0).2.2.1
  have hg : g < w.heap.size := World.block_lt_of_cell? w _ I.a0
  have HW := hideP hW
  have HI := hideP I
  obtain ⟨PD, hPD⟩ : ∃ PD, arr (pic D) = PD := ⟨_, rfl⟩
  have hp48 : PD.size = 48 := by rw [← hPD, arr_size, pic_len hl]
  have hone : PD.all (·.oneCell') = true := by rw [← hPD]; exact arr_one (pic D)
  have H48 := hideP hp48
  have HONE := hideP hone
  have HPD := hideP hPD
  rw [hPD]
  clear hW I hPD hp48 hone
  go_enter Try.func85, Try.ntmps85
  go_wp2
  rw [← arr_zeros]
  obtain ⟨W, hWd⟩ : ∃ W, W = (w.alloc (.cells (arr (List.replicate 48 0)) 120)).alloc (.cells (arr (List.replicate 48 0)) 120) := ⟨_, rfl⟩
  have k0 : Below w.heap.size w W := by rw [hWd]; exact ((Below.refl _ _).alloc (Nat.le_refl _) _).alloc (by simp) _
  have A1 : AR W w.heap.size (List.replicate 48 0) := by rw [hWd]; exact (ar_new w).keep (n := w.heap.size + 1) ((Below.refl _ _).alloc (by simp) _) (by omega)
  have A2 : AR W (w.heap.size + 1) (List.replicate 48 0) := by
    rw [hWd]
    have := ar_new (w.alloc (.cells (arr (List.replicate 48 0)) 120))
    simpa using this
  have W1 : Wrt .i64 W bg (bg + 1) (some ⟨bg, 0, none⟩) D := HW.out.keep k0 (by omega)
  have a6 := (k0.cell (p := ⟨g, o + 6, none⟩) hg).trans HI.out.a6
  have hsW : w.heap.size + 1 < W.heap.size := A2.lt
  have hgW : g < W.heap.size := by omega
  rw [← hWd]
  have HA1 := hideP A1
  have HA2 := hideP A2
  have HW1 := hideP W1
  have K0 := hideP k0
  clear hWd A1 A2 W1 k0
  refine wp_region_kept_tail 5 (by kernel_rfl) (by kernel_rfl) ?_
  simp only [List.take_succ_cons, List.take_zero, List.drop_succ_cons, List.drop_zero]
  repeat (refine kept_step (by rfl) ?_; apply Exists.intro; refine ⟨fun w1 k1 => ?_, fun K hK => ?_⟩; (focus (have hc := Kept.cell k1; go_simp; first | done | rfl)); (go_simp; refine hK _ ?_; clear hK K))
  refine wpQuiet_nil ?_
  intro w2 k2
  replace k2 := Kept.below k2
  have hc2 := Kept.cell k2
  have hf2 := Kept.frozen k2
  have hz2 := k2.size
  try simp only [World.size_alloc] at hz2
  try simp only [World.size_setCell] at hz2
  try simp only [World.size_drew] at hz2
  try (first | have hs2 := sz12 hz2 | have hs2 := sz11 hz2 | have hs2 := sz10 hz2 | have hs2 := sz9 hz2 | have hs2 := sz8 hz2 | have hs2 := sz7 hz2 | have hs2 := sz6 hz2 | have hs2 := sz5 hz2 | have hs2 := sz4 hz2 | have hs2 := sz3 hz2 | have hs2 := sz2 hz2 | have hs2 := sz1 hz2)
  have A3 := HA2.out.keep k2 (by omega)
  have A4 := HA1.out.keep k2 (by omega)
  have W2 := HW1.out.keep k2 (by omega)
  have hsrc : ∀ j v, (D.map (Value.int .i64))[j]? = some v → w2.cell? ((⟨bg, 0, none⟩ : Addr).add j) = some v := fun j v hv => by
    have hj : j < D.length := by have := (List.getElem?_eq_some_iff.1 hv).1; simpa using this
    have hadd : (⟨bg, 0, none⟩ : Addr).add j = ⟨bg, 0 + j, none⟩ := by unfold Addr.add; split <;> simp_all
    rw [hadd, (W2.cells hj).2.2.1, ← hv]
    simp [hj]
  refine wpList_copy_own rfl _ _ 37 37 rfl 2 Try.underlying37 Try.infoI64p (w.heap.size + 1) 0 48 48 ⟨bg, 0, none⟩ D.length ca rfl rfl (arr (List.replicate 48 0)) 120 A3 (D.map (Value.int .i64)) (by rw [List.length_map]; exact (Nat.min_eq_left hl).symm) hsrc (by rw [arr_size, List.length_map, List.length_replicate]; omega) (fun v hv => by obtain ⟨x, _, rfl⟩ := List.mem_map.1 hv; rfl) ?_
  have hrow : ((arr (List.replicate 48 0)).toList.take 0 ++ (D.map (Value.int .i64) ++ (arr (List.replicate 48 0)).toList.drop (0 + (D.map (Value.int .i64)).length))).toArray = PD := (row_over 48 D).trans HPD.out
  rw [hrow]
  have B3 : (w2.setRow (w.heap.size + 1) PD).heap[w.heap.size + 1]? = some (.cells PD 120 (0, 0)) := setRow_heap w2 _ _ _ _ _ A3
  have B4 : (w2.setRow (w.heap.size + 1) PD).heap[w.heap.size]? = some (.cells (arr (List.replicate 48 0)) 120 (0, 0)) := (setRow_other w2 _ _ _ (by omega)).trans A4
  have K3 : Hid (Below w.heap.size w (w2.setRow (w.heap.size + 1) PD)) := hideP (below_setRow (K0.out.trans (k2.mono (by omega))) (by omega) _)
  generalize w2.setRow (w.heap.size + 1) PD = w3 at *
  have HB4 := hideP B4
  have HB3 := hideP B3
  clear hrow A3 A4 W2 hsrc hc2 hf2 k2 B3 B4
  go_wp2_with (first | (refine wpList_load_row rfl 120 _ rfl (w.heap.size + 1) rfl 120 PD (0, 0) _ HB3.out Try.underlying120 rfl (by rw [H48.out]; exact Try.infoPic) ?_) | (refine wpList_store_row rfl 120 _ _ rfl w.heap.size PD rfl rfl 120 (arr (List.replicate 48 0)) HB4.out (by rw [H48.out]; exact Try.infoPic) (by rw [H48.out, arr_size]; rfl) HONE.out ?_))
  have hrow := setRow_heap w3 _ _ PD _ _ HB4.out
  have K4 := below_setRow K3.out (Nat.le_refl _) PD
  exact bodyPost_ret (v := .agg PD) (results_cell_row rfl _ _ w.heap.size 120 PD (0, 0) _ rfl hrow Try.underlying120 rfl (by rw [H48.out]; exact Try.infoPic)) rfl ⟨rfl, K4⟩
end Go.Proofs.Ytclfobpmafkgfaa
