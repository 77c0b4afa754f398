/- slices.Concat of two rows of bytes, by the library's own text. -/
import Derived.Test.YtbicpfnakhhnlaaFr5
import Derived.Lib.AppendZerosOnto
namespace Go.Proofs.Ytbicpfnakhhnlaa
open Go.RowKit Go.Lib
set_option linter.unusedVariables false
attribute [local go_sem high] sl_upto

set_option maxRecDepth 100000 in
set_option maxHeartbeats 1000000 in
theorem grow_zero (w : World) : Calls Try.prog 67 #[.slice none 0 0, .int .i64 0] w fun e w' => e = .returned (.slice none 0 0) ∧ w' = w := by
  go_enter Try.func67, Try.ntmps67
  go_wp2
  go_returns
  exact ⟨rfl, rfl⟩

set_option maxRecDepth 100000 in
set_option maxHeartbeats 1000000 in
theorem grow_some (n : Nat) (w : World) (h0 : 0 < n) (h1 : n ≤ 1000) : Calls Try.prog 67 #[.slice none 0 0, .int .i64 n] w fun e w' => ∃ ao cap, e = .returned (.slice ao 0 cap) ∧ OwnR .u8 5 w' w.heap.size ao cap [] ∧ Below w.heap.size w w' := by
  obtain ⟨i0, hi0, hz0, hz1, hz2⟩ := info_parts Try.infoB
  have h0' : (0 : Int) < (n : Int) := by omega
  have h1' : (n : Int) ≤ 1000 := by omega
  have hrun := fun ty => Lib.run_append_grow_zeros (P := Try.prog) w 22 3 ty 5 i0 (.int .u8 0) .i64 .i64 Try.underlying22 Try.underlying3 hi0 hz0 none 0 0 [] (by rw [hz1]; exact run_firstCells_none w.drew 1 0 0 0) n h0 (by omega) (by omega) (by omega) (by rw [hz2]; omega) (by rw [hz2]; exact growslice_fits (by omega) (by omega))
  rw [Nat.zero_add] at hrun
  have hG := grownCap_ge w n 0 5
  have hGm := grownCap_le_maxLen w n 0 5 (by unfold maxLen; omega)
  generalize grownCap w n 0 5 = G at *
  have HO : Hid (OwnR .u8 5 (w.drew.alloc (.cells (([] : List Value).toArray ++ Builtin.zeroCells (Value.int .u8 0).cells n ++ Builtin.zeroCells (Value.int .u8 0).cells (G - n)) 5)) w.heap.size (some ⟨w.heap.size, 0, none⟩) G []) := hideP ⟨by simp, .inr ⟨w.heap.size, G, _, rfl, Nat.le_refl _, heap_alloc_new w.drew _, Nat.zero_le _, hGm, by simp [size_zeroCells, Value.cells]; omega, by simp⟩⟩
  have HK : Hid (Below w.heap.size w (w.drew.alloc (.cells (([] : List Value).toArray ++ Builtin.zeroCells (Value.int .u8 0).cells n ++ Builtin.zeroCells (Value.int .u8 0).cells (G - n)) 5))) := hideP ((Below.refl _ _).drew.alloc (Nat.le_refl _) _)
  generalize w.drew.alloc (.cells (([] : List Value).toArray ++ Builtin.zeroCells (Value.int .u8 0).cells n ++ Builtin.zeroCells (Value.int .u8 0).cells (G - n)) 5) = w1 at *
  have hG' : (0 : Int) ≤ (G : Int) := by omega
  clear hGm hi0 hz0 hz1 hz2
  go_enter Try.func67, Try.ntmps67
  go_wp2_with (at_builtin; refine Lib.wpList_append_run _ rfl _ _ _ _ rfl _ _ rfl rfl _ _ (hrun _) ?_)
  go_returns
  exact ⟨_, G, rfl, HO.out, HK.out⟩

/-- A row with room for n. -/
theorem grow_any (n : Nat) (w : World) (h1 : n ≤ 1000) : Calls Try.prog 67 #[.slice none 0 0, .int .i64 n] w fun e w' => ∃ ao cap, e = .returned (.slice ao 0 cap) ∧ OwnR .u8 5 w' w.heap.size ao cap [] ∧ Below w.heap.size w w' := by
  by_cases h : n = 0
  · subst h
    exact (grow_zero w).mono fun e w' ⟨he, hw⟩ => ⟨none, 0, he, by rw [hw]; exact OwnR.nil _ _ _ _, by rw [hw]; exact Below.refl _ _⟩
  · exact grow_some n w (by omega) h1

set_option maxRecDepth 100000 in
set_option maxHeartbeats 2000000 in
theorem concat_any (lo hi vb : Nat) (ao bo : Option Addr) (ca cb : Nat) (L M : List Int) (w : World) (hL : Row .u8 w lo hi ao L) (hM : Row .u8 w lo hi bo M) (hs : hi ≤ w.heap.size) (hc0 : w.cell? ⟨vb, 0, none⟩ = some (.slice ao L.length ca)) (hc1 : w.cell? ⟨vb, 1, none⟩ = some (.slice bo M.length cb)) (hv : vb < w.heap.size) (h1 : L.length ≤ 300) (h2 : M.length ≤ 300) :
    Calls Try.prog 42 #[.slice (some ⟨vb, 0, none⟩) 2 2] w fun e w' => ∃ so sc, e = .returned (.slice so (L ++ M).length sc) ∧ OwnR .u8 5 w' w.heap.size so sc (L ++ M) ∧ Below w.heap.size w w' := by
  have HL := hideP hL
  have HM := hideP hM
  have h1' : (L.length : Int) ≤ 300 := by omega
  have h2' : (M.length : Int) ≤ 300 := by omega
  clear hL hM
  go_enter Try.func42, Try.ntmps42
  go_wp2
  refine wp_loop_rounds 3 ?_
  rw [rounds_succ]
  go_wp2
  rw [rounds_succ]
  go_wp2
  rw [rounds_succ]
  go_wp2_with fail
  have G := grow_any (L.length + M.length) w (by omega)
  rw [Int.natCast_add] at G
  refine Calls.mono G ?_
  clear G
  rintro e w1 ⟨so, sc, rfl, O1, k1⟩
  have K1 := hideP k1
  have O1' := hideP O1
  have S1 := hideP ((HL.out.keep k1 hs).src)
  have n1 := k1.size
  have d0 := (k1.cell (p := ⟨vb, 0, none⟩) hv).trans hc0
  have d1 := (k1.cell (p := ⟨vb, 1, none⟩) hv).trans hc1
  clear k1 O1
  go_wp2
  refine wp_loop_rounds 3 ?_
  rw [rounds_succ]
  go_wp2_with (first | (at_builtin; refine wpList_app (k := .u8) (T := 5) (S := 22) (bytes := 1) Try.underlying22 Try.infoB (by omega) rfl _ _ rfl w.heap.size so sc [] rfl O1'.out ao ca L rfl S1.out (by simp; omega) n1 ?_; intro so2 sc2 w2 O2 k2; refine Hid.out ?_) | go_in)
  have K2 := hideP (K1.out.trans k2)
  have O2' := hideP O2
  have S2 := hideP ((HM.out.keep K2.out hs).src)
  have n2 := k2.size
  have e0 := (k2.cell (p := ⟨vb, 0, none⟩) hv).trans d0
  have e1 := (k2.cell (p := ⟨vb, 1, none⟩) hv).trans d1
  have n3 : w.heap.size ≤ w2.heap.size := by omega
  clear k2 O2 d0 d1
  refine hideP ?_
  go_wp2
  rw [rounds_succ]
  go_wp2_with (first | (at_builtin; refine wpList_app (k := .u8) (T := 5) (S := 22) (bytes := 1) Try.underlying22 Try.infoB (by omega) rfl _ _ rfl w.heap.size so2 sc2 L rfl O2'.out bo cb M rfl S2.out (by omega) n3 ?_; intro so3 sc3 w3 O3 k3; refine Hid.out ?_) | go_in)
  have K3 := hideP (K2.out.trans k3)
  have O3' := hideP O3
  clear k3 O3
  refine hideP ?_
  go_wp2
  rw [rounds_succ]
  go_wp2
  go_returns
  exact ⟨so3, sc3, by simp, O3'.out, K3.out⟩

end Go.Proofs.Ytbicpfnakhhnlaa
