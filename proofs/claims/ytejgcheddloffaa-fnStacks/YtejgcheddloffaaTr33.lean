/- NextId: both, and the law's walk. A window made: where there is none, by the program. -/
import Derived.Test.YtejgcheddloffaaTr31
import Derived.Test.YtejgcheddloffaaTr3
import Derived.Test.YtejgcheddloffaaTr32
namespace Go.Proofs.Ytejgcheddloffaa
open Go.RowKit Go.Maps
set_option linter.unusedVariables false
attribute [local go_sem high] fI0 fI1

theorem nxC_no {L : List Int} {s : Int} (h : ¬ askF L s = 0) : nxC L s = askF L s := by unfold nxC; rw [if_neg h]
theorem nxV_no {L : List Int} {s : Int} (h : ¬ askF L s = 0) : nxV L s = 0 := by unfold nxV; rw [if_neg h]
theorem nxC_yes {L : List Int} {s : Int} (h : askF L s = 0) : nxC L s = if nxt L s = -1 then 7 else 0 := by unfold nxC; rw [if_pos h]
theorem nxV_yes {L : List Int} {s : Int} (h : askF L s = 0) : nxV L s = if nxt L s = -1 then 0 else nxt L s := by unfold nxV; rw [if_pos h]

set_option maxHeartbeats 800000 in
theorem iNextId_any (lo hi : Nat) (ao : Option Addr) (ca : Nat) (L : List Int) (s : Int) (w : World) (ha : Row .i64 w lo hi ao L) (hs : hi ≤ w.heap.size) (hl : L.length ≤ 1048576) :
    Calls Try.prog 24 #[.slice ao L.length ca, .int .i64 s] w fun e w' => e = .returned (.agg #[.int .i64 (nxC L s), .int .i64 (nxV L s)]) ∧ Below w.heap.size w w' := by
  by_cases h0 : askF L s = 0
  · obtain ⟨_, h1, h2⟩ := askF_ok h0
    rw [nxC_yes h0, nxV_yes h0]
    obtain rfl | rfl | rfl | rfl : s = 0 ∨ s = 1 ∨ s = 2 ∨ s = 3 := by omega
    · exact iNext_0 lo hi ao ca L w ha hs hl h0
    · exact iNext_1 lo hi ao ca L w ha hs hl h0
    · exact iNext_2 lo hi ao ca L w ha hs hl h0
    · exact iNext_3 lo hi ao ca L w ha hs hl h0
  · rw [nxC_no h0, nxV_no h0]
    have C := hideP (fun w1 (k : Below w.heap.size w w1) => names_no (iFor_any lo hi ao ca L s w1 (ha.keep k hs) (Nat.le_trans hs k.size) hl) h0)
    clear ha
    generalize askF L s = c at *
    have hb : (c == 0) = false := by simpa using h0
    go_enter Try.func24, Try.ntmps24
    go_wp2_with (go_at_call 52; refine Calls.mono (C.out _ (by go_grown)) ?_; rintro e w1 ⟨rfl, k1⟩; have K1 := hideP (Below.trans (by go_grown : Below w.heap.size w _) (k1.mono (by simp))); obtain ⟨c0, c1, f0, f1, lt0⟩ : Rb w1 w.heap.size (.int .i64 0) (.int .i64 0) := Rb.keep ⟨by simp, by simp, by simp, by simp, by simp⟩ k1 (by simp); clear k1)
    refine bodyPost_ret (v := .agg #[.int .i64 c, .int .i64 0]) (by simp [results, Try.results24, go_sem, *]) rfl ⟨rfl, ?_⟩
    repeat' (first | exact K1.out | (with_reducible refine Below.setCell ?_ ?_ _) | go_size)

end Go.Proofs.Ytejgcheddloffaa

namespace Go.Proofs.Ytejgcheddloffaa
open Go.RowKit Go.Maps
set_option linter.unusedVariables false

theorem nxt_neg {L : List Int} {s : Int} (hs : 0 ≤ s) (e : nxt L s < 0) : nxt L s = -1 := by
  unfold nxt at e ⊢
  repeat' split at e
  all_goals first | omega | (simp_all; done)

set_option maxRecDepth 100000 in
set_option maxHeartbeats 1000000 in
theorem iMake_no (so : Option Addr) (sc : Nat) (L : List Wn) (s x y p h : Int) (w : World) (hL : Ws w 0 w.heap.size so L) (hn : L.length + wzs L ≤ 1048576) (hz : mkZ (L.map Wn.ct) s x y p h ≠ 0) :
    Calls Try.prog 6 #[.slice so L.length sc, .int .i64 s, .agg #[.int .i64 x, .int .i64 y, .int .i64 p, .int .i64 h]] w (SAns (mkZ (L.map Wn.ct) s x y p h) 0 [] 0 w) := by
  have AN := fun w1 (kk : Below w.heap.size w w1) => fos_any 0 w.heap.size so sc L s w1 (hL.keep kk (Nat.le_refl _)) kk.size hn
  by_cases ha : askS (L.map Wn.ct) s = 0
  · rw [ha] at AN
    have AN' := hideP AN
    cases hr : wrB x y p h
    · have hz2 : mkZ (L.map Wn.ct) s x y p h = if nxt ((L.map Wn.ct).map Wc.i) s < 0 then 7 else 0 := by unfold mkZ; rw [if_pos ha, hr]; rfl
      have hneg : nxt ((L.map Wn.ct).map Wc.i) s < 0 := Classical.byContradiction fun e => hz (by rw [hz2, if_neg e])
      rw [hz2, if_pos hneg]
      have ID := hideP (fun w1 (kk : Below w.heap.size w w1) => idsIn_any 0 w.heap.size so sc L w1 (hL.keep kk (Nat.le_refl _)) kk.size (by omega))
      obtain ⟨hst, hs1, hs2⟩ := askS_ok ha
      rw [mapI] at hneg
      have hm1 := nxt_neg hs1 hneg
      have hids : idsF (L.map Wn.i) = 0 := by have := (stF_ok hst).1; rwa [mapI] at this
      have haf := askF_yes hids hs1 hs2
      have hnc : nxC (L.map Wn.i) s = 7 := by rw [nxC_yes haf, if_pos hm1]
      have hnv : nxV (L.map Wn.i) s = 0 := by rw [nxV_yes haf, if_pos hm1]
      have hIl : (L.map Wn.i).length = L.length := by simp
      have HI := hideP hIl
      have HNC := hideP hnc
      have HNV := hideP hnv
      clear hz2 AN hL hz ha hst hneg hm1 hids haf hnc hnv hIl
      go_enter Try.func6, Try.ntmps6
      go_wp2_with fail
      refine Calls.mono (AN'.out _ (by go_grown)) ?_
      rintro e w1 ⟨rfl, k1⟩
      have n1 := k1.size
      simp only [World.size_alloc] at n1
      have K1 : Hid (Below w.heap.size w w1) := hideP (Below.trans (by go_grown) (k1.mono (by simp; omega)))
      have X1 : R3 w1 (w.heap.size + 1) (.int .i64 0) (.int .i64 0) (.slice none 0 0) := R3.keep ⟨by simp [go_sem], by simp [go_sem], by simp [go_sem], by simp [go_sem], by simp⟩ k1 (by simp)
      have r0 : w1.cell? ⟨w.heap.size, 0, none⟩ = some (.int .i64 x) := (k1.cell (p := ⟨w.heap.size, 0, none⟩) (by simp; omega)).trans (by simp [go_sem])
      have r1 : w1.cell? ⟨w.heap.size, 1, none⟩ = some (.int .i64 y) := (k1.cell (p := ⟨w.heap.size, 1, none⟩) (by simp; omega)).trans (by simp [go_sem])
      have r2 : w1.cell? ⟨w.heap.size, 2, none⟩ = some (.int .i64 p) := (k1.cell (p := ⟨w.heap.size, 2, none⟩) (by simp; omega)).trans (by simp [go_sem])
      have r3 : w1.cell? ⟨w.heap.size, 3, none⟩ = some (.int .i64 h) := (k1.cell (p := ⟨w.heap.size, 3, none⟩) (by simp; omega)).trans (by simp [go_sem])
      have hlr : w.heap.size < w1.heap.size := by omega
      clear k1
      go_wp2_with fail
      have ka := kalC w1 (.cells #[.int .i64 x, .int .i64 y, .int .i64 p, .int .i64 h, .int .i64 0, .bool false, .slice none 0 0] 51)
      have K2 := hideP (K1.out.trans (ka.mono K1.out.size))
      have X2 := X1.keep ka X1.lt
      clear ka r0 r1 r2 r3 X1
      generalize w1.alloc (.cells #[.int .i64 x, .int .i64 y, .int .i64 p, .int .i64 h, .int .i64 0, .bool false, .slice none 0 0] 51) = w2 at *
      have AR := area_any x y p h w2
      rw [hr, show rfOf false = 0 from rfl] at AR
      refine Calls.mono AR ?_
      rintro e w3 ⟨rfl, k3⟩
      have K3 := hideP (K2.out.trans (k3.mono K2.out.size))
      have X3 := X2.keep k3 X2.lt
      clear k3 AR X2 K2
      go_wp2_with fail
      refine Calls.mono (ID.out w3 K3.out) ?_
      rintro e w4 ⟨ao4, cap4, rfl, O4, k4⟩
      have K4 := hideP (K3.out.trans (k4.mono K3.out.size))
      have X4 := X3.keep k4 X3.lt
      have NX := iNextId_any w3.heap.size w4.heap.size ao4 cap4 (L.map Wn.i) s w4 (OwnR.wrt O4).row (Nat.le_refl _) (by rw [HI.out]; omega)
      rw [HI.out, HNC.out, HNV.out] at NX
      have NX' := hideP NX
      rw [HI.out]
      clear k4 O4 NX X3 ID K3
      go_wp2_with fail
      refine Calls.mono NX'.out ?_
      rintro e w5 ⟨rfl, k5⟩
      have K5 := hideP (K4.out.trans (k5.mono K4.out.size))
      have X5 := X4.keep k5 X4.lt
      have ka := kalC w5 (.cells #[.int .i64 7, .int .i64 0] 41)
      have K3 := hideP (K5.out.trans (ka.mono K5.out.size))
      have X3 := X5.keep ka X5.lt
      clear k5 K4 X4 ka K5 NX' X5
      obtain ⟨x0, x1, x2, x3, x4⟩ := X3
      go_wp2
      have K9 := (((K3.out.setCell (p := ⟨w.heap.size + 1, 0, none⟩) (by show w.heap.size ≤ w.heap.size + 1; omega) (.int .i64 7)).setCell (p := ⟨w.heap.size + 1, 1, none⟩) (by show w.heap.size ≤ w.heap.size + 1; omega) (.int .i64 0)).setCell (p := ⟨w.heap.size + 1, 2, none⟩) (by show w.heap.size ≤ w.heap.size + 1; omega) (.slice none 0 0))
      exact bodyPost_ret (v := .agg #[.int .i64 7, .int .i64 0, .slice none 0 0]) (by simp [results, Try.results6, go_sem, *]) rfl (sans_bad K9)
    · have hz2 : mkZ (L.map Wn.ct) s x y p h = 3 := by unfold mkZ; rw [if_pos ha, hr]; rfl
      rw [hz2]
      clear hz2 AN hL hz ha
      go_enter Try.func6, Try.ntmps6
      go_wp2_with fail
      refine Calls.mono (AN'.out _ (by go_grown)) ?_
      rintro e w1 ⟨rfl, k1⟩
      have n1 := k1.size
      simp only [World.size_alloc] at n1
      have K1 : Hid (Below w.heap.size w w1) := hideP (Below.trans (by go_grown) (k1.mono (by simp; omega)))
      have X1 : R3 w1 (w.heap.size + 1) (.int .i64 0) (.int .i64 0) (.slice none 0 0) := R3.keep ⟨by simp [go_sem], by simp [go_sem], by simp [go_sem], by simp [go_sem], by simp⟩ k1 (by simp)
      have r0 : w1.cell? ⟨w.heap.size, 0, none⟩ = some (.int .i64 x) := (k1.cell (p := ⟨w.heap.size, 0, none⟩) (by simp; omega)).trans (by simp [go_sem])
      have r1 : w1.cell? ⟨w.heap.size, 1, none⟩ = some (.int .i64 y) := (k1.cell (p := ⟨w.heap.size, 1, none⟩) (by simp; omega)).trans (by simp [go_sem])
      have r2 : w1.cell? ⟨w.heap.size, 2, none⟩ = some (.int .i64 p) := (k1.cell (p := ⟨w.heap.size, 2, none⟩) (by simp; omega)).trans (by simp [go_sem])
      have r3 : w1.cell? ⟨w.heap.size, 3, none⟩ = some (.int .i64 h) := (k1.cell (p := ⟨w.heap.size, 3, none⟩) (by simp; omega)).trans (by simp [go_sem])
      have hlr : w.heap.size < w1.heap.size := by omega
      clear k1
      go_wp2_with fail
      have ka := kalC w1 (.cells #[.int .i64 x, .int .i64 y, .int .i64 p, .int .i64 h, .int .i64 0, .bool false, .slice none 0 0] 51)
      have K2 := hideP (K1.out.trans (ka.mono K1.out.size))
      have X2 := X1.keep ka X1.lt
      clear ka r0 r1 r2 r3 X1
      generalize w1.alloc (.cells #[.int .i64 x, .int .i64 y, .int .i64 p, .int .i64 h, .int .i64 0, .bool false, .slice none 0 0] 51) = w2 at *
      have AR := area_any x y p h w2
      rw [hr, show rfOf true = 3 from rfl] at AR
      refine Calls.mono AR ?_
      rintro e w3 ⟨rfl, k3⟩
      have K3 := hideP (K2.out.trans (k3.mono K2.out.size))
      have X3 := X2.keep k3 X2.lt
      clear k3 AR X2 K2
      obtain ⟨x0, x1, x2, x3, x4⟩ := X3
      go_wp2
      have K9 := (((K3.out.setCell (p := ⟨w.heap.size + 1, 0, none⟩) (by show w.heap.size ≤ w.heap.size + 1; omega) (.int .i64 3)).setCell (p := ⟨w.heap.size + 1, 1, none⟩) (by show w.heap.size ≤ w.heap.size + 1; omega) (.int .i64 0)).setCell (p := ⟨w.heap.size + 1, 2, none⟩) (by show w.heap.size ≤ w.heap.size + 1; omega) (.slice none 0 0))
      exact bodyPost_ret (v := .agg #[.int .i64 3, .int .i64 0, .slice none 0 0]) (by simp [results, Try.results6, go_sem, *]) rfl (sans_bad K9)
  · have hz2 : mkZ (L.map Wn.ct) s x y p h = askS (L.map Wn.ct) s := by unfold mkZ; rw [if_neg ha]
    rw [hz2]
    obtain ⟨F, hF⟩ : ∃ F, askS (L.map Wn.ct) s = F := ⟨_, rfl⟩
    rw [hF] at AN ha ⊢
    have hne' : (F != 0) = true := by simpa using ha
    have AN' := hideP AN
    clear hz2 AN hL hz ha hF
    go_enter Try.func6, Try.ntmps6
    go_wp2_with fail
    refine Calls.mono (AN'.out _ (by go_grown)) ?_
    rintro e w1 ⟨rfl, k1⟩
    have n1 := k1.size
    simp only [World.size_alloc] at n1
    have K1 : Hid (Below w.heap.size w w1) := hideP (Below.trans (by go_grown) (k1.mono (by simp; omega)))
    have X1 : R3 w1 (w.heap.size + 1) (.int .i64 0) (.int .i64 0) (.slice none 0 0) := R3.keep ⟨by simp [go_sem], by simp [go_sem], by simp [go_sem], by simp [go_sem], by simp⟩ k1 (by simp)
    have r0 : w1.cell? ⟨w.heap.size, 0, none⟩ = some (.int .i64 x) := (k1.cell (p := ⟨w.heap.size, 0, none⟩) (by simp; omega)).trans (by simp [go_sem])
    have r1 : w1.cell? ⟨w.heap.size, 1, none⟩ = some (.int .i64 y) := (k1.cell (p := ⟨w.heap.size, 1, none⟩) (by simp; omega)).trans (by simp [go_sem])
    have r2 : w1.cell? ⟨w.heap.size, 2, none⟩ = some (.int .i64 p) := (k1.cell (p := ⟨w.heap.size, 2, none⟩) (by simp; omega)).trans (by simp [go_sem])
    have r3 : w1.cell? ⟨w.heap.size, 3, none⟩ = some (.int .i64 h) := (k1.cell (p := ⟨w.heap.size, 3, none⟩) (by simp; omega)).trans (by simp [go_sem])
    have hlr : w.heap.size < w1.heap.size := by omega
    clear k1
    obtain ⟨x0, x1, x2, x3, x4⟩ := X1
    go_wp2
    have K3 := (((K1.out.setCell (p := ⟨w.heap.size + 1, 0, none⟩) (by show w.heap.size ≤ w.heap.size + 1; omega) (.int .i64 F)).setCell (p := ⟨w.heap.size + 1, 1, none⟩) (by show w.heap.size ≤ w.heap.size + 1; omega) (.int .i64 0)).setCell (p := ⟨w.heap.size + 1, 2, none⟩) (by show w.heap.size ≤ w.heap.size + 1; omega) (.slice none 0 0))
    exact bodyPost_ret (v := .agg #[.int .i64 F, .int .i64 0, .slice none 0 0]) (by simp [results, Try.results6, go_sem, *]) rfl (sans_bad K3)
end Go.Proofs.Ytejgcheddloffaa
