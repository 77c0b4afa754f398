/- DropSlot by the program. -/
import Derived.Test.YtfklmpfjllonpaaWd9
namespace Go.Proofs.Ytfklmpfjllonpaa
open Go.RowKit Go.Maps
set_option linter.unusedVariables false

set_option maxRecDepth 100000 in
set_option maxHeartbeats 1000000 in
theorem iDropSlot_any (so : Option Addr) (sc : Nat) (L : List Wn) (s : Int) (w : World) (hL : Ws w 0 w.heap.size so L) (hn : L.length + wzs L ≤ 1048576) :
    Calls Try.prog 15 #[.slice so L.length sc, .int .i64 s] w (SAns (askS (L.map Wn.ct) s) (slotV (L.map Wn.ct) s) (slotP (L.map Wn.ct) s) (slotP (L.map Wn.ct) s).length w) := by
  have AN := fun w1 (kk : Below w.heap.size w w1) => fos_any 0 w.heap.size so sc L s w1 (hL.keep kk (Nat.le_refl _)) kk.size hn
  by_cases hbad : askS (L.map Wn.ct) s ≠ 0
  · rw [slotP_no hbad, slotV_no hbad]
    obtain ⟨F, hF⟩ : ∃ F, askS (L.map Wn.ct) s = F := ⟨_, rfl⟩
    rw [hF] at AN hbad ⊢
    have hne' : (F != 0) = true := by simpa using hbad
    have AN' := hideP AN
    clear AN hL hbad hF
    go_enter Try.func15, Try.ntmps15
    go_wp2_with fail
    refine Calls.mono (AN'.out _ (by go_grown)) ?_
    rintro e w1 ⟨rfl, k1⟩
    have K1 : Hid (Below w.heap.size w w1) := hideP (Below.trans (by go_grown) (k1.mono (by simp)))
    have X1 : R3 w1 w.heap.size (.int .i64 0) (.int .i64 0) (.slice none 0 0) := R3.keep ⟨by simp, by simp, by simp, by simp, by simp⟩ k1 (by simp)
    clear k1
    obtain ⟨x0, x1, x2, x3, x4⟩ := X1
    go_wp2
    have K3 := (((K1.out.setCell (p := ⟨w.heap.size, 0, none⟩) (Nat.le_refl _) (.int .i64 F)).setCell (p := ⟨w.heap.size, 1, none⟩) (Nat.le_refl _) (.int .i64 0)).setCell (p := ⟨w.heap.size, 2, none⟩) (Nat.le_refl _) (.slice none 0 0))
    exact bodyPost_ret (v := .agg #[.int .i64 F, .int .i64 0, .slice none 0 0]) (by simp [results, Try.results15, go_sem, *]) rfl (sans_bad K3)
  · have h0 : askS (L.map Wn.ct) s = 0 := Classical.byContradiction fun h => hbad h
    have ID := hideP (fun w1 (kk : Below w.heap.size w w1) => idsIn_any 0 w.heap.size so sc L w1 (hL.keep kk (Nat.le_refl _)) kk.size (by omega))
    have PA := hideP (fun w1 (kk : Below w.heap.size w w1) => panes_any 0 w.heap.size so sc L w1 (hL.keep kk (Nat.le_refl _)) kk.size hn)
    rw [slotP_yes h0, slotV_yes h0]
    rw [h0] at AN ⊢
    have AN' := hideP AN
    have hn' : (L.length : Int) ≤ 1048576 := by omega
    have hIl : (L.map Wn.i).length = L.length := by simp
    have HI := hideP hIl
    have hol := ownL_len (L.map Wn.i) s
    have HOC := hideP (own_count s L)
    have HOW : Hid (offW s (L.map Wn.ct) = (offN s L).map Wn.ct) := hideP (offN_ct s L).symm
    clear AN hL hbad h0
    go_enter Try.func15, Try.ntmps15
    go_wp2_with fail
    refine Calls.mono (AN'.out _ (by go_grown)) ?_
    rintro e w1 ⟨rfl, k1⟩
    have K1 : Hid (Below w.heap.size w w1) := hideP (Below.trans (by go_grown) (k1.mono (by simp)))
    have X1 : R3 w1 w.heap.size (.int .i64 0) (.int .i64 0) (.slice none 0 0) := R3.keep ⟨by simp, by simp, by simp, by simp, by simp⟩ k1 (by simp)
    have n1 := X1.lt
    clear k1
    go_wp2_with fail
    refine Calls.mono (ID.out w1 K1.out) ?_
    rintro e w2 ⟨ao2, cap2, rfl, O2, k2⟩
    have K2 := hideP (K1.out.trans (k2.mono K1.out.size))
    have X2 := X1.keep k2 X1.lt
    have OW := iOwnIds_any w1.heap.size w2.heap.size ao2 cap2 (L.map Wn.i) s w2 (OwnR.wrt O2).row (Nat.le_refl _) (by rw [HI.out]; omega)
    rw [HI.out] at OW
    have HOW2 := hideP OW
    rw [HI.out]
    clear k2 O2 OW X1 ID
    go_wp2_with fail
    refine Calls.mono HOW2.out ?_
    rintro e w3 ⟨ao3, cap3, rfl, O3, k3⟩
    have K3 := hideP (K2.out.trans (k3.mono K2.out.size))
    have X3 := X2.keep k3 X2.lt
    have R3' := hideP (OwnR.wrt O3).row
    obtain ⟨own, hown⟩ : ∃ own, ownL (L.map Wn.i) s = own := ⟨_, rfl⟩
    have HON := hideP hown
    rw [hown] at R3' HOC
    rw [hown, HI.out] at hol
    rw [hown]
    clear k3 O3 X2 HOW2 hown
    go_wp2_with fail
    refine Calls.mono (PA.out w3 K3.out) ?_
    rintro e w4 ⟨s4, c4, M, rfl, hM, LN, k4⟩
    have K4 := hideP (K3.out.trans (k4.mono K3.out.size))
    have n3 := X3.lt
    have X4 := hideP (X3.keep k4 n3)
    have hMl := lenW hM
    have hMi : M.map Wn.i = L.map Wn.i := by rw [← mapI, hM, mapI]
    have hKM : M.filter (keepI own) = offN s M := by rw [← HON.out, ← hMi]; exact keep_slot s M
    have WO := without_lin w3.heap.size w2.heap.size w3.heap.size ao3 cap3 own s4 c4 M w4 LN k4.size (R3'.out.keep k4 (Nat.le_refl _)) (Nat.le_refl _) (by omega) (by omega)
    have hct : (offN s M).map Wn.ct = offW s (L.map Wn.ct) := by rw [offN_ct, hM]
    have hml : (offN s M).length = (offN s L).length := lenW (by rw [hct, HOW.out])
    rw [hKM, hMl] at WO
    rw [hMl]
    obtain ⟨m, hm⟩ : ∃ m, (offN s M).length = m := ⟨_, rfl⟩
    rw [hm] at WO hml
    have HWO := hideP WO
    have HM := hideP hm
    have HCT := hideP hct
    have hoc : own.length + m = L.length := by have := HOC.out; omega
    have HPL : Hid ((offW s (L.map Wn.ct)).length = m) := hideP (by rw [HOW.out, List.length_map]; omega)
    have HVL : Hid (((L.map Wn.ct).length : Int) - ((offW s (L.map Wn.ct)).length : Int) = (own.length : Int)) := hideP (by rw [HPL.out, List.length_map]; omega)
    have n4 := k4.size
    clear k4 LN hM hMi hKM WO hct PA R3' X3 HON hm hml HOC HOW
    go_wp2_with fail
    refine Calls.mono HWO.out ?_
    rintro e w5 ⟨rfl, PC, k5⟩
    have SO := stackOf_any w3.heap.size w5.heap.size s4 c4 (offN s M) w5 PC.q.sp (Nat.le_refl _) (by rw [HM.out]; omega)
    rw [HM.out] at SO
    have K5 : Hid (Below w.heap.size w w5) := hideP (K4.out.trans (k5.mono (by omega)))
    have X5 := hideP (X4.out.keep k5 n3)
    have HPC := hideP PC
    have HSO := hideP SO
    clear HWO PC SO K4 X4 k5
    go_wp2_with fail
    refine Calls.mono HSO.out ?_
    rintro e w6 ⟨s6, c6, rfl, O6, k6⟩
    have Q6 := hideP (HPC.out.done k6 O6)
    have K6 := hideP (K5.out.trans (k6.mono K5.out.size))
    obtain ⟨x0, x1, x2, x3, x4⟩ := X5.out.keep k6 X5.out.lt
    clear k6 O6 HSO HPC X5 K5
    go_wp2
    have K7 := ((K6.out.setCell (p := ⟨w.heap.size, 0, none⟩) (Nat.le_refl _) (.int .i64 0)).setCell (p := ⟨w.heap.size, 1, none⟩) (Nat.le_refl _) (.int .i64 own.length)).setCell (p := ⟨w.heap.size, 2, none⟩) (Nat.le_refl _) (.slice s6 m c6)
    have Q7 := (((Q6.out.set ⟨w.heap.size, 0, none⟩ (.int .i64 0) n3).set ⟨w.heap.size, 1, none⟩ (.int .i64 own.length) n3).set ⟨w.heap.size, 2, none⟩ (.slice s6 m c6) n3).wide (Nat.le_of_lt n3) (Nat.le_refl _) (by simp)
    refine bodyPost_ret (v := .agg #[.int .i64 0, .int .i64 own.length, .slice s6 m c6]) (by simp [results, Try.results15, go_sem, *]) rfl ⟨s6, c6, _, by rw [HVL.out, HPL.out], HCT.out, by rw [HPL.out]; exact HM.out, ?_, K7⟩
    simpa using Q7
end Go.Proofs.Ytfklmpfjllonpaa
