/- ParseRequest, by the model. -/
import Derived.Test.YtbceacnadkhdoaaGreatDoorV34
import Derived.Test.YtbceacnadkhdoaaGreatDoorV40
namespace Go.Proofs.YtbceacnadkhdoaaGreatDoor
open Go.RowKit
set_option linter.unusedVariables false

theorem own_cap {k : IntKind} {T : TypeId} {w : World} {base : Nat} {ao : Option Addr} {cap : Nat} {L : List Int} (h : OwnR k T w base ao cap L) : L.length ≤ cap := by
  rcases h.2 with ⟨hx, h0⟩ | ⟨g', cap', cur, hv, _, _, hnc, _⟩
  · rw [h0]; exact Nat.zero_le _
  · cases hv; exact hnc

set_option maxHeartbeats 4000000 in
theorem sPs_any (s : ByteArray) (w : World) (hm : s.size ≤ 1048576) : Calls Tryz.prog 33 #[.string s] w (ReadS w (prL s.data.toList)) := by
  have hsl := sz_len s
  have CC := cut_any s
  have HLen := hideP (cut_len s.data.toList)
  have HShort := hideP (cut_short s.data.toList)
  have hpT : psT s.data.toList = psW (cutL s.data.toList) := rfl
  have HP := hideP hpT
  clear hpT
  generalize s.data.toList = l at *
  generalize hws : cutL l = ws at *
  clear hws
  have CC' := hideP CC
  clear CC
  go_enter Tryz.func33, Tryz.ntmps33
  go_wp2_with fail
  refine Calls.mono (CC'.out _ hm) ?_
  rintro e w1 ⟨ao, cap, rfl, O1, k1⟩
  have HO1 := hideP O1
  have K1 : Hid (Below w.heap.size w w1) := hideP (Below.trans (by go_grown) (k1.mono (by simp)))
  have R1 : Hid (R3 w1 w.heap.size (.int .i64 0) (.slice none 0 0) (.slice none 0 0)) := hideP (R3.keep ⟨by simp, by simp, by simp, by simp, by simp, by simp, by simp⟩ k1 (by simp))
  have n1 : w.heap.size < w1.heap.size := R1.out.lt
  have hwl : ws.length ≤ 1048577 := by have := HLen.out; omega
  have hwl' : (ws.length : Int) ≤ 1048577 := by omega
  have hmap : (ws.map bS).length = ws.length := by simp
  rw [hmap]
  clear O1 CC' k1 hmap
  go_wp2
  go_loopw [5, 6] (fun b i wr => ∃ (j : Nat) (L : List Int) (ao1 : Option Addr) (cap1 : Nat), j ≤ ws.length ∧ i = .int .i64 j ∧ b = .slice ao1 L.length cap1 ∧ OwnR .u8 5 wr w1.heap.size ao1 cap1 L ∧ Below w1.heap.size w1 wr ∧ Hid (Wst ws j L)) (fun _ i _ => ws.length - (intOf i).toNat)
  case atStart => exact ⟨0, [], _, 0, Nat.zero_le _, rfl, rfl, OwnR.lit .u8 5 w1 w1.heap.size [] _ rfl (Nat.le_refl _) (by unfold maxLen; simp), (Below.refl _ _).alloc (Nat.le_refl _) _, Wst.start ws⟩
  case round =>
    obtain ⟨j, L, ao1, cap1, hj, rfl, rfl, O2, k2, HW⟩ := hrel
    have HO2 := hideP O2
    have HK2 := hideP k2
    have hz := k2.size
    have R2 := hideP (R1.out.keep k2 n1)
    have K2 := hideP (K1.out.trans (k2.mono (by omega)))
    have HL2 := hideP HW.out.len
    clear O2 k2
    by_cases hlt : j < ws.length
    · have hlt' : (j : Int) < (ws.length : Int) := by omega
      obtain ⟨g, rfl, hg1, hg2, _, hcl⟩ := HO1.out.cells (fun e => by rw [List.map_eq_nil_iff] at e; rw [e] at hlt; simp at hlt)
      have a0 : wr.cell? ⟨g, j, none⟩ = some (.string (bS ws[j])) := by
        have a1 := hcl j (bS ws[j]) (by simp [hlt])
        rw [Nat.zero_add] at a1
        exact (HK2.out.cell (p := ⟨g, j, none⟩) hg2).trans a1
      have hgl : g < wr.heap.size := by omega
      have CN := hideP (fun W => num_any (bS ws[j]) W (by rw [bS_size]; have := HShort.out ws[j] (List.getElem_mem _); omega))
      rw [bS_data] at CN
      have HOn := hideP (HW.out.on hlt)
      have HNo := hideP (HW.out.no hlt)
      clear hcl HW
      generalize bS ws[j] = d at *
      generalize l3N ws[j] = n at *
      go_wp2_with fail
      refine Calls.mono (CN.out _) ?_
      rintro e w3 ⟨rfl, k3⟩
      have HO3 := hideP (HO2.out.keep k3)
      have HK3 := hideP (HK2.out.trans (k3.mono (by omega)))
      have R3' := hideP (R2.out.keep k3 (by omega))
      have K3 := hideP (K2.out.trans (k3.mono (by omega)))
      have hz3 := k3.size
      clear k3 a0 CN HO2 HK2 R2 K2
      go_wp2_with fail
      refine Calls.mono (in_any n _) ?_
      rintro e w4 ⟨rfl, k4⟩
      have HO4 := hideP (HO3.out.keep k4)
      have HK4 := hideP (HK3.out.trans (k4.mono (by omega)))
      have R4' := hideP (R3'.out.keep k4 (by omega))
      have K4 := hideP (K3.out.trans (k4.mono (by omega)))
      have hz4 := k4.size
      clear k4 HO3 HK3 R3' K3
      cases hb : isB n with
      | false =>
        have HN := hideP (HNo.out hb)
        obtain ⟨r0, r1, r2, r3, r4, r5, r6⟩ := R4'.out
        clear HOn HNo hb
        go_wp2
        refine bodyPost_ret (v := .tuple #[.agg #[.int .i64 0, .slice none 0 0, .slice none 0 0], .bool false]) (by simp [results, Tryz.results33, go_sem, *]) rfl (.inl ⟨by rw [prL_none (HP.out.trans HN.out)]; rfl, ⟨0, none, 0, 0, none, 0, 0, rfl⟩, ?_⟩)
        repeat' (first | exact K4.out | (with_reducible refine Below.setCell ?_ ?_ _) | (with_reducible refine Below.alloc ?_ ?_ _) | go_size)
      | true =>
        have HN := hideP (HOn.out hb)
        obtain ⟨x0, x1⟩ := isB_yes hb
        have hm8 : n % 256 = n := by omega
        clear HOn HNo hb
        go_wp2_with (first | (at_builtin; refine wpList_app (k := .u8) (T := 5) (S := 22) (bytes := 1) Tryz.underlying22 Tryz.infoB (by omega) rfl _ _ rfl w1.heap.size ao1 cap1 L rfl (HO4.out.alloc _) _ 1 [n] rfl (src_one .u8 w4 n 5) (by have := HL2.out; simp; omega) (by simp; omega) ?_; intro ao5 cap5 w5 O5 K5; refine Hid.out ?_) | go_in)
        have HO5 := hideP O5
        have HK5 : Hid (Below w1.heap.size w1 w5) := hideP ((HK4.out.alloc (by omega) _).trans K5)
        clear O5 K5
        refine hideP ?_
        go_wp2
        go_roundw
        case rel => exact ⟨j + 1, L ++ [n], ao5, cap5, by omega, by go_num, by simp, HO5.out, HK5.out, HN.out⟩
        case measure => simp [intOf]; omega
    · obtain rfl : j = ws.length := by omega
      have HF := hideP (prL_some (HP.out.trans HW.out.fin))
      have HB := hideP HW.out.byts
      have hcap : L.length ≤ cap1 := own_cap HO2.out
      clear HW
      go_wp2_with fail
      refine Calls.mono (sRd_any w1.heap.size wr.heap.size ao1 cap1 L wr HO2.out.wrt.row (Nat.le_refl _) hcap (by have := HL2.out; omega) HB.out) ?_
      intro e w3 hS
      clear HO2 HB HL2
      rcases hS with ⟨h5, ⟨x, ax, na, cx, bx, nb, cy, rfl⟩, k3⟩ | ⟨h0, ax, cx, bx, cy, mid, rfl, k3, hm1, hm2, W1, W2⟩
      · have K3 := hideP (K2.out.trans (k3.mono (by omega)))
        obtain ⟨r0, r1, r2, r3, r4, r5, r6⟩ := R2.out.keep k3 (by omega)
        have H5 := hideP h5
        clear k3 h5
        go_wp2
        refine bodyPost_ret (v := .tuple #[.agg #[.int .i64 x, .slice ax na cx, .slice bx nb cy], .bool false]) (by simp [results, Tryz.results33, go_sem, *]) rfl (.inl ⟨by rw [HF.out]; exact H5.out, ⟨x, ax, na, cx, bx, nb, cy, rfl⟩, ?_⟩)
        repeat' (first | exact K3.out | (with_reducible refine Below.setCell ?_ ?_ _) | (with_reducible refine Below.alloc ?_ ?_ _) | go_size)
      · have K3 := hideP (K2.out.trans (k3.mono (by omega)))
        obtain ⟨r0, r1, r2, r3, r4, r5, r6⟩ := R2.out.keep k3 (by omega)
        have H0 := hideP h0
        have HW1 := hideP W1
        have HW2 := hideP W2
        clear k3 h0 W1 W2
        generalize hA : rdA L = A at *
        generalize hD : rdD L = D at *
        generalize hK : rdK L = kk at *
        have EA := hideP hA
        have ED := hideP hD
        have EK := hideP hK
        clear hA hD hK
        go_wp2
        refine bodyPost_ret (v := .tuple #[.agg #[.int .i64 kk, .slice ax A.length cx, .slice bx D.length cy], .bool true]) (by simp [results, Tryz.results33, go_sem, *]) rfl (.inr ⟨by rw [HF.out]; exact H0.out, ax, cx, bx, cy, mid, by rw [HF.out, EA.out, ED.out, EK.out], ?_, by omega, by simp; omega, ?_, ?_⟩)
        · repeat' (first | exact K3.out | (with_reducible refine Below.setCell ?_ ?_ _) | (with_reducible refine Below.alloc ?_ ?_ _) | go_size)
        · rw [HF.out, EA.out]
          refine Wrt.wide (lo := wr.heap.size) (hi := mid) ?_ (by omega) (Nat.le_refl _)
          repeat (refine Wrt.set ?_ _ _ (by dsimp only; omega))
          exact HW1.out
        · rw [HF.out, ED.out]
          refine Wrt.wide (lo := mid) (hi := w3.heap.size) ?_ (Nat.le_refl _) (by simp)
          repeat (refine Wrt.set ?_ _ _ (by dsimp only; omega))
          exact HW2.out

set_option maxHeartbeats 1000000 in
/-- ParseRequest of the model. -/
theorem sParse_any (s : ByteArray) (w : World) (hm : s.size ≤ 1048576) :
    Calls Tryz.prog 13 #[.string s] w (ReadAns w (prL s.data.toList)) := by
  have CS := sPs_any s
  generalize prL s.data.toList = L at *
  have CS' := hideP CS
  clear CS
  go_enter Tryz.func13, Tryz.ntmps13
  go_wp2_with fail
  refine Calls.mono (CS'.out _ hm) ?_
  intro e w1 hS
  rcases hS with ⟨h5, ⟨x, ao', na, ca', bo', nb, cb', rfl⟩, k1⟩ | ⟨h0, ao', ca', bo', cb', mid, rfl, k1, hm1, hm2, W1, W2⟩
  · have K1 : Hid (Below w.heap.size w w1) := hideP (Below.trans (by go_grown) (k1.mono (by simp)))
    obtain ⟨r0, r1, r2, r3, r4, r5, r6, r7, r8⟩ : R4 w1 w.heap.size (.int .i64 0) (.int .i64 0) (.slice none 0 0) (.slice none 0 0) := R4.keep ⟨by simp, by simp, by simp, by simp, by simp, by simp, by simp, by simp, by simp⟩ k1 (by simp)
    have hne1 : ¬ w.heap.size = w1.heap.size := by omega
    have H5 := hideP h5
    clear k1 h5
    go_wp2
    refine bodyPost_ret (v := .agg #[.int .i64 5, .int .i64 0, .slice none 0 0, .slice none 0 0]) (by simp [results, Tryz.results13, go_sem, *]) rfl ?_
    refine ans_no (rd_five H5.out) rfl ?_
    repeat' (first | exact K1.out | (with_reducible refine Below.setCell ?_ ?_ _) | (with_reducible refine Below.alloc ?_ ?_ _) | go_size)
  · have K1 : Hid (Below w.heap.size w w1) := hideP (Below.trans (by go_grown) (k1.mono (by simp)))
    obtain ⟨r0, r1, r2, r3, r4, r5, r6, r7, r8⟩ : R4 w1 w.heap.size (.int .i64 0) (.int .i64 0) (.slice none 0 0) (.slice none 0 0) := R4.keep ⟨by simp, by simp, by simp, by simp, by simp, by simp, by simp, by simp, by simp⟩ k1 (by simp)
    have hne1 : ¬ w.heap.size = w1.heap.size := by omega
    have H0 := hideP h0
    have HW1 := hideP W1
    have HW2 := hideP W2
    simp only [World.size_alloc] at hm1
    clear k1 h0 W1 W2
    generalize hA : rdA L = A at *
    generalize hD : rdD L = D at *
    generalize hK : rdK L = k at *
    have EA := hideP hA
    have ED := hideP hD
    have EK := hideP hK
    clear hA hD hK
    go_wp2
    refine bodyPost_ret (v := .agg #[.int .i64 0, .int .i64 k, .slice ao' A.length ca', .slice bo' D.length cb']) (by simp [results, Tryz.results13, go_sem, *]) rfl ?_
    refine ⟨ao', ca', bo', cb', mid, by rw [H0.out, EA.out, ED.out, EK.out], ?_, by omega, by simp; omega, ?_, ?_⟩
    · repeat' (first | exact K1.out | (with_reducible refine Below.setCell ?_ ?_ _) | (with_reducible refine Below.alloc ?_ ?_ _) | go_size)
    · rw [EA.out]
      refine Wrt.wide (lo := w.heap.size + 1) (hi := mid) ?_ (by omega) (Nat.le_refl _)
      refine Wrt.keep ?_ ((Below.refl _ _).alloc (Nat.le_refl _) _) (by simp; omega)
      repeat (refine Wrt.set ?_ _ _ (by dsimp only; omega))
      exact HW1.out.wide (by simp) (Nat.le_refl _)
    · rw [ED.out]
      refine Wrt.wide (lo := mid) (hi := w1.heap.size) ?_ (Nat.le_refl _) (by simp)
      refine Wrt.keep ?_ ((Below.refl _ _).alloc (Nat.le_refl _) _) (by simp)
      repeat (refine Wrt.set ?_ _ _ (by dsimp only; omega))
      exact HW2.out

end Go.Proofs.YtbceacnadkhdoaaGreatDoor
