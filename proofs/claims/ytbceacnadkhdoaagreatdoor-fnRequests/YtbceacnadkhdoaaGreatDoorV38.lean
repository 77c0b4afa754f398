/- ParseRequest, by the program. -/
import Derived.Test.YtbceacnadkhdoaaGreatDoorV35
import Derived.Test.YtbceacnadkhdoaaGreatDoorV34
import Derived.Test.YtbceacnadkhdoaaGreatDoorV37
import Derived.Lib.Split
namespace Go.Proofs.YtbceacnadkhdoaaGreatDoor
open Go.RowKit
set_option linter.unusedVariables false

theorem map_back (L : List ByteArray) : (L.map (·.data.toList)).map bS = L := by
  rw [List.map_map]
  exact List.map_id'' (fun s => bS_back s) L
theorem split_cut (s : ByteArray) : (Lib.splitB ⟨#[44]⟩ 0 (Lib.countB s ⟨#[44]⟩) s) = (cutL s.data.toList).map bS := by
  rw [← map_back (Lib.splitB ⟨#[44]⟩ 0 (Lib.countB s ⟨#[44]⟩) s), Lib.splitB_data]
  exact congrArg _ (splitK_cut s.data.toList)
theorem Wst.on' {ws : List (List UInt8)} {j v : Nat} {L : List Int} (h : Wst ws j L) (hj : j < ws.length) (hb : rb ws[j] = some v) : Wst ws (j + 1) (L ++ [(v : Int)]) := by
  unfold Wst at *
  rw [List.take_succ_eq_append_getElem hj, psW_snoc, h, hb]
theorem Wst.no' {ws : List (List UInt8)} {j : Nat} {L : List Int} (h : Wst ws j L) (hj : j < ws.length) (hb : rb ws[j] = none) : psW ws = none := by
  unfold Wst at h
  have e : psW (ws.take (j + 1)) = none := by rw [List.take_succ_eq_append_getElem hj, psW_snoc, h, hb]
  have := psW_stop _ (ws.drop (j + 1)) e
  rwa [List.take_append_drop] at this
theorem own_cap' {k : IntKind} {T : TypeId} {w : World} {base : Nat} {ao : Option Addr} {cap : Nat} {L : List Int} (h : OwnR k T w base ao cap L) : L.length ≤ cap := by
  rcases h.2 with ⟨hx, h0⟩ | ⟨g', cap', cur, hv, _, _, hnc, _⟩
  · rw [h0]; exact Nat.zero_le _
  · cases hv; exact hnc
theorem kalP (w : World) (o : Obj) : Below w.heap.size w (w.alloc o) := (Below.refl _ _).alloc (Nat.le_refl _) o

set_option maxRecDepth 100000 in
set_option maxHeartbeats 4000000 in
theorem iParse_any (s : ByteArray) (w : World) (E : Env w) (hm : s.size ≤ 1048576) : Calls Tryz.prog 8 #[.string s] w (ReadAns w (prL s.data.toList)) := by
  have hsl := sz_len s
  have HLen := hideP (cut_len s.data.toList)
  have HShort := hideP (cut_short s.data.toList)
  have HP : Hid (psT s.data.toList = psW (cutL s.data.toList)) := hideP rfl
  have HE := hideP E
  have hi9 : (Tryz.prog.info? 9).map (fun i => (i.zero, i.size, i.bytes)) = some (some (.string ByteArray.empty), 1, 16) := by kernel_rfl
  have CS : Hid (∀ W, Env W → Calls Tryz.prog 28 #[.string s, .string ⟨#[44]⟩] W fun e w' => e = .returned (.slice (some ⟨W.heap.size, 0, none⟩) (cutL s.data.toList).length (cutL s.data.toList).length) ∧ w' = W.alloc (.cells (((cutL s.data.toList).map bS).map Value.string).toArray 9)) := hideP fun W hW => by
    obtain ⟨m, hm'⟩ := hW.most
    have h := Any.strings_Split (P := Tryz.prog) Tryz.lays146 hi9 s ⟨#[44]⟩ m W (by omega) hm' (by decide)
    rw [split_cut] at h
    rw [count_cut]
    exact h
  clear E hi9
  generalize s.data.toList = l at *
  generalize cutL l = ws at *
  have hwl : ws.length ≤ 1048577 := by have := HLen.out; omega
  have hwl' : (ws.length : Int) ≤ 1048577 := by omega
  go_enter Tryz.func8, Tryz.ntmps8
  go_wp2_with fail
  refine Calls.mono (CS.out _ (HE.out.keep (kalP _ _))) ?_
  rintro e w1 ⟨rfl, hw1⟩
  have WC : Hid (∀ j (h : j < ws.length), w1.cell? ⟨w.heap.size + 1, j, none⟩ = some (.string (bS ws[j]))) := hideP fun j h => by
    rw [hw1]
    have e := World.cell?_alloc_new (w.alloc (.cells #[.int .i64 0, .int .i64 0, .slice none 0 0, .slice none 0 0] 29)) ((ws.map bS).map Value.string).toArray 9 j
    rw [World.size_alloc] at e
    rw [e]
    simp [h]
  have K1 : Hid (Below w.heap.size w w1) := hideP (by rw [hw1]; exact Below.trans (kalP _ _) ((kalP _ _).mono (by simp)))
  have R1 : Hid (R4 w1 w.heap.size (.int .i64 0) (.int .i64 0) (.slice none 0 0) (.slice none 0 0)) := hideP (by rw [hw1]; exact R4.keep (B := w.heap.size + 1) ⟨by simp, by simp, by simp, by simp, by simp, by simp, by simp, by simp, by simp⟩ ((kalP _ _).mono (by simp)) (by omega))
  have n1 : w1.heap.size = w.heap.size + 1 + 1 := by rw [hw1]; simp
  have E1 := hideP (HE.out.keep K1.out)
  rw [World.size_alloc]
  clear hw1 CS HE
  go_wp2
  go_loopw [3, 11] (fun b i wr => ∃ (j : Nat) (L : List Int) (ao1 : Option Addr) (cap1 : Nat), j ≤ ws.length ∧ i = .int .i64 j ∧ b = .slice ao1 L.length cap1 ∧ OwnR .u8 5 wr w1.heap.size ao1 cap1 L ∧ Below w1.heap.size w1 wr ∧ Hid (Wst ws j L)) (fun _ i _ => ws.length - (intOf i).toNat)
  case atStart => exact ⟨0, [], none, 0, Nat.zero_le _, rfl, rfl, OwnR.nil _ _ _ _, Below.refl _ _, Wst.start ws⟩
  case round =>
    obtain ⟨j, L, ao1, cap1, hj, rfl, rfl, O2, k2, HW⟩ := hrel
    have HO2 := hideP O2
    have HK2 := hideP k2
    have hz := k2.size
    have R2 := hideP (R1.out.keep k2 (by omega))
    have K2 := hideP (K1.out.trans (k2.mono (by omega)))
    have HL2 := hideP HW.out.len
    clear O2 k2
    by_cases hlt : j < ws.length
    · have hlt' : (j : Int) < (ws.length : Int) := by omega
      have a0 : wr.cell? ⟨w.heap.size + 1, j, none⟩ = some (.string (bS ws[j])) := (HK2.out.cell (p := ⟨w.heap.size + 1, j, none⟩) (by show w.heap.size + 1 < _; omega)).trans (WC.out j hlt)
      have hgl : w.heap.size + 1 < wr.heap.size := by omega
      have CN := hideP (fun W (h : Env W) => rdb_any (bS ws[j]) W h (by rw [bS_size]; have := HShort.out ws[j] (List.getElem_mem _); omega))
      rw [bS_data] at CN
      have HOn := hideP (fun v => HW.out.on' (v := v) hlt)
      have HNo := hideP (HW.out.no' hlt)
      clear HW
      generalize bS ws[j] = d at *
      generalize ws[j] = wd at *
      go_wp2_with fail
      refine Calls.mono (CN.out _ (E1.out.keep HK2.out)) ?_
      rintro e w4 ⟨k4, hr⟩
      have HO4 := hideP (HO2.out.keep k4)
      have HK4 := hideP (HK2.out.trans (k4.mono (by omega)))
      have R4' := hideP (R2.out.keep k4 (by omega))
      have K4 := hideP (K2.out.trans (k4.mono (by omega)))
      have hz4 := k4.size
      clear k4 a0 CN HO2 HK2 R2 K2
      rcases hr with ⟨v, hv, rfl⟩ | ⟨hv, x, rfl⟩
      · have HN := hideP (HOn.out v hv)
        clear HOn HNo hv
        go_wp2_with (first | (at_builtin; refine wpList_app (k := .u8) (T := 5) (S := 22) (bytes := 1) Tryz.underlying22 Tryz.infoB (by omega) rfl _ _ rfl w1.heap.size ao1 cap1 L rfl (HO4.out.alloc _) _ 1 [(v : Int)] rfl (src_one .u8 w4 v 5) (by have := HL2.out; simp; omega) (by simp; omega) ?_; intro ao5 cap5 w5 O5 K5; refine Hid.out ?_) | go_in)
        have HO5 := hideP O5
        have HK5 : Hid (Below w1.heap.size w1 w5) := hideP ((HK4.out.alloc (by omega) _).trans K5)
        clear O5 K5
        refine hideP ?_
        go_wp2
        go_roundw
        case rel => exact ⟨j + 1, L ++ [(v : Int)], ao5, cap5, by omega, by go_num, by simp, HO5.out, HK5.out, HN.out⟩
        case measure => simp [intOf]; omega
      · have HN := hideP (HNo.out hv)
        obtain ⟨r0, r1, r2, r3, r4, r5, r6, r7, r8⟩ := R4'.out
        clear HOn HNo hv
        go_wp2
        refine bodyPost_ret (v := .agg #[.int .i64 5, .int .i64 0, .slice none 0 0, .slice none 0 0]) (by simp [results, Tryz.results8, go_sem, *]) rfl ?_
        rw [prL_none (HP.out.trans HN.out)]
        refine ans_no (rd_five rfl) rfl ?_
        repeat' (first | exact K4.out | (with_reducible refine Below.setCell ?_ ?_ _) | (with_reducible refine Below.alloc ?_ ?_ _) | go_size)
    · obtain rfl : j = ws.length := by omega
      have HF := hideP (prL_some (HP.out.trans HW.out.fin))
      have HB := hideP HW.out.byts
      have hcap : L.length ≤ cap1 := own_cap' HO2.out
      clear HW
      go_wp2_with fail
      refine Calls.mono (iRead_any w1.heap.size wr.heap.size ao1 cap1 L wr HO2.out.wrt.row (Nat.le_refl _) hcap (by have := HL2.out; omega) HB.out) ?_
      rintro e w3 ⟨ax, cx, bx, cy, mid, rfl, k3, hm1, hm2, W1, W2⟩
      have K3 := hideP (K2.out.trans (k3.mono (by omega)))
      obtain ⟨r0, r1, r2, r3, r4, r5, r6, r7, r8⟩ := R2.out.keep k3 (by omega)
      have HW1 := hideP W1
      have HW2 := hideP W2
      clear k3 W1 W2 HO2 HB HL2
      generalize hA : rdA L = A at *
      generalize hD : rdD L = D at *
      generalize hK : rdK L = kk at *
      generalize hC : rdC L = cc at *
      have EA := hideP hA
      have ED := hideP hD
      have EK := hideP hK
      have EC := hideP hC
      clear hA hD hK hC
      go_wp2
      refine bodyPost_ret (v := .agg #[.int .i64 cc, .int .i64 kk, .slice ax A.length cx, .slice bx D.length cy]) (by simp [results, Tryz.results8, go_sem, *]) rfl ?_
      rw [HF.out]
      refine ⟨ax, cx, bx, cy, mid, by rw [EA.out, ED.out, EK.out, EC.out], ?_, by omega, by simp; omega, ?_, ?_⟩
      · repeat' (first | exact K3.out | (with_reducible refine Below.setCell ?_ ?_ _) | (with_reducible refine Below.alloc ?_ ?_ _) | go_size)
      · rw [EA.out]
        refine Wrt.wide (lo := wr.heap.size) (hi := mid) ?_ (by omega) (Nat.le_refl _)
        repeat (refine Wrt.set ?_ _ _ (by dsimp only; omega))
        exact HW1.out
      · rw [ED.out]
        refine Wrt.wide (lo := mid) (hi := w3.heap.size) ?_ (Nat.le_refl _) (by simp)
        repeat (refine Wrt.set ?_ _ _ (by dsimp only; omega))
        exact HW2.out

end Go.Proofs.YtbceacnadkhdoaaGreatDoor
