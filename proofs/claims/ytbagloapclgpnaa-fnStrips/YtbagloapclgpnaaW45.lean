/- Whose each point is: the specification. -/
import Derived.Test.YtbagloapclgpnaaW39
import Derived.Test.YtbagloapclgpnaaW43
import Derived.Test.YtbagloapclgpnaaW44
namespace Go.Proofs.Ytbagloapclgpnaa
open Go.RowKit Go.Maps
set_option linter.unusedVariables false

def ownP (C : List Wc) (p : Int × Int) : Int := (topR p.1 p.2 C).getD 0
def ownC (C : List Wc) : List Int := List.replicate 12 0 ++ (ptsOf stripR).map (ownP C)
def oscL (C : List Wc) : List Int := if stF C = 0 then ownC C else []
theorem oscL_yes {C : List Wc} (h : stF C = 0) : oscL C = ownC C := by unfold oscL; rw [if_pos h]
theorem oscL_no {C : List Wc} (h : ¬ stF C = 0) : oscL C = [] := by unfold oscL; rw [if_neg h]
theorem pts_strip : ptsOf stripR = rowsPts 0 1 12 7 := rfl
theorem ownC_len (C : List Wc) : (ownC C).length = 96 := by unfold ownC; rw [List.length_append, List.length_map, pts_strip, rowsPts_len]; rfl
theorem oscL_len (C : List Wc) : (oscL C).length ≤ 96 := by
  unfold oscL
  split
  · rw [ownC_len]; exact Nat.le_refl _
  · simp
theorem ownP_none {L : List Wn} {x y : Int} (h : ∀ v ∈ L, hitW x y v = false) : ownP (L.map Wn.ct) (x, y) = 0 := by unfold ownP; rw [topR_none h]; rfl
theorem ownP_some {L A B : List Wn} {r : Wn} {x y : Int} (h : Top x y L A r B) : ownP (L.map Wn.ct) (x, y) = r.i := by unfold ownP; rw [topR_some h]; rfl

/-- The list so far: j whole rows and i points. -/
def partO (Z : List Int) (g : Int × Int → Int) (j i : Nat) : List Int := (Z ++ (rowsPts 0 1 12 j).map g) ++ (rowPts 0 (1 + (j : Int)) i).map g
theorem partO_zero (Z : List Int) (g : Int × Int → Int) (j : Nat) : partO Z g j 0 = Z ++ (rowsPts 0 1 12 j).map g := by simp [partO, rowPts]
theorem partO_step (Z : List Int) (g : Int × Int → Int) (j i : Nat) : partO Z g j i ++ [g ((i : Int), 1 + (j : Int))] = partO Z g j (i + 1) := by
  unfold partO
  rw [rowPts_succ, List.map_append, List.append_assoc]
  simp
theorem partO_row (Z : List Int) (g : Int × Int → Int) (j : Nat) : partO Z g j 12 = partO Z g (j + 1) 0 := by
  rw [partO_zero]
  unfold partO
  rw [rowsPts_succ, List.map_append, List.append_assoc]
theorem partO_len (Z : List Int) (g : Int × Int → Int) (j i : Nat) : (partO Z g j i).length = Z.length + j * 12 + i := by
  unfold partO
  rw [List.length_append, List.length_append, List.length_map, List.length_map, rowsPts_len, rowPts_len]
theorem partO_all (Z : List Int) (g : Int × Int → Int) : partO Z g 7 0 = Z ++ (ptsOf stripR).map g := by rw [partO_zero, pts_strip]

theorem made_zero (n : Nat) : (madeCells (Value.int .i64 0).cells (n * 1)).toList = (List.replicate n (0 : Int)).map (Value.int .i64) := by
  refine List.ext_getElem? fun j => ?_
  simp [madeCells, Value.cells]
  by_cases h : j < n
  · simp [h, Nat.mod_one]
  · simp [h]
theorem ownR_zeros {w w1 : World} (ho : w1.ownsRow w.heap.size 2 1 (.slice (some ⟨w.heap.size, 0, none⟩) 12 12) 12 (madeCells (Value.int .i64 0).cells (12 * 1)).toList) : OwnR .i64 2 w1 w.heap.size (some ⟨w.heap.size, 0, none⟩) 12 (List.replicate 12 0) := by
  rw [made_zero] at ho
  exact ho

set_option maxRecDepth 100000 in
set_option maxHeartbeats 4000000 in
theorem sOwners_ok (so : Option Addr) (sc : Nat) (L : List Wn) (w : World) (hL : Ws w 0 w.heap.size so L) (hn : L.length + wzs L ≤ 1048576) (h : stF (L.map Wn.ct) = 0) :
    Calls Try.prog 26 #[.slice so L.length sc] w (IsA w 0 (ownC (L.map Wn.ct))) := by
  have SF := fun w1 (kk : Below w.heap.size w w1) => l7F_any 0 w.heap.size so sc L w1 (hL.keep kk (Nat.le_refl _)) kk.size hn
  rw [h] at SF
  have SF' := hideP SF
  have hrf := hideP (st_rect h)
  have HL := hideP hL
  have hn' : L.length ≤ 1048576 := by omega
  obtain ⟨i0, hi0, hz0, hz1, hz2⟩ := info_parts Try.infoO9
  obtain ⟨G, hG⟩ : ∃ G, ownP (L.map Wn.ct) = G := ⟨_, rfl⟩
  have HG := hideP hG
  have HR : Hid (ownC (L.map Wn.ct) = partO (List.replicate 12 0) G 7 0) := hideP (by rw [partO_all, ← hG]; rfl)
  have HLen := hideP (ownC_len (L.map Wn.ct))
  clear SF hL h hG
  go_enter Try.func26, Try.ntmps26
  go_wp2_with fail
  refine Calls.mono (SF'.out _ (by go_grown)) ?_
  rintro e w1 ⟨rfl, k1⟩
  have n1 := k1.size
  simp only [World.size_alloc] at n1
  have K1 : Hid (Below w.heap.size w w1) := hideP (Below.trans (by go_grown) (k1.mono (by simp)))
  have X1 : Hid (Rb w1 w.heap.size (.int .i64 0) (.slice none 0 0)) := hideP (Rb.keep ⟨by simp [go_sem], by simp [go_sem], by simp [go_sem], by simp [go_sem], by simp⟩ k1 (by simp))
  clear k1 SF'
  go_wp2_with (first | (at_make; refine wpList_make_full _ rfl _ _ 26 rfl w1.heap.size 2 i0 (.int .i64 0) 1 Try.underlying26 hi0 hz0 hz1 .i64 .i64 _ _ 12 rfl rfl rfl rfl (by rw [hz2]; omega) (by unfold maxLen; omega) (Nat.le_refl _) ?_; intro w2 hown2 hgrow2; refine Hid.out ?_) | go_in)
  have O2 := hideP (ownR_zeros hown2)
  have K2 : Hid (Below w1.heap.size w1 w2) := hideP ⟨hgrow2.os, hgrow2.tape, hgrow2.output, hgrow2.size, fun k hk => hgrow2.block k hk (by simp)⟩
  have n2 := (World.ownsRow.lt hown2 w1.heap.size rfl).2
  clear hown2 hgrow2
  refine hideP ?_
  obtain ⟨X, hX⟩ : ∃ X, w2.alloc (.cells #[.int .i64 0, .slice (some ⟨w1.heap.size, 0, none⟩) 12 12] 41) = X := ⟨_, rfl⟩
  have K3 : Hid (Below w.heap.size w X) := hideP (by rw [← hX]; exact (K1.out.trans (K2.out.mono (by omega))).alloc (by omega) _)
  have hXs : X.heap.size = w2.heap.size + 1 := by rw [← hX]; simp
  have O3 : Hid (OS X X w1.heap.size w1.heap.size w2.heap.size 1 (some ⟨w1.heap.size, 0, none⟩) 12 (partO (List.replicate 12 0) G 0 0)) := hideP (by
    refine ⟨?_, fun a ha => ?_, ?_, ?_, fun _ _ => rfl, fun _ _ _ _ => rfl, rfl, rfl, rfl, Nat.le_refl _⟩
    · rw [partO_zero, ← hX]; simpa [rowsPts] using O2.out.alloc _
    · cases ha; exact .inl rfl
    · rw [← hX, partO_zero]; simp [rowsPts, go_sem]
    · rw [← hX]; simp [go_sem])
  have Z0 : Hid (X.cell? ⟨w2.heap.size, 0, none⟩ = some (.int .i64 0)) := hideP (by rw [← hX]; simp [go_sem])
  have X3 : Hid (Rb X w.heap.size (.int .i64 0) (.slice none 0 0)) := hideP (X1.out.keep ((K2.out.trans (by rw [← hX]; exact (kal5 w2 _).mono K2.out.size))) X1.out.lt)
  have hbx : w2.heap.size < X.heap.size := by omega
  have hbn : w2.heap.size ≠ w1.heap.size := by omega
  have hwX := K1.out.size
  go_wp2
  try rw [hX]
  clear hX O2 X1
  go_loopw [5] (fun y wr => ∃ (j : Nat) (s : Option Addr) (c : Nat), j ≤ 7 ∧ y = .int .i64 (1 + (j : Int)) ∧ OS X wr w1.heap.size w1.heap.size w2.heap.size 1 s c (partO (List.replicate 12 0) G j 0)) (fun y _ => (8 - intOf y).toNat)
  case atStart => exact ⟨0, _, _, Nat.zero_le _, by simp, O3.out⟩
  case round =>
    obtain ⟨j, s3, c3, hj, rfl, O⟩ := hrel
    have OJ := hideP O
    clear O O3
    by_cases hlt : j < 7
    · have hlt' : 1 + (j : Int) < 8 := by omega
      go_wp2
      go_loopw [6] (fun x wr => ∃ (i : Nat) (s : Option Addr) (c : Nat), i ≤ 12 ∧ x = .int .i64 (i : Int) ∧ OS X wr w1.heap.size w1.heap.size w2.heap.size 1 s c (partO (List.replicate 12 0) G j i)) (fun x _ => (12 - intOf x).toNat)
      case atStart => exact ⟨0, _, _, Nat.zero_le _, rfl, OJ.out⟩
      case round =>
        obtain ⟨i, s4, c4, hi, rfl, O⟩ := hrel
        have O4 := hideP O
        have KX : Below w.heap.size w wr := K3.out.trans (O.below (by omega) (by omega) (by omega))
        clear O OJ
        by_cases hlt2 : i < 12
        · have hlt2' : (i : Int) < 12 := by omega
          rcases top_or (i : Int) (1 + (j : Int)) L with hno | ⟨A, r, B, ht⟩
          · have TN := hideP (l7Top_none so sc L (i : Int) (1 + (j : Int)) 0 w.heap.size wr (HL.out.keep KX (Nat.le_refl _)) KX.size hn' hrf.out hno)
            go_wp2_with fail
            refine Calls.mono TN.out ?_
            rintro e w5 ⟨rfl, k5⟩
            have O5 := hideP (O4.out.keep k5 hbx)
            have HZ : Hid (partO (List.replicate 12 0) G j i ++ [0] = partO (List.replicate 12 0) G j (i + 1)) := hideP (by rw [← partO_step, show G ((i : Int), 1 + (j : Int)) = 0 by rw [← HG.out]; exact ownP_none hno])
            have hML : (partO (List.replicate 12 (0 : Int)) G j i).length ≤ 96 := by rw [partO_len]; simp; omega
            have n5 := k5.size
            have hs5 : w2.heap.size < w5.heap.size := by have := O5.out.size; omega
            have c1 := O5.out.cell
            clear k5 
            obtain ⟨M, hM⟩ : ∃ M, partO (List.replicate 12 (0 : Int)) G j i = M := ⟨_, rfl⟩
            rw [hM] at O5 HZ hML c1
            clear hM
            go_wp2_with (first | (at_builtin; refine wpList_snoc rfl _ _ rfl w1.heap.size s4 c4 M rfl (O5.out.keep (kal5 w5 (.cells #[.int .i64 0] 2)) hbx).own ⟨w5.heap.size, 0, none⟩ 1 0 rfl (by simp [go_sem]) (by omega) (by simp; omega) ?_; intro s6 c6 w6 SN; replace SN := hideP SN; refine Hid.out ?_) | go_in)
            have O6 := hideP (O5.out.keep (kal5 w5 (.cells #[.int .i64 0] 2)) hbx)
            obtain ⟨q1, q2, q3⟩ := O6.out.box hbx hbn SN.out
            have O7 := hideP (O6.out.put hbx hbn SN.out)
            rw [HZ.out] at O7
            have HL7 : Hid ((M ++ [0]).length = (partO (List.replicate 12 0) G j (i + 1)).length) := hideP (by rw [HZ.out])
            clear O5 O6 SN c1
            refine hideP ?_
            go_wp2
            go_roundw
            case rel => exact ⟨i + 1, s6, c6, by omega, by go_num, by have := O7.out; rw [← HL7.out] at this; simpa using this⟩
            case measure => simp [intOf]; omega
          · have TN := hideP (l7Top_some so sc L (i : Int) (1 + (j : Int)) 0 w.heap.size wr (HL.out.keep KX (Nat.le_refl _)) KX.size hn' hrf.out A B r ht)
            have h0 := HL.out
            rw [ht.eq] at h0
            obtain ⟨g, o, rfl, hg, hc, _⟩ := Ws.at h0
            have hge : ¬ (A.length : Int) < 0 := by omega
            have hAl : (A.length : Int) < (L.length : Int) := by rw [ht.eq]; simp; omega
            obtain ⟨ri, hri⟩ : ∃ ri, r.i = ri := ⟨_, rfl⟩
            have HC := hideP hc
            have HT := hideP ht
            clear h0 hc
            go_wp2_with fail
            refine Calls.mono TN.out ?_
            rintro e w5 ⟨rfl, k5⟩
            have a0 := (HC.out.keep (KX.trans (k5.mono KX.size)) hg).seven.1
            rw [hri] at a0
            have hg5 : g < w5.heap.size := by have := KX.size; have := k5.size; omega
            have O5 := hideP (O4.out.keep k5 hbx)
            have HZ : Hid (partO (List.replicate 12 0) G j i ++ [r.i] = partO (List.replicate 12 0) G j (i + 1)) := hideP (by rw [← partO_step, show G ((i : Int), 1 + (j : Int)) = r.i by rw [← HG.out]; exact ownP_some ht])
            rw [hri] at HZ
            have hML : (partO (List.replicate 12 (0 : Int)) G j i).length ≤ 96 := by rw [partO_len]; simp; omega
            have n5 := k5.size
            have hs5 : w2.heap.size < w5.heap.size := by have := O5.out.size; omega
            have c1 := O5.out.cell
            clear k5 
            obtain ⟨M, hM⟩ : ∃ M, partO (List.replicate 12 (0 : Int)) G j i = M := ⟨_, rfl⟩
            rw [hM] at O5 HZ hML c1
            clear hM
            go_wp2_with (first | (at_builtin; refine wpList_snoc rfl _ _ rfl w1.heap.size s4 c4 M rfl (O5.out.keep (kal5 w5 (.cells #[.int .i64 ri] 2)) hbx).own ⟨w5.heap.size, 0, none⟩ 1 ri rfl (by simp [go_sem]) (by omega) (by simp; omega) ?_; intro s6 c6 w6 SN; replace SN := hideP SN; refine Hid.out ?_) | go_in)
            have O6 := hideP (O5.out.keep (kal5 w5 (.cells #[.int .i64 ri] 2)) hbx)
            obtain ⟨q1, q2, q3⟩ := O6.out.box hbx hbn SN.out
            have O7 := hideP (O6.out.put hbx hbn SN.out)
            rw [HZ.out] at O7
            have HL7 : Hid ((M ++ [ri]).length = (partO (List.replicate 12 0) G j (i + 1)).length) := hideP (by rw [HZ.out])
            clear O5 O6 SN c1
            refine hideP ?_
            go_wp2
            go_roundw
            case rel => exact ⟨i + 1, s6, c6, by omega, by go_num, by have := O7.out; rw [← HL7.out] at this; simpa using this⟩
            case measure => simp [intOf]; omega
        · obtain rfl : i = 12 := by omega
          rw [partO_row] at O4
          go_wp2
          go_roundw
          case rel => exact ⟨j + 1, s4, c4, by omega, by go_num, O4.out⟩
          case measure => simp [intOf]; omega
    · obtain rfl : j = 7 := by omega
      have c1 := OJ.out.cell
      have c0 := (OJ.out.oth 0 (by decide)).trans Z0.out
      have X9 : Rb wr w.heap.size (.int .i64 0) (.slice none 0 0) := ⟨(OJ.out.at_ w.heap.size 0 (by omega) (by omega) (by omega)).trans X3.out.c0, (OJ.out.at_ w.heap.size 1 (by omega) (by omega) (by omega)).trans X3.out.c1, (OJ.out.at_f w.heap.size 0 (by omega) (by omega) (by omega)).trans X3.out.f0, (OJ.out.at_f w.heap.size 1 (by omega) (by omega) (by omega)).trans X3.out.f1, by have := OJ.out.size; omega⟩
      obtain ⟨x0, x1, x2, x3, x4⟩ := X9
      have hs9 : w2.heap.size < wr.heap.size := by have := OJ.out.size; omega
      have K9 : Hid (Below w.heap.size w wr) := hideP (K3.out.trans (OJ.out.below (by omega) (by omega) (by omega)))
      have P96 : (partO (List.replicate 12 (0 : Int)) G 7 0).length = 96 := by rw [← HR.out]; exact HLen.out
      rw [P96] at c1
      have HP96 := hideP P96
      clear P96
      go_wp2
      refine bodyPost_ret (v := .agg #[.int .i64 0, .slice s3 96 c3]) (by simp [results, Try.results26, go_sem, *]; done) rfl ⟨s3, c3, by rw [HLen.out], ?_, (K9.out.setCell (p := ⟨w.heap.size, 0, none⟩) (Nat.le_refl _) _).setCell (p := ⟨w.heap.size, 1, none⟩) (Nat.le_refl _) _⟩
      rw [HR.out]
      exact ((OJ.out.own.set ⟨w.heap.size, 0, none⟩ _ (by show w.heap.size < _; omega)).set ⟨w.heap.size, 1, none⟩ _ (by show w.heap.size < _; omega)).le (by omega)
end Go.Proofs.Ytbagloapclgpnaa
