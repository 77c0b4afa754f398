/- Frames cut by the model. -/
import Derived.Test.YtgjbjafodkiilaaTj23
import Derived.Test.YtgjbjafodkiilaaTj24
namespace Go.Proofs.Ytgjbjafodkiilaa
open Go.RowKit
set_option linter.unusedVariables false
attribute [local go_sem high] sl_from sl_upto sl_both
attribute [local go_sem] growUpon growAt

theorem sl_mid (g o len cap j n : Nat) (kl kh : IntKind) (h2 : j + 1 + n ≤ cap) (w : World) :
    (Instr.slice 22 (.slice (some ⟨g, o, none⟩) len cap) (some (.int kl ((j : Int) + 1))) (some (.int kh ((j : Int) + 1 + (n : Int)))) none).run Try.prog w = .ok (.slice (some ⟨g, sOff o cap (j + 1), none⟩) n (cap - (j + 1))) w := by
  rw [sl_both g o len cap kl kh _ _ (by omega) (by omega) (by omega)]
  have e : ((j : Int) + 1 + (n : Int)).toNat - ((j : Int) + 1).toNat = n := by omega
  have e2 : ((j : Int) + 1).toNat = j + 1 := by omega
  rw [e, e2]
attribute [local go_sem 20000] sl_mid

/-- Where the model's loop stands. -/
structure SS (w wr : World) (lo hi ob : Nat) (A : List Int) (g o cap j : Nat) (so : Option Addr) (sc : Nat) (bs : List Bd) : Prop where
  keep : Below w.heap.size w wr
  res : R3 wr w.heap.size (.slice none 0 0) (.int .i64 0) (.slice none 0 0)
  box : R3 wr ob (.slice so bs.length sc) (.int .i64 (nW (bs.map Bd.L))) (.slice none 0 0)
  row : Row .u8 wr lo hi (some ⟨g, o, none⟩) A
  own : OwnB wr (ob + 1) so sc bs
  bods : Bods wr (ob + 1) wr.heap.size bs
  mid : Mid A (bs.map Bd.L) (A.drop j)
  le : j ≤ A.length
  len : bs.length ≤ j

theorem drop_cons (A : List Int) (j : Nat) (h : j < A.length) : A.drop j = A[j] :: A.drop (j + 1) := List.drop_eq_getElem_cons h

set_option maxRecDepth 100000 in
set_option maxHeartbeats 4000000 in
theorem sl4_some (lo hi : Nat) (ao bo : Option Addr) (ca cb : Nat) (L M A : List Int) (w : World) (hL : Row .u8 w lo hi ao L) (hM : Row .u8 w lo hi bo M) (hs : hi ≤ w.heap.size) (hB : byts L) (hB2 : byts M) (h1 : L.length ≤ 300) (h2 : M.length ≤ 300) (hA : L ++ M = A) (hne : A ≠ []) :
    Calls Try.prog 39 #[.slice ao L.length ca, .slice bo M.length cb] w (CutAns w A) := by
  have HL := hideP hL
  have HM := hideP hM
  have HB := hideP (byts_app hB hB2)
  have hAl : A.length ≤ 600 := by rw [← hA]; simp; omega
  rw [hA] at HB
  have HAe := hideP hA
  clear hA
  clear hL hM hB hB2
  go_enter Try.func39, Try.ntmps39
  go_wp2_with fail
  refine Calls.mono (sBytes_any lo hi ao ca L _ (HL.out.keep (B := w.heap.size) (by go_grown) hs) (by simp; omega) (by omega)) ?_
  rintro e w1 ⟨ao1, cap1, rfl, O1, k1⟩
  have K1 : Hid (Below w.heap.size w w1) := hideP (Below.trans (by go_grown) (k1.mono (by simp)))
  have R1 : Hid (R3 w1 w.heap.size (.slice none 0 0) (.int .i64 0) (.slice none 0 0)) := hideP (R3.keep ⟨by simp, by simp, by simp, by simp, by simp, by simp, by simp⟩ k1 (by simp))
  have O1' : Hid (OwnR .u8 5 w1 (w.heap.size + 1) ao1 cap1 L) := hideP (O1.le (by simp))
  have S1 := hideP ((HM.out.keep K1.out hs).src)
  have n1 := R1.out.lt
  clear O1 k1
  go_wp2_with (first | (at_builtin; refine wpList_app (k := .u8) (T := 5) (S := 22) (bytes := 1) Try.underlying22 Try.infoB (by omega) rfl _ _ rfl (w.heap.size + 1) ao1 cap1 L rfl O1'.out bo cb M rfl S1.out (by omega) (by omega) ?_; rw [HAe.out]; intro ao2 cap2 w2 O2 k2; refine Hid.out ?_) | go_in)
  have R2 := hideP (R1.out.keep k2 (Nat.lt_succ_self _))
  have K2 := hideP (K1.out.trans (k2.mono (by omega)))
  have n2 := R2.out.lt
  have hroom := O2.room
  have W2 : Hid (Row .u8 w2 (w.heap.size + 1) w2.heap.size ao2 A) := hideP O2.wrt.row
  obtain ⟨g, o, hao⟩ : ∃ g o, ao2 = some ⟨g, o, none⟩ := by
    rcases O2.wrt with e | ⟨g, o, ha, _⟩
    · exact absurd e hne
    · exact ⟨g, o, ha⟩
  subst hao
  clear O2 k2 R1 K1 O1' S1 HL HM HAe
  refine hideP ?_
  go_wp2
  have S0 : Hid (SS w (w2.alloc (.cells #[.slice none 0 0, .int .i64 0, .slice none 0 0] 35)) (w.heap.size + 1) w2.heap.size w2.heap.size A g o cap2 0 none 0 []) :=
    hideP ⟨K2.out.trans ((kalF w2 _).mono (by omega)), R2.out.keep (kalF w2 _) n2, ⟨by simp, by simp [nW], by simp, by simp, by simp, by simp, by simp⟩, W2.out.keep (kalF w2 _) (Nat.le_refl _), OwnB.nil _ _, Bods.nil _ _ _, Mid.start A, Nat.zero_le _, Nat.zero_le _⟩
  clear R2 K2 W2
  go_loopw [7] (fun i wr => ∃ (j : Nat) (so : Option Addr) (sc : Nat) (bs : List Bd), i = .int .i64 j ∧ SS w wr (w.heap.size + 1) w2.heap.size w2.heap.size A g o cap2 j so sc bs) (fun i _ => A.length - (intOf i).toNat)
  case atStart => exact ⟨0, none, 0, [], rfl, S0.out⟩
  case round =>
    obtain ⟨j, so, sc, bs, rfl, F⟩ := hrel
    have HF := hideP F
    clear F S0
    have hj := HF.out.le
    have hz := HF.out.box.lt
    have hzr : w.heap.size < wr.heap.size := HF.out.res.lt
    have hAi : (A.length : Int) ≤ 600 := by omega
    have hji : (j : Int) ≤ (A.length : Int) := by omega
    by_cases hlt : j < A.length
    · have hlt' : (j : Int) < (A.length : Int) := by omega
      have hx := HB.out j hlt
      have HM : Hid (Mid A (bs.map Bd.L) (A[j] :: A.drop (j + 1))) := hideP (by rw [← drop_cons A j hlt]; exact HF.out.mid)
      have HDr := hideP (drop_cons A j hlt)
      have hc0 : wr.cell? ⟨g, o + j, none⟩ = some (.int .u8 A[j]) := by
        rcases HF.out.row with e | ⟨g', o', e, _, _, hc⟩
        · exact absurd e hne
        · cases e; exact hc j hlt
      generalize A[j] = x at *
      obtain ⟨n, rfl⟩ : ∃ n : Nat, x = n := ⟨x.toNat, by omega⟩
      obtain ⟨x0, x1⟩ := hx
      have hTl : Hid ((A.drop (j + 1)).length = A.length - (j + 1)) := hideP (by simp)
      have hbl := HF.out.len
      have hn0 := nW_nonneg (bs.map Bd.L)
      have hn1 : nW (bs.map Bd.L) ≤ 1000 := by have := nW_le (bs.map Bd.L); simp at this; omega
      have h1 : (⟨w2.heap.size, 1, none⟩ : Addr).block < w2.heap.size + 1 := Nat.lt_succ_self _
      have h0 : (⟨w2.heap.size, 0, none⟩ : Addr).block < w2.heap.size + 1 := Nat.lt_succ_self _
      have hgo : g < w2.heap.size := by
        rcases HF.out.row with e | ⟨g', o', e, _, hg', hc⟩
        · exact absurd e hne
        · cases e; exact hg'
      have hgr : g < wr.heap.size := by omega
      have hgn : ¬ g = w2.heap.size := by omega
      cases hw : isW (n : Int) with
      | true =>
        obtain ⟨N, hNN⟩ : ∃ N, nW (bs.map Bd.L) = N := ⟨_, rfl⟩
        have HNN := hideP hNN
        rw [hNN] at hn0 hn1
        have BX := HF.out.box
        rw [hNN] at BX
        clear hNN
        have HBX := hideP BX
        obtain ⟨b0, b1, b2, b3, b4, b5, b6⟩ := BX
        go_wp2_with (first | (go_at_call 49; refine Calls.mono (sWrong (n : Int) _) ?_; rintro e w1 ⟨rfl, hw1⟩; subst w1; rw [hw]) | (at_builtin; refine wpList_appB rfl _ _ rfl (w2.heap.size + 1) so sc bs rfl (((HF.out.own.set _ _ h1).alloc _).alloc _) (wr.heap.size + 1) 1 ⟨some ⟨wr.heap.size, 0, none⟩, 0, 0, []⟩ rfl (new_cell _ (.slice (some ⟨wr.heap.size, 0, none⟩) 0 0) _ _ (by simp)) (by omega) (by simp; omega) ?_; intro so2 sc2 w5 O5 G5 K5; refine Hid.out ?_) | go_in)
        have F := HF.out
        have KA : Hid (Below w2.heap.size wr w5) := hideP (Below.trans ((((Below.refl _ wr).setCell (p := ⟨w2.heap.size, 1, none⟩) (Nat.le_refl _) _).alloc (by simp; omega) _).alloc (by simp; omega) _) (K5.mono (by omega)))
        have X5 := (((HBX.out.put1 (.int .i64 (N + 1))).keep (kalF _ _) (by simpa using hz)).keep (kalF _ _) (by simp; omega)).keep K5 (Nat.lt_succ_self _)
        have Y5 := hideP (F.res.keep KA.out n2)
        have B5 : Hid (Bods w5 (w2.heap.size + 1) w5.heap.size bs) := hideP ((((F.bods.set ⟨w2.heap.size, 1, none⟩ (.int .i64 (N + 1)) h1).keep (kalF _ _) (by simp)).keep (kalF _ _) (by simp)).grown (((F.own.set ⟨w2.heap.size, 1, none⟩ (.int .i64 (N + 1)) h1).alloc _).alloc _) G5 |>.wide (Nat.le_refl _) (by have := K5.size; simp at this; omega))
        have O5' := hideP O5
        have W5 := hideP (F.row.keep KA.out (Nat.le_refl _))
        have HN : Hid (nW ((bs ++ [(⟨some ⟨wr.heap.size, 0, none⟩, 0, 0, []⟩ : Bd)]).map Bd.L) = N + 1) := hideP (by rw [List.map_append, ← HNN.out]; exact nW_snoc_nil _)
        have KK5 := hideP (F.keep.trans (KA.out.mono (by omega)))
        have n5 : w2.heap.size < w5.heap.size := X5.lt
        clear O5 G5 K5 F b0 b1 b2 b3 b4 b5 b6 HBX KA
        have XX := hideP X5
        obtain ⟨b0, b1, b2, b3, b4, b5, b6⟩ := X5
        refine hideP ?_
        go_wp2
        go_roundw
        case rel =>
          have hfs := far_set w5 ⟨w2.heap.size, 0, none⟩ (.slice so2 (bs.length + 1) sc2)
          refine ⟨j + 1, so2, sc2, bs ++ [⟨some ⟨wr.heap.size, 0, none⟩, 0, 0, []⟩], by go_num, ?_, ?_, ?_, ?_, ?_, ?_, ?_, ?_, ?_⟩
          · exact KK5.out.setCell (by show w.heap.size ≤ w2.heap.size; omega) _
          · exact Y5.out.far hfs (.inl n2)
          · have := XX.out.put0 (.slice so2 (bs.length + 1) sc2)
            rw [HN.out]
            simpa using this
          · exact W5.out.far hfs (.inl (Nat.le_refl _)) (by omega)
          · exact O5'.out.set ⟨w2.heap.size, 0, none⟩ _ h0
          · exact ((B5.out.snoc (Bd.on_nil _ _ rfl) (fun e => absurd rfl e) (Nat.le_refl _)).set ⟨w2.heap.size, 0, none⟩ _ h0).wide (Nat.le_refl _) (by simp)
          · rw [List.map_append]; exact HM.out.wrong hw
          · omega
          · simp; omega
        case measure => simp [intOf]; omega
      | false =>
        have hnp : 1 ≤ n ∧ n ≤ 25 := by simp [isW] at hw; omega
        have hn25 : (n : Int) ≤ 25 := by omega
        by_cases hp : j + 1 + n ≤ A.length
        · have hp' : (j : Int) + 1 + (n : Int) ≤ (A.length : Int) := by omega
          have hfit : j + 1 + n ≤ cap2 := by omega
          have hwr1 : IntKind.i64.wrap ((j : Int) + 1) = (j : Int) + 1 := IntWalk.i64_in _ (by omega)
          have hwr2 : IntKind.i64.wrap ((j : Int) + 1 + (n : Int)) = (j : Int) + 1 + (n : Int) := IntWalk.i64_in _ (by omega)
          have HTL : Hid (((A.drop (j + 1)).take n).length = n) := hideP (by simp; omega)
          have HTne : Hid ((A.drop (j + 1)).take n ≠ []) := hideP (by intro e; have := HTL.out; rw [e] at this; simp at this; omega)
          have HRow : Hid (Row .u8 wr (w.heap.size + 1) w2.heap.size (some ⟨g, sOff o cap2 (j + 1), none⟩) ((A.drop (j + 1)).take n)) := hideP ((HF.out.row.from (j + 1) (cap := cap2) hroom).upto n)
          have HM2 : Hid (Mid A (bs.map Bd.L ++ [(A.drop (j + 1)).take n]) (A.drop (j + 1 + n))) := hideP (by
            have h := HM.out.whole hw (by rw [hTl.out]; omega)
            rw [List.drop_drop] at h
            exact h)
          have HN : Hid (∀ ao cap g, nW ((bs ++ [(⟨ao, cap, g, (A.drop (j + 1)).take n⟩ : Bd)]).map Bd.L) = nW (bs.map Bd.L)) := hideP (fun ao cap g => by
            rw [List.map_append]
            exact nW_snoc HTne.out)
          generalize (A.drop (j + 1)).take n = D at *
          obtain ⟨N, hNN⟩ : ∃ N, nW (bs.map Bd.L) = N := ⟨_, rfl⟩
          rw [hNN] at HN
          have BX := HF.out.box
          rw [hNN] at BX
          clear hNN hn0 hn1
          have HBX := hideP BX
          obtain ⟨b0, b1, b2, b3, b4, b5, b6⟩ := BX
          go_wp2_with (go_at_call 49; refine Calls.mono (sWrong (n : Int) _) ?_; rintro e w1 ⟨rfl, hw1⟩; subst w1; rw [hw])
          refine wp_region_made2 10 (by kernel_rfl) (by kernel_rfl) ?_
          simp only [List.take_succ_cons, List.take_zero, List.drop_succ_cons, List.drop_zero]
          repeat (refine grow_step (by rfl) ?_; apply Exists.intro; refine ⟨fun w1 k1 => ?_, fun K hK => ?_⟩; (focus (have hc := Kept.cell k1; go_simp; first | done | rfl)); (go_simp; refine hK _ ?_; clear hK K))
          refine grow_nil ?_
          intro o1 o2 ho1 ho2
          cases ho1
          cases ho2
          refine ⟨by rfl, fun w1 k1 => ?_⟩
          have kk1 := Kept.below k1
          have CP := sBytes_any _ _ (some ⟨g, sOff o cap2 (j + 1), none⟩) (cap2 - (j + 1)) D w1 (HRow.out.keep kk1 (by omega)) (by have := kk1.size; omega) (by rw [HTL.out]; omega)
          rw [HTL.out] at CP
          refine made_call (by go_simp; first | done | rfl) (CP.mono ?_)
          rintro e wm ⟨ao5, cap5, rfl, O5, k2⟩
          refine ⟨_, rfl, k2, by rfl, fun w3 k3 => ?_⟩
          have kk3 := Kept.below k3
          refine made_alloc (b := .cells #[.slice ao5 n cap5] 22) (by go_simp; first | done | rfl) ?_
          intro w5 k5
          have kk5 := Kept.below k5
          have F := HF.out
          have K3 : Below w1.heap.size w1 w3 := k2.trans (kk3.mono k2.size)
          have K5 : Hid (Below wr.heap.size wr w5) := hideP (kk1.trans (((K3.trans ((kalF w3 _).mono K3.size)).trans (kk5.mono (by have := K3.size; simp; omega))).mono kk1.size))
          have hO3 := (O5.keep kk3).keep (kalF w3 (.cells #[.slice ao5 n cap5] 22))
          have hO5 := hO3.keep kk5
          obtain ⟨gb, hon, hgb⟩ := Bd.of_own hO5
          have hC5 : Hid (w5.cell? ⟨w3.heap.size, 0, none⟩ = some (Bd.val ⟨ao5, cap5, gb, D⟩)) := hideP (by
            rw [kk5.cell (p := ⟨w3.heap.size, 0, none⟩) (by simp), new_cell _ _ _ _ rfl]
            unfold Bd.val
            rw [HTL.out])
          have own5 := hideP (F.own.keep K5.out)
          have bods5 : Hid (Bods w5 (w2.heap.size + 1) w5.heap.size (bs ++ [⟨ao5, cap5, gb, D⟩])) := hideP ((F.bods.keep K5.out (Nat.le_refl _)).snoc hon (fun e => ⟨Nat.le_trans kk1.size (hgb e).1, by have := (hgb e).1; have := kk1.size; show w2.heap.size + 1 ≤ gb; omega, (hgb e).2⟩) K5.out.size)
          have X5 := HBX.out.keep K5.out hz
          have Y5 := hideP (F.res.keep K5.out hzr)
          have W5 := hideP (F.row.keep K5.out (by omega))
          have KK5 := hideP (F.keep.trans (K5.out.mono (by omega)))
          have XX := hideP X5
          have n5 : wr.heap.size ≤ w5.heap.size := K5.out.size
          clear O5 hO3 hO5 hon hgb CP kk1 k1 kk3 k3 kk5 k5 k2 K3 F b0 b1 b2 b3 b4 b5 b6 HRow
          obtain ⟨b0, b1, b2, b3, b4, b5, b6⟩ := X5
          go_simp
          go_wp2_with (first | (at_builtin; refine wpList_appB rfl _ _ rfl (w2.heap.size + 1) so sc bs rfl own5.out w3.heap.size 1 ⟨ao5, cap5, gb, D⟩ rfl hC5.out (by omega) (by omega) ?_; intro so2 sc2 w6 O6 G6 K6; refine Hid.out ?_) | go_in)
          have B6 : Hid (Bods w6 (w2.heap.size + 1) w6.heap.size (bs ++ [⟨ao5, cap5, gb, D⟩])) := hideP ((bods5.out.grown own5.out G6).wide (Nat.le_refl _) K6.size)
          have O6' := hideP O6
          have X6 := XX.out.keep K6 (Nat.lt_succ_self _)
          have Y6 := hideP (Y5.out.keep K6 (by omega))
          have W6 := hideP (W5.out.keep K6 (by omega))
          have KK6 := hideP (KK5.out.trans (K6.mono (by omega)))
          have XX6 := hideP X6
          have n6 := K6.size
          clear O6 G6 K6 b0 b1 b2 b3 b4 b5 b6 own5 bods5 Y5 W5 KK5 XX hC5
          obtain ⟨b0, b1, b2, b3, b4, b5, b6⟩ := X6
          refine hideP ?_
          go_wp2
          go_roundw
          case rel =>
            have hfs := far_set w6 ⟨w2.heap.size, 0, none⟩ (.slice so2 (bs.length + 1) sc2)
            refine ⟨j + 1 + n, so2, sc2, bs ++ [⟨ao5, cap5, gb, D⟩], by go_num, ?_, ?_, ?_, ?_, ?_, ?_, ?_, ?_, ?_⟩
            · exact KK6.out.setCell (by show w.heap.size ≤ w2.heap.size; omega) _
            · exact Y6.out.far hfs (.inl n2)
            · have := XX6.out.put0 (.slice so2 (bs.length + 1) sc2)
              rw [HN.out]
              simpa using this
            · exact W6.out.far hfs (.inl (Nat.le_refl _)) (by omega)
            · exact O6'.out.set ⟨w2.heap.size, 0, none⟩ _ h0
            · exact (B6.out.set ⟨w2.heap.size, 0, none⟩ _ h0).wide (Nat.le_refl _) (by simp)
            · rw [List.map_append]; exact HM2.out
            · omega
            · simp; omega
          case measure => simp [intOf]; omega
        · have hp' : (A.length : Int) < (j : Int) + 1 + (n : Int) := by omega
          have CP := sBytes_any _ _ (some ⟨g, sOff o cap2 j, none⟩) (cap2 - j) (A.drop j) wr (HF.out.row.from j (cap := cap2) hroom) (by omega) (by simp; omega)
          rw [List.length_drop] at CP
          have CP' := hideP CP
          clear CP
          go_wp2_with (go_at_call 49; refine Calls.mono (sWrong (n : Int) _) ?_; rintro e w1 ⟨rfl, hw1⟩; subst w1; rw [hw])
          refine Calls.mono CP'.out ?_
          rintro e w5 ⟨ao5, cap5, rfl, O5, k5⟩
          have F := HF.out
          obtain ⟨gb, hon, hgb⟩ := Bd.of_own O5
          have X5 := F.box.keep k5 F.box.lt
          have Y5 := F.res.keep k5 F.res.lt
          have KK5 := hideP (F.keep.trans (k5.mono (by have := F.res.lt; omega)))
          have own5 := hideP (F.own.keep k5)
          have bods5 : Hid (Bods w5 (w2.heap.size + 1) w5.heap.size (bs ++ [⟨ao5, cap5, gb, A.drop j⟩])) := hideP ((F.bods.keep k5 (Nat.le_refl _)).snoc hon (fun e => ⟨(hgb e).1, by have := (hgb e).1; have := F.box.lt; show w2.heap.size + 1 ≤ gb; omega, (hgb e).2⟩) k5.size)
          have n5 : w2.heap.size < w5.heap.size := by have := F.box.lt; have := k5.size; omega
          clear O5 k5 hon hgb F hlt hlt' hp hc0
          obtain ⟨N, hN⟩ : ∃ N, nW (bs.map Bd.L) = N := ⟨_, rfl⟩
          rw [hN] at X5
          have HN := hideP hN
          clear hN
          obtain ⟨a0, a1, a2, a3, a4, a5, a6⟩ := Y5
          obtain ⟨b0, b1, b2, b3, b4, b5, b6⟩ := X5
          go_wp2
          refine bodyPost_ret (v := .agg #[.slice so bs.length sc, .int .i64 N, .slice ao5 (A.length - j) cap5]) (by simp [results, Try.results39, go_sem, *]) rfl ⟨so, sc, bs, ⟨ao5, cap5, gb, A.drop j⟩, by rw [HN.out]; simp, ?_⟩
          have hpb : (⟨w2.heap.size, 2, none⟩ : Addr).block < w2.heap.size + 1 := Nat.lt_succ_self _
          obtain ⟨q1, q2⟩ := fin3' (w := w) (w' := w5.setCell ⟨w2.heap.size, 2, none⟩ (.slice ao5 (A.length - j) cap5)) (B := w2.heap.size + 1) (KK5.out.setCell (by show w.heap.size ≤ w2.heap.size; omega) _) (by omega) (by simp; omega) (own5.out.set _ _ hpb) ((bods5.out.set _ _ hpb).wide (Nat.le_refl _) (by simp)) (.slice so bs.length sc) (.int .i64 N) (.slice ao5 (A.length - j) cap5)
          exact ⟨q1, by show cut A = (bs.map Bd.L, A.drop j); rw [HDr.out]; exact HM.out.part hw (by rw [hTl.out]; omega), q2⟩
    · have hlt' : ¬ (j : Int) < (A.length : Int) := by omega
      have hE : Hid (A.drop j = []) := hideP (by simp; omega)
      have CP := sBytes_any _ _ (some ⟨g, sOff o cap2 j, none⟩) (cap2 - j) (A.drop j) wr (HF.out.row.from j (cap := cap2) hroom) (by omega) (by simp; omega)
      rw [List.length_drop] at CP
      have CP' := hideP CP
      clear CP
      go_wp2_with fail
      refine Calls.mono CP'.out ?_
      rintro e w5 ⟨ao5, cap5, rfl, O5, k5⟩
      have F := HF.out
      obtain ⟨gb, hon, hgb⟩ := Bd.of_own O5
      have X5 := F.box.keep k5 F.box.lt
      have Y5 := F.res.keep k5 F.res.lt
      have KK5 := hideP (F.keep.trans (k5.mono (by have := F.res.lt; omega)))
      have own5 := hideP (F.own.keep k5)
      have bods5 : Hid (Bods w5 (w2.heap.size + 1) w5.heap.size (bs ++ [⟨ao5, cap5, gb, A.drop j⟩])) := hideP ((F.bods.keep k5 (Nat.le_refl _)).snoc hon (fun e => ⟨(hgb e).1, by have := (hgb e).1; have := F.box.lt; show w2.heap.size + 1 ≤ gb; omega, (hgb e).2⟩) k5.size)
      have n5 : w2.heap.size < w5.heap.size := by have := F.box.lt; have := k5.size; omega
      clear O5 k5 hon hgb F hlt
      obtain ⟨N, hN⟩ : ∃ N, nW (bs.map Bd.L) = N := ⟨_, rfl⟩
      rw [hN] at X5
      have HN := hideP hN
      clear hN
      obtain ⟨a0, a1, a2, a3, a4, a5, a6⟩ := Y5
      obtain ⟨b0, b1, b2, b3, b4, b5, b6⟩ := X5
      go_wp2
      refine bodyPost_ret (v := .agg #[.slice so bs.length sc, .int .i64 N, .slice ao5 (A.length - j) cap5]) (by simp [results, Try.results39, go_sem, *]) rfl ⟨so, sc, bs, ⟨ao5, cap5, gb, A.drop j⟩, by rw [HN.out]; simp, ?_⟩
      have hpb : (⟨w2.heap.size, 2, none⟩ : Addr).block < w2.heap.size + 1 := Nat.lt_succ_self _
      obtain ⟨q1, q2⟩ := fin3' (w := w) (w' := w5.setCell ⟨w2.heap.size, 2, none⟩ (.slice ao5 (A.length - j) cap5)) (B := w2.heap.size + 1) (KK5.out.setCell (by show w.heap.size ≤ w2.heap.size; omega) _) (by omega) (by simp; omega) (own5.out.set _ _ hpb) ((bods5.out.set _ _ hpb).wide (Nat.le_refl _) (by simp)) (.slice so bs.length sc) (.int .i64 N) (.slice ao5 (A.length - j) cap5)
      exact ⟨q1, by have h := HF.out.mid; show cut A = (bs.map Bd.L, A.drop j); rw [hE.out] at h ⊢; exact h.done, q2⟩

theorem drop_len0 (j : Nat) : ([] : List Int).drop j = [] := by simp

set_option maxRecDepth 100000 in
set_option maxHeartbeats 2000000 in
theorem sl4_none (ao bo : Option Addr) (ca cb : Nat) (w : World) :
    Calls Try.prog 39 #[.slice ao 0 ca, .slice bo 0 cb] w (CutAns w []) := by
  have HN : ∀ (ao : Option Addr) (w : World), Row .u8 w 0 0 ao [] := fun _ _ => .inl rfl
  have CB := fun ao ca w => sBytes_any 0 0 ao ca [] w (HN ao w) (Nat.zero_le _) (by simp)
  have CB' := hideP CB
  clear CB
  go_enter Try.func39, Try.ntmps39
  go_wp2_with fail
  refine Calls.mono (CB'.out ao ca _) ?_
  rintro e w1 ⟨ao1, cap1, rfl, O1, k1⟩
  have K1 : Hid (Below w.heap.size w w1) := hideP (Below.trans (by go_grown) (k1.mono (by simp)))
  have R1 : Hid (R3 w1 w.heap.size (.slice none 0 0) (.int .i64 0) (.slice none 0 0)) := hideP (R3.keep ⟨by simp, by simp, by simp, by simp, by simp, by simp, by simp⟩ k1 (by simp))
  have O1' : Hid (OwnR .u8 5 w1 (w.heap.size + 1) ao1 cap1 []) := hideP (O1.le (by simp))
  have S1 : Hid (SrcN .u8 w1 bo []) := hideP ((HN bo w1).src)
  have n1 := R1.out.lt
  clear O1 k1 HN
  go_wp2_with (first | (at_builtin; refine wpList_app (k := .u8) (T := 5) (S := 22) (bytes := 1) Try.underlying22 Try.infoB (by omega) rfl _ _ rfl (w.heap.size + 1) ao1 cap1 [] rfl O1'.out bo cb [] rfl S1.out (by simp) (by omega) ?_; rw [List.append_nil]; intro ao2 cap2 w2 O2 k2; refine Hid.out ?_) | go_in)
  have R2 := hideP (R1.out.keep k2 (Nat.lt_succ_self _))
  have K2 := hideP (K1.out.trans (k2.mono (by omega)))
  have n2 := R2.out.lt
  have hao : (ao2 = none ∧ cap2 = 0) ∨ ∃ g, ao2 = some ⟨g, 0, none⟩ := by
    rcases O2.2 with ⟨hx, _⟩ | ⟨g, c', cur, hx, _⟩
    · injection hx with h1 _ h2; exact .inl ⟨h1, h2⟩
    · injection hx with h1; exact .inr ⟨g, h1⟩
  clear O2 k2 R1 K1 O1' S1
  refine hideP ?_
  rcases hao with ⟨rfl, rfl⟩ | ⟨g, rfl⟩
  · go_wp2
    refine wp_loop_rounds 1 ?_
    rw [rounds_succ]
    go_wp2_with fail
    refine Calls.mono (CB'.out _ _ _) ?_
    rintro e w5 ⟨ao5, cap5, rfl, O5, k5⟩
    have Y5 := (R2.out.keep (kalF w2 _) n2).keep k5 (by simp; omega)
    have X5 : R3 w5 w2.heap.size (.slice none 0 0) (.int .i64 0) (.slice none 0 0) := R3.keep ⟨by simp, by simp, by simp, by simp, by simp, by simp, by simp⟩ k5 (by simp)
    have KK5 := hideP (K2.out.trans (((kalF w2 _).trans (k5.mono (by simp))).mono (by omega)))
    have n5 := X5.lt
    clear O5 k5
    obtain ⟨a0, a1, a2, a3, a4, a5, a6⟩ := Y5
    obtain ⟨b0, b1, b2, b3, b4, b5, b6⟩ := X5
    go_wp2
    refine bodyPost_ret (v := .agg #[.slice none 0 0, .int .i64 0, .slice ao5 0 cap5]) (by simp [results, Try.results39, go_sem, *]) rfl ⟨none, 0, [], ⟨ao5, cap5, 0, []⟩, rfl, ?_⟩
    have hpb : (⟨w2.heap.size, 2, none⟩ : Addr).block < w2.heap.size + 1 := Nat.lt_succ_self _
    obtain ⟨q1, q2⟩ := fin3' (w := w) (w' := w5.setCell ⟨w2.heap.size, 2, none⟩ (.slice ao5 0 cap5)) (B := w2.heap.size + 1) (r := ⟨ao5, cap5, 0, []⟩) (KK5.out.setCell (by show w.heap.size ≤ w2.heap.size; omega) _) (by omega) (by simp; omega) (OwnB.nil _ _) ((Bods.nil _ _ _).snoc (Bd.on_nil _ _ rfl) (fun e => absurd rfl e) (Nat.le_refl _)) (.slice none 0 0) (.int .i64 0) (.slice ao5 0 cap5)
    exact ⟨q1, cut_nil, q2⟩
  · go_wp2
    refine wp_loop_rounds 1 ?_
    rw [rounds_succ]
    go_wp2_with fail
    refine Calls.mono (CB'.out _ _ _) ?_
    rintro e w5 ⟨ao5, cap5, rfl, O5, k5⟩
    have Y5 := (R2.out.keep (kalF w2 _) n2).keep k5 (by simp; omega)
    have X5 : R3 w5 w2.heap.size (.slice none 0 0) (.int .i64 0) (.slice none 0 0) := R3.keep ⟨by simp, by simp, by simp, by simp, by simp, by simp, by simp⟩ k5 (by simp)
    have KK5 := hideP (K2.out.trans (((kalF w2 _).trans (k5.mono (by simp))).mono (by omega)))
    have n5 := X5.lt
    clear O5 k5
    obtain ⟨a0, a1, a2, a3, a4, a5, a6⟩ := Y5
    obtain ⟨b0, b1, b2, b3, b4, b5, b6⟩ := X5
    go_wp2
    refine bodyPost_ret (v := .agg #[.slice none 0 0, .int .i64 0, .slice ao5 0 cap5]) (by simp [results, Try.results39, go_sem, *]) rfl ⟨none, 0, [], ⟨ao5, cap5, 0, []⟩, rfl, ?_⟩
    have hpb : (⟨w2.heap.size, 2, none⟩ : Addr).block < w2.heap.size + 1 := Nat.lt_succ_self _
    obtain ⟨q1, q2⟩ := fin3' (w := w) (w' := w5.setCell ⟨w2.heap.size, 2, none⟩ (.slice ao5 0 cap5)) (B := w2.heap.size + 1) (r := ⟨ao5, cap5, 0, []⟩) (KK5.out.setCell (by show w.heap.size ≤ w2.heap.size; omega) _) (by omega) (by simp; omega) (OwnB.nil _ _) ((Bods.nil _ _ _).snoc (Bd.on_nil _ _ rfl) (fun e => absurd rfl e) (Nat.le_refl _)) (.slice none 0 0) (.int .i64 0) (.slice ao5 0 cap5)
    exact ⟨q1, cut_nil, q2⟩

/-- The model's cutting at every pair of slices that are not too long. -/
theorem sl4_any (lo hi : Nat) (ao bo : Option Addr) (ca cb : Nat) (L M : List Int) (w : World) (hL : Row .u8 w lo hi ao L) (hM : Row .u8 w lo hi bo M) (hs : hi ≤ w.heap.size) (hB : byts L) (hB2 : byts M) (h1 : L.length ≤ 300) (h2 : M.length ≤ 300) :
    Calls Try.prog 39 #[.slice ao L.length ca, .slice bo M.length cb] w (CutAns w (L ++ M)) := by
  by_cases e : L ++ M = []
  · obtain ⟨rfl, rfl⟩ := List.append_eq_nil_iff.1 e
    exact sl4_none ao bo ca cb w
  · exact sl4_some lo hi ao bo ca cb L M (L ++ M) w hL hM hs hB hB2 h1 h2 rfl e

end Go.Proofs.Ytgjbjafodkiilaa
