/- Frames cut by the program: the machine's walk. -/
import Derived.Test.YtgjbjafodkiilaaTj21
namespace Go.Proofs.Ytgjbjafodkiilaa
open Go.RowKit
set_option linter.unusedVariables false
attribute [local go_sem high] sl_from sl_upto sl_both
attribute [local go_sem 20000] sl_frame sl_tail
attribute [local go_sem] growUpon growAt

theorem begins' (n : Nat) (x : Int) (h : ¬ (n : Int) < x) : decide (x < ((n + 1 : Nat) : Int)) = true := by simp; omega
theorem begins'' (n : Nat) (x : Int) (h : (n : Int) < x) : decide (x < ((n + 1 : Nat) : Int)) = false := by simp; omega

set_option maxRecDepth 100000 in
set_option maxHeartbeats 4000000 in
theorem frames_some (lo hi g o ca : Nat) (A : List Int) (w : World) (hR : Row .u8 w lo hi (some ⟨g, o, none⟩) A) (hs : hi ≤ w.heap.size) (hc : A.length ≤ ca) (hB : byts A) (hl : A.length ≤ 1000) (hne : A ≠ []) :
    Calls Try.prog 24 #[.slice (some ⟨g, o, none⟩) A.length ca] w (CutAns w A) := by
  have HR := hideP hR
  have HB := hideP hB
  clear hR hB
  go_enter Try.func24, Try.ntmps24
  go_wp2
  refine wp_scope_three (FJ w lo hi A) Fmu rfl rfl rfl ?_ ?_ ?_ ?_ ?_
  · rintro l a w' ⟨S, g, o, cap, so, sc, bs, _, _, h | h | h⟩
    · exact .inl h
    · exact .inr (.inl h.1)
    · exact .inr (.inr h.1)
  · intro P0
    have HP := hideP P0
    clear P0
    go_wp2
    go_step3
    rename_i K hK
    refine hK _ _ (Hid.out HP _ _ ⟨A, g, o, ca, none, 0, [], ⟨_, _, _, _, _, _, _, _, _, _, _, _, _, _, _, _, _, _, _, _, _, _, _, _, _, _, _, _, _, _, _, _, _, _, _, _, _, _, _, _, _, _, _, rfl⟩, ⟨by go_grown, ⟨by simp, by simp, by simp, by simp, by simp, by simp, by simp; omega⟩, ⟨by simp, by simp [nW], by simp, by simp, by simp, by simp, by simp⟩, HR.out.keep (B := w.heap.size) (by go_grown) hs, hc, HB.out, OwnB.nil _ _, Bods.nil _ _ _, Mid.start A, by simp⟩, .inl rfl⟩)
  · rintro a w' ⟨S, g, o, cap, so, sc, bs, ⟨u4, u5, u6, u7, u8, u9, u10, u11, u12, u13, u14, u15, u16, u17, u18, u19, u20, u21, u22, u23, u24, u25, u26, u27, u28, u29, u30, u31, u32, u33, u34, u35, u36, u37, u38, u39, u40, u41, u42, u43, u44, u45, u46, rfl⟩, F, -⟩
    have HF := hideP F
    clear F HR HB
    have hlen := HF.out.len
    cases S with
    | nil =>
      obtain ⟨a0, a1, a2, a3, a4, a5, a6⟩ := HF.out.res
      obtain ⟨b0, b1, b2, b3, b4, b5, b6⟩ := HF.out.box
      go_wp2
      rw [toAny_ret]
      refine bodyPost_ret (v := .agg #[.slice so bs.length sc, .int .i64 (nW (bs.map Bd.L)), .slice none 0 0]) (by simp [results, Try.results24, go_sem, *]) rfl ⟨so, sc, bs, ⟨none, 0, 0, []⟩, rfl, ?_⟩
      have F := HF.out
      obtain ⟨h1, h2⟩ := fin3 (r := ⟨none, 0, 0, []⟩) F.keep (by have := F.box.lt; omega) F.own (F.bods.snoc (Bd.on_nil _ _ rfl) (fun e => absurd rfl e) (Nat.le_refl _)) (.slice so bs.length sc) (.int .i64 (nW (bs.map Bd.L))) (.slice none 0 0)
      exact ⟨h1, F.mid.done, h2⟩
    | cons x T =>
      obtain ⟨g', o', e, _, _, hc0⟩ := HF.out.row.head
      cases e
      have hx := HF.out.by_ 0 (by simp)
      simp only [List.getElem_cons_zero] at hx
      obtain ⟨x0, x1⟩ := hx
      simp only [List.length_cons] at hlen
      have hl' : (T.length : Int) ≤ 1000 := by omega
      have hl2 : ((T.length : Int) + 1 == 0) = false := by simp; omega
      cases hw : isW x with
      | true =>
        go_wp2_with (go_at_call 44; refine Calls.mono (iWrong x _) ?_; rintro e w1 ⟨rfl, hw1⟩; subst w1; rw [hw])
        go_step3
        show FJ w lo hi A 1 _ _ ∧ Fmu 1 _ _ < Fmu 0 _ _
        exact ⟨⟨x :: T, g, o, cap, so, sc, bs, ⟨_, _, _, _, _, _, _, _, _, _, _, _, _, _, _, _, _, _, _, _, _, _, _, _, _, _, _, _, _, _, _, _, _, _, _, _, _, _, _, _, _, _, _, rfl⟩, HF.out, .inr (.inl ⟨rfl, x, T, rfl, hw⟩)⟩, by simp [Fmu, lenSl]; omega⟩
      | false =>
        by_cases hp : (T.length : Int) < x
        · have HBe := hideP (iBegins g o cap x (T.length + 1) w' hc0 x0 x1 (by omega) (by omega))
          rw [begins'' _ _ hp] at HBe
          obtain ⟨b0, b1, b2, b3, b4, b5, b6⟩ := HF.out.box
          have HRow := hideP HF.out.row
          have hs' : Hid (hi ≤ w'.heap.size) := hideP (Nat.le_trans hs HF.out.keep.size)
          go_wp2_with (first | (go_at_call 44; refine Calls.mono (iWrong x _) ?_; rintro e w1 ⟨rfl, hw1⟩; subst w1; rw [hw]) | (go_at_call 45; refine Calls.mono HBe.out ?_; rintro e w1 ⟨rfl, hw1⟩; subst w1))
          refine Calls.mono (copy_any lo hi (some ⟨g, o, none⟩) cap (x :: T) _ HRow.out hs'.out (by simp; omega) (by simp)) ?_
          rintro e w2 ⟨rfl, O2, k2⟩
          clear b0 b1 b2 b3 b4 b5 b6
          have F := HF.out
          have hz := F.box.lt
          have R2 : R3 w2 w.heap.size (.slice none 0 0) (.int .i64 0) (.slice none 0 0) := F.res.keep k2 F.res.lt
          have X2 := F.box.keep k2 hz
          have own2 := hideP (F.own.keep k2)
          have bods2 : Hid (Bods w2 (w.heap.size + 1 + 1) w2.heap.size (bs ++ [⟨some ⟨w'.heap.size, 0, none⟩, (x :: T).length, w'.heap.size, x :: T⟩])) := by
            refine (F.bods.keep k2 (Nat.le_refl _)).snoc ⟨?_, fun _ => rfl, Nat.le_refl _⟩ ?_ k2.size
            · rcases O2.wrt with e | ⟨g1, o1, ha, h1, h2, hcc, hf⟩
              · cases e
              · cases ha
                exact .inr ⟨_, _, rfl, Nat.le_refl _, Nat.lt_succ_self _, hcc, hf⟩
            · intro _
              have := (World.ownsRow.lt O2 w'.heap.size rfl).2
              exact ⟨Nat.le_refl _, by show w.heap.size + 1 + 1 ≤ w'.heap.size; omega, this⟩
          have K2 : Hid (Below w.heap.size w w2) := hideP (F.keep.trans (k2.mono (by omega)))
          have hz2 : w.heap.size + 1 < w2.heap.size := by have := k2.size; omega
          obtain ⟨a0, a1, a2, a3, a4, a5, a6⟩ := R2
          obtain ⟨b0, b1, b2, b3, b4, b5, b6⟩ := X2
          clear O2 k2 HRow hs' F
          go_wp2
          rw [toAny_ret]
          refine bodyPost_ret (v := .agg #[.slice so bs.length sc, .int .i64 (nW (bs.map Bd.L)), .slice (some ⟨w'.heap.size, 0, none⟩) (T.length + 1) (T.length + 1)]) (by simp [results, Try.results24, go_sem, *]) rfl ⟨so, sc, bs, ⟨some ⟨w'.heap.size, 0, none⟩, (x :: T).length, w'.heap.size, x :: T⟩, rfl, ?_⟩
          have h0 : (⟨w.heap.size + 1, 2, none⟩ : Addr).block < w.heap.size + 1 + 1 := Nat.lt_succ_self _
          obtain ⟨h1, h2⟩ := fin3 (w := w) (w' := w2.setCell ⟨w.heap.size + 1, 2, none⟩ (.slice (some ⟨w'.heap.size, 0, none⟩) (T.length + 1) (T.length + 1))) (K2.out.setCell (by show w.heap.size ≤ w.heap.size + 1; omega) _) (by simp; omega) (own2.out.set _ _ h0) ((bods2.out.set _ _ h0).wide (Nat.le_refl _) (by simp)) (.slice so bs.length sc) (.int .i64 (nW (bs.map Bd.L))) (.slice (some ⟨w'.heap.size, 0, none⟩) (T.length + 1) (T.length + 1))
          exact ⟨h1, HF.out.mid.part hw hp, h2⟩
        · have HBe := hideP (iBegins g o cap x (T.length + 1) w' hc0 x0 x1 (by omega) (by omega))
          rw [begins' _ _ hp] at HBe
          go_wp2_with (first | (go_at_call 44; refine Calls.mono (iWrong x _) ?_; rintro e w1 ⟨rfl, hw1⟩; subst w1; rw [hw]) | (go_at_call 45; refine Calls.mono HBe.out ?_; rintro e w1 ⟨rfl, hw1⟩; subst w1))
          go_step3
          show FJ w lo hi A 2 _ _ ∧ Fmu 2 _ _ < Fmu 0 _ _
          exact ⟨⟨x :: T, g, o, cap, so, sc, bs, ⟨_, _, _, _, _, _, _, _, _, _, _, _, _, _, _, _, _, _, _, _, _, _, _, _, _, _, _, _, _, _, _, _, _, _, _, _, _, _, _, _, _, _, _, rfl⟩, HF.out, .inr (.inr ⟨rfl, x, T, rfl, hw, by omega⟩)⟩, by simp [Fmu, lenSl]; omega⟩
  · rintro a w' ⟨S, g, o, cap, so, sc, bs, ⟨u4, u5, u6, u7, u8, u9, u10, u11, u12, u13, u14, u15, u16, u17, u18, u19, u20, u21, u22, u23, u24, u25, u26, u27, u28, u29, u30, u31, u32, u33, u34, u35, u36, u37, u38, u39, u40, u41, u42, u43, u44, u45, u46, rfl⟩, F, h⟩
    rcases h with h | ⟨_, x, T, rfl, hw⟩ | ⟨h, _⟩
    · cases h
    rotate_left
    · cases h
    have HF := hideP F
    clear F HR HB
    have hlen := HF.out.len
    simp only [List.length_cons] at hlen
    have hcp := HF.out.cap
    simp only [List.length_cons] at hcp
    have hl' : (T.length : Int) ≤ 1000 := by omega
    have hn0 := nW_nonneg (bs.map Bd.L)
    have hn1 : nW (bs.map Bd.L) ≤ 1000 := by have := nW_le (bs.map Bd.L); simp at this; omega
    have hz := HF.out.box.lt
    have hz0 : w.heap.size < w'.heap.size := by omega
    have HN : Hid (nW ((bs ++ [(⟨none, 0, 0, []⟩ : Bd)]).map Bd.L) = nW (bs.map Bd.L) + 1) := hideP (by rw [List.map_append]; exact nW_snoc_nil _)
    obtain ⟨a0, a1, a2, a3, a4, a5, a6⟩ := HF.out.res
    obtain ⟨b0, b1, b2, b3, b4, b5, b6⟩ := HF.out.box
    generalize nW (bs.map Bd.L) = N at *
    have h1 : (⟨w.heap.size + 1, 1, none⟩ : Addr).block < w.heap.size + 1 + 1 := Nat.lt_succ_self _
    have h0 : (⟨w.heap.size + 1, 0, none⟩ : Addr).block < w.heap.size + 1 + 1 := Nat.lt_succ_self _
    go_wp2_with (first | (at_builtin; refine wpList_appB rfl _ _ rfl (w.heap.size + 1 + 1) so sc bs rfl ((HF.out.own.set _ _ h1).alloc _) w'.heap.size 1 ⟨none, 0, 0, []⟩ rfl (new_cell _ (.slice none 0 0) _ _ (by simp)) (by omega) (by simp; omega) ?_; intro so2 sc2 w2 O2 G2 K2; refine Hid.out ?_) | go_in)
    have F := HF.out
    have KA : Hid (Below (w.heap.size + 1) w' w2) := hideP (Below.trans (((Below.refl _ w').setCell (p := ⟨w.heap.size + 1, 1, none⟩) (Nat.le_refl _) _).alloc (by simp; omega) _) (K2.mono (by omega)))
    have X2 := ((F.box.put1 (.int .i64 (N + 1))).keep (kalF _ _) (by simpa using hz)).keep K2 (Nat.lt_succ_self _)
    have Y2 := F.res.keep KA.out (Nat.lt_succ_self _)
    have B2 : Hid (Bods w2 (w.heap.size + 1 + 1) w2.heap.size bs) := hideP (((F.bods.set ⟨w.heap.size + 1, 1, none⟩ (.int .i64 (N + 1)) h1).keep (kalF _ _) (by simp)).grown ((F.own.set ⟨w.heap.size + 1, 1, none⟩ (.int .i64 (N + 1)) h1).alloc _) G2 |>.wide (Nat.le_refl _) (by have := K2.size; simp at this; omega))
    have O2' := hideP O2
    have W2 := hideP (F.row.keep KA.out (by omega))
    have n2 := K2.size
    simp only [World.size_alloc, World.size_setCell] at n2
    clear O2 G2 K2 F a0 a1 a2 a3 a4 a5 a6 b0 b1 b2 b3 b4 b5 b6
    have XX := hideP X2
    have YY := hideP Y2
    obtain ⟨b0, b1, b2, b3, b4, b5, b6⟩ := X2
    refine hideP ?_
    have hone : (1 : Int) ≤ (T.length : Int) + 1 := by omega
    go_wp2
    go_step3
    show FJ w lo hi A 0 _ _ ∧ Fmu 0 _ _ < Fmu 1 _ _
    have hfs := far_set w2 ⟨w.heap.size + 1, 0, none⟩ (.slice so2 (bs.length + 1) sc2)
    have hrow : Row .u8 w2 lo hi (some ⟨g, sOff o cap 1, none⟩) T := W2.out.from 1 (cap := cap) (by simpa using hcp)
    refine ⟨⟨T, g, sOff o cap 1, cap - 1, so2, sc2, bs ++ [⟨none, 0, 0, []⟩], ⟨_, _, _, _, _, _, _, _, _, _, _, _, _, _, _, _, _, _, _, _, _, _, _, _, _, _, _, _, _, _, _, _, _, _, _, _, _, _, _, _, _, _, _, rfl⟩, ⟨?_, ?_, ?_, ?_, ?_, ?_, ?_, ?_, ?_, ?_⟩, .inl rfl⟩, by simp [Fmu, lenSl]; omega⟩
    · exact (HF.out.keep.trans (KA.out.mono (by omega))).setCell (by show w.heap.size ≤ w.heap.size + 1; omega) _
    · exact YY.out.far hfs (.inl (Nat.lt_succ_self _))
    · have := XX.out.put0 (.slice so2 (bs.length + 1) sc2)
      rw [HN.out]
      simpa using this
    · exact hrow.far hfs (.inl (by show hi ≤ w.heap.size + 1; omega)) (by omega)
    · omega
    · exact byts_drop HF.out.by_ 1
    · exact O2'.out.set ⟨w.heap.size + 1, 0, none⟩ _ h0
    · exact ((B2.out.snoc (Bd.on_nil _ _ rfl) (fun e => absurd rfl e) (Nat.le_refl _)).set ⟨w.heap.size + 1, 0, none⟩ _ h0).wide (Nat.le_refl _) (by simp)
    · rw [List.map_append]; exact HF.out.mid.wrong hw
    · simp; omega
  · rintro a w' ⟨S, g, o, cap, so, sc, bs, ⟨u4, u5, u6, u7, u8, u9, u10, u11, u12, u13, u14, u15, u16, u17, u18, u19, u20, u21, u22, u23, u24, u25, u26, u27, u28, u29, u30, u31, u32, u33, u34, u35, u36, u37, u38, u39, u40, u41, u42, u43, u44, u45, u46, rfl⟩, F, h⟩
    rcases h with h | ⟨h, _⟩ | ⟨_, x, T, rfl, hw, hp⟩
    · cases h
    · cases h
    have HF := hideP F
    clear F HR HB
    have hx := HF.out.by_ 0 (by simp)
    simp only [List.getElem_cons_zero] at hx
    obtain ⟨n, rfl⟩ : ∃ n : Nat, x = n := ⟨x.toNat, by omega⟩
    obtain ⟨g', o', e, _, _, hc0⟩ := HF.out.row.head
    cases e
    have hlen := HF.out.len
    simp only [List.length_cons] at hlen
    have hcp := HF.out.cap
    simp only [List.length_cons] at hcp
    have hn1 : 1 ≤ n ∧ n ≤ 25 := by simp [isW] at hw; omega
    have hnT : n ≤ T.length := by omega
    have hn25 : (n : Int) ≤ 25 := by omega
    have hl' : (T.length : Int) ≤ 1000 := by omega
    have hz := HF.out.box.lt
    have hz0 : w.heap.size < w'.heap.size := by omega
    have hfit : n + 1 ≤ cap := by omega
    have hfit2 : n + 1 ≤ T.length + 1 := by omega
    have HTL : Hid ((T.take n).length = n) := hideP (by simp; omega)
    have HRow : Hid (Row .u8 w' lo hi (some ⟨g, sOff o cap 1, none⟩) (T.take n)) := hideP ((HF.out.row.from 1 (cap := cap) (by simpa using hcp)).upto n)
    obtain ⟨a0, a1, a2, a3, a4, a5, a6⟩ := HF.out.res
    obtain ⟨b0, b1, b2, b3, b4, b5, b6⟩ := HF.out.box
    have HM : Hid (Mid A (bs.map Bd.L ++ [T.take n]) (T.drop n)) := hideP (HF.out.mid.whole hw hp)
    have HN : Hid (∀ ao cap g, nW ((bs ++ [(⟨ao, cap, g, T.take n⟩ : Bd)]).map Bd.L) = nW (bs.map Bd.L)) := hideP (fun ao cap g => by
      rw [List.map_append]
      exact nW_snoc (by intro e; have e' : T.take n = [] := e; have := HTL.out; rw [e'] at this; simp at this; omega))
    clear hx hp hw
    obtain ⟨N, hNN⟩ : ∃ N, nW (bs.map Bd.L) = N := ⟨_, rfl⟩
    rw [hNN] at b1 HN
    have HNN := hideP hNN
    clear hNN
    go_wp2
    refine wp_region_made2 5 (by kernel_rfl) (by kernel_rfl) ?_
    simp only [List.take_succ_cons, List.take_zero, List.drop_succ_cons, List.drop_zero]
    repeat (refine grow_step (by rfl) ?_; apply Exists.intro; refine ⟨fun w1 k1 => ?_, fun K hK => ?_⟩; (focus (have hc := Kept.cell k1; go_simp; first | done | rfl)); (go_simp; refine hK _ ?_; clear hK K))
    refine grow_nil ?_
    intro o1 o2 ho1 ho2
    cases ho1
    cases ho2
    refine ⟨by rfl, fun w1 k1 => ?_⟩
    have kk1 := Kept.below k1
    have CP := copy_any lo hi (some ⟨g, sOff o cap 1, none⟩) (cap - 1) (T.take n) w1 (HRow.out.keep kk1 (by omega)) (by have := kk1.size; omega) (by rw [HTL.out]; omega) (by intro e; have := HTL.out; rw [e] at this; simp at this; omega)
    rw [HTL.out] at CP
    refine made_call (by go_simp; first | done | rfl) (CP.mono ?_)
    rintro e w2 ⟨rfl, O2, k2⟩
    refine ⟨_, rfl, k2, by rfl, fun w3 k3 => ?_⟩
    have kk3 := Kept.below k3
    refine made_alloc (b := .cells #[.slice (some ⟨w1.heap.size, 0, none⟩) n n] 22) (by go_simp; first | done | rfl) ?_
    intro w5 k5
    have kk5 := Kept.below k5
    have F := HF.out
    have K3 : Below w1.heap.size w1 w3 := k2.trans (kk3.mono k2.size)
    have K5 : Hid (Below w'.heap.size w' w5) := hideP (kk1.trans (((K3.trans ((kalF w3 _).mono K3.size)).trans (kk5.mono (by have := K3.size; simp; omega))).mono kk1.size))
    have hC5 : Hid (w5.cell? ⟨w3.heap.size, 0, none⟩ = some (Bd.val ⟨some ⟨w1.heap.size, 0, none⟩, n, w1.heap.size, T.take n⟩)) := hideP (by
      rw [kk5.cell (p := ⟨w3.heap.size, 0, none⟩) (by simp), new_cell _ _ _ _ rfl]
      unfold Bd.val
      rw [HTL.out])
    have hO3 := (O2.keep kk3).keep (kalF w3 (.cells #[.slice (some ⟨w1.heap.size, 0, none⟩) n n] 22))
    have hO5 := hO3.keep kk5
    have hon : Hid (Bd.on w5 ⟨some ⟨w1.heap.size, 0, none⟩, n, w1.heap.size, T.take n⟩) := hideP ⟨by
      rcases hO5.wrt with e | ⟨g1, o1, ha, h1, h2, hcc, hf⟩
      · exact .inl e
      · cases ha
        exact .inr ⟨_, _, rfl, Nat.le_refl _, Nat.lt_succ_self _, hcc, hf⟩, fun _ => rfl, by show (T.take n).length ≤ n; rw [HTL.out]; exact Nat.le_refl _⟩
    have hl5 : w1.heap.size < w5.heap.size := by
      have := kk5.size
      have := K3.size
      simp at *
      omega
    have own5 := hideP (F.own.keep K5.out)
    have bods5 : Hid (Bods w5 (w.heap.size + 1 + 1) w5.heap.size (bs ++ [⟨some ⟨w1.heap.size, 0, none⟩, n, w1.heap.size, T.take n⟩])) := hideP ((F.bods.keep K5.out (Nat.le_refl _)).snoc hon.out (fun _ => ⟨kk1.size, by have := kk1.size; show w.heap.size + 1 + 1 ≤ w1.heap.size; omega, hl5⟩) K5.out.size)
    have X5 := F.box.keep K5.out hz
    rw [HNN.out] at X5
    have Y5 := hideP (F.res.keep K5.out hz0)
    have W5 := hideP (F.row.keep K5.out (by omega))
    have KK5 := hideP (F.keep.trans (K5.out.mono (by omega)))
    have XX := hideP X5
    have n5 : w'.heap.size ≤ w5.heap.size := K5.out.size
    clear O2 hO3 hO5 hon CP kk1 k1 kk3 k3 kk5 k5 k2 K3 F a0 a1 a2 a3 a4 a5 a6 b0 b1 b2 b3 b4 b5 b6 HRow
    obtain ⟨b0, b1, b2, b3, b4, b5, b6⟩ := X5
    go_simp
    go_wp2_with (first | (at_builtin; refine wpList_appB rfl _ _ rfl (w.heap.size + 1 + 1) so sc bs rfl own5.out w3.heap.size 1 ⟨some ⟨w1.heap.size, 0, none⟩, n, w1.heap.size, T.take n⟩ rfl hC5.out (by omega) (by omega) ?_; intro so2 sc2 w6 O6 G6 K6; refine Hid.out ?_) | go_in)
    have B6 : Hid (Bods w6 (w.heap.size + 1 + 1) w6.heap.size (bs ++ [⟨some ⟨w1.heap.size, 0, none⟩, n, w1.heap.size, T.take n⟩])) := hideP ((bods5.out.grown own5.out G6).wide (Nat.le_refl _) K6.size)
    have O6' := hideP O6
    have X6 := XX.out.keep K6 (Nat.lt_succ_self _)
    have Y6 := hideP (Y5.out.keep K6 (by omega))
    have W6 := hideP (W5.out.keep K6 (by omega))
    have KK6 := hideP (KK5.out.trans (K6.mono (by omega)))
    have XX6 := hideP X6
    have n6 := K6.size
    clear O6 G6 K6 b0 b1 b2 b3 b4 b5 b6 own5 bods5 Y5 W5 KK5 XX hC5
    obtain ⟨b0, b1, b2, b3, b4, b5, b6⟩ := X6
    refine hideP ?_
    go_wp2
    go_step3
    have hTd : T.length - n = (T.drop n).length := by simp
    rw [hTd]
    show FJ w lo hi A 0 _ _ ∧ Fmu 0 _ _ < Fmu 2 _ _
    have hfs := far_set w6 ⟨w.heap.size + 1, 0, none⟩ (.slice so2 (bs.length + 1) sc2)
    have h0 : (⟨w.heap.size + 1, 0, none⟩ : Addr).block < w.heap.size + 1 + 1 := Nat.lt_succ_self _
    have hrow : Row .u8 w6 lo hi (some ⟨g, sOff o cap (n + 1), none⟩) (T.drop n) := W6.out.from (n + 1) (cap := cap) (by simpa using hcp)
    refine ⟨⟨T.drop n, g, sOff o cap (n + 1), cap - (n + 1), so2, sc2, bs ++ [⟨some ⟨w1.heap.size, 0, none⟩, n, w1.heap.size, T.take n⟩], ⟨_, _, _, _, _, _, _, _, _, _, _, _, _, _, _, _, _, _, _, _, _, _, _, _, _, _, _, _, _, _, _, _, _, _, _, _, _, _, _, _, _, _, _, rfl⟩, ⟨?_, ?_, ?_, ?_, ?_, ?_, ?_, ?_, ?_, ?_⟩, .inl rfl⟩, by simp [Fmu, lenSl]; omega⟩
    · exact KK6.out.setCell (by show w.heap.size ≤ w.heap.size + 1; omega) _
    · exact Y6.out.far hfs (.inl (Nat.lt_succ_self _))
    · have := XX6.out.put0 (.slice so2 (bs.length + 1) sc2)
      rw [HN.out]
      simpa using this
    · exact hrow.far hfs (.inl (by show hi ≤ w.heap.size + 1; omega)) (by omega)
    · simp; omega
    · exact byts_drop HF.out.by_ (n + 1)
    · exact O6'.out.set ⟨w.heap.size + 1, 0, none⟩ _ h0
    · exact (B6.out.set ⟨w.heap.size + 1, 0, none⟩ _ h0).wide (Nat.le_refl _) (by simp)
    · rw [List.map_append]; exact HM.out
    · simp; omega

set_option maxRecDepth 100000 in
set_option maxHeartbeats 1000000 in
theorem frames_none (ao : Option Addr) (ca : Nat) (w : World) :
    Calls Try.prog 24 #[.slice ao 0 ca] w (CutAns w []) := by
  go_enter Try.func24, Try.ntmps24
  go_wp2
  go_step3
  go_wp2
  go_step3
  go_wp2
  rw [Exit.noGoto_ret]
  refine bodyPost_ret (v := .agg #[.slice none 0 0, .int .i64 0, .slice none 0 0]) (by simp [results, Try.results24, go_sem, *]) rfl ⟨none, 0, [], ⟨none, 0, 0, []⟩, rfl, ?_, cut_nil, ⟨?_, Nat.le_refl _, (Bods.nil _ _ _).snoc (Bd.on_nil _ _ rfl) (fun e => absurd rfl e) (Nat.le_refl _), .inl rfl⟩⟩
  · go_grown
  · simp; omega

/-- The machine at every stream. -/
theorem frames_any (lo hi : Nat) (ao : Option Addr) (ca : Nat) (A : List Int) (w : World) (hR : Row .u8 w lo hi ao A) (hs : hi ≤ w.heap.size) (hc : A.length ≤ ca) (hB : byts A) (hl : A.length ≤ 1000) :
    Calls Try.prog 24 #[.slice ao A.length ca] w (CutAns w A) := by
  by_cases e : A = []
  · subst e; exact frames_none ao ca w
  · have h := hR
    rcases hR with h' | ⟨g, o, rfl, _⟩
    · exact absurd h' e
    · exact frames_some lo hi g o ca A w h hs hc hB hl e

end Go.Proofs.Ytgjbjafodkiilaa
