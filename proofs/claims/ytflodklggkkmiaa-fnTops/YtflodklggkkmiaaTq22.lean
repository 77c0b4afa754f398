/- RaiseWindow by the program. -/
import Derived.Test.YtflodklggkkmiaaTq21
import Derived.Test.YtflodklggkkmiaaTq9
namespace Go.Proofs.Ytflodklggkkmiaa
open Go.RowKit Go.Maps
set_option linter.unusedVariables false

theorem wp_of_calls {P : Program} {o : Oper} {a : Act} {w : World} {K : Act → World → Prop} {Q : Exit → Act → World → Prop} {f : FuncId} {args : Array Value} (h : (execOp a.eval o).run P w = .ok (.enter f args) w)
    (hc : Calls P f args w fun e w'' => ∃ v, e = .returned v ∧ K (a.put o.dst v) w'') : o.wp P a w K Q := by
  unfold Oper.wp
  rw [h]
  simp only [Oper.upon]
  exact hc.mono fun e w'' ⟨v, he, hk⟩ => by rw [he]; exact hk

def raiseP (C : List Wc) (id : Int) : List Wc := if askW C id = 0 then cutW id C ++ C.filter (fun c => c.i == id) else []
theorem raise_one {L X Y : List Wn} {r : Wn} {id : Int} (h : stF (L.map Wn.ct) = 0) (hf : Fst id L X r Y) : (L.map Wn.ct).filter (fun c => c.i == id) = [r.ct] := by
  have h1 : (X.map Wn.ct).filter (fun c => c.i == id) = [] := List.filter_eq_nil_iff.2 fun c hc => by
    obtain ⟨v, hv, rfl⟩ := List.mem_map.1 hc
    have := hf.no v hv
    simpa [Wn.ct] using this
  have h2 : (Y.map Wn.ct).filter (fun c => c.i == id) = [] := List.filter_eq_nil_iff.2 fun c hc => by
    obtain ⟨v, hv, rfl⟩ := List.mem_map.1 hc
    have := fst_once h hf v hv
    simpa [Wn.ct] using this
  have h3 : (r.ct.i == id) = true := by rw [show r.ct.i = r.i from rfl, hf.at']; simp
  rw [hf.eq, List.map_append, List.map_cons, List.filter_append, h1, List.filter_cons_of_pos (p := fun c : Wc => c.i == id) h3, h2]
  rfl
theorem raiseP_yes {L X Y : List Wn} {r : Wn} {id : Int} (h : stF (L.map Wn.ct) = 0) (hf : Fst id L X r Y) : raiseP (L.map Wn.ct) id = X.map Wn.ct ++ Y.map Wn.ct ++ [r.ct] := by
  unfold raiseP; rw [if_pos (askW_yes h hf), cutW_at hf, raise_one h hf]
theorem raiseP_no {C : List Wc} {id : Int} (h : askW C id ≠ 0) : raiseP C id = [] := by unfold raiseP; rw [if_neg h]
theorem cz_app (A B : List Wc) : cz (A ++ B) = cz A + cz B := by
  induction A with
  | nil => simp [cz]
  | cons c A ih => simp only [List.cons_append, cz, ih]; omega
theorem small_raise {L : List Wn} (id : Int) (h : L.length + wzs L ≤ 1048576) : ∀ N : List Wn, N.map Wn.ct = raiseP (L.map Wn.ct) id → N.length + wzs N ≤ 1048576 := by
  by_cases h0 : askW (L.map Wn.ct) id = 0
  · obtain ⟨hs, X, r, Y, hf⟩ : stF (L.map Wn.ct) = 0 ∧ ∃ X r Y, Fst id L X r Y := by
      have h1 : stF (L.map Wn.ct) = 0 := Classical.byContradiction fun h => absurd h0 (askW_ne (.inl h))
      exact ⟨h1, (fst_or id L).resolve_left fun h => absurd h0 (askW_ne (.inr h))⟩
    rw [raiseP_yes hs hf]
    refine small_of (L := L) ?_
    have e : wzs L = wzs X + (r.b.L.length + wzs Y) := by rw [hf.eq, wzs_app, wzs_cons]
    have e2 : L.length = X.length + (Y.length + 1) := by rw [hf.eq]; simp
    rw [cz_app, cz_app, cz_wzs, cz_wzs]
    have e3 : cz [r.ct] = r.b.L.length := rfl
    rw [e3]
    simp only [List.length_append, List.length_map, List.length_cons, List.length_nil]
    omega
  · rw [raiseP_no h0]
    exact small_of (L := L) (by simp [cz])

theorem Cut.front {u w w' : World} {lo hi g m : Nat} {N : List Wn} (h : Cut w w' lo hi g m N) (k : Below u.heap.size u w) : Cut u w' lo hi g m N := ⟨(Far.of_below k).trans h.far, h.sp, h.blk⟩
/-- Panes turned round, in a row of their own. -/
theorem Pan.turned {w w' : World} {lo hi g : Nat} {L N : List Wn} {so : Option Addr} {sc : Nat} (h : Pan w lo hi (some ⟨g, 0, none⟩) L) (f : Far g (g + 1) w w') (O : OwnV Wn.pals 60 w' lo so sc N) (hN : L.Perm N) : Pan w' lo w'.heap.size so N := by
  have hm : (L.map Wn.b).Perm (N.map Wn.b) := hN.map _
  have hsz := f.size
  have S := h.q.cis.perm hm
  have hty : ∀ b ∈ N.map Wn.b, b.ty w' := fun b hb hn => by
    have hne := h.q.ne g rfl b (hm.mem_iff.2 hb) hn
    obtain ⟨cs, fr, he⟩ := h.ty b (hm.mem_iff.2 hb) hn
    exact ⟨cs, fr, (f.block b.g (Array.getElem?_eq_some_iff.1 he).1 (by omega)).trans he⟩
  refine ⟨⟨Nat.le_trans h.q.le (Nat.le_trans h.q.hs hsz), Nat.le_refl _, ?_, O.sp pals7, fun g' hg b hb hn e => O.other paneNe (hty b hb) hn (by rw [e, hg]; rfl)⟩, hty⟩
  refine ⟨fun b hb => Ci.on_far (S.each b hb) f fun e => ⟨?_, Ci.lt (S.each b hb) e⟩, fun b hb e => ?_, S.apart⟩
  · have := h.q.ne g rfl b (hm.mem_iff.2 hb) e
    omega
  · have := S.inn b hb e
    have := h.q.hs
    omega

set_option maxRecDepth 100000 in
set_option maxHeartbeats 4000000 in
theorem iRaise_any (so : Option Addr) (sc : Nat) (L : List Wn) (id : Int) (w : World) (hL : Ws w 0 w.heap.size so L) (hn : L.length + wzs L ≤ 1048576) :
    Calls Try.prog 22 #[.slice so L.length sc, .int .i64 id] w (SAns (askW (L.map Wn.ct) id) 0 (raiseP (L.map Wn.ct) id) (raiseP (L.map Wn.ct) id).length w) := by
  by_cases hbad : ¬ stF (L.map Wn.ct) = 0 ∨ ∀ v ∈ L, v.i ≠ id
  · have AN := fun w1 (kk : Below w.heap.size w w1) => point_no 0 w.heap.size so sc L id w1 (hL.keep kk (Nat.le_refl _)) kk.size hn hbad
    have hne := askW_ne hbad
    rw [raiseP_no hne]
    obtain ⟨F, hF⟩ : ∃ F, askW (L.map Wn.ct) id = F := ⟨_, rfl⟩
    rw [hF] at AN hne ⊢
    have hne' : (F != 0) = true := by simpa using hne
    have AN' := hideP AN
    clear AN hL hbad hF hne
    go_enter Try.func22, Try.ntmps22
    go_wp2_with fail
    refine Calls.mono (AN'.out _ (by go_grown)) ?_
    rintro e w1 ⟨rfl, k1⟩
    have K1 : Hid (Below w.heap.size w w1) := hideP (Below.trans (by go_grown) (k1.mono (by simp)))
    have X1 : R3 w1 w.heap.size (.int .i64 0) (.int .i64 0) (.slice none 0 0) := R3.keep ⟨by simp, by simp, by simp, by simp, by simp⟩ k1 (by simp)
    clear k1
    obtain ⟨x0, x1, x2, x3, x4⟩ := X1
    go_wp2
    have K3 := (((K1.out.setCell (p := ⟨w.heap.size, 0, none⟩) (Nat.le_refl _) (.int .i64 F)).setCell (p := ⟨w.heap.size, 1, none⟩) (Nat.le_refl _) (.int .i64 0)).setCell (p := ⟨w.heap.size, 2, none⟩) (Nat.le_refl _) (.slice none 0 0))
    exact bodyPost_ret (v := .agg #[.int .i64 F, .int .i64 0, .slice none 0 0]) (by simp [results, Try.results22, go_sem, *]) rfl (sans_bad K3)
  · obtain ⟨h0, X, r, Y, hf⟩ : stF (L.map Wn.ct) = 0 ∧ ∃ X r Y, Fst id L X r Y := by
      have h1 : stF (L.map Wn.ct) = 0 := Classical.byContradiction fun h => hbad (.inl h)
      exact ⟨h1, (fst_or id L).resolve_left fun h => hbad (.inr h)⟩
    have AY := hideP (fun w1 (kk : Below w.heap.size w w1) => point_yes 0 w.heap.size so sc L X Y r id w1 (hL.keep kk (Nat.le_refl _)) kk.size hn h0 hf)
    rw [askW_yes h0 hf, raiseP_yes h0 hf]
    have hn' : (L.length : Int) ≤ 1048576 := by omega
    have HF := hideP hf
    have H0 := hideP h0
    clear hL hbad h0 hf
    go_enter Try.func22, Try.ntmps22
    go_wp2_with fail
    refine Calls.mono (AY.out _ (by go_grown)) ?_
    rintro e w1 ⟨g, c, X', Y', r', rfl, e1, e2, e3, LN, g1, g2, k1⟩
    have K1 : Hid (Below w.heap.size w w1) := hideP (Below.trans (by go_grown) (k1.mono (by simp)))
    have X1 : R3 w1 w.heap.size (.int .i64 0) (.int .i64 0) (.slice none 0 0) := R3.keep ⟨by simp, by simp, by simp, by simp, by simp⟩ k1 (by simp)
    have n1 := k1.size
    simp only [World.size_alloc] at g1 n1
    have PN : Pan w1 (w.heap.size + 1) w1.heap.size (some ⟨g, 0, none⟩) (X' ++ r' :: Y') := by have := LN.pan k1.size; simpa using this
    have hXX := lenW e1
    have hYY := lenW e3
    have hMl : (X' ++ r' :: Y').length = L.length := by rw [HF.out.eq]; simp [hXX, hYY]
    have hct : L.map Wn.ct = (X' ++ r' :: Y').map Wn.ct := by rw [HF.out.eq]; simp [e1, e2, e3]
    have hf' : Fst id (X' ++ r' :: Y') X' r' Y' := by
      refine ⟨rfl, ?_, fun v hv => ?_⟩
      · rw [← HF.out.at']; exact congrArg Wc.i e2
      · have hm : v.ct ∈ X.map Wn.ct := by rw [← e1]; exact List.mem_map_of_mem hv
        obtain ⟨u, hu, hue⟩ := List.mem_map.1 hm
        have h2 := HF.out.no u hu
        have h3 : u.i = v.i := congrArg Wc.i hue
        rw [← h3]
        exact h2
    have hN := keep_one (by rw [← hct]; exact H0.out) hf'
    obtain ⟨hb, hlc, hcm, _⟩ := LN.own.blk
    obtain ⟨_, hg0, _, _, hc, _⟩ := PN.q.cells
    cases hg0
    have hc' := hc.pane
    rw [hXX] at hc'
    obtain ⟨N, hNN⟩ : ∃ N, X' ++ Y' = N := ⟨_, rfl⟩
    rw [hNN] at hN
    have hNl : N.length + 1 = L.length := by rw [← hNN, ← hMl]; simp; omega
    have HCT : Hid ((N ++ [r']).map Wn.ct = X.map Wn.ct ++ Y.map Wn.ct ++ [r.ct]) := hideP (by rw [← hNN, List.map_append, List.map_append, e1, e3, ← e2]; rfl)
    have HPL : Hid ((X.map Wn.ct ++ Y.map Wn.ct ++ [r.ct]).length = L.length) := hideP (by rw [← hNl, ← hNN]; simp [hXX, hYY]; try omega)
    have HPM : Hid ((X' ++ r' :: Y').Perm (N ++ [r'])) := hideP (by
      rw [← hNN, List.append_assoc]
      exact (List.perm_append_left_iff X').2 (List.perm_append_singleton r' Y').symm)
    have HN := hideP hN
    have HML := hideP hMl
    obtain ⟨M, hM⟩ : ∃ M, X' ++ r' :: Y' = M := ⟨_, rfl⟩
    rw [hM] at HN HML HPM PN hlc
    rw [HML.out] at hlc
    have HPN := hideP PN
    have HB := hideP hb
    clear k1 LN e1 e2 e3 PN hb hN hf' hct HF AY H0 hMl hXX hYY hNN hM hc
    obtain ⟨ri, rx, ry, rp, rh, rm, ⟨ao, cap, gb, D⟩⟩ := r'
    simp only at hc'
    obtain ⟨a0, a1, a2, a3, a4, a5, a6⟩ := hc'
    go_wp2_with fail
    clear a0 a1 a2 a3 a4 a5 a6
    have ka := kalC w1 (.cells #[.int .i64 rx, .int .i64 ry, .int .i64 rp, .int .i64 rh, .int .i64 ri, .bool rm, .slice ao D.length cap] 60)
    have Z1 := r7_new w1 (.int .i64 rx) (.int .i64 ry) (.int .i64 rp) (.int .i64 rh) (.int .i64 ri) (.bool rm) (.slice ao D.length cap) 60
    have hsz : (w1.alloc (.cells #[.int .i64 rx, .int .i64 ry, .int .i64 rp, .int .i64 rh, .int .i64 ri, .bool rm, .slice ao D.length cap] 60)).heap.size = w1.heap.size + 1 := by simp
    generalize w1.alloc (.cells #[.int .i64 rx, .int .i64 ry, .int .i64 rp, .int .i64 rh, .int .i64 ri, .bool rm, .slice ao D.length cap] 60) = w2 at *
    refine wp_region_held (S := (fun W => R7 W w1.heap.size (.int .i64 rx) (.int .i64 ry) (.int .i64 rp) (.int .i64 rh) (.int .i64 ri) (.bool rm) (.slice ao D.length cap))) (by kernel_rfl) ?_
    show wpAnyH _ _ _ _ _ 10 (Array.replicate 10 false) _ (w2).drew
    generalize hQQ : (Exit.then _ _ : Exit → Act → World → Prop) = QQ
    have hQ : ∀ c a d v w, QQ (.panic c) (Act.put a d v) w → QQ (.panic c) a w := by
      subst hQQ
      intro c a d v w h
      cases d <;> exact h
    have kd : Below w2.heap.size w2 w2.drew := (Below.refl _ _).drew
    have S0 : R7 w2.drew w1.heap.size (.int .i64 rx) (.int .i64 ry) (.int .i64 rp) (.int .i64 rh) (.int .i64 ri) (.bool rm) (.slice ao D.length cap) := Z1.keep kd Z1.lt
    have hsd : w2.drew.heap.size = w1.heap.size + 1 := hsz
    have ku := ka.trans (kd.mono (by omega))
    have PU := hideP (HPN.out.keep ku)
    have BU := hideP (HB.out.keep ku)
    have KU := hideP (K1.out.trans (ku.mono (by omega)))
    have XU := hideP (X1.keep ku X1.lt)
    clear ka kd ku K1 X1 HPN HB hsz Z1
    generalize w2.drew = u at *
    refine held_take (i := 0) rfl (by kernel_rfl) (by kernel_rfl) (by kernel_rfl) hQ S0 (by rfl) ?_
    apply Exists.intro
    refine ⟨fun w1 k1 => ?_, fun K hK => ?_⟩
    · have hc := k1.lt
      go_simp
      first | done | rfl
    go_simp
    refine hK _ ?_
    clear hK K
    refine held_take (i := 1) rfl (by kernel_rfl) (by kernel_rfl) (by kernel_rfl) hQ S0 (by rfl) ?_
    apply Exists.intro
    refine ⟨fun w1 k1 => ?_, fun K hK => ?_⟩
    · have hc := k1.lt
      go_simp
      first | done | rfl
    go_simp
    refine hK _ ?_
    clear hK K
    refine held_take (i := 4) rfl (by kernel_rfl) (by kernel_rfl) (by kernel_rfl) hQ S0 (by rfl) ?_
    apply Exists.intro
    refine ⟨fun w1 k1 => ?_, fun K hK => ?_⟩
    · obtain ⟨y0, y1, y2, y3, y4, y5, y6, y7, y8⟩ := k1
      go_simp
      first | done | rfl
    go_simp
    refine hK _ ?_
    clear hK K
    have WO := hideP (fun (W : World) (k : Below u.heap.size u W) (b : Nat) (hR : Row .i64 W b (b + 1) (some ⟨b, 0, none⟩) [id]) (h1 : u.heap.size ≤ b) (h2 : b < W.heap.size) =>
      without_any (w.heap.size + 1) w1.heap.size b (b + 1) g (some ⟨b, 0, none⟩) 1 [id] c M L.length W hR (by omega) (by simp) (.inr (by omega)) (PU.out.keep k).q.sp (BU.out.keep k) (by omega) (by have := k.size; omega) g2 HML.out (by omega))
    rw [HN.out] at WO
    refine held_two (i := 2) (j := 5) rfl rfl (by kernel_rfl) (by rfl) (by rfl) ?_ ?_
    · refine wp_of_run (v := .slice (some ⟨u.heap.size, 0, none⟩) 1 1) (w' := u.alloc (.cells #[.int .i64 id] 2)) (by go_simp; first | done | rfl) ?_
      have k_ua := kalC u (.cells #[.int .i64 id] 2)
      have R25 : Row .i64 (u.alloc (.cells #[.int .i64 id] 2)) u.heap.size (u.heap.size + 1) (some ⟨u.heap.size, 0, none⟩) [id] := .inr ⟨u.heap.size, 0, rfl, Nat.le_refl _, Nat.lt_succ_self _, fun i hi => by
        have : i = 0 := by simpa using hi
        subst this
        simp⟩
      have z_ua : (u.alloc (.cells #[.int .i64 id] 2)).heap.size = u.heap.size + 1 := by simp
      have S0 := S0.keep k_ua S0.lt
      refine ⟨S0, ?_⟩
      refine norm_act fun K hK => ?_
      go_simp
      refine hK _ ?_
      clear hK K
      generalize u.alloc (.cells #[.int .i64 id] 2) = ua at *
      simp only [hsd] at R25
      refine held_two (i := 3) (j := 5) rfl rfl (by kernel_rfl) (by rfl) (by rfl) ?_ ?_
      · refine wp_of_calls (by go_simp; exact ⟨rfl, rfl⟩) ?_
        refine (WO.out ua k_ua _ (R25) (by omega) (by omega)).mono ?_
        rintro e w4 ⟨rfl, C_w4⟩
        refine ⟨_, rfl, ?_⟩
        have S0 := S0.far C_w4.far (by omega)
        have z_w4 := C_w4.far.size
        refine ⟨S0, ?_⟩
        refine norm_act fun K hK => ?_
        go_simp
        refine hK _ ?_
        clear hK K
        refine held_one (i := 5) rfl (by kernel_rfl) (by rfl) ?_
        refine wp_of_run (v := .slice (some ⟨w4.heap.size, 0, none⟩) 1 1) (w' := w4.alloc (.cells #[.int .i64 rx, .int .i64 ry, .int .i64 rp, .int .i64 rh, .int .i64 ri, .bool rm, .slice ao D.length cap] 60)) (by go_simp; first | done | rfl) ?_
        have k_W6 := kalC w4 (.cells #[.int .i64 rx, .int .i64 ry, .int .i64 rp, .int .i64 rh, .int .i64 ri, .bool rm, .slice ao D.length cap] 60)
        have DC : Cl Wn.pals (w4.alloc (.cells #[.int .i64 rx, .int .i64 ry, .int .i64 rp, .int .i64 rh, .int .i64 ri, .bool rm, .slice ao D.length cap] 60)) w4.heap.size 0 ⟨ri, rx, ry, rp, rh, rm, ⟨ao, cap, gb, D⟩⟩ := by
          have h := r7_new w4 (.int .i64 rx) (.int .i64 ry) (.int .i64 rp) (.int .i64 rh) (.int .i64 ri) (.bool rm) (.slice ao D.length cap) 60
          exact Cl.mkP ⟨h.c0, h.c1, h.c2, h.c3, h.c4, h.c5, h.c6⟩
        have z_W6 : (w4.alloc (.cells #[.int .i64 rx, .int .i64 ry, .int .i64 rp, .int .i64 rh, .int .i64 ri, .bool rm, .slice ao D.length cap] 60)).heap.size = w4.heap.size + 1 := by simp
        have S0 := S0.keep k_W6 S0.lt
        refine ⟨S0, ?_⟩
        refine norm_act fun K hK => ?_
        go_simp
        refine hK _ ?_
        clear hK K
        generalize w4.alloc (.cells #[.int .i64 rx, .int .i64 ry, .int .i64 rp, .int .i64 rh, .int .i64 ri, .bool rm, .slice ao D.length cap] 60) = W6 at *
        have CU := hideP ((C_w4.keep (by omega) k_W6).front k_ua)
        skip
        have OV : OwnV Wn.pals 60 W6 (w.heap.size + 1) (some ⟨g, 0, none⟩) c N := OwnV.of pals7 CU.out.blk (by omega) hcm g1 (by
          rcases CU.out.sp with h | ⟨g', ha, _, _, hc, _⟩
          · subst h; exact fun i hi => absurd hi (by simp)
          · cases ha; exact hc)
        refine held_one (i := 6) rfl (by kernel_rfl) (by rfl) ?_
        refine wp_appV (V := Wn.pals) (T := 60) pals7 pals1 Try.underlying66 Try.infoPn rfl _ _ rfl (w.heap.size + 1) (some ⟨g, 0, none⟩) c N rfl OV _ 1 ⟨ri, rx, ry, rp, rh, rm, ⟨ao, cap, gb, D⟩⟩ rfl DC (by omega) (by omega) ?_
        intro so7 sc7 w7 O7 G7 K7
        have f7 : Far g (g + 1) W6 w7 := ⟨G7.os, G7.tape, G7.output, G7.size, fun b hb hd => G7.block b hb (by intro e; simp only [Value.ownBlock, Option.some.injEq] at e; omega)⟩
        have S0 := S0.far f7 (by omega)
        refine ⟨S0, ?_⟩
        refine norm_act fun K hK => ?_
        go_simp
        refine hK _ ?_
        clear hK K
        have PT := PU.out.turned (CU.out.far.trans f7) O7 HPM.out
        have KW := KU.out.trans ((CU.out.far.trans f7).below (B := w.heap.size) (by omega) (by omega))
        have X7 := XU.out.far (CU.out.far.trans f7) (by omega)
        have SO := stackOf_any (w.heap.size + 1) w7.heap.size so7 sc7 (N ++ [(⟨ri, rx, ry, rp, rh, rm, ⟨ao, cap, gb, D⟩⟩ : Wn)]) w7 PT.q.sp (Nat.le_refl _) (by simp; omega)
        rw [List.length_append, show [(⟨ri, rx, ry, rp, rh, rm, ⟨ao, cap, gb, D⟩⟩ : Wn)].length = 1 from rfl, hNl] at SO
        refine held_one (i := 7) rfl (by kernel_rfl) (by rfl) ?_
        refine wp_of_calls (by go_simp; exact ⟨rfl, rfl⟩) ?_
        refine SO.mono ?_
        rintro e w8 ⟨s8, c8, rfl, O8, k8⟩
        refine ⟨_, rfl, ?_⟩
        have S0 := S0.keep k8 S0.lt
        refine ⟨S0, ?_⟩
        refine norm_act fun K hK => ?_
        go_simp
        refine hK _ ?_
        clear hK K
        have Q8 := PT.done k8 O8
        have K8 := KW.trans (k8.mono KW.size)
        have X8 := X7.keep k8 X7.lt
        obtain ⟨x0, x1, x2, x3, x4⟩ := X8
        refine held_one (i := 8) rfl (by kernel_rfl) (by rfl) ?_
        refine wp_of_run (v := .agg #[.int .i64 0, .int .i64 0, .slice s8 L.length c8]) (w' := w8) (by go_simp; first | done | rfl) ?_
        refine ⟨S0, ?_⟩
        refine norm_act fun K hK => ?_
        go_simp
        refine hK _ ?_
        clear hK K
        refine held_one (i := 9) rfl (by kernel_rfl) (by rfl) ?_
        refine wp_of_skip (w' := ((w8.setCell ⟨w.heap.size, 0, none⟩ (.int .i64 0)).setCell ⟨w.heap.size, 1, none⟩ (.int .i64 0)).setCell ⟨w.heap.size, 2, none⟩ (.slice s8 L.length c8)) (by go_simp; first | done | rfl) ?_
        have fs : ∀ (W : World) (o : Nat) (v : Value), Far w.heap.size (w.heap.size + 1) W (W.setCell ⟨w.heap.size, o, none⟩ v) := fun W o v => Far.of_set7 ⟨Nat.le_refl _, Nat.lt_succ_self _⟩
        have S0 := ((S0.far (fs _ 0 (.int .i64 0)) (by omega)).far (fs _ 1 (.int .i64 0)) (by omega)).far (fs _ 2 (.slice s8 L.length c8)) (by omega)
        refine ⟨S0, ?_⟩
        refine norm_act fun K hK => ?_
        go_simp
        refine hK _ ?_
        clear hK K
        refine wpAnyH_done (by kernel_rfl) ?_ _
        subst hQQ
        have K9 := ((K8.setCell (p := ⟨w.heap.size, 0, none⟩) (Nat.le_refl _) (.int .i64 0)).setCell (p := ⟨w.heap.size, 1, none⟩) (Nat.le_refl _) (.int .i64 0)).setCell (p := ⟨w.heap.size, 2, none⟩) (Nat.le_refl _) (.slice s8 L.length c8)
        have Q9 := (((Q8.set ⟨w.heap.size, 0, none⟩ (.int .i64 0) (Nat.lt_succ_self _)).set ⟨w.heap.size, 1, none⟩ (.int .i64 0) (Nat.lt_succ_self _)).set ⟨w.heap.size, 2, none⟩ (.slice s8 L.length c8) (Nat.lt_succ_self _)).wide (Nat.le_succ _) (Nat.le_refl _) (by simp)
        have hll : (N ++ [(⟨ri, rx, ry, rp, rh, rm, ⟨ao, cap, gb, D⟩⟩ : Wn)]).length = L.length := by simp; exact hNl
        clear S0 Q8 K8 fs O8 k8 SO PT KW X7 f7 K7 G7 O7 OV
        go_wp2
        refine bodyPost_ret (v := .agg #[.int .i64 0, .int .i64 0, .slice s8 L.length c8]) (by simp [results, Try.results22, go_sem, *]) rfl ⟨s8, c8, _, by rw [HPL.out], HCT.out, by rw [HPL.out]; exact hll, ?_, K9⟩
        simpa using Q9
      · refine wp_of_run (v := .slice (some ⟨ua.heap.size, 0, none⟩) 1 1) (w' := ua.alloc (.cells #[.int .i64 rx, .int .i64 ry, .int .i64 rp, .int .i64 rh, .int .i64 ri, .bool rm, .slice ao D.length cap] 60)) (by go_simp; first | done | rfl) ?_
        have k_w4 := kalC ua (.cells #[.int .i64 rx, .int .i64 ry, .int .i64 rp, .int .i64 rh, .int .i64 ri, .bool rm, .slice ao D.length cap] 60)
        have DC : Cl Wn.pals (ua.alloc (.cells #[.int .i64 rx, .int .i64 ry, .int .i64 rp, .int .i64 rh, .int .i64 ri, .bool rm, .slice ao D.length cap] 60)) ua.heap.size 0 ⟨ri, rx, ry, rp, rh, rm, ⟨ao, cap, gb, D⟩⟩ := by
          have h := r7_new ua (.int .i64 rx) (.int .i64 ry) (.int .i64 rp) (.int .i64 rh) (.int .i64 ri) (.bool rm) (.slice ao D.length cap) 60
          exact Cl.mkP ⟨h.c0, h.c1, h.c2, h.c3, h.c4, h.c5, h.c6⟩
        have z_w4 : (ua.alloc (.cells #[.int .i64 rx, .int .i64 ry, .int .i64 rp, .int .i64 rh, .int .i64 ri, .bool rm, .slice ao D.length cap] 60)).heap.size = ua.heap.size + 1 := by simp
        have S0 := S0.keep k_w4 S0.lt
        refine ⟨S0, ?_⟩
        refine norm_act fun K hK => ?_
        go_simp
        refine hK _ ?_
        clear hK K
        generalize ua.alloc (.cells #[.int .i64 rx, .int .i64 ry, .int .i64 rp, .int .i64 rh, .int .i64 ri, .bool rm, .slice ao D.length cap] 60) = w4 at *
        simp only [z_ua, hsd] at DC
        refine held_one (i := 3) rfl (by kernel_rfl) (by rfl) ?_
        refine wp_of_calls (by go_simp; exact ⟨rfl, rfl⟩) ?_
        refine (WO.out w4 (k_ua.trans (k_w4.mono k_ua.size)) _ (R25.keep k_w4 (by omega)) (by omega) (by omega)).mono ?_
        rintro e W6 ⟨rfl, C_W6⟩
        refine ⟨_, rfl, ?_⟩
        have S0 := S0.far C_W6.far (by omega)
        have z_W6 := C_W6.far.size
        refine ⟨S0, ?_⟩
        refine norm_act fun K hK => ?_
        go_simp
        refine hK _ ?_
        clear hK K
        have CU := hideP (C_W6.front (k_ua.trans (k_w4.mono k_ua.size)))
        have DC := DC.far C_W6.far (by omega) (by omega)
        skip
        have OV : OwnV Wn.pals 60 W6 (w.heap.size + 1) (some ⟨g, 0, none⟩) c N := OwnV.of pals7 CU.out.blk (by omega) hcm g1 (by
          rcases CU.out.sp with h | ⟨g', ha, _, _, hc, _⟩
          · subst h; exact fun i hi => absurd hi (by simp)
          · cases ha; exact hc)
        refine held_one (i := 6) rfl (by kernel_rfl) (by rfl) ?_
        refine wp_appV (V := Wn.pals) (T := 60) pals7 pals1 Try.underlying66 Try.infoPn rfl _ _ rfl (w.heap.size + 1) (some ⟨g, 0, none⟩) c N rfl OV _ 1 ⟨ri, rx, ry, rp, rh, rm, ⟨ao, cap, gb, D⟩⟩ rfl DC (by omega) (by omega) ?_
        intro so7 sc7 w7 O7 G7 K7
        have f7 : Far g (g + 1) W6 w7 := ⟨G7.os, G7.tape, G7.output, G7.size, fun b hb hd => G7.block b hb (by intro e; simp only [Value.ownBlock, Option.some.injEq] at e; omega)⟩
        have S0 := S0.far f7 (by omega)
        refine ⟨S0, ?_⟩
        refine norm_act fun K hK => ?_
        go_simp
        refine hK _ ?_
        clear hK K
        have PT := PU.out.turned (CU.out.far.trans f7) O7 HPM.out
        have KW := KU.out.trans ((CU.out.far.trans f7).below (B := w.heap.size) (by omega) (by omega))
        have X7 := XU.out.far (CU.out.far.trans f7) (by omega)
        have SO := stackOf_any (w.heap.size + 1) w7.heap.size so7 sc7 (N ++ [(⟨ri, rx, ry, rp, rh, rm, ⟨ao, cap, gb, D⟩⟩ : Wn)]) w7 PT.q.sp (Nat.le_refl _) (by simp; omega)
        rw [List.length_append, show [(⟨ri, rx, ry, rp, rh, rm, ⟨ao, cap, gb, D⟩⟩ : Wn)].length = 1 from rfl, hNl] at SO
        refine held_one (i := 7) rfl (by kernel_rfl) (by rfl) ?_
        refine wp_of_calls (by go_simp; exact ⟨rfl, rfl⟩) ?_
        refine SO.mono ?_
        rintro e w8 ⟨s8, c8, rfl, O8, k8⟩
        refine ⟨_, rfl, ?_⟩
        have S0 := S0.keep k8 S0.lt
        refine ⟨S0, ?_⟩
        refine norm_act fun K hK => ?_
        go_simp
        refine hK _ ?_
        clear hK K
        have Q8 := PT.done k8 O8
        have K8 := KW.trans (k8.mono KW.size)
        have X8 := X7.keep k8 X7.lt
        obtain ⟨x0, x1, x2, x3, x4⟩ := X8
        refine held_one (i := 8) rfl (by kernel_rfl) (by rfl) ?_
        refine wp_of_run (v := .agg #[.int .i64 0, .int .i64 0, .slice s8 L.length c8]) (w' := w8) (by go_simp; first | done | rfl) ?_
        refine ⟨S0, ?_⟩
        refine norm_act fun K hK => ?_
        go_simp
        refine hK _ ?_
        clear hK K
        refine held_one (i := 9) rfl (by kernel_rfl) (by rfl) ?_
        refine wp_of_skip (w' := ((w8.setCell ⟨w.heap.size, 0, none⟩ (.int .i64 0)).setCell ⟨w.heap.size, 1, none⟩ (.int .i64 0)).setCell ⟨w.heap.size, 2, none⟩ (.slice s8 L.length c8)) (by go_simp; first | done | rfl) ?_
        have fs : ∀ (W : World) (o : Nat) (v : Value), Far w.heap.size (w.heap.size + 1) W (W.setCell ⟨w.heap.size, o, none⟩ v) := fun W o v => Far.of_set7 ⟨Nat.le_refl _, Nat.lt_succ_self _⟩
        have S0 := ((S0.far (fs _ 0 (.int .i64 0)) (by omega)).far (fs _ 1 (.int .i64 0)) (by omega)).far (fs _ 2 (.slice s8 L.length c8)) (by omega)
        refine ⟨S0, ?_⟩
        refine norm_act fun K hK => ?_
        go_simp
        refine hK _ ?_
        clear hK K
        refine wpAnyH_done (by kernel_rfl) ?_ _
        subst hQQ
        have K9 := ((K8.setCell (p := ⟨w.heap.size, 0, none⟩) (Nat.le_refl _) (.int .i64 0)).setCell (p := ⟨w.heap.size, 1, none⟩) (Nat.le_refl _) (.int .i64 0)).setCell (p := ⟨w.heap.size, 2, none⟩) (Nat.le_refl _) (.slice s8 L.length c8)
        have Q9 := (((Q8.set ⟨w.heap.size, 0, none⟩ (.int .i64 0) (Nat.lt_succ_self _)).set ⟨w.heap.size, 1, none⟩ (.int .i64 0) (Nat.lt_succ_self _)).set ⟨w.heap.size, 2, none⟩ (.slice s8 L.length c8) (Nat.lt_succ_self _)).wide (Nat.le_succ _) (Nat.le_refl _) (by simp)
        have hll : (N ++ [(⟨ri, rx, ry, rp, rh, rm, ⟨ao, cap, gb, D⟩⟩ : Wn)]).length = L.length := by simp; exact hNl
        clear S0 Q8 K8 fs O8 k8 SO PT KW X7 f7 K7 G7 O7 OV
        go_wp2
        refine bodyPost_ret (v := .agg #[.int .i64 0, .int .i64 0, .slice s8 L.length c8]) (by simp [results, Try.results22, go_sem, *]) rfl ⟨s8, c8, _, by rw [HPL.out], HCT.out, by rw [HPL.out]; exact hll, ?_, K9⟩
        simpa using Q9
    · refine wp_of_run (v := .slice (some ⟨u.heap.size, 0, none⟩) 1 1) (w' := u.alloc (.cells #[.int .i64 rx, .int .i64 ry, .int .i64 rp, .int .i64 rh, .int .i64 ri, .bool rm, .slice ao D.length cap] 60)) (by go_simp; first | done | rfl) ?_
      have k_ub := kalC u (.cells #[.int .i64 rx, .int .i64 ry, .int .i64 rp, .int .i64 rh, .int .i64 ri, .bool rm, .slice ao D.length cap] 60)
      have DC : Cl Wn.pals (u.alloc (.cells #[.int .i64 rx, .int .i64 ry, .int .i64 rp, .int .i64 rh, .int .i64 ri, .bool rm, .slice ao D.length cap] 60)) u.heap.size 0 ⟨ri, rx, ry, rp, rh, rm, ⟨ao, cap, gb, D⟩⟩ := by
        have h := r7_new u (.int .i64 rx) (.int .i64 ry) (.int .i64 rp) (.int .i64 rh) (.int .i64 ri) (.bool rm) (.slice ao D.length cap) 60
        exact Cl.mkP ⟨h.c0, h.c1, h.c2, h.c3, h.c4, h.c5, h.c6⟩
      have z_ub : (u.alloc (.cells #[.int .i64 rx, .int .i64 ry, .int .i64 rp, .int .i64 rh, .int .i64 ri, .bool rm, .slice ao D.length cap] 60)).heap.size = u.heap.size + 1 := by simp
      have S0 := S0.keep k_ub S0.lt
      refine ⟨S0, ?_⟩
      refine norm_act fun K hK => ?_
      go_simp
      refine hK _ ?_
      clear hK K
      generalize u.alloc (.cells #[.int .i64 rx, .int .i64 ry, .int .i64 rp, .int .i64 rh, .int .i64 ri, .bool rm, .slice ao D.length cap] 60) = ub at *
      simp only [hsd] at DC
      refine held_one (i := 2) rfl (by kernel_rfl) (by rfl) ?_
      refine wp_of_run (v := .slice (some ⟨ub.heap.size, 0, none⟩) 1 1) (w' := ub.alloc (.cells #[.int .i64 id] 2)) (by go_simp; first | done | rfl) ?_
      have k_w4 := kalC ub (.cells #[.int .i64 id] 2)
      have R25 : Row .i64 (ub.alloc (.cells #[.int .i64 id] 2)) ub.heap.size (ub.heap.size + 1) (some ⟨ub.heap.size, 0, none⟩) [id] := .inr ⟨ub.heap.size, 0, rfl, Nat.le_refl _, Nat.lt_succ_self _, fun i hi => by
        have : i = 0 := by simpa using hi
        subst this
        simp⟩
      have z_w4 : (ub.alloc (.cells #[.int .i64 id] 2)).heap.size = ub.heap.size + 1 := by simp
      have S0 := S0.keep k_w4 S0.lt
      refine ⟨S0, ?_⟩
      refine norm_act fun K hK => ?_
      go_simp
      refine hK _ ?_
      clear hK K
      generalize ub.alloc (.cells #[.int .i64 id] 2) = w4 at *
      simp only [z_ub, hsd] at R25
      refine held_one (i := 3) rfl (by kernel_rfl) (by rfl) ?_
      refine wp_of_calls (by go_simp; exact ⟨rfl, rfl⟩) ?_
      refine (WO.out w4 (k_ub.trans (k_w4.mono k_ub.size)) _ (R25) (by omega) (by omega)).mono ?_
      rintro e W6 ⟨rfl, C_W6⟩
      refine ⟨_, rfl, ?_⟩
      have S0 := S0.far C_W6.far (by omega)
      have z_W6 := C_W6.far.size
      refine ⟨S0, ?_⟩
      refine norm_act fun K hK => ?_
      go_simp
      refine hK _ ?_
      clear hK K
      have CU := hideP (C_W6.front (k_ub.trans (k_w4.mono k_ub.size)))
      have DC := (DC.keep k_w4 (by omega)).far C_W6.far (by omega) (by omega)
      skip
      have OV : OwnV Wn.pals 60 W6 (w.heap.size + 1) (some ⟨g, 0, none⟩) c N := OwnV.of pals7 CU.out.blk (by omega) hcm g1 (by
        rcases CU.out.sp with h | ⟨g', ha, _, _, hc, _⟩
        · subst h; exact fun i hi => absurd hi (by simp)
        · cases ha; exact hc)
      refine held_one (i := 6) rfl (by kernel_rfl) (by rfl) ?_
      refine wp_appV (V := Wn.pals) (T := 60) pals7 pals1 Try.underlying66 Try.infoPn rfl _ _ rfl (w.heap.size + 1) (some ⟨g, 0, none⟩) c N rfl OV _ 1 ⟨ri, rx, ry, rp, rh, rm, ⟨ao, cap, gb, D⟩⟩ rfl DC (by omega) (by omega) ?_
      intro so7 sc7 w7 O7 G7 K7
      have f7 : Far g (g + 1) W6 w7 := ⟨G7.os, G7.tape, G7.output, G7.size, fun b hb hd => G7.block b hb (by intro e; simp only [Value.ownBlock, Option.some.injEq] at e; omega)⟩
      have S0 := S0.far f7 (by omega)
      refine ⟨S0, ?_⟩
      refine norm_act fun K hK => ?_
      go_simp
      refine hK _ ?_
      clear hK K
      have PT := PU.out.turned (CU.out.far.trans f7) O7 HPM.out
      have KW := KU.out.trans ((CU.out.far.trans f7).below (B := w.heap.size) (by omega) (by omega))
      have X7 := XU.out.far (CU.out.far.trans f7) (by omega)
      have SO := stackOf_any (w.heap.size + 1) w7.heap.size so7 sc7 (N ++ [(⟨ri, rx, ry, rp, rh, rm, ⟨ao, cap, gb, D⟩⟩ : Wn)]) w7 PT.q.sp (Nat.le_refl _) (by simp; omega)
      rw [List.length_append, show [(⟨ri, rx, ry, rp, rh, rm, ⟨ao, cap, gb, D⟩⟩ : Wn)].length = 1 from rfl, hNl] at SO
      refine held_one (i := 7) rfl (by kernel_rfl) (by rfl) ?_
      refine wp_of_calls (by go_simp; exact ⟨rfl, rfl⟩) ?_
      refine SO.mono ?_
      rintro e w8 ⟨s8, c8, rfl, O8, k8⟩
      refine ⟨_, rfl, ?_⟩
      have S0 := S0.keep k8 S0.lt
      refine ⟨S0, ?_⟩
      refine norm_act fun K hK => ?_
      go_simp
      refine hK _ ?_
      clear hK K
      have Q8 := PT.done k8 O8
      have K8 := KW.trans (k8.mono KW.size)
      have X8 := X7.keep k8 X7.lt
      obtain ⟨x0, x1, x2, x3, x4⟩ := X8
      refine held_one (i := 8) rfl (by kernel_rfl) (by rfl) ?_
      refine wp_of_run (v := .agg #[.int .i64 0, .int .i64 0, .slice s8 L.length c8]) (w' := w8) (by go_simp; first | done | rfl) ?_
      refine ⟨S0, ?_⟩
      refine norm_act fun K hK => ?_
      go_simp
      refine hK _ ?_
      clear hK K
      refine held_one (i := 9) rfl (by kernel_rfl) (by rfl) ?_
      refine wp_of_skip (w' := ((w8.setCell ⟨w.heap.size, 0, none⟩ (.int .i64 0)).setCell ⟨w.heap.size, 1, none⟩ (.int .i64 0)).setCell ⟨w.heap.size, 2, none⟩ (.slice s8 L.length c8)) (by go_simp; first | done | rfl) ?_
      have fs : ∀ (W : World) (o : Nat) (v : Value), Far w.heap.size (w.heap.size + 1) W (W.setCell ⟨w.heap.size, o, none⟩ v) := fun W o v => Far.of_set7 ⟨Nat.le_refl _, Nat.lt_succ_self _⟩
      have S0 := ((S0.far (fs _ 0 (.int .i64 0)) (by omega)).far (fs _ 1 (.int .i64 0)) (by omega)).far (fs _ 2 (.slice s8 L.length c8)) (by omega)
      refine ⟨S0, ?_⟩
      refine norm_act fun K hK => ?_
      go_simp
      refine hK _ ?_
      clear hK K
      refine wpAnyH_done (by kernel_rfl) ?_ _
      subst hQQ
      have K9 := ((K8.setCell (p := ⟨w.heap.size, 0, none⟩) (Nat.le_refl _) (.int .i64 0)).setCell (p := ⟨w.heap.size, 1, none⟩) (Nat.le_refl _) (.int .i64 0)).setCell (p := ⟨w.heap.size, 2, none⟩) (Nat.le_refl _) (.slice s8 L.length c8)
      have Q9 := (((Q8.set ⟨w.heap.size, 0, none⟩ (.int .i64 0) (Nat.lt_succ_self _)).set ⟨w.heap.size, 1, none⟩ (.int .i64 0) (Nat.lt_succ_self _)).set ⟨w.heap.size, 2, none⟩ (.slice s8 L.length c8) (Nat.lt_succ_self _)).wide (Nat.le_succ _) (Nat.le_refl _) (by simp)
      have hll : (N ++ [(⟨ri, rx, ry, rp, rh, rm, ⟨ao, cap, gb, D⟩⟩ : Wn)]).length = L.length := by simp; exact hNl
      clear S0 Q8 K8 fs O8 k8 SO PT KW X7 f7 K7 G7 O7 OV
      go_wp2
      refine bodyPost_ret (v := .agg #[.int .i64 0, .int .i64 0, .slice s8 L.length c8]) (by simp [results, Try.results22, go_sem, *]) rfl ⟨s8, c8, _, by rw [HPL.out], HCT.out, by rw [HPL.out]; exact hll, ?_, K9⟩
      simpa using Q9
end Go.Proofs.Ytflodklggkkmiaa
