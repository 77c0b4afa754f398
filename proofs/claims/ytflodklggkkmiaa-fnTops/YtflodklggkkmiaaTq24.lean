/- RaiseWindow by the specification. -/
import Derived.Test.YtflodklggkkmiaaTq22
import Derived.Test.YtflodklggkkmiaaTq23
namespace Go.Proofs.Ytflodklggkkmiaa
open Go.RowKit Go.Maps
set_option linter.unusedVariables false

set_option maxRecDepth 100000 in
set_option maxHeartbeats 4000000 in
theorem sRaise_any (so : Option Addr) (sc : Nat) (L : List Wn) (id : Int) (w : World) (hL : Ws w 0 w.heap.size so L) (hn : L.length + wzs L ≤ 1048576) :
    Calls Try.prog 30 #[.slice so L.length sc, .int .i64 id] w (SAns (askW (L.map Wn.ct) id) 0 (raiseP (L.map Wn.ct) id) (raiseP (L.map Wn.ct) id).length w) := by
  by_cases hbad : ¬ stF (L.map Wn.ct) = 0 ∨ ∀ v ∈ L, v.i ≠ id
  · have AN := fun w1 (kk : Below w.heap.size w w1) => asked_no 0 w.heap.size so sc L id w1 (hL.keep kk (Nat.le_refl _)) kk.size hn hbad
    have hne := askW_ne hbad
    rw [raiseP_no hne]
    obtain ⟨F, hF⟩ : ∃ F, askW (L.map Wn.ct) id = F := ⟨_, rfl⟩
    rw [hF] at AN hne ⊢
    have hne' : (F != 0) = true := by simpa using hne
    have AN' := hideP AN
    clear AN hL hbad hF hne
    go_enter Try.func30, Try.ntmps30
    go_wp2_with fail
    refine Calls.mono (AN'.out _ (by go_grown)) ?_
    rintro e w1 ⟨rfl, k1⟩
    have K1 : Hid (Below w.heap.size w w1) := hideP (Below.trans (by go_grown) (k1.mono (by simp)))
    have X1 : R3 w1 w.heap.size (.int .i64 0) (.int .i64 0) (.slice none 0 0) := R3.keep ⟨by simp, by simp, by simp, by simp, by simp⟩ k1 (by simp)
    clear k1
    go_wp2_with fail
    refine Calls.mono (l7Bad_any F w1) ?_
    rintro e w2 ⟨rfl, k2⟩
    have K2 := hideP (K1.out.trans (k2.mono K1.out.size))
    obtain ⟨x0, x1, x2, x3, x4⟩ := X1.keep k2 X1.lt
    clear k2 X1
    go_wp2
    have K3 := (((K2.out.setCell (p := ⟨w.heap.size, 0, none⟩) (Nat.le_refl _) (.int .i64 F)).setCell (p := ⟨w.heap.size, 1, none⟩) (Nat.le_refl _) (.int .i64 0)).setCell (p := ⟨w.heap.size, 2, none⟩) (Nat.le_refl _) (.slice none 0 0))
    exact bodyPost_ret (v := .agg #[.int .i64 F, .int .i64 0, .slice none 0 0]) (by simp [results, Try.results30, go_sem, *]) rfl (sans_bad K3)
  · obtain ⟨h0, X, r, Y, hf⟩ : stF (L.map Wn.ct) = 0 ∧ ∃ X r Y, Fst id L X r Y := by
      have h1 : stF (L.map Wn.ct) = 0 := Classical.byContradiction fun h => hbad (.inl h)
      exact ⟨h1, (fst_or id L).resolve_left fun h => hbad (.inr h)⟩
    have AY := hideP (fun w1 (kk : Below w.heap.size w w1) => asked_yes 0 w.heap.size so sc L X Y r id w1 (hL.keep kk (Nat.le_refl _)) kk.size hn h0 hf)
    have CP := hideP (fun w1 (kk : Below w.heap.size w w1) => l7Copy_any 0 w.heap.size so sc L w1 (hL.keep kk (Nat.le_refl _)) kk.size hn)
    rw [askW_yes h0 hf, raiseP_yes h0 hf]
    have hXl : (X.length : Int) < (L.length : Int) := by rw [hf.eq]; simp; omega
    have hn' : (L.length : Int) ≤ 1048576 := by omega
    have HF := hideP hf
    clear hL hbad h0 hf
    go_enter Try.func30, Try.ntmps30
    go_wp2_with fail
    refine Calls.mono (AY.out _ (by go_grown)) ?_
    rintro e w1 ⟨rfl, k1⟩
    have K1 : Hid (Below w.heap.size w w1) := hideP (Below.trans (by go_grown) (k1.mono (by simp)))
    have X1 : R3 w1 w.heap.size (.int .i64 0) (.int .i64 0) (.slice none 0 0) := R3.keep ⟨by simp, by simp, by simp, by simp, by simp⟩ k1 (by simp)
    have n1 := X1.lt
    clear k1
    go_wp2_with fail
    refine Calls.mono (CP.out w1 K1.out) ?_
    rintro e w2 ⟨s, c, M, rfl, hM, LN, k2⟩
    have K2 := hideP (K1.out.trans (k2.mono K1.out.size))
    have X2 := X1.keep k2 X1.lt
    obtain ⟨X', r', Y', hf', e1, e2, e3⟩ := fst_ct HF.out hM
    have hMl := lenW hM
    have hXX := lenW e1
    have hYY := lenW e3
    have hMe := hf'.eq
    subst hMe
    obtain ⟨g, rfl, g1, g2, hc, _⟩ := SpV.at (LN.own.sp vals7)
    have n2 := k2.size
    rw [hXX] at hc
    have hc' := hc.seven
    rw [hMl]
    have hNl : X.length + Y.length + 1 = L.length := by rw [← hMl, ← hXX, ← hYY]; simp; omega
    have HCT : Hid ((X' ++ Y' ++ [r']).map Wn.ct = X.map Wn.ct ++ Y.map Wn.ct ++ [r.ct]) := hideP (by rw [List.map_append, List.map_append, e1, e3, ← e2]; rfl)
    have HPL : Hid ((X.map Wn.ct ++ Y.map Wn.ct ++ [r.ct]).length = L.length) := hideP (by rw [← hNl]; simp; try omega)
    have HPM : Hid ((X' ++ r' :: Y').Perm (X' ++ Y' ++ [r'])) := hideP (by
      rw [List.append_assoc]
      exact (List.perm_append_left_iff X').2 (List.perm_append_singleton r' Y').symm)
    have HLN := hideP LN
    have HML := hideP hMl
    have HXX := hideP hXX
    have HYY := hideP hYY
    clear k2 LN hM hf' e1 e2 e3 CP AY HF X1 hc hXX hYY hMl K1
    obtain ⟨ri, rx, ry, rp, rh, rm, ⟨ao, cap, gb, D⟩⟩ := r'
    simp only at hc'
    obtain ⟨a0, a1, a2, a3, a4, a5, a6⟩ := hc'
    go_wp2_with fail
    clear a0 a1 a2 a3 a4 a5 a6
    have ka := kalC w2 (.cells #[.int .i64 ri, .int .i64 rx, .int .i64 ry, .int .i64 rp, .int .i64 rh, .bool rm, .slice ao D.length cap] 38)
    have Z1 := r7_new w2 (.int .i64 ri) (.int .i64 rx) (.int .i64 ry) (.int .i64 rp) (.int .i64 rh) (.bool rm) (.slice ao D.length cap) 38
    have hsz : (w2.alloc (.cells #[.int .i64 ri, .int .i64 rx, .int .i64 ry, .int .i64 rp, .int .i64 rh, .bool rm, .slice ao D.length cap] 38)).heap.size = w2.heap.size + 1 := by simp
    generalize w2.alloc (.cells #[.int .i64 ri, .int .i64 rx, .int .i64 ry, .int .i64 rp, .int .i64 rh, .bool rm, .slice ao D.length cap] 38) = w3 at *
    refine wp_region_held (S := (fun W => R7 W w2.heap.size (.int .i64 ri) (.int .i64 rx) (.int .i64 ry) (.int .i64 rp) (.int .i64 rh) (.bool rm) (.slice ao D.length cap))) (by kernel_rfl) ?_
    show wpAnyH _ _ _ _ _ 8 (Array.replicate 8 false) _ (w3).drew
    generalize hQQ : (Exit.then _ _ : Exit → Act → World → Prop) = QQ
    have hQ : ∀ c a d v w, QQ (.panic c) (Act.put a d v) w → QQ (.panic c) a w := by
      subst hQQ
      intro c a d v w h
      cases d <;> exact h
    have kd : Below w3.heap.size w3 w3.drew := (Below.refl _ _).drew
    have S0 : R7 w3.drew w2.heap.size (.int .i64 ri) (.int .i64 rx) (.int .i64 ry) (.int .i64 rp) (.int .i64 rh) (.bool rm) (.slice ao D.length cap) := Z1.keep kd Z1.lt
    have hsd : w3.drew.heap.size = w2.heap.size + 1 := hsz
    have ku := ka.trans (kd.mono (by omega))
    have LU := hideP (HLN.out.keep ku)
    have KU := hideP (K2.out.trans (ku.mono K2.out.size))
    have XU := hideP (X2.keep ku X2.lt)
    clear ka kd ku K2 X2 HLN hsz Z1
    generalize w3.drew = u at *
    refine held_take (i := 0) rfl (by kernel_rfl) (by kernel_rfl) (by kernel_rfl) hQ S0 (by rfl) ?_
    apply Exists.intro
    refine ⟨fun w1 k1 => ?_, fun K hK => ?_⟩
    · have hc := k1.lt
      go_simp
      first | done | rfl
    go_simp
    refine hK _ ?_
    clear hK K
    refine held_take (i := 1) rfl (by kernel_rfl) (by kernel_rfl) (by kernel_rfl) hQ S0 (by rfl) ?_
    apply Exists.intro
    refine ⟨fun w1 k1 => ?_, fun K hK => ?_⟩
    · have hc := k1.lt
      go_simp
      first | done | rfl
    go_simp
    refine hK _ ?_
    clear hK K
    refine held_take (i := 3) rfl (by kernel_rfl) (by kernel_rfl) (by kernel_rfl) hQ S0 (by rfl) ?_
    apply Exists.intro
    refine ⟨fun w1 k1 => ?_, fun K hK => ?_⟩
    · obtain ⟨y0, y1, y2, y3, y4, y5, y6, y7, y8⟩ := k1
      go_simp
      first | done | rfl
    go_simp
    refine hK _ ?_
    clear hK K
    have WO := fun (W : World) (k : Below u.heap.size u W) => l7Without_own w1.heap.size g c L.length X' Y' ⟨ri, rx, ry, rp, rh, rm, ⟨ao, cap, gb, D⟩⟩ W (LU.out.keep k) (by have := k.size; omega) HML.out (by omega)
    rw [HXX.out, HYY.out] at WO
    have WO := hideP WO
    have CI := hideP (fun (W : World) (k : Below u.heap.size u W) => (show Cis W w1.heap.size W.heap.size ((X' ++ Y' ++ [(⟨ri, rx, ry, rp, rh, rm, ⟨ao, cap, gb, D⟩⟩ : Wn)]).map Wn.b) from ((LU.out.cis.keep k (Nat.le_refl _)).perm (HPM.out.map _)).wide (Nat.le_refl _) k.size))
    have TI := hideP (fun (W : World) (k : Below u.heap.size u W) => (show ∀ b ∈ (X' ++ Y' ++ [(⟨ri, rx, ry, rp, rh, rm, ⟨ao, cap, gb, D⟩⟩ : Wn)]).map Wn.b, b.ty W from fun b m => Ci.ty_keep (LU.out.ty b ((HPM.out.map _).mem_iff.2 m)) k))
    have HNX : Hid ((X' ++ Y').length = X.length + Y.length) := hideP (by rw [List.length_append, HXX.out, HYY.out])
    clear LU HPM HXX HYY HML
    refine held_two (i := 2) (j := 4) rfl rfl (by kernel_rfl) (by rfl) (by rfl) ?_ ?_
    · refine wp_of_calls (by go_simp; exact ⟨rfl, rfl⟩) ?_
      refine (WO.out u (Below.refl _ _)).mono ?_
      rintro e w4 ⟨s5, c5, rfl, _, O_w4, k_w4⟩
      refine ⟨_, rfl, ?_⟩
      have S0 := S0.keep k_w4 S0.lt
      have z_w4 := k_w4.size
      refine ⟨S0, ?_⟩
      refine norm_act fun K hK => ?_
      go_simp
      refine hK _ ?_
      clear hK K
      refine held_one (i := 4) rfl (by kernel_rfl) (by rfl) ?_
      refine wp_of_run (v := .slice (some ⟨w4.heap.size, 0, none⟩) 1 1) (w' := w4.alloc (.cells #[.int .i64 ri, .int .i64 rx, .int .i64 ry, .int .i64 rp, .int .i64 rh, .bool rm, .slice ao D.length cap] 38)) (by go_simp; first | done | rfl) ?_
      have k_W6 := kalC w4 (.cells #[.int .i64 ri, .int .i64 rx, .int .i64 ry, .int .i64 rp, .int .i64 rh, .bool rm, .slice ao D.length cap] 38)
      have DC : Cl Wn.vals (w4.alloc (.cells #[.int .i64 ri, .int .i64 rx, .int .i64 ry, .int .i64 rp, .int .i64 rh, .bool rm, .slice ao D.length cap] 38)) w4.heap.size 0 ⟨ri, rx, ry, rp, rh, rm, ⟨ao, cap, gb, D⟩⟩ := by
        have h := r7_new w4 (.int .i64 ri) (.int .i64 rx) (.int .i64 ry) (.int .i64 rp) (.int .i64 rh) (.bool rm) (.slice ao D.length cap) 38
        exact Cl.mkW ⟨h.c0, h.c1, h.c2, h.c3, h.c4, h.c5, h.c6⟩
      have z_W6 : (w4.alloc (.cells #[.int .i64 ri, .int .i64 rx, .int .i64 ry, .int .i64 rp, .int .i64 rh, .bool rm, .slice ao D.length cap] 38)).heap.size = w4.heap.size + 1 := by simp
      have S0 := S0.keep k_W6 S0.lt
      refine ⟨S0, ?_⟩
      refine norm_act fun K hK => ?_
      go_simp
      refine hK _ ?_
      clear hK K
      generalize w4.alloc (.cells #[.int .i64 ri, .int .i64 rx, .int .i64 ry, .int .i64 rp, .int .i64 rh, .bool rm, .slice ao D.length cap] 38) = W6 at *
      have kW := k_w4.trans (k_W6.mono k_w4.size)
      have OB := (O_w4.keep k_W6)
      refine held_one (i := 5) rfl (by kernel_rfl) (by rfl) ?_
      refine wp_appV (V := Wn.vals) (T := 38) vals7 vals1 Try.underlying24 Try.infoWn rfl _ _ rfl u.heap.size s5 c5 (X' ++ Y') (by rw [HNX.out]; rfl) OB _ 1 ⟨ri, rx, ry, rp, rh, rm, ⟨ao, cap, gb, D⟩⟩ rfl DC (by rw [HNX.out]; omega) kW.size ?_
      intro so7 sc7 w7 O7 G7 K7
      rw [HNX.out]
      have S0 := S0.keep K7 (by omega)
      refine ⟨S0, ?_⟩
      refine norm_act fun K hK => ?_
      go_simp
      refine hK _ ?_
      clear hK K
      have n7 := kW.size
      have hu1 : w1.heap.size ≤ u.heap.size := by omega
      have LN7 := LinV.pushed winNe (OB.le hu1) (CI.out W6 kW) (TI.out W6 kW) (O7.le hu1) G7
      have Q7 := LN7.wq vals7 winNe (by have := K7.size; omega)
      have K8 := (KU.out.trans (kW.mono KU.out.size)).trans (K7.mono KU.out.size)
      have X7 := (XU.out.keep kW XU.out.lt).keep K7 XU.out.lt
      obtain ⟨x0, x1, x2, x3, x4⟩ := X7
      refine held_one (i := 6) rfl (by kernel_rfl) (by rfl) ?_
      refine wp_of_run (v := .agg #[.int .i64 0, .int .i64 0, .slice so7 L.length sc7]) (w' := w7) (by go_simp; first | done | rfl) ?_
      refine ⟨S0, ?_⟩
      refine norm_act fun K hK => ?_
      go_simp
      refine hK _ ?_
      clear hK K
      refine held_one (i := 7) rfl (by kernel_rfl) (by rfl) ?_
      refine wp_of_skip (w' := ((w7.setCell ⟨w.heap.size, 0, none⟩ (.int .i64 0)).setCell ⟨w.heap.size, 1, none⟩ (.int .i64 0)).setCell ⟨w.heap.size, 2, none⟩ (.slice so7 L.length sc7)) (by go_simp; first | done | rfl) ?_
      have fs : ∀ (W : World) (o : Nat) (v : Value), Far w.heap.size (w.heap.size + 1) W (W.setCell ⟨w.heap.size, o, none⟩ v) := fun W o v => Far.of_set7 ⟨Nat.le_refl _, Nat.lt_succ_self _⟩
      have S0 := ((S0.far (fs _ 0 (.int .i64 0)) (by omega)).far (fs _ 1 (.int .i64 0)) (by omega)).far (fs _ 2 (.slice so7 L.length sc7)) (by omega)
      refine ⟨S0, ?_⟩
      refine norm_act fun K hK => ?_
      go_simp
      refine hK _ ?_
      clear hK K
      refine wpAnyH_done (by kernel_rfl) ?_ _
      subst hQQ
      have K9 := ((K8.setCell (p := ⟨w.heap.size, 0, none⟩) (Nat.le_refl _) (.int .i64 0)).setCell (p := ⟨w.heap.size, 1, none⟩) (Nat.le_refl _) (.int .i64 0)).setCell (p := ⟨w.heap.size, 2, none⟩) (Nat.le_refl _) (.slice so7 L.length sc7)
      have Q9 := (((Q7.set ⟨w.heap.size, 0, none⟩ (.int .i64 0) n1).set ⟨w.heap.size, 1, none⟩ (.int .i64 0) n1).set ⟨w.heap.size, 2, none⟩ (.slice so7 L.length sc7) n1).wide (Nat.le_of_lt n1) (Nat.le_refl _) (by simp)
      have hll : (X' ++ Y' ++ [(⟨ri, rx, ry, rp, rh, rm, ⟨ao, cap, gb, D⟩⟩ : Wn)]).length = L.length := by rw [List.length_append, HNX.out]; exact hNl
      clear S0 Q7 K8 fs K7 G7 O7 OB LN7
      go_wp2
      refine bodyPost_ret (v := .agg #[.int .i64 0, .int .i64 0, .slice so7 L.length sc7]) (by simp [results, Try.results30, go_sem, *]) rfl ⟨so7, sc7, _, by rw [HPL.out], HCT.out, by rw [HPL.out]; exact hll, ?_, K9⟩
      simpa using Q9
    · refine wp_of_run (v := .slice (some ⟨u.heap.size, 0, none⟩) 1 1) (w' := u.alloc (.cells #[.int .i64 ri, .int .i64 rx, .int .i64 ry, .int .i64 rp, .int .i64 rh, .bool rm, .slice ao D.length cap] 38)) (by go_simp; first | done | rfl) ?_
      have k_ub := kalC u (.cells #[.int .i64 ri, .int .i64 rx, .int .i64 ry, .int .i64 rp, .int .i64 rh, .bool rm, .slice ao D.length cap] 38)
      have DC : Cl Wn.vals (u.alloc (.cells #[.int .i64 ri, .int .i64 rx, .int .i64 ry, .int .i64 rp, .int .i64 rh, .bool rm, .slice ao D.length cap] 38)) u.heap.size 0 ⟨ri, rx, ry, rp, rh, rm, ⟨ao, cap, gb, D⟩⟩ := by
        have h := r7_new u (.int .i64 ri) (.int .i64 rx) (.int .i64 ry) (.int .i64 rp) (.int .i64 rh) (.bool rm) (.slice ao D.length cap) 38
        exact Cl.mkW ⟨h.c0, h.c1, h.c2, h.c3, h.c4, h.c5, h.c6⟩
      have z_ub : (u.alloc (.cells #[.int .i64 ri, .int .i64 rx, .int .i64 ry, .int .i64 rp, .int .i64 rh, .bool rm, .slice ao D.length cap] 38)).heap.size = u.heap.size + 1 := by simp
      have S0 := S0.keep k_ub S0.lt
      refine ⟨S0, ?_⟩
      refine norm_act fun K hK => ?_
      go_simp
      refine hK _ ?_
      clear hK K
      generalize u.alloc (.cells #[.int .i64 ri, .int .i64 rx, .int .i64 ry, .int .i64 rp, .int .i64 rh, .bool rm, .slice ao D.length cap] 38) = ub at *
      simp only [hsd] at DC
      refine held_one (i := 2) rfl (by kernel_rfl) (by rfl) ?_
      refine wp_of_calls (by go_simp; exact ⟨rfl, rfl⟩) ?_
      refine (WO.out ub k_ub).mono ?_
      rintro e W6 ⟨s5, c5, rfl, _, O_W6, k_W6⟩
      refine ⟨_, rfl, ?_⟩
      have S0 := S0.keep k_W6 S0.lt
      have z_W6 := k_W6.size
      refine ⟨S0, ?_⟩
      refine norm_act fun K hK => ?_
      go_simp
      refine hK _ ?_
      clear hK K
      have kW := k_ub.trans (k_W6.mono k_ub.size)
      have OB := O_W6.le k_ub.size
      have DC := DC.keep k_W6 (by omega)
      refine held_one (i := 5) rfl (by kernel_rfl) (by rfl) ?_
      refine wp_appV (V := Wn.vals) (T := 38) vals7 vals1 Try.underlying24 Try.infoWn rfl _ _ rfl u.heap.size s5 c5 (X' ++ Y') (by rw [HNX.out]; rfl) OB _ 1 ⟨ri, rx, ry, rp, rh, rm, ⟨ao, cap, gb, D⟩⟩ rfl DC (by rw [HNX.out]; omega) kW.size ?_
      intro so7 sc7 w7 O7 G7 K7
      rw [HNX.out]
      have S0 := S0.keep K7 (by omega)
      refine ⟨S0, ?_⟩
      refine norm_act fun K hK => ?_
      go_simp
      refine hK _ ?_
      clear hK K
      have n7 := kW.size
      have hu1 : w1.heap.size ≤ u.heap.size := by omega
      have LN7 := LinV.pushed winNe (OB.le hu1) (CI.out W6 kW) (TI.out W6 kW) (O7.le hu1) G7
      have Q7 := LN7.wq vals7 winNe (by have := K7.size; omega)
      have K8 := (KU.out.trans (kW.mono KU.out.size)).trans (K7.mono KU.out.size)
      have X7 := (XU.out.keep kW XU.out.lt).keep K7 XU.out.lt
      obtain ⟨x0, x1, x2, x3, x4⟩ := X7
      refine held_one (i := 6) rfl (by kernel_rfl) (by rfl) ?_
      refine wp_of_run (v := .agg #[.int .i64 0, .int .i64 0, .slice so7 L.length sc7]) (w' := w7) (by go_simp; first | done | rfl) ?_
      refine ⟨S0, ?_⟩
      refine norm_act fun K hK => ?_
      go_simp
      refine hK _ ?_
      clear hK K
      refine held_one (i := 7) rfl (by kernel_rfl) (by rfl) ?_
      refine wp_of_skip (w' := ((w7.setCell ⟨w.heap.size, 0, none⟩ (.int .i64 0)).setCell ⟨w.heap.size, 1, none⟩ (.int .i64 0)).setCell ⟨w.heap.size, 2, none⟩ (.slice so7 L.length sc7)) (by go_simp; first | done | rfl) ?_
      have fs : ∀ (W : World) (o : Nat) (v : Value), Far w.heap.size (w.heap.size + 1) W (W.setCell ⟨w.heap.size, o, none⟩ v) := fun W o v => Far.of_set7 ⟨Nat.le_refl _, Nat.lt_succ_self _⟩
      have S0 := ((S0.far (fs _ 0 (.int .i64 0)) (by omega)).far (fs _ 1 (.int .i64 0)) (by omega)).far (fs _ 2 (.slice so7 L.length sc7)) (by omega)
      refine ⟨S0, ?_⟩
      refine norm_act fun K hK => ?_
      go_simp
      refine hK _ ?_
      clear hK K
      refine wpAnyH_done (by kernel_rfl) ?_ _
      subst hQQ
      have K9 := ((K8.setCell (p := ⟨w.heap.size, 0, none⟩) (Nat.le_refl _) (.int .i64 0)).setCell (p := ⟨w.heap.size, 1, none⟩) (Nat.le_refl _) (.int .i64 0)).setCell (p := ⟨w.heap.size, 2, none⟩) (Nat.le_refl _) (.slice so7 L.length sc7)
      have Q9 := (((Q7.set ⟨w.heap.size, 0, none⟩ (.int .i64 0) n1).set ⟨w.heap.size, 1, none⟩ (.int .i64 0) n1).set ⟨w.heap.size, 2, none⟩ (.slice so7 L.length sc7) n1).wide (Nat.le_of_lt n1) (Nat.le_refl _) (by simp)
      have hll : (X' ++ Y' ++ [(⟨ri, rx, ry, rp, rh, rm, ⟨ao, cap, gb, D⟩⟩ : Wn)]).length = L.length := by rw [List.length_append, HNX.out]; exact hNl
      clear S0 Q7 K8 fs K7 G7 O7 OB LN7
      go_wp2
      refine bodyPost_ret (v := .agg #[.int .i64 0, .int .i64 0, .slice so7 L.length sc7]) (by simp [results, Try.results30, go_sem, *]) rfl ⟨so7, sc7, _, by rw [HPL.out], HCT.out, by rw [HPL.out]; exact hll, ?_, K9⟩
      simpa using Q9
end Go.Proofs.Ytflodklggkkmiaa
