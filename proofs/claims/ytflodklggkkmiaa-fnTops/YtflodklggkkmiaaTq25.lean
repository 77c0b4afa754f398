/- Windows moved. -/
import Derived.Test.YtflodklggkkmiaaTq18
namespace Go.Proofs.Ytflodklggkkmiaa
open Go.RowKit Go.Maps
set_option linter.unusedVariables false

/-- Where a rectangle may begin. -/
def nearB (x y : Int) : Bool := decide (-20 ≤ x ∧ x ≤ 20 ∧ -20 ≤ y ∧ y ≤ 20)
def moveC (x y : Int) (c : Wc) : Wc := ⟨c.i, x, y, c.w, c.h, c.m, c.L⟩
def moveZ (C : List Wc) (id x y : Int) : Int := if askW C id = 0 then (if nearB x y then 0 else 3) else askW C id
def moveP (C : List Wc) (id x y : Int) : List Wc := if moveZ C id x y = 0 then modW id (moveC x y) C else []
theorem moveZ_bad {C : List Wc} {id x y : Int} (h : askW C id ≠ 0) : moveZ C id x y = askW C id := by unfold moveZ; rw [if_neg h]
theorem moveP_bad {C : List Wc} {id x y : Int} (h : askW C id ≠ 0) : moveP C id x y = [] := by unfold moveP; rw [moveZ_bad h, if_neg h]
theorem moveZ_far {C : List Wc} {id x y : Int} (h : askW C id = 0) (hn : nearB x y = false) : moveZ C id x y = 3 := by unfold moveZ; rw [if_pos h, hn]; rfl
theorem moveP_far {C : List Wc} {id x y : Int} (h : askW C id = 0) (hn : nearB x y = false) : moveP C id x y = [] := by unfold moveP; rw [moveZ_far h hn, if_neg (by decide)]
theorem moveZ_yes {C : List Wc} {id x y : Int} (h : askW C id = 0) (hn : nearB x y = true) : moveZ C id x y = 0 := by unfold moveZ; rw [if_pos h, hn]; rfl
theorem moveP_yes {L X Y : List Wn} {r : Wn} {id x y : Int} (h : stF (L.map Wn.ct) = 0) (hf : Fst id L X r Y) (hn : nearB x y = true) : moveP (L.map Wn.ct) id x y = X.map Wn.ct ++ moveC x y r.ct :: Y.map Wn.ct := by
  unfold moveP; rw [moveZ_yes (askW_yes h hf) hn, if_pos rfl, modW_at hf]
theorem near_yes {x y : Int} (h : nearB x y = true) : -20 ≤ x ∧ x ≤ 20 ∧ -20 ≤ y ∧ y ≤ 20 := by unfold nearB at h; simpa using h
theorem near_no {x y : Int} (h : nearB x y = false) : x < -20 ∨ 20 < x ∨ y < -20 ∨ 20 < y := by unfold nearB at h; simp at h; omega
theorem small_move {L : List Wn} (id x y : Int) (h : L.length + wzs L ≤ 1048576) : ∀ N : List Wn, N.map Wn.ct = moveP (L.map Wn.ct) id x y → N.length + wzs N ≤ 1048576 :=
  small_of (L := L) (by
    unfold moveP
    split
    · rw [modW_len, cz_mod (f := moveC x y) (fun c => rfl), cz_wzs, List.length_map]; exact h
    · simp [cz])

set_option maxHeartbeats 400000 in
theorem moveTo_any (g o : Nat) (u v x y : Int) (w : World) (h0 : w.cell? ⟨g, o, none⟩ = some (.int .i64 u)) (h1 : w.cell? ⟨g, o + 1, none⟩ = some (.int .i64 v)) (hf : ∀ c, w.frozen? ⟨g, c, none⟩ = false) :
    Calls Try.prog 65 #[.pointer (some ⟨g, o, none⟩), .int .i64 x, .int .i64 y] w fun e w' => e = .returned (.tuple #[]) ∧ w' = (w.setCell ⟨g, o, none⟩ (.int .i64 x)).setCell ⟨g, o + 1, none⟩ (.int .i64 y) := by
  have hg : g < w.heap.size := World.block_lt_of_cell? w _ h0
  go_enter Try.func65, Try.ntmps65
  go_wp2
  go_returns
  exact ⟨rfl, rfl⟩

set_option maxRecDepth 100000 in
set_option maxHeartbeats 1000000 in
theorem sMove_any (so : Option Addr) (sc : Nat) (L : List Wn) (id x y : Int) (w : World) (hL : Ws w 0 w.heap.size so L) (hn : L.length + wzs L ≤ 1048576) :
    Calls Try.prog 28 #[.slice so L.length sc, .int .i64 id, .int .i64 x, .int .i64 y] w (SAns (moveZ (L.map Wn.ct) id x y) 0 (moveP (L.map Wn.ct) id x y) (moveP (L.map Wn.ct) id x y).length w) := by
  by_cases hbad : ¬ stF (L.map Wn.ct) = 0 ∨ ∀ v ∈ L, v.i ≠ id
  · have AN := fun w1 (kk : Below w.heap.size w w1) => asked_no 0 w.heap.size so sc L id w1 (hL.keep kk (Nat.le_refl _)) kk.size hn hbad
    have hne := askW_ne hbad
    rw [moveP_bad hne, moveZ_bad hne]
    obtain ⟨F, hF⟩ : ∃ F, askW (L.map Wn.ct) id = F := ⟨_, rfl⟩
    rw [hF] at AN hne ⊢
    have hne' : (F != 0) = true := by simpa using hne
    have AN' := hideP AN
    clear AN hL hbad hF hne
    go_enter Try.func28, Try.ntmps28
    go_wp2_with fail
    refine Calls.mono (AN'.out _ (by go_grown)) ?_
    rintro e w1 ⟨rfl, k1⟩
    have K1 : Hid (Below w.heap.size w w1) := hideP (Below.trans (by go_grown) (k1.mono (by simp)))
    have X1 : R3 w1 w.heap.size (.int .i64 0) (.int .i64 0) (.slice none 0 0) := R3.keep ⟨by simp, by simp, by simp, by simp, by simp⟩ k1 (by simp)
    clear k1
    go_wp2_with fail
    refine Calls.mono (l7Bad_any F w1) ?_
    rintro e w2 ⟨rfl, k2⟩
    have K2 := hideP (K1.out.trans (k2.mono K1.out.size))
    obtain ⟨x0, x1, x2, x3, x4⟩ := X1.keep k2 X1.lt
    clear k2 X1
    go_wp2
    have K3 := (((K2.out.setCell (p := ⟨w.heap.size, 0, none⟩) (Nat.le_refl _) (.int .i64 F)).setCell (p := ⟨w.heap.size, 1, none⟩) (Nat.le_refl _) (.int .i64 0)).setCell (p := ⟨w.heap.size, 2, none⟩) (Nat.le_refl _) (.slice none 0 0))
    exact bodyPost_ret (v := .agg #[.int .i64 F, .int .i64 0, .slice none 0 0]) (by simp [results, Try.results28, go_sem, *]) rfl (sans_bad K3)
  · obtain ⟨h0, X, r, Y, hf⟩ : stF (L.map Wn.ct) = 0 ∧ ∃ X r Y, Fst id L X r Y := by
      have h1 : stF (L.map Wn.ct) = 0 := Classical.byContradiction fun h => hbad (.inl h)
      exact ⟨h1, (fst_or id L).resolve_left fun h => hbad (.inr h)⟩
    have AY := hideP (fun w1 (kk : Below w.heap.size w w1) => asked_yes 0 w.heap.size so sc L X Y r id w1 (hL.keep kk (Nat.le_refl _)) kk.size hn h0 hf)
    cases hnear : nearB x y
    · have hno := near_no hnear
      rw [moveZ_far (askW_yes h0 hf) hnear, moveP_far (askW_yes h0 hf) hnear]
      clear hL hbad h0 hf hnear
      by_cases hx : x < -20 ∨ 20 < x
      · go_enter Try.func28, Try.ntmps28
        go_wp2_with fail
        refine Calls.mono (AY.out _ (by go_grown)) ?_
        rintro e w1 ⟨rfl, k1⟩
        have K1 : Hid (Below w.heap.size w w1) := hideP (Below.trans (by go_grown) (k1.mono (by simp)))
        have X1 : R3 w1 w.heap.size (.int .i64 0) (.int .i64 0) (.slice none 0 0) := R3.keep ⟨by simp, by simp, by simp, by simp, by simp⟩ k1 (by simp)
        clear k1
        go_wp2_with fail
        refine Calls.mono (in_no x (-20) 20 _ hx) ?_
        rintro e w2 ⟨rfl, hw⟩
        subst w2
        go_wp2_with fail
        refine Calls.mono (l7Bad_any 3 w1) ?_
        rintro e w2 ⟨rfl, k2⟩
        have K2 := hideP (K1.out.trans (k2.mono K1.out.size))
        obtain ⟨x0, x1, x2, x3, x4⟩ := X1.keep k2 X1.lt
        clear k2 X1
        go_wp2
        have K3 := (((K2.out.setCell (p := ⟨w.heap.size, 0, none⟩) (Nat.le_refl _) (.int .i64 3)).setCell (p := ⟨w.heap.size, 1, none⟩) (Nat.le_refl _) (.int .i64 0)).setCell (p := ⟨w.heap.size, 2, none⟩) (Nat.le_refl _) (.slice none 0 0))
        exact bodyPost_ret (v := .agg #[.int .i64 3, .int .i64 0, .slice none 0 0]) (by simp [results, Try.results28, go_sem, *]) rfl (sans_bad K3)
      · have hx1 : -20 ≤ x := by omega
        have hx2 : x ≤ 20 := by omega
        have hy : y < -20 ∨ 20 < y := by omega
        clear hno hx
        go_enter Try.func28, Try.ntmps28
        go_wp2_with fail
        refine Calls.mono (AY.out _ (by go_grown)) ?_
        rintro e w1 ⟨rfl, k1⟩
        have K1 : Hid (Below w.heap.size w w1) := hideP (Below.trans (by go_grown) (k1.mono (by simp)))
        have X1 : R3 w1 w.heap.size (.int .i64 0) (.int .i64 0) (.slice none 0 0) := R3.keep ⟨by simp, by simp, by simp, by simp, by simp⟩ k1 (by simp)
        clear k1
        go_wp2_with fail
        refine Calls.mono (in_yes x (-20) 20 _ hx1 hx2) ?_
        rintro e w2 ⟨rfl, hw⟩
        subst w2
        go_wp2_with fail
        refine Calls.mono (in_no y (-20) 20 _ hy) ?_
        rintro e w2 ⟨rfl, hw⟩
        subst w2
        go_wp2_with fail
        refine Calls.mono (l7Bad_any 3 w1) ?_
        rintro e w2 ⟨rfl, k2⟩
        have K2 := hideP (K1.out.trans (k2.mono K1.out.size))
        obtain ⟨x0, x1, x2, x3, x4⟩ := X1.keep k2 X1.lt
        clear k2 X1
        go_wp2
        have K3 := (((K2.out.setCell (p := ⟨w.heap.size, 0, none⟩) (Nat.le_refl _) (.int .i64 3)).setCell (p := ⟨w.heap.size, 1, none⟩) (Nat.le_refl _) (.int .i64 0)).setCell (p := ⟨w.heap.size, 2, none⟩) (Nat.le_refl _) (.slice none 0 0))
        exact bodyPost_ret (v := .agg #[.int .i64 3, .int .i64 0, .slice none 0 0]) (by simp [results, Try.results28, go_sem, *]) rfl (sans_bad K3)
    obtain ⟨y1, y2, y3, y4⟩ := near_yes hnear
    have CP := hideP (fun w1 (kk : Below w.heap.size w w1) => l7Copy_any 0 w.heap.size so sc L w1 (hL.keep kk (Nat.le_refl _)) kk.size hn)
    rw [moveZ_yes (askW_yes h0 hf) hnear, moveP_yes h0 hf hnear]
    have hXl : (X.length : Int) < (L.length : Int) := by rw [hf.eq]; simp; omega
    have hn' : (L.length : Int) ≤ 1048576 := by omega
    have HF := hideP hf
    clear hL hbad h0 hf hnear
    go_enter Try.func28, Try.ntmps28
    go_wp2_with fail
    refine Calls.mono (AY.out _ (by go_grown)) ?_
    rintro e w1 ⟨rfl, k1⟩
    have K1 : Hid (Below w.heap.size w w1) := hideP (Below.trans (by go_grown) (k1.mono (by simp)))
    have X1 : R3 w1 w.heap.size (.int .i64 0) (.int .i64 0) (.slice none 0 0) := R3.keep ⟨by simp, by simp, by simp, by simp, by simp⟩ k1 (by simp)
    have n1 := X1.lt
    clear k1
    go_wp2_with fail
    refine Calls.mono (in_yes x (-20) 20 _ y1 y2) ?_
    rintro e w2 ⟨rfl, hw⟩
    subst w2
    go_wp2_with fail
    refine Calls.mono (in_yes y (-20) 20 _ y3 y4) ?_
    rintro e w2 ⟨rfl, hw⟩
    subst w2
    go_wp2_with fail
    refine Calls.mono (CP.out w1 K1.out) ?_
    rintro e w2 ⟨s, c, M, rfl, hM, LN, k2⟩
    have K2 := hideP (K1.out.trans (k2.mono K1.out.size))
    have X2 := X1.keep k2 X1.lt
    obtain ⟨X', r', Y', hf', e1, e2, e3⟩ := fst_ct HF.out hM
    have hMl := lenW hM
    have hXX := lenW e1
    have QW := LN.wq vals7 winNe k2.size
    have hMe := hf'.eq
    subst hMe
    obtain ⟨g, rfl, g1, g2, hc, hfr⟩ := QW.cells
    have P1 := QW.put (q := 1) (s := ⟨r'.i, x, r'.y, r'.w, r'.h, r'.m, r'.b⟩) (u := .int .i64 x) (by omega) rfl rfl (fun j hj hq => by match j, hj, hq with | 0, _, _ | 2, _, _ | 3, _, _ | 4, _, _ | 5, _, _ | 6, _, _ => rfl) rfl
    have PT := P1.put (q := 2) (s := ⟨r'.i, x, y, r'.w, r'.h, r'.m, r'.b⟩) (u := .int .i64 y) (by omega) rfl rfl (fun j hj hq => by match j, hj, hq with | 0, _, _ | 1, _, _ | 3, _, _ | 4, _, _ | 5, _, _ | 6, _, _ => rfl) rfl
    clear P1
    rw [hXX] at hc PT
    rw [hMl]
    have a1 := hc.seven.2.1
    have a2 := hc.seven.2.2.1
    have HPT := hideP PT
    have hlen : Hid ((X' ++ (⟨r'.i, x, y, r'.w, r'.h, r'.m, r'.b⟩ : Wn) :: Y').length = L.length) := hideP (by rw [← hMl]; simp)
    have HCT : Hid ((X' ++ (⟨r'.i, x, y, r'.w, r'.h, r'.m, r'.b⟩ : Wn) :: Y').map Wn.ct = X.map Wn.ct ++ moveC x y r.ct :: Y.map Wn.ct) := hideP (by rw [List.map_append, List.map_cons, e1, e3, ← e2]; rfl)
    have HPL : Hid ((X.map Wn.ct ++ moveC x y r.ct :: Y.map Wn.ct).length = L.length) := hideP (by rw [HF.out.eq]; simp)
    have hk2 := k2.size
    clear k2 LN hM hf' e1 e2 e3 QW hc PT CP AY HF X1
    obtain ⟨x0, x1, x2, x3, x4⟩ := X2
    go_wp2
    have K3 := ((((K2.out.setCell (p := ⟨g, X.length * 7 + 1, none⟩) (Nat.le_trans K1.out.size g1) (.int .i64 x)).setCell (p := ⟨g, X.length * 7 + 1 + 1, none⟩) (Nat.le_trans K1.out.size g1) (.int .i64 y)).setCell (p := ⟨w.heap.size, 0, none⟩) (Nat.le_refl _) (.int .i64 0)).setCell (p := ⟨w.heap.size, 1, none⟩) (Nat.le_refl _) (.int .i64 0)).setCell (p := ⟨w.heap.size, 2, none⟩) (Nat.le_refl _) (.slice (some ⟨g, 0, none⟩) L.length c)
    have Q3 := (((HPT.out.set ⟨w.heap.size, 0, none⟩ (.int .i64 0) n1).set ⟨w.heap.size, 1, none⟩ (.int .i64 0) n1).set ⟨w.heap.size, 2, none⟩ (.slice (some ⟨g, 0, none⟩) L.length c) n1).wide K1.out.size (Nat.le_refl _) (by simp)
    have hg0 : ¬ w.heap.size = g := by omega
    have hg0' : ¬ g = w.heap.size := by omega
    refine bodyPost_ret (v := .agg #[.int .i64 0, .int .i64 0, .slice (some ⟨g, 0, none⟩) L.length c]) (by simp [results, Try.results28, go_sem, *]) rfl ⟨some ⟨g, 0, none⟩, c, _, by rw [HPL.out], HCT.out, by rw [HPL.out]; exact hlen.out, ?_, K3⟩
    simpa using Q3

set_option maxRecDepth 100000 in
set_option maxHeartbeats 1000000 in
theorem iMove_any (so : Option Addr) (sc : Nat) (L : List Wn) (id x y : Int) (w : World) (hL : Ws w 0 w.heap.size so L) (hn : L.length + wzs L ≤ 1048576) :
    Calls Try.prog 26 #[.slice so L.length sc, .int .i64 id, .int .i64 x, .int .i64 y] w (SAns (moveZ (L.map Wn.ct) id x y) 0 (moveP (L.map Wn.ct) id x y) (moveP (L.map Wn.ct) id x y).length w) := by
  by_cases hbad : ¬ stF (L.map Wn.ct) = 0 ∨ ∀ v ∈ L, v.i ≠ id
  · have AN := fun w1 (kk : Below w.heap.size w w1) => point_no 0 w.heap.size so sc L id w1 (hL.keep kk (Nat.le_refl _)) kk.size hn hbad
    have hne := askW_ne hbad
    rw [moveP_bad hne, moveZ_bad hne]
    obtain ⟨F, hF⟩ : ∃ F, askW (L.map Wn.ct) id = F := ⟨_, rfl⟩
    rw [hF] at AN hne ⊢
    have hne' : (F != 0) = true := by simpa using hne
    have AN' := hideP AN
    clear AN hL hbad hF hne
    go_enter Try.func26, Try.ntmps26
    go_wp2_with fail
    refine Calls.mono (AN'.out _ (by go_grown)) ?_
    rintro e w1 ⟨rfl, k1⟩
    have K1 : Hid (Below w.heap.size w w1) := hideP (Below.trans (by go_grown) (k1.mono (by simp)))
    have X1 : R3 w1 w.heap.size (.int .i64 0) (.int .i64 0) (.slice none 0 0) := R3.keep ⟨by simp, by simp, by simp, by simp, by simp⟩ k1 (by simp)
    clear k1
    obtain ⟨x0, x1, x2, x3, x4⟩ := X1
    go_wp2
    have K3 := (((K1.out.setCell (p := ⟨w.heap.size, 0, none⟩) (Nat.le_refl _) (.int .i64 F)).setCell (p := ⟨w.heap.size, 1, none⟩) (Nat.le_refl _) (.int .i64 0)).setCell (p := ⟨w.heap.size, 2, none⟩) (Nat.le_refl _) (.slice none 0 0))
    exact bodyPost_ret (v := .agg #[.int .i64 F, .int .i64 0, .slice none 0 0]) (by simp [results, Try.results26, go_sem, *]) rfl (sans_bad K3)
  · obtain ⟨h0, X, r, Y, hf⟩ : stF (L.map Wn.ct) = 0 ∧ ∃ X r Y, Fst id L X r Y := by
      have h1 : stF (L.map Wn.ct) = 0 := Classical.byContradiction fun h => hbad (.inl h)
      exact ⟨h1, (fst_or id L).resolve_left fun h => hbad (.inr h)⟩
    have AY := hideP (fun w1 (kk : Below w.heap.size w w1) => point_yes 0 w.heap.size so sc L X Y r id w1 (hL.keep kk (Nat.le_refl _)) kk.size hn h0 hf)
    cases hnear : nearB x y
    · have hno := near_no hnear
      rw [moveZ_far (askW_yes h0 hf) hnear, moveP_far (askW_yes h0 hf) hnear]
      clear hL hbad h0 hf hnear
      go_enter Try.func26, Try.ntmps26
      go_wp2_with fail
      refine Calls.mono (AY.out _ (by go_grown)) ?_
      rintro e w1 ⟨g, c, X', Y', r', rfl, e1, e2, e3, LN, g1, g2, k1⟩
      have K1 : Hid (Below w.heap.size w w1) := hideP (Below.trans (by go_grown) (k1.mono (by simp)))
      have X1 : R3 w1 w.heap.size (.int .i64 0) (.int .i64 0) (.slice none 0 0) := R3.keep ⟨by simp, by simp, by simp, by simp, by simp⟩ k1 (by simp)
      clear k1 LN e1 e2 e3
      obtain ⟨x0, x1, x2, x3, x4⟩ := X1
      go_wp2_with (go_at_call 64; refine Calls.mono (reach_no x y _ hno) ?_; rintro e w2 ⟨rfl, rfl⟩)
      have K3 := (((K1.out.setCell (p := ⟨w.heap.size, 0, none⟩) (Nat.le_refl _) (.int .i64 3)).setCell (p := ⟨w.heap.size, 1, none⟩) (Nat.le_refl _) (.int .i64 0)).setCell (p := ⟨w.heap.size, 2, none⟩) (Nat.le_refl _) (.slice none 0 0))
      exact bodyPost_ret (v := .agg #[.int .i64 3, .int .i64 0, .slice none 0 0]) (by simp [results, Try.results26, go_sem, *]) rfl (sans_bad K3)
    obtain ⟨y1, y2, y3, y4⟩ := near_yes hnear
    rw [moveZ_yes (askW_yes h0 hf) hnear, moveP_yes h0 hf hnear]
    have hXl : (X.length : Int) < (L.length : Int) := by rw [hf.eq]; simp; omega
    have hn' : (L.length : Int) ≤ 1048576 := by omega
    have HF := hideP hf
    clear hL hbad h0 hf hnear
    go_enter Try.func26, Try.ntmps26
    go_wp2_with fail
    refine Calls.mono (AY.out _ (by go_grown)) ?_
    rintro e w1 ⟨g, c, X', Y', r', rfl, e1, e2, e3, LN, g1, g2, k1⟩
    have K1 : Hid (Below w.heap.size w w1) := hideP (Below.trans (by go_grown) (k1.mono (by simp)))
    have X1 : R3 w1 w.heap.size (.int .i64 0) (.int .i64 0) (.slice none 0 0) := R3.keep ⟨by simp, by simp, by simp, by simp, by simp⟩ k1 (by simp)
    have n1 := k1.size
    simp only [World.size_alloc] at g1 n1
    have PN : Pan w1 (w.heap.size + 1) w1.heap.size (some ⟨g, 0, none⟩) (X' ++ r' :: Y') := by have := LN.pan k1.size; simpa using this
    have hXX := lenW e1
    have hYY := lenW e3
    obtain ⟨_, hg0, _, _, hc, hfr⟩ := PN.q.cells
    cases hg0
    have P1 := PN.put (q := 0) (r' := ⟨r'.i, x, r'.y, r'.w, r'.h, r'.m, r'.b⟩) (u := .int .i64 x) (by omega) rfl rfl (fun j hj hq => by match j, hj, hq with | 1, _, _ | 2, _, _ | 3, _, _ | 4, _, _ | 5, _, _ | 6, _, _ => rfl) rfl
    have PT := P1.put (q := 1) (r' := ⟨r'.i, x, y, r'.w, r'.h, r'.m, r'.b⟩) (u := .int .i64 y) (by omega) rfl rfl (fun j hj hq => by match j, hj, hq with | 0, _, _ | 2, _, _ | 3, _, _ | 4, _, _ | 5, _, _ | 6, _, _ => rfl) rfl
    rw [Nat.add_zero] at PT
    clear P1
    have hlen : (X' ++ (⟨r'.i, x, y, r'.w, r'.h, r'.m, r'.b⟩ : Wn) :: Y').length = L.length := by rw [HF.out.eq]; simp [hXX, hYY]
    have SO := stackOf_any (w.heap.size + 1) w1.heap.size (some ⟨g, 0, none⟩) c (X' ++ (⟨r'.i, x, y, r'.w, r'.h, r'.m, r'.b⟩ : Wn) :: Y') ((w1.setCell ⟨g, X'.length * 7, none⟩ (.int .i64 x)).setCell ⟨g, X'.length * 7 + 1, none⟩ (.int .i64 y)) PT.q.sp (by simp) (by omega)
    rw [hlen] at SO
    rw [hXX] at hc PT SO
    have a0 := hc.pane.1
    have a1 := hc.pane.2.1
    have HPT := hideP PT
    have HSO := hideP SO
    have HCT : Hid ((X' ++ (⟨r'.i, x, y, r'.w, r'.h, r'.m, r'.b⟩ : Wn) :: Y').map Wn.ct = X.map Wn.ct ++ moveC x y r.ct :: Y.map Wn.ct) := hideP (by rw [List.map_append, List.map_cons, e1, e3, ← e2]; rfl)
    have HPL : Hid ((X.map Wn.ct ++ moveC x y r.ct :: Y.map Wn.ct).length = L.length) := hideP (by rw [HF.out.eq]; simp)
    have HLEN := hideP hlen
    have K2 : Hid (Below w.heap.size w ((w1.setCell ⟨g, X.length * 7, none⟩ (.int .i64 x)).setCell ⟨g, X.length * 7 + 1, none⟩ (.int .i64 y))) := hideP ((K1.out.setCell (p := ⟨g, X.length * 7, none⟩) (by show w.heap.size ≤ g; omega) (.int .i64 x)).setCell (p := ⟨g, X.length * 7 + 1, none⟩) (by show w.heap.size ≤ g; omega) (.int .i64 y))
    have X2 := hideP (X1.far ((Far.of_set7 (w := w1) (g := g) (o := X.length * 7) (v := .int .i64 x) (lo := g) (hi := g + 1) ⟨Nat.le_refl _, Nat.lt_succ_self _⟩).trans (Far.of_set7 (g := g) (o := X.length * 7 + 1) (v := .int .i64 y) ⟨Nat.le_refl _, Nat.lt_succ_self _⟩)) (by omega))
    clear k1 LN e1 e2 e3 PN hc PT SO hlen HF AY X1
    go_wp2_with (first | (go_at_call 64; refine Calls.mono (reach_yes x y _ y1 y2 y3 y4) ?_; rintro e w2 ⟨rfl, hw⟩; subst w2) | (go_at_call 65; refine Calls.mono (moveTo_any g (X.length * 7) r'.x r'.y x y w1 a0 a1 hfr) ?_; rintro e w2 ⟨rfl, rfl⟩))
    generalize (w1.setCell ⟨g, X.length * 7, none⟩ (.int .i64 x)).setCell ⟨g, X.length * 7 + 1, none⟩ (.int .i64 y) = w2 at *
    refine Calls.mono HSO.out ?_
    rintro e w3 ⟨s3, c3, rfl, O3, k3⟩
    have Q3 := hideP (HPT.out.done k3 O3)
    have K3 := hideP (K2.out.trans (k3.mono K2.out.size))
    obtain ⟨x0, x1, x2, x3, x4⟩ := X2.out.keep k3 X2.out.lt
    clear k3 O3 HSO HPT a0 a1 X2
    go_wp2
    have K4 := ((K3.out.setCell (p := ⟨w.heap.size, 0, none⟩) (Nat.le_refl _) (.int .i64 0)).setCell (p := ⟨w.heap.size, 1, none⟩) (Nat.le_refl _) (.int .i64 0)).setCell (p := ⟨w.heap.size, 2, none⟩) (Nat.le_refl _) (.slice s3 L.length c3)
    have Q4 := (((Q3.out.set ⟨w.heap.size, 0, none⟩ (.int .i64 0) (Nat.lt_succ_self _)).set ⟨w.heap.size, 1, none⟩ (.int .i64 0) (Nat.lt_succ_self _)).set ⟨w.heap.size, 2, none⟩ (.slice s3 L.length c3) (Nat.lt_succ_self _)).wide (Nat.le_succ _) (Nat.le_refl _) (by simp)
    refine bodyPost_ret (v := .agg #[.int .i64 0, .int .i64 0, .slice s3 L.length c3]) (by simp [results, Try.results26, go_sem, *]) rfl ⟨s3, c3, _, by rw [HPL.out], HCT.out, by rw [HPL.out]; exact HLEN.out, ?_, K4⟩
    simpa using Q4
end Go.Proofs.Ytflodklggkkmiaa
