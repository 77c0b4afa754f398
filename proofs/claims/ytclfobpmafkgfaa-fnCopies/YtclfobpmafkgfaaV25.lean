/- FillWindow, by the specification and by the program. -/
import Derived.Test.YtclfobpmafkgfaaV24
import Derived.Test.YtclfobpmafkgfaaV9
namespace Go.Proofs.Ytclfobpmafkgfaa
open Go.RowKit Go.Maps
set_option linter.unusedVariables false

set_option maxRecDepth 100000 in
set_option maxHeartbeats 4000000 in
theorem iFill_any (so : Option Addr) (sc : Nat) (L : List Wn) (id rx ry rp rh : Int) (col : Int) (w : World) (hL : Ws w 0 w.heap.size so L) (hn : L.length + wzs L ≤ 1048576) :
    Calls Try.prog 11 #[.slice so L.length sc, .int .i64 id, .agg #[.int .i64 rx, .int .i64 ry, .int .i64 rp, .int .i64 rh], .int .i64 col] w (SAns (fillZ (L.map Wn.ct) id rx ry rp rh col) 0 (fillP (L.map Wn.ct) id rx ry rp rh col) (fillP (L.map Wn.ct) id rx ry rp rh col).length w) := by
  by_cases hask : askW (L.map Wn.ct) id = 0
  · obtain ⟨h0, X, r, Y, hf⟩ := askW_ok hask
    have AY := hideP (fun w1 (kk : Below w.heap.size w w1) => ptp_any 0 w.heap.size so sc L X Y r id rx ry rp rh w1 (hL.keep kk (Nat.le_refl _)) kk.size hn h0 hf)
    have hpz := ptp_yes (rx := rx) (ry := ry) (rp := rp) (rh := rh) hask
    cases hr : rfB rx ry rp rh
    · rw [hr, show rfOf false = 0 from rfl] at hpz AY
      cases hb : byB col
      · have hz : fillZ (L.map Wn.ct) id rx ry rp rh col = 3 := by rw [fillZ_yes hpz, hb]; rfl
        rw [fillP_no (by rw [hz]; decide), hz]
        clear hL hask h0 hf hpz hz
        have hcol := byB_no hb
        go_enter Try.func11, Try.ntmps11
        go_wp2_with fail
        refine Calls.mono (AY.out _ (by go_grown)) ?_
        rintro e w1 ⟨g, c, X', Y', r', rfl, e1, e2, e3, QW, g1, g2, k1⟩
        have K1 : Hid (Below w.heap.size w w1) := hideP (Below.trans (by go_grown) (k1.mono (by simp; omega)))
        have X1 := hideP (show R3 w1 (w.heap.size + 1) (.int .i64 0) (.int .i64 0) (.slice none 0 0) from R3.keep ⟨by simp [go_sem], by simp [go_sem], by simp [go_sem], by simp [go_sem], by simp⟩ k1 (by simp))
        obtain ⟨x0, x1, x2, x3, x4⟩ := X1.out
        clear k1 QW e1 e2 e3 AY X1
        go_wp2_with fail
        refine Calls.mono (byte7_any col w1) ?_
        rintro e w2 ⟨rfl, hw⟩
        subst w2
        rw [hb]
        go_wp2
        have K9 := (((K1.out.setCell (p := ⟨w.heap.size + 1, 0, none⟩) (by show w.heap.size ≤ w.heap.size + 1; omega) (.int .i64 3)).setCell (p := ⟨w.heap.size + 1, 1, none⟩) (by show w.heap.size ≤ w.heap.size + 1; omega) (.int .i64 0)).setCell (p := ⟨w.heap.size + 1, 2, none⟩) (by show w.heap.size ≤ w.heap.size + 1; omega) (.slice none 0 0))
        exact bodyPost_ret (v := .agg #[.int .i64 3, .int .i64 0, .slice none 0 0]) (by simp [results, Try.results11, go_sem, *]) rfl (sans_bad K9)
      · have hz : fillZ (L.map Wn.ct) id rx ry rp rh col = 0 := by rw [fillZ_yes hpz, hb]; rfl
        obtain ⟨p1, p2, p3⟩ := fst_right h0 hf
        rw [fillP_yes hz hf, hz]
        have hPL : (X.map Wn.ct ++ fillC rx ry rp rh col r.ct :: Y.map Wn.ct).length = L.length := by rw [hf.eq]; simp
        have HPL := hideP hPL
        have HF := hideP hf
        have hn' : L.length ≤ 1048576 := by omega
        clear hL hn hask h0 hf hpz hz hPL
        have hcol := byB_yes hb
        obtain ⟨hcol1, hcol2⟩ := hcol
        go_enter Try.func11, Try.ntmps11
        go_wp2_with fail
        refine Calls.mono (AY.out _ (by go_grown)) ?_
        rintro e w1 ⟨g, c, X', Y', r', rfl, e1, e2, e3, QW, g1, g2, k1⟩
        have K1 : Hid (Below w.heap.size w w1) := hideP (Below.trans (by go_grown) (k1.mono (by simp; omega)))
        have X1 := hideP (show R3 w1 (w.heap.size + 1) (.int .i64 0) (.int .i64 0) (.slice none 0 0) from R3.keep ⟨by simp [go_sem], by simp [go_sem], by simp [go_sem], by simp [go_sem], by simp⟩ k1 (by simp))
        have n1 := k1.size
        simp only [World.size_alloc] at g1 n1 QW
        obtain ⟨d0, d1, d2, d3⟩ : w1.cell? ⟨w.heap.size, 0, none⟩ = some (.int .i64 rx) ∧ w1.cell? ⟨w.heap.size, 1, none⟩ = some (.int .i64 ry) ∧ w1.cell? ⟨w.heap.size, 2, none⟩ = some (.int .i64 rp) ∧ w1.cell? ⟨w.heap.size, 3, none⟩ = some (.int .i64 rh) :=
          ⟨(k1.cell (p := ⟨w.heap.size, 0, none⟩) (by simp; omega)).trans (by simp [go_sem]), (k1.cell (p := ⟨w.heap.size, 1, none⟩) (by simp; omega)).trans (by simp [go_sem]), (k1.cell (p := ⟨w.heap.size, 2, none⟩) (by simp; omega)).trans (by simp [go_sem]), (k1.cell (p := ⟨w.heap.size, 3, none⟩) (by simp; omega)).trans (by simp [go_sem])⟩
        have hXX := lenW e1
        have hYY := lenW e3
        have hri : r'.b.L = r.b.L := congrArg Wc.L e2
        have hrw : r'.w = r.w := congrArg Wc.w e2
        have hrh : r'.h = r.h := congrArg Wc.h e2
        rw [← hri, ← hrw, ← hrh] at p3
        rw [← hrw] at p1
        rw [← hrh] at p2
        have hne : r'.b.L ≠ [] := fun e => by have := area_pos p1 p2; rw [e] at p3; simp at p3; omega
        obtain ⟨ea, hW, gl1, gl2⟩ := QW.cellsOf hne
        obtain ⟨_, hg0, _, _, hc, hfr⟩ := QW.cells
        cases hg0
        have hng : g ≠ r'.b.g := fun e => QW.ne g rfl r'.b (by simp) hne e.symm
        rw [hXX] at hc
        obtain ⟨c0, c1, c2, c3, c4, c5, c6⟩ := hc.pane
        rw [ea] at c6
        have I : Pip w1 g (X.length * 7) r'.b.g r'.b.cap r'.x r'.y r'.w r'.h r'.b.L.length := ⟨c0, c1, c2, c3, c6, hng⟩
        have FI := hideP (fill_any g (X.length * 7) r'.b.g r'.b.cap r'.x r'.y r'.w r'.h rx ry rp rh col r'.b.L w1 I hW p1 p2 p3 hne hr)
        have HQ := hideP QW
        have hlen : (X' ++ r'.put (fillL r'.w rx ry rp rh col r'.b.L) :: Y').length = L.length := by rw [HF.out.eq]; simp [hXX, hYY]
        have HCT : Hid ((X' ++ r'.put (fillL r'.w rx ry rp rh col r'.b.L) :: Y').map Wn.ct = X.map Wn.ct ++ fillC rx ry rp rh col r.ct :: Y.map Wn.ct) := hideP (by
          rw [List.map_append, List.map_cons, e1, e3, put_ct]
          show _ = X.map Wn.ct ++ r.ct.put (fillL r.ct.w rx ry rp rh col r.ct.L) :: Y.map Wn.ct
          rw [← e2]
          rfl)
        have HLEN := hideP hlen
        have HNE := hideP hne
        have hwr0 : w.heap.size < w1.heap.size := by omega
        clear k1 QW e1 e2 e3 hc c0 c1 c2 c3 c4 c5 c6 I hW AY hng p3 hlen HF hri hrw hrh hXX hYY ea
        go_wp2_with fail
        refine Calls.mono (byte7_any col w1) ?_
        rintro e w2 ⟨rfl, hw⟩
        subst w2
        rw [hb]
        go_wp2_with fail
        refine Calls.mono FI.out ?_
        rintro e w2 ⟨rfl, S2⟩
        have hl2 : (fillL r'.w rx ry rp rh col r'.b.L).length = r'.b.L.length := fillL_len
        have QP := HQ.out.paint (V := Wn.pals) HNE.out S2 (put_pals hl2)
        have z2 := S2.far.size
        have SO := stackOf_any (w.heap.size + 1 + 1) w1.heap.size (some ⟨g, 0, none⟩) c (X' ++ r'.put (fillL r'.w rx ry rp rh col r'.b.L) :: Y') w2 QP.sp QP.hs (by rw [HLEN.out]; omega)
        rw [HLEN.out] at SO
        have HSO := hideP SO
        have HQP := hideP QP
        have K2 := hideP (K1.out.trans (S2.far.below (B := w.heap.size) (by omega) K1.out.size))
        have X2 := hideP (X1.out.far S2.far (by omega))
        clear SO QP S2 HQ FI d0 d1 d2 d3 X1 hl2
        go_wp2_with fail
        refine Calls.mono HSO.out ?_
        rintro e w3 ⟨s3, c3, rfl, O3, k3⟩
        have Q3 := hideP (HQP.out.done k3 O3)
        have K3 := hideP (K2.out.trans (k3.mono K2.out.size))
        obtain ⟨x0, x1, x2, x3, x4⟩ := X2.out.keep k3 X2.out.lt
        clear k3 O3 HSO HQP X2
        go_wp2
        have K4 := ((K3.out.setCell (p := ⟨w.heap.size + 1, 0, none⟩) (Nat.le_succ _) (.int .i64 0)).setCell (p := ⟨w.heap.size + 1, 1, none⟩) (Nat.le_succ _) (.int .i64 0)).setCell (p := ⟨w.heap.size + 1, 2, none⟩) (Nat.le_succ _) (.slice s3 L.length c3)
        have Q4 := (((Q3.out.set ⟨w.heap.size + 1, 0, none⟩ (.int .i64 0) (Nat.lt_succ_self _)).set ⟨w.heap.size + 1, 1, none⟩ (.int .i64 0) (Nat.lt_succ_self _)).set ⟨w.heap.size + 1, 2, none⟩ (.slice s3 L.length c3) (Nat.lt_succ_self _)).wide (lo' := w.heap.size) (by omega) (Nat.le_refl _) (by simp)
        refine bodyPost_ret (v := .agg #[.int .i64 0, .int .i64 0, .slice s3 L.length c3]) (by simp [results, Try.results11, go_sem, *]) rfl ⟨s3, c3, _, by rw [HPL.out], HCT.out, by rw [HPL.out]; exact HLEN.out, ?_, K4⟩
        simpa using Q4
    · rw [hr, show rfOf true = 3 from rfl] at hpz AY
      have hz : fillZ (L.map Wn.ct) id rx ry rp rh col = 3 := by rw [fillZ_bad (by rw [hpz]; decide), hpz]
      rw [fillP_no (by rw [hz]; decide), hz]
      clear hL hask h0 hf hpz hz
      go_enter Try.func11, Try.ntmps11
      go_wp2_with fail
      refine Calls.mono (AY.out _ (by go_grown)) ?_
      rintro e w1 ⟨g, c, X', Y', r', rfl, e1, e2, e3, QW, g1, g2, k1⟩
      have K1 : Hid (Below w.heap.size w w1) := hideP (Below.trans (by go_grown) (k1.mono (by simp; omega)))
      have X1 := hideP (show R3 w1 (w.heap.size + 1) (.int .i64 0) (.int .i64 0) (.slice none 0 0) from R3.keep ⟨by simp [go_sem], by simp [go_sem], by simp [go_sem], by simp [go_sem], by simp⟩ k1 (by simp))
      obtain ⟨x0, x1, x2, x3, x4⟩ := X1.out
      clear k1 QW e1 e2 e3 AY X1
      go_wp2
      have K9 := (((K1.out.setCell (p := ⟨w.heap.size + 1, 0, none⟩) (by show w.heap.size ≤ w.heap.size + 1; omega) (.int .i64 3)).setCell (p := ⟨w.heap.size + 1, 1, none⟩) (by show w.heap.size ≤ w.heap.size + 1; omega) (.int .i64 0)).setCell (p := ⟨w.heap.size + 1, 2, none⟩) (by show w.heap.size ≤ w.heap.size + 1; omega) (.slice none 0 0))
      exact bodyPost_ret (v := .agg #[.int .i64 3, .int .i64 0, .slice none 0 0]) (by simp [results, Try.results11, go_sem, *]) rfl (sans_bad K9)
  · have AN := fun w1 (kk : Below w.heap.size w w1) => ptp_no 0 w.heap.size so sc L id rx ry rp rh w1 (hL.keep kk (Nat.le_refl _)) kk.size hn hask
    have hpz := ptp_bad (rx := rx) (ry := ry) (rp := rp) (rh := rh) hask
    have hz : fillZ (L.map Wn.ct) id rx ry rp rh col = askW (L.map Wn.ct) id := by rw [fillZ_bad (by rw [hpz]; exact hask), hpz]
    rw [fillP_no (by rw [hz]; exact hask), hz]
    obtain ⟨F, hF⟩ : ∃ F, askW (L.map Wn.ct) id = F := ⟨_, rfl⟩
    rw [hF] at AN hask ⊢
    have hne' : (F != 0) = true := by simpa using hask
    have AN' := hideP AN
    clear AN hL hF hask hpz hz
    go_enter Try.func11, Try.ntmps11
    go_wp2_with fail
    refine Calls.mono (AN'.out _ (by go_grown)) ?_
    rintro e w1 ⟨rfl, k1⟩
    have K1 : Hid (Below w.heap.size w w1) := hideP (Below.trans (by go_grown) (k1.mono (by simp; omega)))
    have X1 := hideP (show R3 w1 (w.heap.size + 1) (.int .i64 0) (.int .i64 0) (.slice none 0 0) from R3.keep ⟨by simp [go_sem], by simp [go_sem], by simp [go_sem], by simp [go_sem], by simp⟩ k1 (by simp))
    clear k1 AN'
    obtain ⟨x0, x1, x2, x3, x4⟩ := X1.out
    clear X1
    go_wp2
    have K9 := (((K1.out.setCell (p := ⟨w.heap.size + 1, 0, none⟩) (by show w.heap.size ≤ w.heap.size + 1; omega) (.int .i64 F)).setCell (p := ⟨w.heap.size + 1, 1, none⟩) (by show w.heap.size ≤ w.heap.size + 1; omega) (.int .i64 0)).setCell (p := ⟨w.heap.size + 1, 2, none⟩) (by show w.heap.size ≤ w.heap.size + 1; omega) (.slice none 0 0))
    exact bodyPost_ret (v := .agg #[.int .i64 F, .int .i64 0, .slice none 0 0]) (by simp [results, Try.results11, go_sem, *]) rfl (sans_bad K9)

set_option maxRecDepth 100000 in
set_option maxHeartbeats 4000000 in
theorem sFill_any (so : Option Addr) (sc : Nat) (L : List Wn) (id rx ry rp rh : Int) (col : Int) (w : World) (hL : Ws w 0 w.heap.size so L) (hn : L.length + wzs L ≤ 1048576) :
    Calls Try.prog 18 #[.slice so L.length sc, .int .i64 id, .agg #[.int .i64 rx, .int .i64 ry, .int .i64 rp, .int .i64 rh], .int .i64 col] w (SAns (fillZ (L.map Wn.ct) id rx ry rp rh col) 0 (fillP (L.map Wn.ct) id rx ry rp rh col) (fillP (L.map Wn.ct) id rx ry rp rh col).length w) := by
  by_cases hask : askW (L.map Wn.ct) id = 0
  · obtain ⟨h0, X, r, Y, hf⟩ := askW_ok hask
    have AY := hideP (fun w1 (kk : Below w.heap.size w w1) => asked_yes 0 w.heap.size so sc L X Y r id w1 (hL.keep kk (Nat.le_refl _)) kk.size hn h0 hf)
    have hpz := ptp_yes (rx := rx) (ry := ry) (rp := rp) (rh := rh) hask
    cases hr : rfB rx ry rp rh
    · rw [hr, show rfOf false = 0 from rfl] at hpz
      cases hb : byB col
      · have hz : fillZ (L.map Wn.ct) id rx ry rp rh col = 3 := by rw [fillZ_yes hpz, hb]; rfl
        rw [fillP_no (by rw [hz]; decide), hz]
        clear hL hask h0 hf hpz hz
        have hcol := byB_no hb
        go_enter Try.func18, Try.ntmps18
        go_wp2_with fail
        refine Calls.mono (AY.out _ (by go_grown)) ?_
        rintro e w1 ⟨rfl, k1⟩
        have K1 : Hid (Below w.heap.size w w1) := hideP (Below.trans (by go_grown) (k1.mono (by simp; omega)))
        have n1 := k1.size
        simp only [World.size_alloc] at n1
        have X1 := hideP (show R3 w1 (w.heap.size + 1) (.int .i64 0) (.int .i64 0) (.slice none 0 0) from R3.keep ⟨by simp [go_sem], by simp [go_sem], by simp [go_sem], by simp [go_sem], by simp⟩ k1 (by simp))
        have R1 := hideP (show IsRect w1 w.heap.size 0 rx ry rp rh from ⟨(k1.cell (p := ⟨w.heap.size, 0, none⟩) (by simp; omega)).trans (by simp [go_sem]), (k1.cell (p := ⟨w.heap.size, 0 + 1, none⟩) (by simp; omega)).trans (by simp [go_sem]), (k1.cell (p := ⟨w.heap.size, 0 + 2, none⟩) (by simp; omega)).trans (by simp [go_sem]), (k1.cell (p := ⟨w.heap.size, 0 + 3, none⟩) (by simp; omega)).trans (by simp [go_sem])⟩)
        have hwr : w.heap.size + 1 < w1.heap.size := by omega
        have RF := l2F_any w.heap.size 0 rx ry rp rh w1 R1.out
        rw [hr] at RF
        have RF' := hideP RF
        clear k1 RF
        go_wp2_with fail
        refine Calls.mono RF'.out ?_
        rintro e w2 ⟨rfl, hw⟩
        subst w2
        clear RF'
        go_wp2_with fail
        refine Calls.mono (in_no col 0 255 w1 hcol) ?_
        rintro e w2 ⟨rfl, hw⟩
        subst w2
        go_wp2_with fail
        refine Calls.mono (l7Bad_any 3 w1) ?_
        rintro e w9 ⟨rfl, k9⟩
        have K8 := hideP (K1.out.trans (k9.mono K1.out.size))
        obtain ⟨x0, x1, x2, x3, x4⟩ := X1.out.keep k9 X1.out.lt
        clear k9 X1
        go_wp2
        have K9 := (((K8.out.setCell (p := ⟨w.heap.size + 1, 0, none⟩) (by show w.heap.size ≤ w.heap.size + 1; omega) (.int .i64 3)).setCell (p := ⟨w.heap.size + 1, 1, none⟩) (by show w.heap.size ≤ w.heap.size + 1; omega) (.int .i64 0)).setCell (p := ⟨w.heap.size + 1, 2, none⟩) (by show w.heap.size ≤ w.heap.size + 1; omega) (.slice none 0 0))
        exact bodyPost_ret (v := .agg #[.int .i64 3, .int .i64 0, .slice none 0 0]) (by simp [results, Try.results18, go_sem, *]) rfl (sans_bad K9)
      · have hz : fillZ (L.map Wn.ct) id rx ry rp rh col = 0 := by rw [fillZ_yes hpz, hb]; rfl
        obtain ⟨p1, p2, p3⟩ := fst_right h0 hf
        rw [fillP_yes hz hf, hz]
        have hPL : (X.map Wn.ct ++ fillC rx ry rp rh col r.ct :: Y.map Wn.ct).length = L.length := by rw [hf.eq]; simp
        have HPL := hideP hPL
        have HF := hideP hf
        have CP := hideP (fun w1 (kk : Below w.heap.size w w1) => l7Copy_any 0 w.heap.size so sc L w1 (hL.keep kk (Nat.le_refl _)) kk.size hn)
        have hXl : (X.length : Int) < (L.length : Int) := by rw [hf.eq]; simp; omega
        have hn' : (L.length : Int) ≤ 1048576 := by omega
        clear hL hask h0 hf hpz hz hPL
        have hcol := byB_yes hb
        obtain ⟨hcol1, hcol2⟩ := hcol
        go_enter Try.func18, Try.ntmps18
        go_wp2_with fail
        refine Calls.mono (AY.out _ (by go_grown)) ?_
        rintro e w1 ⟨rfl, k1⟩
        have K1 : Hid (Below w.heap.size w w1) := hideP (Below.trans (by go_grown) (k1.mono (by simp; omega)))
        have n1 := k1.size
        simp only [World.size_alloc] at n1
        have X1 := hideP (show R3 w1 (w.heap.size + 1) (.int .i64 0) (.int .i64 0) (.slice none 0 0) from R3.keep ⟨by simp [go_sem], by simp [go_sem], by simp [go_sem], by simp [go_sem], by simp⟩ k1 (by simp))
        have R1 := hideP (show IsRect w1 w.heap.size 0 rx ry rp rh from ⟨(k1.cell (p := ⟨w.heap.size, 0, none⟩) (by simp; omega)).trans (by simp [go_sem]), (k1.cell (p := ⟨w.heap.size, 0 + 1, none⟩) (by simp; omega)).trans (by simp [go_sem]), (k1.cell (p := ⟨w.heap.size, 0 + 2, none⟩) (by simp; omega)).trans (by simp [go_sem]), (k1.cell (p := ⟨w.heap.size, 0 + 3, none⟩) (by simp; omega)).trans (by simp [go_sem])⟩)
        have hwr : w.heap.size + 1 < w1.heap.size := by omega
        have RF := l2F_any w.heap.size 0 rx ry rp rh w1 R1.out
        rw [hr] at RF
        have RF' := hideP RF
        clear k1 RF
        go_wp2_with fail
        refine Calls.mono RF'.out ?_
        rintro e w2 ⟨rfl, hw⟩
        subst w2
        clear RF'
        go_wp2_with fail
        refine Calls.mono (in_yes col 0 255 w1 hcol1 hcol2) ?_
        rintro e w2 ⟨rfl, hw⟩
        subst w2
        go_wp2_with fail
        refine Calls.mono (CP.out w1 K1.out) ?_
        rintro e w3 ⟨s3, c', M, rfl, hM, LN, k3⟩
        have K3 := hideP (K1.out.trans (k3.mono K1.out.size))
        have X3 := hideP (X1.out.keep k3 X1.out.lt)
        have R3' : IsRect w3 w.heap.size 0 rx ry rp rh := ⟨(k3.cell (p := ⟨w.heap.size, 0, none⟩) (by show w.heap.size < w1.heap.size; omega)).trans R1.out.1, (k3.cell (p := ⟨w.heap.size, 0 + 1, none⟩) (by show w.heap.size < w1.heap.size; omega)).trans R1.out.2, (k3.cell (p := ⟨w.heap.size, 0 + 2, none⟩) (by show w.heap.size < w1.heap.size; omega)).trans R1.out.3, (k3.cell (p := ⟨w.heap.size, 0 + 3, none⟩) (by show w.heap.size < w1.heap.size; omega)).trans R1.out.4⟩
        have z3 := k3.size
        obtain ⟨X', r', Y', hf', e1, e2, e3⟩ := fst_ct HF.out hM
        have hMl := lenW hM
        have hXX := lenW e1
        have QW := LN.wq vals7 winNe k3.size
        have hMe := hf'.eq
        subst hMe
        have hri : r'.b.L = r.b.L := congrArg Wc.L e2
        have hrw : r'.w = r.w := congrArg Wc.w e2
        have hrh : r'.h = r.h := congrArg Wc.h e2
        rw [← hri, ← hrw, ← hrh] at p3
        rw [← hrw] at p1
        rw [← hrh] at p2
        have hne : r'.b.L ≠ [] := fun e => by have := area_pos p1 p2; rw [e] at p3; simp at p3; omega
        obtain ⟨ea, hW, gl1, gl2⟩ := QW.cellsOf hne
        obtain ⟨g, rfl, g1, g2, hc, hfr⟩ := QW.cells
        have hng : g ≠ r'.b.g := fun e => QW.ne g rfl r'.b (by simp) hne e.symm
        rw [hXX] at hc
        obtain ⟨c0, c1, c2, c3, c4, c5, c6⟩ := hc.seven
        rw [ea] at c6
        have I : Pin w3 g (X.length * 7) w.heap.size r'.b.g r'.b.cap r'.w r'.h rx ry rp rh r'.b.L.length := ⟨c3, c4, c6, R3', hng, by omega⟩
        have FI := hideP (l8Fill_any g (X.length * 7) w.heap.size r'.b.g r'.b.cap r'.w r'.h rx ry rp rh col r'.b.L w3 I hW p1 p2 p3 hne hr)
        have HQ := hideP QW
        have hlen : (X' ++ r'.put (fillL r'.w rx ry rp rh col r'.b.L) :: Y').length = L.length := by rw [← hMl]; simp
        have HCT : Hid ((X' ++ r'.put (fillL r'.w rx ry rp rh col r'.b.L) :: Y').map Wn.ct = X.map Wn.ct ++ fillC rx ry rp rh col r.ct :: Y.map Wn.ct) := hideP (by
          rw [List.map_append, List.map_cons, e1, e3, put_ct]
          show _ = X.map Wn.ct ++ r.ct.put (fillL r.ct.w rx ry rp rh col r.ct.L) :: Y.map Wn.ct
          rw [← e2]
          rfl)
        have HLEN := hideP hlen
        have HNE := hideP hne
        have hwr0 : w.heap.size < w3.heap.size := by omega
        rw [hMl]
        clear k3 LN hM hf' e1 e2 e3 QW hc c0 c1 c2 c3 c4 c5 c6 I hW AY CP hng p3 hMl hlen HF hri hrw hrh hXX ea X1 R1 R3'
        go_wp2_with fail
        refine Calls.mono FI.out ?_
        rintro e w4 ⟨rfl, S4⟩
        have hl2 : (fillL r'.w rx ry rp rh col r'.b.L).length = r'.b.L.length := fillL_len
        have QP := HQ.out.paint (V := Wn.vals) HNE.out S4 (put_vals hl2)
        have HQP := hideP QP
        have K4 := hideP (K3.out.trans (S4.far.below (B := w.heap.size) (by omega) K3.out.size))
        obtain ⟨x0, x1, x2, x3, x4⟩ := X3.out.far S4.far (by omega)
        have z4 := S4.far.size
        clear QP S4 HQ FI X3 hl2
        go_wp2
        have K5 := ((K4.out.setCell (p := ⟨w.heap.size + 1, 0, none⟩) (Nat.le_succ _) (.int .i64 0)).setCell (p := ⟨w.heap.size + 1, 1, none⟩) (Nat.le_succ _) (.int .i64 0)).setCell (p := ⟨w.heap.size + 1, 2, none⟩) (Nat.le_succ _) (.slice (some ⟨g, 0, none⟩) L.length c')
        have Q5 := (((HQP.out.set ⟨w.heap.size + 1, 0, none⟩ (.int .i64 0) hwr).set ⟨w.heap.size + 1, 1, none⟩ (.int .i64 0) hwr).set ⟨w.heap.size + 1, 2, none⟩ (.slice (some ⟨g, 0, none⟩) L.length c') hwr).wide (lo' := w.heap.size) (hi' := w4.heap.size) (by omega) z4 (by simp)
        refine bodyPost_ret (v := .agg #[.int .i64 0, .int .i64 0, .slice (some ⟨g, 0, none⟩) L.length c']) (by simp [results, Try.results18, go_sem, *]) rfl ⟨some ⟨g, 0, none⟩, c', _, by rw [HPL.out], HCT.out, by rw [HPL.out]; exact HLEN.out, ?_, K5⟩
        simpa using Q5
    · rw [hr, show rfOf true = 3 from rfl] at hpz
      have hz : fillZ (L.map Wn.ct) id rx ry rp rh col = 3 := by rw [fillZ_bad (by rw [hpz]; decide), hpz]
      rw [fillP_no (by rw [hz]; decide), hz]
      clear hL hask h0 hf hpz hz
      go_enter Try.func18, Try.ntmps18
      go_wp2_with fail
      refine Calls.mono (AY.out _ (by go_grown)) ?_
      rintro e w1 ⟨rfl, k1⟩
      have K1 : Hid (Below w.heap.size w w1) := hideP (Below.trans (by go_grown) (k1.mono (by simp; omega)))
      have n1 := k1.size
      simp only [World.size_alloc] at n1
      have X1 := hideP (show R3 w1 (w.heap.size + 1) (.int .i64 0) (.int .i64 0) (.slice none 0 0) from R3.keep ⟨by simp [go_sem], by simp [go_sem], by simp [go_sem], by simp [go_sem], by simp⟩ k1 (by simp))
      have R1 := hideP (show IsRect w1 w.heap.size 0 rx ry rp rh from ⟨(k1.cell (p := ⟨w.heap.size, 0, none⟩) (by simp; omega)).trans (by simp [go_sem]), (k1.cell (p := ⟨w.heap.size, 0 + 1, none⟩) (by simp; omega)).trans (by simp [go_sem]), (k1.cell (p := ⟨w.heap.size, 0 + 2, none⟩) (by simp; omega)).trans (by simp [go_sem]), (k1.cell (p := ⟨w.heap.size, 0 + 3, none⟩) (by simp; omega)).trans (by simp [go_sem])⟩)
      have hwr : w.heap.size + 1 < w1.heap.size := by omega
      have RF := l2F_any w.heap.size 0 rx ry rp rh w1 R1.out
      rw [hr] at RF
      have RF' := hideP RF
      clear k1 RF
      go_wp2_with fail
      refine Calls.mono RF'.out ?_
      rintro e w2 ⟨rfl, hw⟩
      subst w2
      clear RF'
      go_wp2_with fail
      refine Calls.mono (l7Bad_any 3 w1) ?_
      rintro e w9 ⟨rfl, k9⟩
      have K8 := hideP (K1.out.trans (k9.mono K1.out.size))
      obtain ⟨x0, x1, x2, x3, x4⟩ := X1.out.keep k9 X1.out.lt
      clear k9 X1
      go_wp2
      have K9 := (((K8.out.setCell (p := ⟨w.heap.size + 1, 0, none⟩) (by show w.heap.size ≤ w.heap.size + 1; omega) (.int .i64 3)).setCell (p := ⟨w.heap.size + 1, 1, none⟩) (by show w.heap.size ≤ w.heap.size + 1; omega) (.int .i64 0)).setCell (p := ⟨w.heap.size + 1, 2, none⟩) (by show w.heap.size ≤ w.heap.size + 1; omega) (.slice none 0 0))
      exact bodyPost_ret (v := .agg #[.int .i64 3, .int .i64 0, .slice none 0 0]) (by simp [results, Try.results18, go_sem, *]) rfl (sans_bad K9)
  · have AN := fun w1 (kk : Below w.heap.size w w1) => asked_no 0 w.heap.size so sc L id w1 (hL.keep kk (Nat.le_refl _)) kk.size hn (askW_no hask)
    have hpz := ptp_bad (rx := rx) (ry := ry) (rp := rp) (rh := rh) hask
    have hz : fillZ (L.map Wn.ct) id rx ry rp rh col = askW (L.map Wn.ct) id := by rw [fillZ_bad (by rw [hpz]; exact hask), hpz]
    rw [fillP_no (by rw [hz]; exact hask), hz]
    obtain ⟨F, hF⟩ : ∃ F, askW (L.map Wn.ct) id = F := ⟨_, rfl⟩
    rw [hF] at AN hask ⊢
    have hne' : (F != 0) = true := by simpa using hask
    have AN' := hideP AN
    clear AN hL hF hask hpz hz
    go_enter Try.func18, Try.ntmps18
    go_wp2_with fail
    refine Calls.mono (AN'.out _ (by go_grown)) ?_
    rintro e w1 ⟨rfl, k1⟩
    have K1 : Hid (Below w.heap.size w w1) := hideP (Below.trans (by go_grown) (k1.mono (by simp; omega)))
    have X1 := hideP (show R3 w1 (w.heap.size + 1) (.int .i64 0) (.int .i64 0) (.slice none 0 0) from R3.keep ⟨by simp [go_sem], by simp [go_sem], by simp [go_sem], by simp [go_sem], by simp⟩ k1 (by simp))
    clear k1 AN'
    go_wp2_with fail
    refine Calls.mono (l7Bad_any F w1) ?_
    rintro e w9 ⟨rfl, k9⟩
    have K8 := hideP (K1.out.trans (k9.mono K1.out.size))
    obtain ⟨x0, x1, x2, x3, x4⟩ := X1.out.keep k9 X1.out.lt
    clear k9 X1
    go_wp2
    have K9 := (((K8.out.setCell (p := ⟨w.heap.size + 1, 0, none⟩) (by show w.heap.size ≤ w.heap.size + 1; omega) (.int .i64 F)).setCell (p := ⟨w.heap.size + 1, 1, none⟩) (by show w.heap.size ≤ w.heap.size + 1; omega) (.int .i64 0)).setCell (p := ⟨w.heap.size + 1, 2, none⟩) (by show w.heap.size ≤ w.heap.size + 1; omega) (.slice none 0 0))
    exact bodyPost_ret (v := .agg #[.int .i64 F, .int .i64 0, .slice none 0 0]) (by simp [results, Try.results18, go_sem, *]) rfl (sans_bad K9)
end Go.Proofs.Ytclfobpmafkgfaa
