/- CopyWindow, by the specification and by the program. -/
import Derived.Test.YtclfobpmafkgfaaV24
import Derived.Test.YtclfobpmafkgfaaV47
import Derived.Test.YtclfobpmafkgfaaV23
namespace Go.Proofs.Ytclfobpmafkgfaa
open Go.RowKit Go.Maps
set_option linter.unusedVariables false

/-- CopyWindow's code, and what it does to cells. -/
def copyZ (C : List Wc) (id rx ry rp rh tx ty : Int) : Int := if ptpZ C id rx ry rp rh = 0 then (if nearB tx ty then 0 else 3) else ptpZ C id rx ry rp rh
def copyC (rx ry rp rh tx ty : Int) (c : Wc) : Wc := c.put (copyL c.w c.h rx ry rp rh tx ty c.L)
def copyP (C : List Wc) (id rx ry rp rh tx ty : Int) : List Wc := if copyZ C id rx ry rp rh tx ty = 0 then modW id (copyC rx ry rp rh tx ty) C else []
theorem copyZ_bad {C : List Wc} {id rx ry rp rh tx ty : Int} (h : ptpZ C id rx ry rp rh ≠ 0) : copyZ C id rx ry rp rh tx ty = ptpZ C id rx ry rp rh := by unfold copyZ; rw [if_neg h]
theorem copyZ_yes {C : List Wc} {id rx ry rp rh tx ty : Int} (h : ptpZ C id rx ry rp rh = 0) : copyZ C id rx ry rp rh tx ty = if nearB tx ty then 0 else 3 := by unfold copyZ; rw [if_pos h]
theorem copyP_no {C : List Wc} {id rx ry rp rh tx ty : Int} (h : copyZ C id rx ry rp rh tx ty ≠ 0) : copyP C id rx ry rp rh tx ty = [] := by unfold copyP; rw [if_neg h]
theorem copyP_yes {L X Y : List Wn} {r : Wn} {id rx ry rp rh tx ty : Int} (h : copyZ (L.map Wn.ct) id rx ry rp rh tx ty = 0) (hf : Fst id L X r Y) : copyP (L.map Wn.ct) id rx ry rp rh tx ty = X.map Wn.ct ++ copyC rx ry rp rh tx ty r.ct :: Y.map Wn.ct := by
  unfold copyP; rw [if_pos h, modW_at hf]
theorem small_copy {L : List Wn} (id rx ry rp rh tx ty : Int) (h : L.length + wzs L ≤ 1048576) : ∀ N : List Wn, N.map Wn.ct = copyP (L.map Wn.ct) id rx ry rp rh tx ty → N.length + wzs N ≤ 1048576 :=
  small_of (L := L) (by
    unfold copyP
    split
    · rw [modW_len, cz_mod2 (f := copyC rx ry rp rh tx ty) (fun c => copyL_len), cz_wzs, List.length_map]; exact h
    · simp [cz])

set_option maxRecDepth 100000 in
set_option maxHeartbeats 4000000 in
theorem iCopy_any (so : Option Addr) (sc : Nat) (L : List Wn) (id rx ry rp rh : Int) (tx ty : Int) (w : World) (hL : Ws w 0 w.heap.size so L) (hn : L.length + wzs L ≤ 1048576) :
    Calls Try.prog 22 #[.slice so L.length sc, .int .i64 id, .agg #[.int .i64 rx, .int .i64 ry, .int .i64 rp, .int .i64 rh], .int .i64 tx, .int .i64 ty] w (SAns (copyZ (L.map Wn.ct) id rx ry rp rh tx ty) 0 (copyP (L.map Wn.ct) id rx ry rp rh tx ty) (copyP (L.map Wn.ct) id rx ry rp rh tx ty).length w) := by
  by_cases hask : askW (L.map Wn.ct) id = 0
  · obtain ⟨h0, X, r, Y, hf⟩ := askW_ok hask
    have AY := hideP (fun w1 (kk : Below w.heap.size w w1) => ptp_any 0 w.heap.size so sc L X Y r id rx ry rp rh w1 (hL.keep kk (Nat.le_refl _)) kk.size hn h0 hf)
    have hpz := ptp_yes (rx := rx) (ry := ry) (rp := rp) (rh := rh) hask
    cases hr : rfB rx ry rp rh
    · rw [hr, show rfOf false = 0 from rfl] at hpz AY
      cases hb : nearB tx ty
      · have hz : copyZ (L.map Wn.ct) id rx ry rp rh tx ty = 3 := by rw [copyZ_yes hpz, hb]; rfl
        rw [copyP_no (by rw [hz]; decide), hz]
        clear hL hask h0 hf hpz hz
        have hno := near_no hb
        go_enter Try.func22, Try.ntmps22
        go_wp2_with fail
        refine Calls.mono (AY.out _ (by go_grown)) ?_
        rintro e w1 ⟨g, c, X', Y', r', rfl, e1, e2, e3, QW, g1, g2, k1⟩
        have K1 : Hid (Below w.heap.size w w1) := hideP (Below.trans (by go_grown) (k1.mono (by simp; omega)))
        have X1 := hideP (show R3 w1 (w.heap.size + 1) (.int .i64 0) (.int .i64 0) (.slice none 0 0) from R3.keep ⟨by simp [go_sem], by simp [go_sem], by simp [go_sem], by simp [go_sem], by simp⟩ k1 (by simp))
        obtain ⟨x0, x1, x2, x3, x4⟩ := X1.out
        clear k1 QW e1 e2 e3 AY X1
        go_wp2_with fail
        refine Calls.mono (reach_no tx ty w1 hno) ?_
        rintro e w2 ⟨rfl, hw⟩
        subst w2
        go_wp2
        have K9 := (((K1.out.setCell (p := ⟨w.heap.size + 1, 0, none⟩) (by show w.heap.size ≤ w.heap.size + 1; omega) (.int .i64 3)).setCell (p := ⟨w.heap.size + 1, 1, none⟩) (by show w.heap.size ≤ w.heap.size + 1; omega) (.int .i64 0)).setCell (p := ⟨w.heap.size + 1, 2, none⟩) (by show w.heap.size ≤ w.heap.size + 1; omega) (.slice none 0 0))
        exact bodyPost_ret (v := .agg #[.int .i64 3, .int .i64 0, .slice none 0 0]) (by simp [results, Try.results22, go_sem, *]) rfl (sans_bad K9)
      · have hz : copyZ (L.map Wn.ct) id rx ry rp rh tx ty = 0 := by rw [copyZ_yes hpz, hb]; rfl
        obtain ⟨p1, p2, p3⟩ := fst_right h0 hf
        rw [copyP_yes hz hf, hz]
        have hPL : (X.map Wn.ct ++ copyC rx ry rp rh tx ty r.ct :: Y.map Wn.ct).length = L.length := by rw [hf.eq]; simp
        have HPL := hideP hPL
        have HF := hideP hf
        have hn' : L.length ≤ 1048576 := by omega
        clear hL hn hask h0 hf hpz hz hPL
        obtain ⟨y1, y2, y3, y4⟩ := near_yes hb
        go_enter Try.func22, Try.ntmps22
        go_wp2_with fail
        refine Calls.mono (AY.out _ (by go_grown)) ?_
        rintro e w1 ⟨g, c, X', Y', r', rfl, e1, e2, e3, QW, g1, g2, k1⟩
        have K1 : Hid (Below w.heap.size w w1) := hideP (Below.trans (by go_grown) (k1.mono (by simp; omega)))
        have X1 := hideP (show R3 w1 (w.heap.size + 1) (.int .i64 0) (.int .i64 0) (.slice none 0 0) from R3.keep ⟨by simp [go_sem], by simp [go_sem], by simp [go_sem], by simp [go_sem], by simp⟩ k1 (by simp))
        have n1 := k1.size
        simp only [World.size_alloc] at g1 n1 QW
        obtain ⟨d0, d1, d2, d3⟩ : w1.cell? ⟨w.heap.size, 0, none⟩ = some (.int .i64 rx) ∧ w1.cell? ⟨w.heap.size, 1, none⟩ = some (.int .i64 ry) ∧ w1.cell? ⟨w.heap.size, 2, none⟩ = some (.int .i64 rp) ∧ w1.cell? ⟨w.heap.size, 3, none⟩ = some (.int .i64 rh) :=
          ⟨(k1.cell (p := ⟨w.heap.size, 0, none⟩) (by simp; omega)).trans (by simp [go_sem]), (k1.cell (p := ⟨w.heap.size, 1, none⟩) (by simp; omega)).trans (by simp [go_sem]), (k1.cell (p := ⟨w.heap.size, 2, none⟩) (by simp; omega)).trans (by simp [go_sem]), (k1.cell (p := ⟨w.heap.size, 3, none⟩) (by simp; omega)).trans (by simp [go_sem])⟩
        have hXX := lenW e1
        have hYY := lenW e3
        have hri : r'.b.L = r.b.L := congrArg Wc.L e2
        have hrw : r'.w = r.w := congrArg Wc.w e2
        have hrh : r'.h = r.h := congrArg Wc.h e2
        rw [← hri, ← hrw, ← hrh] at p3
        rw [← hrw] at p1
        rw [← hrh] at p2
        have hne : r'.b.L ≠ [] := fun e => by have := area_pos p1 p2; rw [e] at p3; simp at p3; omega
        obtain ⟨ea, hW, gl1, gl2⟩ := QW.cellsOf hne
        obtain ⟨_, hg0, _, _, hc, hfr⟩ := QW.cells
        cases hg0
        have hng : g ≠ r'.b.g := fun e => QW.ne g rfl r'.b (by simp) hne e.symm
        rw [hXX] at hc
        obtain ⟨c0, c1, c2, c3, c4, c5, c6⟩ := hc.pane
        rw [ea] at c6
        have I : Pip w1 g (X.length * 7) r'.b.g r'.b.cap r'.x r'.y r'.w r'.h r'.b.L.length := ⟨c0, c1, c2, c3, c6, hng⟩
        have FI := hideP (copyTo_any g (X.length * 7) r'.b.g r'.b.cap r'.x r'.y r'.w r'.h rx ry rp rh tx ty r'.b.L w1 I hW p1 p2 p3 hne hr ⟨y1, y2⟩ ⟨y3, y4⟩)
        have HQ := hideP QW
        have hlen : (X' ++ r'.put (copyL r'.w r'.h rx ry rp rh tx ty r'.b.L) :: Y').length = L.length := by rw [HF.out.eq]; simp [hXX, hYY]
        have HCT : Hid ((X' ++ r'.put (copyL r'.w r'.h rx ry rp rh tx ty r'.b.L) :: Y').map Wn.ct = X.map Wn.ct ++ copyC rx ry rp rh tx ty r.ct :: Y.map Wn.ct) := hideP (by
          rw [List.map_append, List.map_cons, e1, e3, put_ct]
          show _ = X.map Wn.ct ++ r.ct.put (copyL r.ct.w r.ct.h rx ry rp rh tx ty r.ct.L) :: Y.map Wn.ct
          rw [← e2]
          rfl)
        have HLEN := hideP hlen
        have HNE := hideP hne
        have hwr0 : w.heap.size < w1.heap.size := by omega
        clear k1 QW e1 e2 e3 hc c0 c1 c2 c3 c4 c5 c6 I hW AY hng p3 hlen HF hri hrw hrh hXX hYY ea
        go_wp2_with fail
        refine Calls.mono (reach_yes tx ty w1 y1 y2 y3 y4) ?_
        rintro e w2 ⟨rfl, hw⟩
        subst w2
        go_wp2_with fail
        refine Calls.mono FI.out ?_
        rintro e w2 ⟨rfl, S2⟩
        have hl2 : (copyL r'.w r'.h rx ry rp rh tx ty r'.b.L).length = r'.b.L.length := copyL_len
        have QP := HQ.out.paint (V := Wn.pals) HNE.out S2 (put_pals hl2)
        have z2 := S2.far.size
        have SO := stackOf_any (w.heap.size + 1 + 1) w1.heap.size (some ⟨g, 0, none⟩) c (X' ++ r'.put (copyL r'.w r'.h rx ry rp rh tx ty r'.b.L) :: Y') w2 QP.sp QP.hs (by rw [HLEN.out]; omega)
        rw [HLEN.out] at SO
        have HSO := hideP SO
        have HQP := hideP QP
        have K2 := hideP (K1.out.trans (S2.far.below (B := w.heap.size) (by omega) K1.out.size))
        have X2 := hideP (X1.out.far S2.far (by omega))
        clear SO QP S2 HQ FI d0 d1 d2 d3 X1 hl2
        go_wp2_with fail
        refine Calls.mono HSO.out ?_
        rintro e w3 ⟨s3, c3, rfl, O3, k3⟩
        have Q3 := hideP (HQP.out.done k3 O3)
        have K3 := hideP (K2.out.trans (k3.mono K2.out.size))
        obtain ⟨x0, x1, x2, x3, x4⟩ := X2.out.keep k3 X2.out.lt
        clear k3 O3 HSO HQP X2
        go_wp2
        have K4 := ((K3.out.setCell (p := ⟨w.heap.size + 1, 0, none⟩) (Nat.le_succ _) (.int .i64 0)).setCell (p := ⟨w.heap.size + 1, 1, none⟩) (Nat.le_succ _) (.int .i64 0)).setCell (p := ⟨w.heap.size + 1, 2, none⟩) (Nat.le_succ _) (.slice s3 L.length c3)
        have Q4 := (((Q3.out.set ⟨w.heap.size + 1, 0, none⟩ (.int .i64 0) (Nat.lt_succ_self _)).set ⟨w.heap.size + 1, 1, none⟩ (.int .i64 0) (Nat.lt_succ_self _)).set ⟨w.heap.size + 1, 2, none⟩ (.slice s3 L.length c3) (Nat.lt_succ_self _)).wide (lo' := w.heap.size) (by omega) (Nat.le_refl _) (by simp)
        refine bodyPost_ret (v := .agg #[.int .i64 0, .int .i64 0, .slice s3 L.length c3]) (by simp [results, Try.results22, go_sem, *]) rfl ⟨s3, c3, _, by rw [HPL.out], HCT.out, by rw [HPL.out]; exact HLEN.out, ?_, K4⟩
        simpa using Q4
    · rw [hr, show rfOf true = 3 from rfl] at hpz AY
      have hz : copyZ (L.map Wn.ct) id rx ry rp rh tx ty = 3 := by rw [copyZ_bad (by rw [hpz]; decide), hpz]
      rw [copyP_no (by rw [hz]; decide), hz]
      clear hL hask h0 hf hpz hz
      go_enter Try.func22, Try.ntmps22
      go_wp2_with fail
      refine Calls.mono (AY.out _ (by go_grown)) ?_
      rintro e w1 ⟨g, c, X', Y', r', rfl, e1, e2, e3, QW, g1, g2, k1⟩
      have K1 : Hid (Below w.heap.size w w1) := hideP (Below.trans (by go_grown) (k1.mono (by simp; omega)))
      have X1 := hideP (show R3 w1 (w.heap.size + 1) (.int .i64 0) (.int .i64 0) (.slice none 0 0) from R3.keep ⟨by simp [go_sem], by simp [go_sem], by simp [go_sem], by simp [go_sem], by simp⟩ k1 (by simp))
      obtain ⟨x0, x1, x2, x3, x4⟩ := X1.out
      clear k1 QW e1 e2 e3 AY X1
      go_wp2
      have K9 := (((K1.out.setCell (p := ⟨w.heap.size + 1, 0, none⟩) (by show w.heap.size ≤ w.heap.size + 1; omega) (.int .i64 3)).setCell (p := ⟨w.heap.size + 1, 1, none⟩) (by show w.heap.size ≤ w.heap.size + 1; omega) (.int .i64 0)).setCell (p := ⟨w.heap.size + 1, 2, none⟩) (by show w.heap.size ≤ w.heap.size + 1; omega) (.slice none 0 0))
      exact bodyPost_ret (v := .agg #[.int .i64 3, .int .i64 0, .slice none 0 0]) (by simp [results, Try.results22, go_sem, *]) rfl (sans_bad K9)
  · have AN := fun w1 (kk : Below w.heap.size w w1) => ptp_no 0 w.heap.size so sc L id rx ry rp rh w1 (hL.keep kk (Nat.le_refl _)) kk.size hn hask
    have hpz := ptp_bad (rx := rx) (ry := ry) (rp := rp) (rh := rh) hask
    have hz : copyZ (L.map Wn.ct) id rx ry rp rh tx ty = askW (L.map Wn.ct) id := by rw [copyZ_bad (by rw [hpz]; exact hask), hpz]
    rw [copyP_no (by rw [hz]; exact hask), hz]
    obtain ⟨F, hF⟩ : ∃ F, askW (L.map Wn.ct) id = F := ⟨_, rfl⟩
    rw [hF] at AN hask ⊢
    have hne' : (F != 0) = true := by simpa using hask
    have AN' := hideP AN
    clear AN hL hF hask hpz hz
    go_enter Try.func22, Try.ntmps22
    go_wp2_with fail
    refine Calls.mono (AN'.out _ (by go_grown)) ?_
    rintro e w1 ⟨rfl, k1⟩
    have K1 : Hid (Below w.heap.size w w1) := hideP (Below.trans (by go_grown) (k1.mono (by simp; omega)))
    have X1 := hideP (show R3 w1 (w.heap.size + 1) (.int .i64 0) (.int .i64 0) (.slice none 0 0) from R3.keep ⟨by simp [go_sem], by simp [go_sem], by simp [go_sem], by simp [go_sem], by simp⟩ k1 (by simp))
    clear k1 AN'
    obtain ⟨x0, x1, x2, x3, x4⟩ := X1.out
    clear X1
    go_wp2
    have K9 := (((K1.out.setCell (p := ⟨w.heap.size + 1, 0, none⟩) (by show w.heap.size ≤ w.heap.size + 1; omega) (.int .i64 F)).setCell (p := ⟨w.heap.size + 1, 1, none⟩) (by show w.heap.size ≤ w.heap.size + 1; omega) (.int .i64 0)).setCell (p := ⟨w.heap.size + 1, 2, none⟩) (by show w.heap.size ≤ w.heap.size + 1; omega) (.slice none 0 0))
    exact bodyPost_ret (v := .agg #[.int .i64 F, .int .i64 0, .slice none 0 0]) (by simp [results, Try.results22, go_sem, *]) rfl (sans_bad K9)

set_option maxRecDepth 100000 in
set_option maxHeartbeats 4000000 in
theorem sCopy_any (so : Option Addr) (sc : Nat) (L : List Wn) (id rx ry rp rh : Int) (tx ty : Int) (w : World) (hL : Ws w 0 w.heap.size so L) (hn : L.length + wzs L ≤ 1048576) :
    Calls Try.prog 23 #[.slice so L.length sc, .int .i64 id, .agg #[.int .i64 rx, .int .i64 ry, .int .i64 rp, .int .i64 rh], .int .i64 tx, .int .i64 ty] w (SAns (copyZ (L.map Wn.ct) id rx ry rp rh tx ty) 0 (copyP (L.map Wn.ct) id rx ry rp rh tx ty) (copyP (L.map Wn.ct) id rx ry rp rh tx ty).length w) := by
  by_cases hask : askW (L.map Wn.ct) id = 0
  · obtain ⟨h0, X, r, Y, hf⟩ := askW_ok hask
    have AY := hideP (fun w1 (kk : Below w.heap.size w w1) => asked_yes 0 w.heap.size so sc L X Y r id w1 (hL.keep kk (Nat.le_refl _)) kk.size hn h0 hf)
    have hpz := ptp_yes (rx := rx) (ry := ry) (rp := rp) (rh := rh) hask
    cases hr : rfB rx ry rp rh
    · rw [hr, show rfOf false = 0 from rfl] at hpz
      cases hb : nearB tx ty
      · have hz : copyZ (L.map Wn.ct) id rx ry rp rh tx ty = 3 := by rw [copyZ_yes hpz, hb]; rfl
        rw [copyP_no (by rw [hz]; decide), hz]
        clear hL hask h0 hf hpz hz
        have hno := near_no hb
        go_enter Try.func23, Try.ntmps23
        go_wp2_with fail
        refine Calls.mono (AY.out _ (by go_grown)) ?_
        rintro e w1 ⟨rfl, k1⟩
        have K1 : Hid (Below w.heap.size w w1) := hideP (Below.trans (by go_grown) (k1.mono (by simp; omega)))
        have n1 := k1.size
        simp only [World.size_alloc] at n1
        have X1 := hideP (show R3 w1 (w.heap.size + 1) (.int .i64 0) (.int .i64 0) (.slice none 0 0) from R3.keep ⟨by simp [go_sem], by simp [go_sem], by simp [go_sem], by simp [go_sem], by simp⟩ k1 (by simp))
        have R1 := hideP (show IsRect w1 w.heap.size 0 rx ry rp rh from ⟨(k1.cell (p := ⟨w.heap.size, 0, none⟩) (by simp; omega)).trans (by simp [go_sem]), (k1.cell (p := ⟨w.heap.size, 0 + 1, none⟩) (by simp; omega)).trans (by simp [go_sem]), (k1.cell (p := ⟨w.heap.size, 0 + 2, none⟩) (by simp; omega)).trans (by simp [go_sem]), (k1.cell (p := ⟨w.heap.size, 0 + 3, none⟩) (by simp; omega)).trans (by simp [go_sem])⟩)
        have hwr : w.heap.size + 1 < w1.heap.size := by omega
        have RF := l2F_any w.heap.size 0 rx ry rp rh w1 R1.out
        rw [hr] at RF
        have RF' := hideP RF
        clear k1 RF
        go_wp2_with fail
        refine Calls.mono RF'.out ?_
        rintro e w2 ⟨rfl, hw⟩
        subst w2
        clear RF'
        by_cases hx : tx < -20 ∨ 20 < tx
        · go_wp2_with fail
          refine Calls.mono (in_no tx (-20) 20 w1 hx) ?_
          rintro e w2 ⟨rfl, hw⟩
          subst w2
          go_wp2_with fail
          refine Calls.mono (l7Bad_any 3 w1) ?_
          rintro e w9 ⟨rfl, k9⟩
          have K8 := hideP (K1.out.trans (k9.mono K1.out.size))
          obtain ⟨x0, x1, x2, x3, x4⟩ := X1.out.keep k9 X1.out.lt
          clear k9 X1
          go_wp2
          have K9 := (((K8.out.setCell (p := ⟨w.heap.size + 1, 0, none⟩) (by show w.heap.size ≤ w.heap.size + 1; omega) (.int .i64 3)).setCell (p := ⟨w.heap.size + 1, 1, none⟩) (by show w.heap.size ≤ w.heap.size + 1; omega) (.int .i64 0)).setCell (p := ⟨w.heap.size + 1, 2, none⟩) (by show w.heap.size ≤ w.heap.size + 1; omega) (.slice none 0 0))
          exact bodyPost_ret (v := .agg #[.int .i64 3, .int .i64 0, .slice none 0 0]) (by simp [results, Try.results23, go_sem, *]) rfl (sans_bad K9)
        · have hx1 : -20 ≤ tx := by omega
          have hx2 : tx ≤ 20 := by omega
          have hy : ty < -20 ∨ 20 < ty := by omega
          clear hno hx
          go_wp2_with fail
          refine Calls.mono (in_yes tx (-20) 20 w1 hx1 hx2) ?_
          rintro e w2 ⟨rfl, hw⟩
          subst w2
          go_wp2_with fail
          refine Calls.mono (in_no ty (-20) 20 w1 hy) ?_
          rintro e w2 ⟨rfl, hw⟩
          subst w2
          go_wp2_with fail
          refine Calls.mono (l7Bad_any 3 w1) ?_
          rintro e w9 ⟨rfl, k9⟩
          have K8 := hideP (K1.out.trans (k9.mono K1.out.size))
          obtain ⟨x0, x1, x2, x3, x4⟩ := X1.out.keep k9 X1.out.lt
          clear k9 X1
          go_wp2
          have K9 := (((K8.out.setCell (p := ⟨w.heap.size + 1, 0, none⟩) (by show w.heap.size ≤ w.heap.size + 1; omega) (.int .i64 3)).setCell (p := ⟨w.heap.size + 1, 1, none⟩) (by show w.heap.size ≤ w.heap.size + 1; omega) (.int .i64 0)).setCell (p := ⟨w.heap.size + 1, 2, none⟩) (by show w.heap.size ≤ w.heap.size + 1; omega) (.slice none 0 0))
          exact bodyPost_ret (v := .agg #[.int .i64 3, .int .i64 0, .slice none 0 0]) (by simp [results, Try.results23, go_sem, *]) rfl (sans_bad K9)
      · have hz : copyZ (L.map Wn.ct) id rx ry rp rh tx ty = 0 := by rw [copyZ_yes hpz, hb]; rfl
        obtain ⟨p1, p2, p3⟩ := fst_right h0 hf
        rw [copyP_yes hz hf, hz]
        have hPL : (X.map Wn.ct ++ copyC rx ry rp rh tx ty r.ct :: Y.map Wn.ct).length = L.length := by rw [hf.eq]; simp
        have HPL := hideP hPL
        have HF := hideP hf
        have CP := hideP (fun w1 (kk : Below w.heap.size w w1) => l7Copy_any 0 w.heap.size so sc L w1 (hL.keep kk (Nat.le_refl _)) kk.size hn)
        have hXl : (X.length : Int) < (L.length : Int) := by rw [hf.eq]; simp; omega
        have hn' : (L.length : Int) ≤ 1048576 := by omega
        clear hL hask h0 hf hpz hz hPL
        obtain ⟨y1, y2, y3, y4⟩ := near_yes hb
        go_enter Try.func23, Try.ntmps23
        go_wp2_with fail
        refine Calls.mono (AY.out _ (by go_grown)) ?_
        rintro e w1 ⟨rfl, k1⟩
        have K1 : Hid (Below w.heap.size w w1) := hideP (Below.trans (by go_grown) (k1.mono (by simp; omega)))
        have n1 := k1.size
        simp only [World.size_alloc] at n1
        have X1 := hideP (show R3 w1 (w.heap.size + 1) (.int .i64 0) (.int .i64 0) (.slice none 0 0) from R3.keep ⟨by simp [go_sem], by simp [go_sem], by simp [go_sem], by simp [go_sem], by simp⟩ k1 (by simp))
        have R1 := hideP (show IsRect w1 w.heap.size 0 rx ry rp rh from ⟨(k1.cell (p := ⟨w.heap.size, 0, none⟩) (by simp; omega)).trans (by simp [go_sem]), (k1.cell (p := ⟨w.heap.size, 0 + 1, none⟩) (by simp; omega)).trans (by simp [go_sem]), (k1.cell (p := ⟨w.heap.size, 0 + 2, none⟩) (by simp; omega)).trans (by simp [go_sem]), (k1.cell (p := ⟨w.heap.size, 0 + 3, none⟩) (by simp; omega)).trans (by simp [go_sem])⟩)
        have hwr : w.heap.size + 1 < w1.heap.size := by omega
        have RF := l2F_any w.heap.size 0 rx ry rp rh w1 R1.out
        rw [hr] at RF
        have RF' := hideP RF
        clear k1 RF
        go_wp2_with fail
        refine Calls.mono RF'.out ?_
        rintro e w2 ⟨rfl, hw⟩
        subst w2
        clear RF'
        go_wp2_with fail
        refine Calls.mono (in_yes tx (-20) 20 w1 y1 y2) ?_
        rintro e w2 ⟨rfl, hw⟩
        subst w2
        go_wp2_with fail
        refine Calls.mono (in_yes ty (-20) 20 w1 y3 y4) ?_
        rintro e w2 ⟨rfl, hw⟩
        subst w2
        go_wp2_with fail
        refine Calls.mono (CP.out w1 K1.out) ?_
        rintro e w3 ⟨s3, c', M, rfl, hM, LN, k3⟩
        have K3 := hideP (K1.out.trans (k3.mono K1.out.size))
        have X3 := hideP (X1.out.keep k3 X1.out.lt)
        have R3' : IsRect w3 w.heap.size 0 rx ry rp rh := ⟨(k3.cell (p := ⟨w.heap.size, 0, none⟩) (by show w.heap.size < w1.heap.size; omega)).trans R1.out.1, (k3.cell (p := ⟨w.heap.size, 0 + 1, none⟩) (by show w.heap.size < w1.heap.size; omega)).trans R1.out.2, (k3.cell (p := ⟨w.heap.size, 0 + 2, none⟩) (by show w.heap.size < w1.heap.size; omega)).trans R1.out.3, (k3.cell (p := ⟨w.heap.size, 0 + 3, none⟩) (by show w.heap.size < w1.heap.size; omega)).trans R1.out.4⟩
        have z3 := k3.size
        obtain ⟨X', r', Y', hf', e1, e2, e3⟩ := fst_ct HF.out hM
        have hMl := lenW hM
        have hXX := lenW e1
        have QW := LN.wq vals7 winNe k3.size
        have hMe := hf'.eq
        subst hMe
        have hri : r'.b.L = r.b.L := congrArg Wc.L e2
        have hrw : r'.w = r.w := congrArg Wc.w e2
        have hrh : r'.h = r.h := congrArg Wc.h e2
        rw [← hri, ← hrw, ← hrh] at p3
        rw [← hrw] at p1
        rw [← hrh] at p2
        have hne : r'.b.L ≠ [] := fun e => by have := area_pos p1 p2; rw [e] at p3; simp at p3; omega
        obtain ⟨ea, hW, gl1, gl2⟩ := QW.cellsOf hne
        obtain ⟨g, rfl, g1, g2, hc, hfr⟩ := QW.cells
        have hng : g ≠ r'.b.g := fun e => QW.ne g rfl r'.b (by simp) hne e.symm
        rw [hXX] at hc
        obtain ⟨c0, c1, c2, c3, c4, c5, c6⟩ := hc.seven
        rw [ea] at c6
        have I : Pin w3 g (X.length * 7) w.heap.size r'.b.g r'.b.cap r'.w r'.h rx ry rp rh r'.b.L.length := ⟨c3, c4, c6, R3', hng, by omega⟩
        have FI := hideP (l8Copy_any g (X.length * 7) w.heap.size r'.b.g r'.b.cap r'.w r'.h rx ry rp rh tx ty r'.b.L w3 I hW p1 p2 p3 hne hr ⟨y1, y2⟩ ⟨y3, y4⟩)
        have HQ := hideP QW
        have hlen : (X' ++ r'.put (copyL r'.w r'.h rx ry rp rh tx ty r'.b.L) :: Y').length = L.length := by rw [← hMl]; simp
        have HCT : Hid ((X' ++ r'.put (copyL r'.w r'.h rx ry rp rh tx ty r'.b.L) :: Y').map Wn.ct = X.map Wn.ct ++ copyC rx ry rp rh tx ty r.ct :: Y.map Wn.ct) := hideP (by
          rw [List.map_append, List.map_cons, e1, e3, put_ct]
          show _ = X.map Wn.ct ++ r.ct.put (copyL r.ct.w r.ct.h rx ry rp rh tx ty r.ct.L) :: Y.map Wn.ct
          rw [← e2]
          rfl)
        have HLEN := hideP hlen
        have HNE := hideP hne
        have hwr0 : w.heap.size < w3.heap.size := by omega
        rw [hMl]
        clear k3 LN hM hf' e1 e2 e3 QW hc c0 c1 c2 c3 c4 c5 c6 I hW AY CP hng p3 hMl hlen HF hri hrw hrh hXX ea X1 R1 R3'
        go_wp2_with fail
        refine Calls.mono FI.out ?_
        rintro e w4 ⟨rfl, S4⟩
        have hl2 : (copyL r'.w r'.h rx ry rp rh tx ty r'.b.L).length = r'.b.L.length := copyL_len
        have QP := HQ.out.paint (V := Wn.vals) HNE.out S4 (put_vals hl2)
        have HQP := hideP QP
        have K4 := hideP (K3.out.trans (S4.far.below (B := w.heap.size) (by omega) K3.out.size))
        obtain ⟨x0, x1, x2, x3, x4⟩ := X3.out.far S4.far (by omega)
        have z4 := S4.far.size
        clear QP S4 HQ FI X3 hl2
        go_wp2
        have K5 := ((K4.out.setCell (p := ⟨w.heap.size + 1, 0, none⟩) (Nat.le_succ _) (.int .i64 0)).setCell (p := ⟨w.heap.size + 1, 1, none⟩) (Nat.le_succ _) (.int .i64 0)).setCell (p := ⟨w.heap.size + 1, 2, none⟩) (Nat.le_succ _) (.slice (some ⟨g, 0, none⟩) L.length c')
        have Q5 := (((HQP.out.set ⟨w.heap.size + 1, 0, none⟩ (.int .i64 0) hwr).set ⟨w.heap.size + 1, 1, none⟩ (.int .i64 0) hwr).set ⟨w.heap.size + 1, 2, none⟩ (.slice (some ⟨g, 0, none⟩) L.length c') hwr).wide (lo' := w.heap.size) (hi' := w4.heap.size) (by omega) z4 (by simp)
        refine bodyPost_ret (v := .agg #[.int .i64 0, .int .i64 0, .slice (some ⟨g, 0, none⟩) L.length c']) (by simp [results, Try.results23, go_sem, *]) rfl ⟨some ⟨g, 0, none⟩, c', _, by rw [HPL.out], HCT.out, by rw [HPL.out]; exact HLEN.out, ?_, K5⟩
        simpa using Q5
    · rw [hr, show rfOf true = 3 from rfl] at hpz
      have hz : copyZ (L.map Wn.ct) id rx ry rp rh tx ty = 3 := by rw [copyZ_bad (by rw [hpz]; decide), hpz]
      rw [copyP_no (by rw [hz]; decide), hz]
      clear hL hask h0 hf hpz hz
      go_enter Try.func23, Try.ntmps23
      go_wp2_with fail
      refine Calls.mono (AY.out _ (by go_grown)) ?_
      rintro e w1 ⟨rfl, k1⟩
      have K1 : Hid (Below w.heap.size w w1) := hideP (Below.trans (by go_grown) (k1.mono (by simp; omega)))
      have n1 := k1.size
      simp only [World.size_alloc] at n1
      have X1 := hideP (show R3 w1 (w.heap.size + 1) (.int .i64 0) (.int .i64 0) (.slice none 0 0) from R3.keep ⟨by simp [go_sem], by simp [go_sem], by simp [go_sem], by simp [go_sem], by simp⟩ k1 (by simp))
      have R1 := hideP (show IsRect w1 w.heap.size 0 rx ry rp rh from ⟨(k1.cell (p := ⟨w.heap.size, 0, none⟩) (by simp; omega)).trans (by simp [go_sem]), (k1.cell (p := ⟨w.heap.size, 0 + 1, none⟩) (by simp; omega)).trans (by simp [go_sem]), (k1.cell (p := ⟨w.heap.size, 0 + 2, none⟩) (by simp; omega)).trans (by simp [go_sem]), (k1.cell (p := ⟨w.heap.size, 0 + 3, none⟩) (by simp; omega)).trans (by simp [go_sem])⟩)
      have hwr : w.heap.size + 1 < w1.heap.size := by omega
      have RF := l2F_any w.heap.size 0 rx ry rp rh w1 R1.out
      rw [hr] at RF
      have RF' := hideP RF
      clear k1 RF
      go_wp2_with fail
      refine Calls.mono RF'.out ?_
      rintro e w2 ⟨rfl, hw⟩
      subst w2
      clear RF'
      go_wp2_with fail
      refine Calls.mono (l7Bad_any 3 w1) ?_
      rintro e w9 ⟨rfl, k9⟩
      have K8 := hideP (K1.out.trans (k9.mono K1.out.size))
      obtain ⟨x0, x1, x2, x3, x4⟩ := X1.out.keep k9 X1.out.lt
      clear k9 X1
      go_wp2
      have K9 := (((K8.out.setCell (p := ⟨w.heap.size + 1, 0, none⟩) (by show w.heap.size ≤ w.heap.size + 1; omega) (.int .i64 3)).setCell (p := ⟨w.heap.size + 1, 1, none⟩) (by show w.heap.size ≤ w.heap.size + 1; omega) (.int .i64 0)).setCell (p := ⟨w.heap.size + 1, 2, none⟩) (by show w.heap.size ≤ w.heap.size + 1; omega) (.slice none 0 0))
      exact bodyPost_ret (v := .agg #[.int .i64 3, .int .i64 0, .slice none 0 0]) (by simp [results, Try.results23, go_sem, *]) rfl (sans_bad K9)
  · have AN := fun w1 (kk : Below w.heap.size w w1) => asked_no 0 w.heap.size so sc L id w1 (hL.keep kk (Nat.le_refl _)) kk.size hn (askW_no hask)
    have hpz := ptp_bad (rx := rx) (ry := ry) (rp := rp) (rh := rh) hask
    have hz : copyZ (L.map Wn.ct) id rx ry rp rh tx ty = askW (L.map Wn.ct) id := by rw [copyZ_bad (by rw [hpz]; exact hask), hpz]
    rw [copyP_no (by rw [hz]; exact hask), hz]
    obtain ⟨F, hF⟩ : ∃ F, askW (L.map Wn.ct) id = F := ⟨_, rfl⟩
    rw [hF] at AN hask ⊢
    have hne' : (F != 0) = true := by simpa using hask
    have AN' := hideP AN
    clear AN hL hF hask hpz hz
    go_enter Try.func23, Try.ntmps23
    go_wp2_with fail
    refine Calls.mono (AN'.out _ (by go_grown)) ?_
    rintro e w1 ⟨rfl, k1⟩
    have K1 : Hid (Below w.heap.size w w1) := hideP (Below.trans (by go_grown) (k1.mono (by simp; omega)))
    have X1 := hideP (show R3 w1 (w.heap.size + 1) (.int .i64 0) (.int .i64 0) (.slice none 0 0) from R3.keep ⟨by simp [go_sem], by simp [go_sem], by simp [go_sem], by simp [go_sem], by simp⟩ k1 (by simp))
    clear k1 AN'
    go_wp2_with fail
    refine Calls.mono (l7Bad_any F w1) ?_
    rintro e w9 ⟨rfl, k9⟩
    have K8 := hideP (K1.out.trans (k9.mono K1.out.size))
    obtain ⟨x0, x1, x2, x3, x4⟩ := X1.out.keep k9 X1.out.lt
    clear k9 X1
    go_wp2
    have K9 := (((K8.out.setCell (p := ⟨w.heap.size + 1, 0, none⟩) (by show w.heap.size ≤ w.heap.size + 1; omega) (.int .i64 F)).setCell (p := ⟨w.heap.size + 1, 1, none⟩) (by show w.heap.size ≤ w.heap.size + 1; omega) (.int .i64 0)).setCell (p := ⟨w.heap.size + 1, 2, none⟩) (by show w.heap.size ≤ w.heap.size + 1; omega) (.slice none 0 0))
    exact bodyPost_ret (v := .agg #[.int .i64 F, .int .i64 0, .slice none 0 0]) (by simp [results, Try.results23, go_sem, *]) rfl (sans_bad K9)
end Go.Proofs.Ytclfobpmafkgfaa
