/- RouteMany, by the model. -/
import Derived.Test.YtoipcnpemmajaaaTh47
namespace Go.Proofs.Ytoipcnpemmajaaa
open Go.RowKit Go.Maps
set_option linter.unusedVariables false
attribute [local go_sem] growUpon growAt

theorem RM.setL {w W : World} {base : Nat} {t : Bool} {f : Int} {s : Option Addr} {c : Nat} {M : List Int} (h : RM w W base t f s c M) (p : Addr) (v : Value) (h1 : w.heap.size + 2 ≤ p.block) (h2 : p.block < base) : RM w (W.setCell p v) base t f s c M := by
  obtain ⟨r0, r1, r2, r3, r4⟩ := h.res
  have e := h.bs
  have n0 : p.block ≠ w.heap.size := by omega
  have n1 : p.block ≠ w.heap.size + 1 := by omega
  have T := Turn.store W p v
  have b0 := T.block w.heap.size (by have := h.hb; omega) (Ne.symm n0)
  have b1 := T.block (w.heap.size + 1) (by have := h.hb; omega) (Ne.symm n1)
  exact ⟨h.below.setCell (p := p) (by omega) v, h.own.set p v h2, (World.cell?_of_block (a := ⟨w.heap.size, 0, none⟩) b0).trans h.i0, (World.cell?_of_block (a := ⟨w.heap.size, 1, none⟩) b0).trans h.i1, (World.frozen?_of_block (a := ⟨w.heap.size, 0, none⟩) b0).trans h.f0, (World.frozen?_of_block (a := ⟨w.heap.size, 1, none⟩) b0).trans h.f1,
    ⟨(World.cell?_of_block (a := ⟨w.heap.size + 1, 0, none⟩) b1).trans r0, (World.cell?_of_block (a := ⟨w.heap.size + 1, 1, none⟩) b1).trans r1, (World.frozen?_of_block (a := ⟨w.heap.size + 1, 0, none⟩) b1).trans r2, (World.frozen?_of_block (a := ⟨w.heap.size + 1, 1, none⟩) b1).trans r3, by simpa using r4⟩, e, by simpa using h.hb⟩

theorem Rb.setA {w : World} {b : Nat} {v0 v1 : Value} (h : Rb w b v0 v1) (g o : Nat) (v : Value) (hne : g ≠ b) : Rb (w.setCell ⟨g, o, none⟩ v) b v0 v1 := by
  have T := Turn.store w ⟨g, o, none⟩ v
  have b0 := T.block b h.lt (Ne.symm hne)
  exact ⟨(World.cell?_of_block (a := ⟨b, 0, none⟩) b0).trans h.c0, (World.cell?_of_block (a := ⟨b, 1, none⟩) b0).trans h.c1, (World.frozen?_of_block (a := ⟨b, 0, none⟩) b0).trans h.f0, (World.frozen?_of_block (a := ⟨b, 1, none⟩) b0).trans h.f1, by simpa using h.lt⟩
theorem Rb.put1 {w : World} {b : Nat} {v0 v1 : Value} (h : Rb w b v0 v1) (v : Value) : Rb (w.setCell ⟨b, 1, none⟩ v) b v0 v :=
  ⟨(cell_set_other (by omega)).trans h.c0, cell_set_same h.c1, by simpa using h.f0, by simpa using h.f1, by simpa using h.lt⟩

set_option maxRecDepth 100000 in
set_option maxHeartbeats 16000000 in
theorem sMany_ok (t : Bool) (f : Int) (so : Option Addr) (sc : Nat) (L : List Wn) (lo : Option Addr) (lc : Nat) (LL : List Hd) (w : World) (hL : Ws w 0 w.heap.size so L) (hn : L.length + wzs L ≤ 1048576) (hH : Hds w 0 w.heap.size lo LL) (hl : LL.length ≤ 20) (h0 : inpF (L.map Wn.ct) f = 0) :
    Calls Try.prog 24 #[.agg #[.bool t, .int .i64 f], .slice so L.length sc, .slice lo LL.length lc] w (IsA w (goM (L.map Wn.ct) LL t f []).1 (goM (L.map Wn.ct) LL t f []).2) := by
  have SF := fun w1 (hi : I2 w1 w.heap.size t f) (kk : Below w.heap.size w w1) => l10Input_any 0 w.heap.size w.heap.size t f so sc L w1 hi (hL.keep kk (Nat.le_refl _)) kk.size hn
  rw [h0] at SF
  have SF' := hideP SF
  have RT := hideP (fun t' f' k a b w1 (kk : Below w.heap.size w w1) => sRoute_any t' f' k a b so sc L w1 ((hL.keep kk (Nat.le_refl _)).wide (Nat.le_refl _) kk.size) hn)
  have HH := hideP hH
  have hl' : (LL.length : Int) ≤ 20 := by omega
  obtain ⟨C, hC⟩ : ∃ C, L.map Wn.ct = C := ⟨_, rfl⟩
  rw [hC] at RT ⊢
  obtain ⟨P, hP⟩ : ∃ P, goM C LL t f [] = P := ⟨_, rfl⟩
  rw [hP]
  have HP := hideP hP
  generalize L.length = n at *
  clear SF hL hH hn h0 hC hP
  go_enter Try.func24, Try.ntmps24
  go_wp2_with fail
  have W0 := hideP (⟨by simp [go_sem], by simp [go_sem], by simp; omega⟩ : I2 ((w.alloc (.cells #[.bool t, .int .i64 f] 25)).alloc (.cells #[.int .i64 0, .slice none 0 0] 50)) w.heap.size t f)
  refine Calls.mono (SF'.out _ W0.out (by go_grown)) ?_
  rintro e w1 ⟨rfl, k1⟩
  have n1 := k1.size
  simp only [World.size_alloc] at n1
  have K1 : Hid (Below w.heap.size w w1) := hideP (Below.trans (by go_grown) (k1.mono (by simp; omega)))
  have X1 : Hid (Rb w1 (w.heap.size + 1) (.int .i64 0) (.slice none 0 0)) := hideP (Rb.keep ⟨by simp [go_sem], by simp [go_sem], by simp [go_sem], by simp [go_sem], by simp⟩ k1 (by simp))
  obtain ⟨bl, hbl0⟩ : ∃ bl, w1.heap.size = bl := ⟨_, rfl⟩
  obtain ⟨X, hX⟩ : ∃ X, w1.alloc (.cells #[.int .i64 0, .slice none 0 0] 50) = X := ⟨_, rfl⟩
  have M1 : Hid (RM w X (bl + 1) t f none 0 []) := hideP (by
    have h : RM w w1 w1.heap.size t f none 0 [] := ⟨K1.out, OwnR.nil _ _ _ _, (k1.cell (p := ⟨w.heap.size, 0, none⟩) (by simp; omega)).trans (by simp [go_sem]), (k1.cell (p := ⟨w.heap.size, 1, none⟩) (by simp; omega)).trans (by simp [go_sem]), (k1.frozen (p := ⟨w.heap.size, 0, none⟩) (by simp; omega)).trans (by simp [go_sem]), (k1.frozen (p := ⟨w.heap.size, 1, none⟩) (by simp; omega)).trans (by simp [go_sem]), X1.out, by omega, Nat.le_refl _⟩
    have h2 := h.keep (kalH w1 (.cells #[.int .i64 0, .slice none 0 0] 50))
    rw [hX] at h2
    exact ⟨h2.below, OwnR.nil _ _ _ _, h2.i0, h2.i1, h2.f0, h2.f1, h2.res, by omega, by rw [← hX]; simp; omega⟩)
  have L1 : Hid (Rb X bl (.int .i64 0) (.slice none 0 0)) := hideP (by rw [← hX, ← hbl0]; exact ⟨by simp [go_sem], by simp [go_sem], by simp [go_sem], by simp [go_sem], by simp⟩)
  have hwbl : w.heap.size + 2 ≤ bl := by omega
  clear k1 SF' X1 K1 W0
  have HX := hideP hX
  have HB0 := hideP hbl0
  clear hX hbl0
  go_wp2
  rw [HX.out, HB0.out]
  clear HX
  go_loopw [9] (fun i wr => ∃ (k : Nat) (s : Option Addr) (c : Nat) (M : List Int) (t' : Bool) (f' : Int), k ≤ LL.length ∧ i = .int .i64 k ∧ M.length = k ∧ goM C (LL.drop k) t' f' M = P ∧ RM w wr (bl + 1) t' f' s c M ∧ Rb wr bl (.int .i64 0) (.slice s M.length c)) (fun i _ => LL.length - (intOf i).toNat)
  case atStart => exact ⟨0, _, _, [], t, f, Nat.zero_le _, rfl, rfl, HP.out, M1.out, L1.out⟩
  case round =>
    obtain ⟨k, s3, c3, M, t', f', hk, rfl, hMl, hG, R3, LB⟩ := hrel
    have HMl := hideP hMl
    have hMM : M.length ≤ 20 := by omega
    have hbl := LB.lt
    clear M1 HP hMl L1
    by_cases hlt : k < LL.length
    · have hlt' : (k : Int) < (LL.length : Int) := by omega
      have hne : LL ≠ [] := fun e => by rw [e] at hlt; simp at hlt
      rcases HH.out with e | ⟨g, o, rfl, _, hg, hc⟩
      · exact absurd e hne
      obtain ⟨a0, a1, a2⟩ := (hc k hlt).keep R3.below (by omega)
      have hgl : g < wr.heap.size := by have := R3.below.size; omega
      have q0 := R3.i0
      have q1 := R3.i1
      have hil : w.heap.size < wr.heap.size := by omega
      obtain ⟨R, hR⟩ : ∃ R, rtR C t' f' LL[k].k LL[k].a LL[k].b = R := ⟨_, rfl⟩
      have RTk := hideP (fun w2 (kk : Below w.heap.size w w2) => by
        have hh := RT.out t' f' LL[k].k LL[k].a LL[k].b w2 kk
        rw [hR] at hh
        exact hh)
      rw [List.drop_eq_getElem_cons hlt] at hG
      have HGy := hideP (fun hz => goM_yes hG hR hz)
      have HGn := hideP (fun hz => goM_no hG hR hz)
      have RR := hideP R3
      have LB := hideP LB
      clear hc hG hR R3 RT HH
      generalize LL[k].k = x at *
      generalize LL[k].a = y at *
      generalize LL[k].b = z at *
      by_cases hz : R.z = 0
      · have e0 : (R.z != 0) = false := by simp [hz]
        have hHG := hideP (HGy.out hz)
        clear HGy HGn hz
        go_wp2_with fail
        refine wp_region_boxed 8 [0, 1, 2, 3, 4, 5] [6] 7 (.cells #[.int .i64 0, .int .i64 0, .int .i64 0, .slice none 0 0, .bool false, .int .i64 0] 34) rfl (by kernel_rfl) (by kernel_rfl) ?_
        simp only [sel, List.filterMap_cons, List.filterMap_nil, List.getElem?_cons_succ, List.getElem?_cons_zero]
        repeat (refine grow_step (by rfl) ?_; apply Exists.intro; refine ⟨fun w1 k1 => ?_, fun K hK => ?_⟩; (focus (have hc := Kept.cell k1; go_simp; first | done | rfl)); (go_simp; refine hK _ ?_; clear hK K))
        refine grow_nil ?_
        refine ⟨by rfl, fun w1 => (by go_simp), ?_⟩
        refine boxed_step (by rfl) fun v1 j1 => ?_
        have cu1 : Below wr.heap.size wr v1 := Kept.below j1
        refine made_calls (by go_simp; first | done | rfl) ((RTk.out v1 (RR.out.below.trans (cu1.mono RR.out.below.size))).mono ?_)
        rintro e v2 ⟨ao, ca, rfl, O2, k2⟩
        refine ⟨_, rfl, k2, fun K hK => ?_⟩
        go_simp
        refine hK _ ?_
        clear hK K
        refine boxed_nil fun B v3 je hB0 hB1 hBb hBI => ?_
        have jj := Kept.below je
        have BX := r6_at hBb
        have FX : Far B (B + 1) v3 ((((((v3.setCell ⟨B, 0, none⟩ (.int .i64 R.z)).setCell ⟨B, 1, none⟩ (.int .i64 R.tg)).setCell ⟨B, 2, none⟩ (.int .i64 R.kd)).setCell ⟨B, 3, none⟩ (.slice ao R.D.length ca)).setCell ⟨B, 4, none⟩ (.bool R.tr)).setCell ⟨B, 5, none⟩ (.int .i64 R.fo)) := far_sixR (w := v3) (b := B) (.int .i64 R.z) (.int .i64 R.tg) (.int .i64 R.kd) (.slice ao R.D.length ca) (.bool R.tr) (.int .i64 R.fo)
        have PX : Hid (R6 ((((((v3.setCell ⟨B, 0, none⟩ (.int .i64 R.z)).setCell ⟨B, 1, none⟩ (.int .i64 R.tg)).setCell ⟨B, 2, none⟩ (.int .i64 R.kd)).setCell ⟨B, 3, none⟩ (.slice ao R.D.length ca)).setCell ⟨B, 4, none⟩ (.bool R.tr)).setCell ⟨B, 5, none⟩ (.int .i64 R.fo)) B (.int .i64 R.z) (.int .i64 R.tg) (.int .i64 R.kd) (.slice ao R.D.length ca) (.bool R.tr) (.int .i64 R.fo)) := hideP (BX.put (.int .i64 R.z) (.int .i64 R.tg) (.int .i64 R.kd) (.slice ao R.D.length ca) (.bool R.tr) (.int .i64 R.fo))
        have kW : Below wr.heap.size wr v3 := (cu1.trans (k2.mono cu1.size)).trans (jj.mono (cu1.trans (k2.mono cu1.size)).size)
        have kk : Below wr.heap.size wr ((((((v3.setCell ⟨B, 0, none⟩ (.int .i64 R.z)).setCell ⟨B, 1, none⟩ (.int .i64 R.tg)).setCell ⟨B, 2, none⟩ (.int .i64 R.kd)).setCell ⟨B, 3, none⟩ (.slice ao R.D.length ca)).setCell ⟨B, 4, none⟩ (.bool R.tr)).setCell ⟨B, 5, none⟩ (.int .i64 R.fo)) := kW.trans (FX.below (B := wr.heap.size) hB0 kW.size)
        have R2 := hideP (RR.out.keep kk)
        have LB2 := hideP (LB.out.keep kk hbl)
        have nk := kk.size
        obtain ⟨bx0, bx1, bx2, bx3, bx4, bx5, bxf, bxl⟩ := BX
        clear kW kk FX jj je k2 cu1 j1 O2 hBI hBb LB RR RTk a0 a1 a2 q0 q1 hB1
        go_step
        go_step
        go_step
        clear bx0 bx1 bx2 bx3 bx4 bx5 bxf bxl
        generalize ((((((v3.setCell ⟨B, 0, none⟩ (.int .i64 R.z)).setCell ⟨B, 1, none⟩ (.int .i64 R.tg)).setCell ⟨B, 2, none⟩ (.int .i64 R.kd)).setCell ⟨B, 3, none⟩ (.slice ao R.D.length ca)).setCell ⟨B, 4, none⟩ (.bool R.tr)).setCell ⟨B, 5, none⟩ (.int .i64 R.fo)) = W2 at *
        have hord : w.heap.size < bl ∧ bl < B ∧ w.heap.size < B ∧ w.heap.size + 1 < B := by omega
        obtain ⟨hd1, hd2, hd3, hd4⟩ := hord
        have hne1 : ¬ w.heap.size = B ∧ ¬ B = w.heap.size ∧ ¬ bl = B ∧ ¬ B = bl ∧ ¬ w.heap.size = bl ∧ ¬ bl = w.heap.size := by omega
        obtain ⟨hm1, hm2, hm3, hm4, hm5, hm6⟩ := hne1
        have i0 := R2.out.i0
        have i1 := R2.out.i1
        have i2 := R2.out.f0
        have i3 := R2.out.f1
        obtain ⟨y0, y1, y2, y3, y4⟩ := LB2.out
        obtain ⟨bx0, bx1, bx2, bx3, bx4, bx5, bxf, bxl⟩ := PX.out
        have hil3 : w.heap.size < W2.heap.size := by omega
        clear PX nk
        go_wp2_with (first | (at_builtin; refine wpList_snoc rfl _ _ rfl (bl + 1) s3 c3 M rfl ((R2.out.put R.tr R.fo).keep (kalH _ _)).own ⟨W2.heap.size, 0, none⟩ 1 R.tg rfl (by simp [go_sem]) (by omega) (by simp; omega) ?_; intro s6 c6 w6 SN; replace SN := hideP SN; refine Hid.out ?_) | go_in)
        have R5 := hideP ((R2.out.put R.tr R.fo).keep (kalH _ (.cells #[.int .i64 R.tg] 2)))
        have R6 := hideP (R5.out.snoc SN.out)
        have LB5 := hideP ((Rb.setA LB2.out w.heap.size 0 (.bool R.tr) (by omega)).setA w.heap.size 1 (.int .i64 R.fo) (by omega))
        have LB6 := hideP ((LB5.out.keep (kalH _ (.cells #[.int .i64 R.tg] 2)) (by simp; omega)).keep SN.out.below (Nat.lt_succ_self _))
        have R7 := hideP (R6.out.setL ⟨bl, 1, none⟩ (.slice s6 (M ++ [R.tg]).length c6) hwbl (Nat.lt_succ_self _))
        have LB7 := hideP (LB6.out.put1 (.slice s6 (M ++ [R.tg]).length c6))
        clear i0 i1 i2 i3 y0 y1 y2 y3 y4 bx0 bx1 bx2 bx3 bx4 bx5 bxf bxl
        obtain ⟨z0, z1, z2, z3, z4⟩ := LB6.out
        clear R5 R6 SN R2 LB2 LB5
        refine hideP ?_
        go_wp2
        go_roundw
        case rel => exact ⟨k + 1, s6, c6, M ++ [R.tg], R.tr, R.fo, by omega, by go_num, by simp [HMl.out], hHG.out, by simpa using R7.out, by simpa using LB7.out⟩
        case measure => simp [intOf]; omega
      · have e0 : (R.z != 0) = true := by simpa using hz
        have hPn := HGn.out hz
        clear HGy HGn hz
        obtain ⟨rb, hrb⟩ : ∃ rb, w.heap.size + 1 = rb := ⟨_, rfl⟩
        rw [hrb]
        go_wp2_with fail
        refine wp_region_boxed 8 [0, 1, 2, 3, 4, 5] [6] 7 (.cells #[.int .i64 0, .int .i64 0, .int .i64 0, .slice none 0 0, .bool false, .int .i64 0] 34) rfl (by kernel_rfl) (by kernel_rfl) ?_
        simp only [sel, List.filterMap_cons, List.filterMap_nil, List.getElem?_cons_succ, List.getElem?_cons_zero]
        repeat (refine grow_step (by rfl) ?_; apply Exists.intro; refine ⟨fun w1 k1 => ?_, fun K hK => ?_⟩; (focus (have hc := Kept.cell k1; go_simp; first | done | rfl)); (go_simp; refine hK _ ?_; clear hK K))
        refine grow_nil ?_
        refine ⟨by rfl, fun w1 => (by go_simp), ?_⟩
        refine boxed_step (by rfl) fun v1 j1 => ?_
        have cu1 : Below wr.heap.size wr v1 := Kept.below j1
        refine made_calls (by go_simp; first | done | rfl) ((RTk.out v1 (RR.out.below.trans (cu1.mono RR.out.below.size))).mono ?_)
        rintro e v2 ⟨ao, ca, rfl, O2, k2⟩
        refine ⟨_, rfl, k2, fun K hK => ?_⟩
        go_simp
        refine hK _ ?_
        clear hK K
        refine boxed_nil fun B v3 je hB0 hB1 hBb hBI => ?_
        have jj := Kept.below je
        have BX := r6_at hBb
        have FX : Far B (B + 1) v3 ((((((v3.setCell ⟨B, 0, none⟩ (.int .i64 R.z)).setCell ⟨B, 1, none⟩ (.int .i64 R.tg)).setCell ⟨B, 2, none⟩ (.int .i64 R.kd)).setCell ⟨B, 3, none⟩ (.slice ao R.D.length ca)).setCell ⟨B, 4, none⟩ (.bool R.tr)).setCell ⟨B, 5, none⟩ (.int .i64 R.fo)) := far_sixR (w := v3) (b := B) (.int .i64 R.z) (.int .i64 R.tg) (.int .i64 R.kd) (.slice ao R.D.length ca) (.bool R.tr) (.int .i64 R.fo)
        have PX : Hid (R6 ((((((v3.setCell ⟨B, 0, none⟩ (.int .i64 R.z)).setCell ⟨B, 1, none⟩ (.int .i64 R.tg)).setCell ⟨B, 2, none⟩ (.int .i64 R.kd)).setCell ⟨B, 3, none⟩ (.slice ao R.D.length ca)).setCell ⟨B, 4, none⟩ (.bool R.tr)).setCell ⟨B, 5, none⟩ (.int .i64 R.fo)) B (.int .i64 R.z) (.int .i64 R.tg) (.int .i64 R.kd) (.slice ao R.D.length ca) (.bool R.tr) (.int .i64 R.fo)) := hideP (BX.put (.int .i64 R.z) (.int .i64 R.tg) (.int .i64 R.kd) (.slice ao R.D.length ca) (.bool R.tr) (.int .i64 R.fo))
        have kW : Below wr.heap.size wr v3 := (cu1.trans (k2.mono cu1.size)).trans (jj.mono (cu1.trans (k2.mono cu1.size)).size)
        have kk : Below wr.heap.size wr ((((((v3.setCell ⟨B, 0, none⟩ (.int .i64 R.z)).setCell ⟨B, 1, none⟩ (.int .i64 R.tg)).setCell ⟨B, 2, none⟩ (.int .i64 R.kd)).setCell ⟨B, 3, none⟩ (.slice ao R.D.length ca)).setCell ⟨B, 4, none⟩ (.bool R.tr)).setCell ⟨B, 5, none⟩ (.int .i64 R.fo)) := kW.trans (FX.below (B := wr.heap.size) hB0 kW.size)
        have R2 := hideP (RR.out.keep kk)
        have LB2 := hideP (LB.out.keep kk hbl)
        have nk := kk.size
        obtain ⟨bx0, bx1, bx2, bx3, bx4, bx5, bxf, bxl⟩ := BX
        clear kW kk FX jj je k2 cu1 j1 O2 hBI hBb LB RR RTk a0 a1 a2 q0 q1 hB1
        go_step
        go_step
        go_step
        clear bx0 bx1 bx2 bx3 bx4 bx5 bxf bxl
        generalize ((((((v3.setCell ⟨B, 0, none⟩ (.int .i64 R.z)).setCell ⟨B, 1, none⟩ (.int .i64 R.tg)).setCell ⟨B, 2, none⟩ (.int .i64 R.kd)).setCell ⟨B, 3, none⟩ (.slice ao R.D.length ca)).setCell ⟨B, 4, none⟩ (.bool R.tr)).setCell ⟨B, 5, none⟩ (.int .i64 R.fo)) = W2 at *
        have hord : w.heap.size < bl ∧ bl < B ∧ w.heap.size < B ∧ w.heap.size + 1 < B := by omega
        obtain ⟨hd1, hd2, hd3, hd4⟩ := hord
        have hne1 : ¬ w.heap.size = B ∧ ¬ B = w.heap.size ∧ ¬ bl = B ∧ ¬ B = bl ∧ ¬ w.heap.size = bl ∧ ¬ bl = w.heap.size := by omega
        obtain ⟨hm1, hm2, hm3, hm4, hm5, hm6⟩ := hne1
        have i0 := R2.out.i0
        have i1 := R2.out.i1
        have i2 := R2.out.f0
        have i3 := R2.out.f1
        obtain ⟨y0, y1, y2, y3, y4⟩ := LB2.out
        obtain ⟨bx0, bx1, bx2, bx3, bx4, bx5, bxf, bxl⟩ := PX.out
        have hil3 : w.heap.size < W2.heap.size := by omega
        obtain ⟨r0, r1, r2, r3, r4⟩ := R2.out.res
        have RB := R2.out.bad R.z
        rw [hrb] at r0 r1 r2 r3 r4 RB
        replace RB := hideP RB
        have hm7 : ¬ rb = B := by omega
        have hm8 : ¬ B = rb := by omega
        have hm9 : rb < B := by omega
        clear PX nk R2 LB2 hrb hd4 i0 i1 i2 i3 y0 y1 y2 y3 y4
        go_wp2
        rw [hPn]
        exact bodyPost_ret (v := .agg #[.int .i64 R.z, .slice none 0 0]) (by simp [results, Try.results24, go_sem, *]; done) rfl RB.out
    · obtain rfl : k = LL.length := by omega
      rw [List.drop_length] at hG
      have hPn : P = (0, M) := hG.symm
      obtain ⟨r0, r1, r2, r3, r4⟩ := R3.res
      have RB := hideP (R3.end_ 0)
      obtain ⟨y0, y1, y2, y3, y4⟩ := LB
      clear hG R3 HH RT
      go_wp2
      rw [hPn]
      exact bodyPost_ret (v := .agg #[.int .i64 0, .slice s3 M.length c3]) (by simp [results, Try.results24, go_sem, *]; done) rfl RB.out
end Go.Proofs.Ytoipcnpemmajaaa
