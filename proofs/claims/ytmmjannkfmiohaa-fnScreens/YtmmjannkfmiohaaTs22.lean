/- A window made: by the specification. -/
import Derived.Test.YtmmjannkfmiohaaTs20
import Derived.Test.YtmmjannkfmiohaaTs10
import Derived.Test.YtmmjannkfmiohaaTs21
namespace Go.Proofs.Ytmmjannkfmiohaa
open Go.RowKit Go.Maps
set_option linter.unusedVariables false

theorem made_run {P : Program} {o : Oper} {a : Act} {w1 w2 : World} {K : World → Value → Prop} {v : Value} (h : (execOp a.eval o).run P w1 = .ok (.value v) w2) (hb : Below w1.heap.size w1 w2) (hk : K w2 v) : madeAt P o a w1 K := by
  unfold madeAt
  rw [h]
  exact ⟨hb, hk⟩
theorem r7_at {w : World} {B : Nat} {v0 v1 v2 v3 v4 v5 v6 : Value} {T : TypeId} (h : w.heap[B]? = some (.cells #[v0, v1, v2, v3, v4, v5, v6] T)) : R7 w B v0 v1 v2 v3 v4 v5 v6 := by
  have hB : B < w.heap.size := (Array.getElem?_eq_some_iff.1 h).1
  exact ⟨by simp [World.cell?, h], by simp [World.cell?, h], by simp [World.cell?, h], by simp [World.cell?, h], by simp [World.cell?, h], by simp [World.cell?, h], by simp [World.cell?, h], fun c => by simp [World.frozen?, h], hB⟩
/-- Seven cells written, one after the other. -/
def set7 (w : World) (b : Nat) (u0 u1 u2 u3 u4 u5 u6 : Value) : World := ((((((w.setCell ⟨b, 0, none⟩ u0).setCell ⟨b, 1, none⟩ u1).setCell ⟨b, 2, none⟩ u2).setCell ⟨b, 3, none⟩ u3).setCell ⟨b, 4, none⟩ u4).setCell ⟨b, 5, none⟩ u5).setCell ⟨b, 6, none⟩ u6
theorem R7.put7' {w : World} {b : Nat} {v0 v1 v2 v3 v4 v5 v6 : Value} (h : R7 w b v0 v1 v2 v3 v4 v5 v6) (u0 u1 u2 u3 u4 u5 u6 : Value) : R7 (set7 w b u0 u1 u2 u3 u4 u5 u6) b u0 u1 u2 u3 u4 u5 u6 := by
  unfold set7
  have h0 : R7 (w.setCell ⟨b, 0, none⟩ u0) b u0 v1 v2 v3 v4 v5 v6 := ⟨cell_set_same h.c0, (cell_set_other (by omega)).trans h.c1, (cell_set_other (by omega)).trans h.c2, (cell_set_other (by omega)).trans h.c3, (cell_set_other (by omega)).trans h.c4, (cell_set_other (by omega)).trans h.c5, (cell_set_other (by omega)).trans h.c6, fun c => by simpa using h.fr c, by simpa using h.lt⟩
  have h1 : R7 ((w.setCell ⟨b, 0, none⟩ u0).setCell ⟨b, 1, none⟩ u1) b u0 u1 v2 v3 v4 v5 v6 := ⟨(cell_set_other (by omega)).trans h0.c0, cell_set_same h0.c1, (cell_set_other (by omega)).trans h0.c2, (cell_set_other (by omega)).trans h0.c3, (cell_set_other (by omega)).trans h0.c4, (cell_set_other (by omega)).trans h0.c5, (cell_set_other (by omega)).trans h0.c6, fun c => by simpa using h0.fr c, by simpa using h0.lt⟩
  have h2 : R7 (((w.setCell ⟨b, 0, none⟩ u0).setCell ⟨b, 1, none⟩ u1).setCell ⟨b, 2, none⟩ u2) b u0 u1 u2 v3 v4 v5 v6 := ⟨(cell_set_other (by omega)).trans h1.c0, (cell_set_other (by omega)).trans h1.c1, cell_set_same h1.c2, (cell_set_other (by omega)).trans h1.c3, (cell_set_other (by omega)).trans h1.c4, (cell_set_other (by omega)).trans h1.c5, (cell_set_other (by omega)).trans h1.c6, fun c => by simpa using h1.fr c, by simpa using h1.lt⟩
  have h3 : R7 ((((w.setCell ⟨b, 0, none⟩ u0).setCell ⟨b, 1, none⟩ u1).setCell ⟨b, 2, none⟩ u2).setCell ⟨b, 3, none⟩ u3) b u0 u1 u2 u3 v4 v5 v6 := ⟨(cell_set_other (by omega)).trans h2.c0, (cell_set_other (by omega)).trans h2.c1, (cell_set_other (by omega)).trans h2.c2, cell_set_same h2.c3, (cell_set_other (by omega)).trans h2.c4, (cell_set_other (by omega)).trans h2.c5, (cell_set_other (by omega)).trans h2.c6, fun c => by simpa using h2.fr c, by simpa using h2.lt⟩
  have h4 : R7 (((((w.setCell ⟨b, 0, none⟩ u0).setCell ⟨b, 1, none⟩ u1).setCell ⟨b, 2, none⟩ u2).setCell ⟨b, 3, none⟩ u3).setCell ⟨b, 4, none⟩ u4) b u0 u1 u2 u3 u4 v5 v6 := ⟨(cell_set_other (by omega)).trans h3.c0, (cell_set_other (by omega)).trans h3.c1, (cell_set_other (by omega)).trans h3.c2, (cell_set_other (by omega)).trans h3.c3, cell_set_same h3.c4, (cell_set_other (by omega)).trans h3.c5, (cell_set_other (by omega)).trans h3.c6, fun c => by simpa using h3.fr c, by simpa using h3.lt⟩
  have h5 : R7 ((((((w.setCell ⟨b, 0, none⟩ u0).setCell ⟨b, 1, none⟩ u1).setCell ⟨b, 2, none⟩ u2).setCell ⟨b, 3, none⟩ u3).setCell ⟨b, 4, none⟩ u4).setCell ⟨b, 5, none⟩ u5) b u0 u1 u2 u3 u4 u5 v6 := ⟨(cell_set_other (by omega)).trans h4.c0, (cell_set_other (by omega)).trans h4.c1, (cell_set_other (by omega)).trans h4.c2, (cell_set_other (by omega)).trans h4.c3, (cell_set_other (by omega)).trans h4.c4, cell_set_same h4.c5, (cell_set_other (by omega)).trans h4.c6, fun c => by simpa using h4.fr c, by simpa using h4.lt⟩
  exact ⟨(cell_set_other (by omega)).trans h5.c0, (cell_set_other (by omega)).trans h5.c1, (cell_set_other (by omega)).trans h5.c2, (cell_set_other (by omega)).trans h5.c3, (cell_set_other (by omega)).trans h5.c4, (cell_set_other (by omega)).trans h5.c5, cell_set_same h5.c6, fun c => by simpa using h5.fr c, by simpa using h5.lt⟩
theorem far_set7 {w : World} {b : Nat} (u0 u1 u2 u3 u4 u5 u6 : Value) : Far b (b + 1) w (set7 w b u0 u1 u2 u3 u4 u5 u6) := by
  unfold set7
  exact (((((((Far.refl b (b + 1) w).setCell (p := ⟨b, 0, none⟩) (Nat.le_refl _) (Nat.lt_succ_self _) u0).setCell (p := ⟨b, 1, none⟩) (Nat.le_refl _) (Nat.lt_succ_self _) u1).setCell (p := ⟨b, 2, none⟩) (Nat.le_refl _) (Nat.lt_succ_self _) u2).setCell (p := ⟨b, 3, none⟩) (Nat.le_refl _) (Nat.lt_succ_self _) u3).setCell (p := ⟨b, 4, none⟩) (Nat.le_refl _) (Nat.lt_succ_self _) u4).setCell (p := ⟨b, 5, none⟩) (Nat.le_refl _) (Nat.lt_succ_self _) u5).setCell (p := ⟨b, 6, none⟩) (Nat.le_refl _) (Nat.lt_succ_self _) u6

section
variable {V : Wn → List Value} {w w' : World} {lo lo' base base' : Nat} {so s : Option Addr} {L : List Wn} {v : Wn} {c sc : Nat} {T : TypeId}
theorem LinV.low (h : LinV V T w base so sc L) (hb : base' ≤ base) : LinV V T w base' so sc L := ⟨h.own.le hb, h.cis.wide hb (Nat.le_refl _), h.ty⟩
/-- One window more, its numbers made ahead of the row: all in memory of one's own. -/
theorem LinV.plusL (hT : T ≠ 2) (h : LinV V T w base so sc L) (hb : base ≤ w.heap.size) (hon : v.b.on w) (hty : v.b.ty w) (hin : v.b.L ≠ [] → lo' ≤ v.b.g ∧ v.b.g < base) (hl : lo' ≤ base)
    (o' : OwnV V T w' base s c (L ++ [v])) (hg : w.grownBy w' (Value.ownBlock (.slice so L.length sc))) (k : Below base w w') : LinV V T w' lo' s c (L ++ [v]) := by
  obtain ⟨g1, g2⟩ := h.cis.grown hT h.ty h.own hg
  have hz := k.size
  refine ⟨o'.le hl, ?_, fun b m => ?_⟩
  · rw [List.map_append]
    exact (g1.wide (Nat.le_refl _) hz).early (Ci.on_keep hon k fun e => (hin e).2) hin hl (by omega)
  · rw [List.map_append, List.mem_append] at m
    rcases m with m | m
    · exact g2 b m
    · obtain rfl : b = v.b := by simpa using m
      exact fun e => (hty e).keep k (hin e).2
theorem Ci.ty_far {b : Ci} {lo hi : Nat} (h : b.ty w) (f : Far lo hi w w') (hb : b.L ≠ [] → b.g < lo ∨ hi ≤ b.g) : b.ty w' := fun e => by
  obtain ⟨cs, fr, hh⟩ := h e
  exact ⟨cs, fr, (f.block b.g (Array.getElem?_eq_some_iff.1 hh).1 (hb e)).trans hh⟩
end

attribute [local go_sem] growUpon growAt

set_option maxRecDepth 100000 in
set_option maxHeartbeats 16000000 in
theorem sMake_lin (so : Option Addr) (sc : Nat) (L : List Wn) (s x y p h : Int) (w : World) (hL : Ws w 0 w.heap.size so L) (hn : L.length + wzs L ≤ 1048576) (hz : mkZ (L.map Wn.ct) s x y p h = 0) :
    Calls Try.prog 64 #[.slice so L.length sc, .int .i64 s, .agg #[.int .i64 x, .int .i64 y, .int .i64 p, .int .i64 h]] w fun e w' => ∃ (s' : Option Addr) (c : Nat) (M : List Wn), e = .returned (.agg #[.int .i64 0, .int .i64 (mkV (L.map Wn.ct) s x y p h), .slice s' (L.length + 1) c]) ∧ M.map Wn.ct = mkP (L.map Wn.ct) s x y p h ∧ M.length = L.length + 1 ∧ LinV Wn.vals 47 w' w.heap.size s' c M ∧ Below w.heap.size w w' := by
  obtain ⟨ha, hr, hneg⟩ := mk_ok hz
  rw [mkV_yes hz, mkP_yes hz, mapI]
  obtain ⟨hst, hs1, hs2⟩ := askS_ok ha
  have SF := fun w1 (kk : Below w.heap.size w w1) => l7F_any 0 w.heap.size so sc L w1 (hL.keep kk (Nat.le_refl _)) kk.size hn
  rw [hst] at SF
  have SF' := hideP SF
  have ID := hideP (fun w1 (kk : Below w.heap.size w w1) => l7Ids_any 0 w.heap.size so sc L w1 (hL.keep kk (Nat.le_refl _)) kk.size (by omega))
  have PA := hideP (fun w1 (kk : Below w.heap.size w w1) => l7Copy_any 0 w.heap.size so sc L w1 (hL.keep kk (Nat.le_refl _)) kk.size hn)
  rw [mapI] at hneg
  obtain ⟨v, hv⟩ : ∃ v, nxt (L.map Wn.i) s = v := ⟨_, rfl⟩
  have hids : idsF (L.map Wn.i) = 0 := by have := (stF_ok hst).1; rwa [mapI] at this
  have hd : decide (0 ≤ s ∧ s ≤ 3) = true := decide_eq_true ⟨hs1, hs2⟩
  rw [hv] at hneg ⊢
  have hIl : (L.map Wn.i).length = L.length := by simp
  obtain ⟨_, _, p1, p2, _⟩ := wrB_no hr
  have ab := area_le p1 p2
  obtain ⟨q, hq⟩ : ∃ q : Nat, (q : Int) = p * h := ⟨(p * h).toNat, by omega⟩
  have hq48 : q ≤ 48 := by omega
  have hqn : (p * h).toNat = q := by omega
  have hw : IntKind.i64.wrap (p * h) = (q : Int) := by rw [hq]; exact IntWalk.i64_in _ (by omega)
  rw [hqn]
  have HI := hideP hIl
  have HV := hideP hv
  have hnL : L.length ≤ 12 := by rw [← hIl]; exact idsF_len hids
  obtain ⟨i0, hi0, hz0, hz1, hz2⟩ := info_parts Try.infoI5
  clear SF hL hz ha hst hids hIl hq ab hqn hn hv
  go_enter Try.func64, Try.ntmps64
  go_wp2_with fail
  refine Calls.mono (SF'.out _ (by go_grown)) ?_
  rintro e w1 ⟨rfl, k1⟩
  have n1 := k1.size
  simp only [World.size_alloc] at n1
  have K1 : Hid (Below w.heap.size w w1) := hideP (Below.trans (by go_grown) (k1.mono (by simp; omega)))
  have R1 : Hid (IsRect w1 w.heap.size 0 x y p h) := hideP ⟨(k1.cell (p := ⟨w.heap.size, 0, none⟩) (by simp; omega)).trans (by simp [go_sem]), (k1.cell (p := ⟨w.heap.size, 1, none⟩) (by simp; omega)).trans (by simp [go_sem]), (k1.cell (p := ⟨w.heap.size, 2, none⟩) (by simp; omega)).trans (by simp [go_sem]), (k1.cell (p := ⟨w.heap.size, 3, none⟩) (by simp; omega)).trans (by simp [go_sem])⟩
  have X1 : R3 w1 (w.heap.size + 1) (.int .i64 0) (.int .i64 0) (.slice none 0 0) := R3.keep ⟨by simp [go_sem], by simp [go_sem], by simp [go_sem], by simp [go_sem], by simp⟩ k1 (by simp)
  clear k1 SF'
  go_wp2_with fail
  refine Calls.mono (sSlot5_any s w1) ?_
  rintro e w2 ⟨rfl, hw2⟩
  subst w2
  rw [hd]
  go_wp2_with fail
  refine Calls.mono (l7Rect_any _ _ x y p h w1 R1.out) ?_
  rintro e w3 ⟨rfl, hw3⟩
  subst w3
  rw [hr]
  go_wp2_with fail
  refine Calls.mono (ID.out w1 K1.out) ?_
  rintro e w4 ⟨ao4, cap4, rfl, O4, k4⟩
  have K4 := hideP (K1.out.trans (k4.mono K1.out.size))
  have X4 := hideP (X1.keep k4 X1.lt)
  have hr4 : w.heap.size < w1.heap.size := by omega
  have r0 : w4.cell? ⟨w.heap.size, 0, none⟩ = some (.int .i64 x) := (k4.cell (p := ⟨w.heap.size, 0, none⟩) hr4).trans R1.out.1
  have r1 : w4.cell? ⟨w.heap.size, 1, none⟩ = some (.int .i64 y) := (k4.cell (p := ⟨w.heap.size, 0 + 1, none⟩) hr4).trans R1.out.2
  have r2 : w4.cell? ⟨w.heap.size, 2, none⟩ = some (.int .i64 p) := (k4.cell (p := ⟨w.heap.size, 0 + 2, none⟩) hr4).trans R1.out.3
  have r3 : w4.cell? ⟨w.heap.size, 3, none⟩ = some (.int .i64 h) := (k4.cell (p := ⟨w.heap.size, 0 + 3, none⟩) hr4).trans R1.out.4
  have n4 : w.heap.size + 1 < w4.heap.size := by have := k4.size; omega
  have n4' : w.heap.size < w4.heap.size := by omega
  have NX := sNext_any w1.heap.size w4.heap.size ao4 cap4 (L.map Wn.i) s w4 (OwnR.wrt O4).row (by rw [HI.out]; omega) hs1 hs2
  rw [HI.out, HV.out] at NX
  have NX' := hideP NX
  rw [HI.out]
  clear k4 O4 NX X1 ID K1 R1 hr4
  go_wp2_with fail
  refine Calls.mono NX'.out ?_
  rintro e w5 ⟨rfl, hw5⟩
  subst w5
  clear NX'
  go_wp2_with fail
  refine wp_region_boxed 10 [0, 1, 2, 3, 4, 5, 6] [7, 8] 9 (.cells #[.int .i64 0, .int .i64 0, .int .i64 0, .int .i64 0, .int .i64 0, .bool false, .slice none 0 0] 47) rfl (by kernel_rfl) (by kernel_rfl) ?_
  simp only [sel, List.filterMap_cons, List.filterMap_nil, List.getElem?_cons_succ, List.getElem?_cons_zero]
  repeat (refine grow_step (by rfl) ?_; apply Exists.intro; refine ⟨fun w1 k1 => ?_, fun K hK => ?_⟩; (focus (have hc := Kept.cell k1; go_simp; first | done | rfl)); (go_simp; refine hK _ ?_; clear hK K))
  refine grow_nil ?_
  clear r0 r1 r2 r3
  refine ⟨by rfl, fun w1 => (by go_simp), ?_⟩
  refine boxed_step (by rfl) fun v1 j1 => ?_
  have jj1 := Kept.below j1
  obtain ⟨v2, hrun, hown, hgrow⟩ := run_makeSlice_full (P := Try.prog) v1 v1.heap.size 26 2 i0 (.int .i64 0) 1 Try.underlying26 hi0 hz0 hz1 .i64 .i64 q (by omega) (by rw [hz2]; omega) (by unfold maxLen; omega) (Nat.le_refl _)
  have k9 : Below v1.heap.size v1 v2 := (Below.refl _ v1).grown hgrow (Nat.le_refl _) (by simp)
  refine made_run (v := .slice (some ⟨v1.heap.size, 0, none⟩) q q) (w2 := v2) (by first | (go_simp; done) | (go_simp; rfl) | (go_simp; have hr2 : (Instr.makeSlice 26 (.int .i64 (q : Int)) (.int .i64 (q : Int))).run Try.prog v1 = .ok (.slice (some ⟨v1.heap.size, 0, none⟩) q q) v2 := hrun; rw [hr2]; rfl)) k9 fun K hK => ?_
  go_simp
  refine hK _ ?_
  clear hK K
  have hO : OwnR .i64 2 v2 v1.heap.size (some ⟨v1.heap.size, 0, none⟩) q (List.replicate q 0) := zeros_ownI hown
  obtain ⟨bc, hba, hbc, hbL, hbon, hbty, hbin⟩ : ∃ b : Ci, b.ao = some ⟨v1.heap.size, 0, none⟩ ∧ b.cap = q ∧ b.L = List.replicate q 0 ∧ b.on v2 ∧ b.ty v2 ∧ (b.L ≠ [] → v1.heap.size ≤ b.g ∧ b.g < v2.heap.size) := by
    obtain ⟨g, h1, h2, h3⟩ := Ci.of_own hO
    exact ⟨_, rfl, rfl, rfl, h1, h2, h3⟩
  have hbl : bc.L.length = q := by rw [hbL]; simp
  clear hown hgrow hO hrun
  refine boxed_step (by rfl) fun v3 j3 => ?_
  have jj3 := Kept.below j3
  refine made_value (v := .agg #[.int .i64 v, .int .i64 x, .int .i64 y, .int .i64 p, .int .i64 h, .bool false, .slice (some ⟨v1.heap.size, 0, none⟩) q q]) (by go_simp; first | done | rfl) fun K hK => ?_
  go_simp
  refine hK _ ?_
  clear hK K
  refine boxed_nil fun B v4 j4 hB0 hB1 hBb hBI => ?_
  have jj4 := Kept.below j4
  have e1 := jj1.size
  have e2 := k9.size
  have e3 := jj3.size
  have e4 := jj4.size
  have hB2 : B < v1.heap.size ∨ v2.heap.size ≤ B := hBI (v1.heap.size, v2.heap.size) (by simp)
  have BX := r7_at hBb
  have Y10 := BX.put7' (.int .i64 v) (.int .i64 x) (.int .i64 y) (.int .i64 p) (.int .i64 h) (.bool false) (.slice (some ⟨v1.heap.size, 0, none⟩) q q)
  have FX := far_set7 (w := v4) (b := B) (.int .i64 v) (.int .i64 x) (.int .i64 y) (.int .i64 p) (.int .i64 h) (.bool false) (.slice (some ⟨v1.heap.size, 0, none⟩) q q)
  have k24 : Below v2.heap.size v2 v4 := jj3.trans (jj4.mono jj3.size)
  have kW : Below w4.heap.size w4 v4 := jj1.trans ((k9.trans (k24.mono e2)).mono e1)
  have kk := kW.trans (FX.below (B := w4.heap.size) hB0 kW.size)
  have K10 := hideP (K4.out.trans (kk.mono K4.out.size))
  have X10 := hideP (X4.out.keep kk X4.out.lt)
  have hon4 : bc.on v4 := Ci.on_keep hbon k24 fun e => (hbin e).2
  have HON10 := hideP (Ci.on_far hon4 FX fun e => by have := hbin e; omega)
  have HTY10 := hideP (Ci.ty_far (Ci.ty_keep hbty k24) FX fun e => by have := hbin e; omega)
  have hz7 : (set7 v4 B (.int .i64 v) (.int .i64 x) (.int .i64 y) (.int .i64 p) (.int .i64 h) (.bool false) (.slice (some ⟨v1.heap.size, 0, none⟩) q q)).heap.size = v4.heap.size := by simp [set7]
  obtain ⟨Bq, hBq⟩ : ∃ Bq, v1.heap.size = Bq := ⟨_, rfl⟩
  have HIN10 : Hid (bc.L ≠ [] → Bq ≤ bc.g ∧ bc.g < (set7 v4 B (.int .i64 v) (.int .i64 x) (.int .i64 y) (.int .i64 p) (.int .i64 h) (.bool false) (.slice (some ⟨v1.heap.size, 0, none⟩) q q)).heap.size) := hideP fun e => by have := hbin e; omega
  have n9 : Bq ≤ (set7 v4 B (.int .i64 v) (.int .i64 x) (.int .i64 y) (.int .i64 p) (.int .i64 h) (.bool false) (.slice (some ⟨v1.heap.size, 0, none⟩) q q)).heap.size := by omega
  have nB : w.heap.size + 1 < B := by omega
  have nBq : w.heap.size + 1 < Bq := by omega
  rw [hBq] at Y10 HON10 HTY10 K10 X10 HIN10 n9 hba ⊢
  have HBL := hideP hbL
  have HW7 : Hid (set7 v4 B (.int .i64 v) (.int .i64 x) (.int .i64 y) (.int .i64 p) (.int .i64 h) (.bool false) (.slice (some ⟨Bq, 0, none⟩) q q) = ((((((v4.setCell ⟨B, 0, none⟩ (.int .i64 v)).setCell ⟨B, 1, none⟩ (.int .i64 x)).setCell ⟨B, 2, none⟩ (.int .i64 y)).setCell ⟨B, 3, none⟩ (.int .i64 p)).setCell ⟨B, 4, none⟩ (.int .i64 h)).setCell ⟨B, 5, none⟩ (.bool false)).setCell ⟨B, 6, none⟩ (.slice (some ⟨Bq, 0, none⟩) q q)) := hideP rfl
  obtain ⟨y0, y1, y2, y3, y4, y5, y6, y7, y8⟩ := BX
  clear j1 jj1 k9 j3 jj3 j4 jj4 hBb hBI FX k24 kW kk hon4 hbon hbty hbin hbL hB0 hB1 e1 e2 e3 e4 hB2 K4 X4 hz7 hBq
  go_wp2_with fail
  rw [← HW7.out]
  clear y0 y1 y2 y3 y4 y5 y6 y7 y8 HW7
  generalize set7 v4 B (.int .i64 v) (.int .i64 x) (.int .i64 y) (.int .i64 p) (.int .i64 h) (.bool false) (.slice (some ⟨Bq, 0, none⟩) q q) = w10 at *
  refine wp_region_held (S := (fun W => R7 W B (.int .i64 v) (.int .i64 x) (.int .i64 y) (.int .i64 p) (.int .i64 h) (.bool false) (.slice (some ⟨Bq, 0, none⟩) q q))) (by kernel_rfl) ?_
  show wpAnyH _ _ _ _ _ 8 (Array.replicate 8 false) _ (w10).drew
  generalize hQQ : (Exit.then _ _ : Exit → Act → World → Prop) = QQ
  have hQ : ∀ c a d v w, QQ (.panic c) (Act.put a d v) w → QQ (.panic c) a w := by
    subst hQQ
    intro c a d v w h
    cases d <;> exact h
  have kd : Below w10.heap.size w10 w10.drew := (Below.refl _ _).drew
  have S0 := Y10.keep kd Y10.lt
  have KU := hideP (K10.out.trans (kd.mono K10.out.size))
  have XU := hideP (X10.out.keep kd X10.out.lt)
  have OU := hideP (Ci.on_keep HON10.out kd fun e => (HIN10.out e).2)
  have TU := hideP (Ci.ty_keep HTY10.out kd)
  have hsd : w10.drew.heap.size = w10.heap.size := rfl
  have IU : Hid (bc.L ≠ [] → Bq ≤ bc.g ∧ bc.g < w10.drew.heap.size) := HIN10
  rw [← hsd] at n9
  clear kd K10 X10 HON10 HIN10 Y10 hsd HTY10
  generalize w10.drew = u at *
  have y8 := S0.lt
  refine held_take (i := 0) rfl (by kernel_rfl) (by kernel_rfl) (by kernel_rfl) hQ S0 (by rfl) ?_
  apply Exists.intro
  refine ⟨fun w1 k1 => ?_, fun K hK => ?_⟩
  · have hc := k1.lt
    go_simp
    first | done | rfl
  go_simp
  refine hK _ ?_
  clear hK K
  refine held_take (i := 1) rfl (by kernel_rfl) (by kernel_rfl) (by kernel_rfl) hQ S0 (by rfl) ?_
  apply Exists.intro
  refine ⟨fun w1 k1 => ?_, fun K hK => ?_⟩
  · have hc := k1.lt
    go_simp
    first | done | rfl
  go_simp
  refine hK _ ?_
  clear hK K
  refine held_take (i := 3) rfl (by kernel_rfl) (by kernel_rfl) (by kernel_rfl) hQ S0 (by rfl) ?_
  apply Exists.intro
  refine ⟨fun w1 k1 => ?_, fun K hK => ?_⟩
  · obtain ⟨y0, y1, y2, y3, y4, y5, y6, y7, y8⟩ := k1
    go_simp
    first | done | rfl
  go_simp
  refine hK _ ?_
  clear hK K
  refine held_two (i := 2) (j := 4) rfl rfl (by kernel_rfl) (by rfl) (by rfl) ?_ ?_
  · refine wp_of_callsM (by go_simp; exact ⟨rfl, rfl⟩) ?_
    refine (PA.out u (KU.out.trans (Below.mono (Below.refl _ _) KU.out.size))).mono ?_
    rintro e w4x ⟨sm, cm, M, rfl, hM, LN, k_w4x⟩
    refine ⟨_, rfl, ?_⟩
    have S0 := S0.keep k_w4x S0.lt
    refine ⟨S0, ?_⟩
    refine norm_act fun K hK => ?_
    go_simp
    refine hK _ ?_
    clear hK K
    refine held_one (i := 4) rfl (by kernel_rfl) (by rfl) ?_
    refine wp_of_run (v := .slice (some ⟨w4x.heap.size, 0, none⟩) 1 1) (w' := w4x.alloc (.cells #[.int .i64 v, .int .i64 x, .int .i64 y, .int .i64 p, .int .i64 h, .bool false, .slice (some ⟨Bq, 0, none⟩) q q] 47)) (by go_simp; first | done | rfl) ?_
    have k_W6 := kalC w4x (.cells #[.int .i64 v, .int .i64 x, .int .i64 y, .int .i64 p, .int .i64 h, .bool false, .slice (some ⟨Bq, 0, none⟩) q q] 47)
    have DC : Cl Wn.vals (w4x.alloc (.cells #[.int .i64 v, .int .i64 x, .int .i64 y, .int .i64 p, .int .i64 h, .bool false, .slice (some ⟨Bq, 0, none⟩) q q] 47)) w4x.heap.size 0 ⟨v, x, y, p, h, false, bc⟩ := by
      have h := r7_new w4x (.int .i64 v) (.int .i64 x) (.int .i64 y) (.int .i64 p) (.int .i64 h) (.bool false) (.slice (some ⟨Bq, 0, none⟩) q q) 47
      exact Cl.mkW ⟨h.c0, h.c1, h.c2, h.c3, h.c4, h.c5, by rw [hba, hbc, hbl]; exact h.c6⟩
    have z_W6' : w4x.heap.size < (w4x.alloc (.cells #[.int .i64 v, .int .i64 x, .int .i64 y, .int .i64 p, .int .i64 h, .bool false, .slice (some ⟨Bq, 0, none⟩) q q] 47)).heap.size := by simp
    have S0 := S0.keep k_W6 S0.lt
    refine ⟨S0, ?_⟩
    refine norm_act fun K hK => ?_
    go_simp
    refine hK _ ?_
    clear hK K
    generalize w4x.alloc (.cells #[.int .i64 v, .int .i64 x, .int .i64 y, .int .i64 p, .int .i64 h, .bool false, .slice (some ⟨Bq, 0, none⟩) q q] 47) = W6 at *
    have LN := LN.keep k_W6
    have k_uW : Below u.heap.size u W6 := k_w4x.trans (k_W6.mono k_w4x.size)
    have HMl := hideP (lenW hM)
    have hb0 : u.heap.size ≤ u.heap.size := by first | exact Nat.le_refl _ | exact k_w4x.size
    have hbW : u.heap.size ≤ W6.heap.size := by first | exact k_uW.size | exact k_W6.size
    have hon6 : bc.on W6 := Ci.on_keep OU.out k_uW fun e => (IU.out e).2
    have hin6 : bc.L ≠ [] → Bq ≤ bc.g ∧ bc.g < u.heap.size := fun e => by have := IU.out e; omega
    refine held_one (i := 5) rfl (by kernel_rfl) (by rfl) ?_
    refine wp_appV (V := Wn.vals) (T := 47) vals7 vals1 Try.underlying24 Try.infoWn rfl _ _ rfl u.heap.size sm cm M rfl LN.own _ 1 ⟨v, x, y, p, h, false, bc⟩ rfl DC (by have := HMl.out; omega) hbW ?_
    intro so7 sc7 w7 O7 G7 K7
    have S0 := S0.keep (k := K7) (by omega)
    refine ⟨S0, ?_⟩
    refine norm_act fun K hK => ?_
    go_simp
    refine hK _ ?_
    clear hK K
    have hty6 : bc.ty W6 := Ci.ty_keep TU.out k_uW
    have WQ := LN.plusL winNe hbW hon6 hty6 hin6 (by omega) O7 G7 K7
    have KW := KU.out.trans ((k_uW.trans (K7.mono hb0)).mono KU.out.size)
    have X7 := (XU.out.keep k_uW XU.out.lt).keep K7 (by have := XU.out.lt; omega)
    obtain ⟨x0, x1, x2, x3, x4⟩ := X7
    have hwx : w.heap.size + 1 ≠ B := by omega
    refine held_one (i := 6) rfl (by kernel_rfl) (by rfl) ?_
    refine wp_of_run (v := .agg #[.int .i64 0, .int .i64 v, .slice so7 (M.length + 1) sc7]) (w' := w7) (by go_simp; first | done | rfl) ?_
    refine ⟨S0, ?_⟩
    refine norm_act fun K hK => ?_
    go_simp
    refine hK _ ?_
    clear hK K
    refine held_one (i := 7) rfl (by kernel_rfl) (by rfl) ?_
    refine wp_of_skip (w' := ((w7.setCell ⟨w.heap.size + 1, 0, none⟩ (.int .i64 0)).setCell ⟨w.heap.size + 1, 1, none⟩ (.int .i64 v)).setCell ⟨w.heap.size + 1, 2, none⟩ (.slice so7 (M.length + 1) sc7)) (by go_simp; first | done | rfl) ?_
    have fs : ∀ (W : World) (o : Nat) (v : Value), Far (w.heap.size + 1) (w.heap.size + 1 + 1) W (W.setCell ⟨w.heap.size + 1, o, none⟩ v) := fun W o v => Far.of_set7 ⟨Nat.le_refl _, Nat.lt_succ_self _⟩
    have S0 := ((S0.far (fs _ 0 (.int .i64 0)) (by omega)).far (fs _ 1 (.int .i64 v)) (by omega)).far (fs _ 2 (.slice so7 (M.length + 1) sc7)) (by omega)
    refine ⟨S0, ?_⟩
    refine norm_act fun K hK => ?_
    go_simp
    refine hK _ ?_
    clear hK K
    refine wpAnyH_done (by kernel_rfl) ?_ _
    subst hQQ
    have K9 := ((KW.setCell (p := ⟨w.heap.size + 1, 0, none⟩) (Nat.le_succ _) (.int .i64 0)).setCell (p := ⟨w.heap.size + 1, 1, none⟩) (Nat.le_succ _) (.int .i64 v)).setCell (p := ⟨w.heap.size + 1, 2, none⟩) (Nat.le_succ _) (.slice so7 (M.length + 1) sc7)
    have Q9 := (((WQ.set ⟨w.heap.size + 1, 0, none⟩ (.int .i64 0) nBq).set ⟨w.heap.size + 1, 1, none⟩ (.int .i64 v) nBq).set ⟨w.heap.size + 1, 2, none⟩ (.slice so7 (M.length + 1) sc7) nBq).low (base' := w.heap.size) (by omega)
    have hll : (M ++ [(⟨v, x, y, p, h, false, bc⟩ : Wn)]).length = M.length + 1 := by simp
    have HCT : Hid ((M ++ [(⟨v, x, y, p, h, false, bc⟩ : Wn)]).map Wn.ct = L.map Wn.ct ++ [(⟨v, x, y, p, h, false, List.replicate q 0⟩ : Wc)]) := hideP (by
      rw [List.map_append, hM, ← HBL.out]; rfl)
    clear S0 fs KW K7 G7 O7 WQ
    rw [HMl.out] at hll Q9 K9 ⊢
    go_wp2
    refine bodyPost_ret (v := .agg #[.int .i64 0, .int .i64 v, .slice so7 (L.length + 1) sc7]) (by simp [results, Try.results64, go_sem, *]) rfl ⟨so7, sc7, _, rfl, HCT.out, hll, Q9, K9⟩
  · refine wp_of_run (v := .slice (some ⟨u.heap.size, 0, none⟩) 1 1) (w' := u.alloc (.cells #[.int .i64 v, .int .i64 x, .int .i64 y, .int .i64 p, .int .i64 h, .bool false, .slice (some ⟨Bq, 0, none⟩) q q] 47)) (by go_simp; first | done | rfl) ?_
    have k_w4x := kalC u (.cells #[.int .i64 v, .int .i64 x, .int .i64 y, .int .i64 p, .int .i64 h, .bool false, .slice (some ⟨Bq, 0, none⟩) q q] 47)
    have DC : Cl Wn.vals (u.alloc (.cells #[.int .i64 v, .int .i64 x, .int .i64 y, .int .i64 p, .int .i64 h, .bool false, .slice (some ⟨Bq, 0, none⟩) q q] 47)) u.heap.size 0 ⟨v, x, y, p, h, false, bc⟩ := by
      have h := r7_new u (.int .i64 v) (.int .i64 x) (.int .i64 y) (.int .i64 p) (.int .i64 h) (.bool false) (.slice (some ⟨Bq, 0, none⟩) q q) 47
      exact Cl.mkW ⟨h.c0, h.c1, h.c2, h.c3, h.c4, h.c5, by rw [hba, hbc, hbl]; exact h.c6⟩
    have z_w4x' : u.heap.size < (u.alloc (.cells #[.int .i64 v, .int .i64 x, .int .i64 y, .int .i64 p, .int .i64 h, .bool false, .slice (some ⟨Bq, 0, none⟩) q q] 47)).heap.size := by simp
    have S0 := S0.keep k_w4x S0.lt
    refine ⟨S0, ?_⟩
    refine norm_act fun K hK => ?_
    go_simp
    refine hK _ ?_
    clear hK K
    generalize u.alloc (.cells #[.int .i64 v, .int .i64 x, .int .i64 y, .int .i64 p, .int .i64 h, .bool false, .slice (some ⟨Bq, 0, none⟩) q q] 47) = w4x at *
    refine held_one (i := 2) rfl (by kernel_rfl) (by rfl) ?_
    refine wp_of_callsM (by go_simp; exact ⟨rfl, rfl⟩) ?_
    refine (PA.out w4x (KU.out.trans (Below.mono k_w4x KU.out.size))).mono ?_
    rintro e W6 ⟨sm, cm, M, rfl, hM, LN, k_W6⟩
    refine ⟨_, rfl, ?_⟩
    have S0 := S0.keep k_W6 S0.lt
    refine ⟨S0, ?_⟩
    refine norm_act fun K hK => ?_
    go_simp
    refine hK _ ?_
    clear hK K
    have DC := DC.keep k_W6 z_w4x'
    have k_uW : Below u.heap.size u W6 := k_w4x.trans (k_W6.mono k_w4x.size)
    have HMl := hideP (lenW hM)
    have hb0 : u.heap.size ≤ w4x.heap.size := by first | exact Nat.le_refl _ | exact k_w4x.size
    have hbW : w4x.heap.size ≤ W6.heap.size := by first | exact k_uW.size | exact k_W6.size
    have hon6 : bc.on W6 := Ci.on_keep OU.out k_uW fun e => (IU.out e).2
    have hin6 : bc.L ≠ [] → Bq ≤ bc.g ∧ bc.g < w4x.heap.size := fun e => by have := IU.out e; omega
    refine held_one (i := 5) rfl (by kernel_rfl) (by rfl) ?_
    refine wp_appV (V := Wn.vals) (T := 47) vals7 vals1 Try.underlying24 Try.infoWn rfl _ _ rfl w4x.heap.size sm cm M rfl LN.own _ 1 ⟨v, x, y, p, h, false, bc⟩ rfl DC (by have := HMl.out; omega) hbW ?_
    intro so7 sc7 w7 O7 G7 K7
    have S0 := S0.keep (k := K7) (by omega)
    refine ⟨S0, ?_⟩
    refine norm_act fun K hK => ?_
    go_simp
    refine hK _ ?_
    clear hK K
    have hty6 : bc.ty W6 := Ci.ty_keep TU.out k_uW
    have WQ := LN.plusL winNe hbW hon6 hty6 hin6 (by omega) O7 G7 K7
    have KW := KU.out.trans ((k_uW.trans (K7.mono hb0)).mono KU.out.size)
    have X7 := (XU.out.keep k_uW XU.out.lt).keep K7 (by have := XU.out.lt; omega)
    obtain ⟨x0, x1, x2, x3, x4⟩ := X7
    have hwx : w.heap.size + 1 ≠ B := by omega
    refine held_one (i := 6) rfl (by kernel_rfl) (by rfl) ?_
    refine wp_of_run (v := .agg #[.int .i64 0, .int .i64 v, .slice so7 (M.length + 1) sc7]) (w' := w7) (by go_simp; first | done | rfl) ?_
    refine ⟨S0, ?_⟩
    refine norm_act fun K hK => ?_
    go_simp
    refine hK _ ?_
    clear hK K
    refine held_one (i := 7) rfl (by kernel_rfl) (by rfl) ?_
    refine wp_of_skip (w' := ((w7.setCell ⟨w.heap.size + 1, 0, none⟩ (.int .i64 0)).setCell ⟨w.heap.size + 1, 1, none⟩ (.int .i64 v)).setCell ⟨w.heap.size + 1, 2, none⟩ (.slice so7 (M.length + 1) sc7)) (by go_simp; first | done | rfl) ?_
    have fs : ∀ (W : World) (o : Nat) (v : Value), Far (w.heap.size + 1) (w.heap.size + 1 + 1) W (W.setCell ⟨w.heap.size + 1, o, none⟩ v) := fun W o v => Far.of_set7 ⟨Nat.le_refl _, Nat.lt_succ_self _⟩
    have S0 := ((S0.far (fs _ 0 (.int .i64 0)) (by omega)).far (fs _ 1 (.int .i64 v)) (by omega)).far (fs _ 2 (.slice so7 (M.length + 1) sc7)) (by omega)
    refine ⟨S0, ?_⟩
    refine norm_act fun K hK => ?_
    go_simp
    refine hK _ ?_
    clear hK K
    refine wpAnyH_done (by kernel_rfl) ?_ _
    subst hQQ
    have K9 := ((KW.setCell (p := ⟨w.heap.size + 1, 0, none⟩) (Nat.le_succ _) (.int .i64 0)).setCell (p := ⟨w.heap.size + 1, 1, none⟩) (Nat.le_succ _) (.int .i64 v)).setCell (p := ⟨w.heap.size + 1, 2, none⟩) (Nat.le_succ _) (.slice so7 (M.length + 1) sc7)
    have Q9 := (((WQ.set ⟨w.heap.size + 1, 0, none⟩ (.int .i64 0) nBq).set ⟨w.heap.size + 1, 1, none⟩ (.int .i64 v) nBq).set ⟨w.heap.size + 1, 2, none⟩ (.slice so7 (M.length + 1) sc7) nBq).low (base' := w.heap.size) (by omega)
    have hll : (M ++ [(⟨v, x, y, p, h, false, bc⟩ : Wn)]).length = M.length + 1 := by simp
    have HCT : Hid ((M ++ [(⟨v, x, y, p, h, false, bc⟩ : Wn)]).map Wn.ct = L.map Wn.ct ++ [(⟨v, x, y, p, h, false, List.replicate q 0⟩ : Wc)]) := hideP (by
      rw [List.map_append, hM, ← HBL.out]; rfl)
    clear S0 fs KW K7 G7 O7 WQ
    rw [HMl.out] at hll Q9 K9 ⊢
    go_wp2
    refine bodyPost_ret (v := .agg #[.int .i64 0, .int .i64 v, .slice so7 (L.length + 1) sc7]) (by simp [results, Try.results64, go_sem, *]) rfl ⟨so7, sc7, _, rfl, HCT.out, hll, Q9, K9⟩

theorem sMake_yes (so : Option Addr) (sc : Nat) (L : List Wn) (s x y p h : Int) (w : World) (hL : Ws w 0 w.heap.size so L) (hn : L.length + wzs L ≤ 1048576) (hz : mkZ (L.map Wn.ct) s x y p h = 0) :
    Calls Try.prog 64 #[.slice so L.length sc, .int .i64 s, .agg #[.int .i64 x, .int .i64 y, .int .i64 p, .int .i64 h]] w (SAns 0 (mkV (L.map Wn.ct) s x y p h) (mkP (L.map Wn.ct) s x y p h) (mkP (L.map Wn.ct) s x y p h).length w) :=
  (sMake_lin so sc L s x y p h w hL hn hz).mono fun e w' ⟨s', c, M, he, hM, hl, LN, k⟩ => by
    have hll : (mkP (L.map Wn.ct) s x y p h).length = L.length + 1 := by rw [← hM, List.length_map, hl]
    exact ⟨s', c, M, by rw [hll]; exact he, hM, by rw [hll]; exact hl, LN.wq vals7 winNe k.size, k⟩
end Go.Proofs.Ytmmjannkfmiohaa
