/- A window made: by the program. -/
import Derived.Test.YtejgcheddloffaaTr33
import Derived.Test.YtejgcheddloffaaTr10
import Derived.Test.YtejgcheddloffaaTr22
namespace Go.Proofs.Ytejgcheddloffaa
open Go.RowKit Go.Maps
set_option linter.unusedVariables false

theorem wp_of_callsM {P : Program} {o : Oper} {a : Act} {w : World} {K : Act → World → Prop} {Q : Exit → Act → World → Prop} {f : FuncId} {args : Array Value} (h : (execOp a.eval o).run P w = .ok (.enter f args) w)
    (hc : Calls P f args w fun e w'' => ∃ v, e = .returned v ∧ K (a.put o.dst v) w'') : o.wp P a w K Q := by
  unfold Oper.wp
  rw [h]
  simp only [Oper.upon]
  exact hc.mono fun e w'' ⟨v, he, hk⟩ => by rw [he]; exact hk
theorem zeros_ownI {w : World} {base g n : Nat} (h : w.ownsRow base 2 1 (.slice (some ⟨g, 0, none⟩) n n) n (madeCells (Value.int .i64 0).cells (n * 1)).toList) : OwnR .i64 2 w base (some ⟨g, 0, none⟩) n (List.replicate n 0) := by
  have e : (madeCells (Value.int .i64 0).cells (n * 1)).toList = (List.replicate n 0).map (Value.int .i64) := by
    apply List.ext_getElem
    · simp [madeCells, Value.cells]
    · intro i h1 h2
      have hm : i % 1 = 0 := Nat.mod_one i
      simp [madeCells, Value.cells, hm]
  unfold OwnR
  rw [e] at h
  simpa using h
section
variable {V : Wn → List Value} {w w' : World} {lo lo' hi base : Nat} {so s : Option Addr} {bs : List Ci} {b : Ci} {L M : List Wn} {v : Wn} {c sc : Nat} {T : TypeId}
/-- Numbers that lie ahead of all others. -/
theorem Cis.early (h : Cis w lo hi bs) (hb : b.on w) (hi1 : b.L ≠ [] → lo' ≤ b.g ∧ b.g < lo) (hl : lo' ≤ lo) (hh : lo ≤ hi) : Cis w lo' hi (bs ++ [b]) := by
  refine ⟨fun c m => ?_, fun c m e => ?_, ?_⟩
  · rcases List.mem_append.1 m with m | m
    · exact h.each c m
    · obtain rfl : c = b := by simpa using m
      exact hb
  · rcases List.mem_append.1 m with m | m
    · have := h.inn c m e; omega
    · obtain rfl : c = b := by simpa using m
      have := hi1 e; omega
  · rw [List.pairwise_append]
    refine ⟨h.apart, List.pairwise_singleton _ _, fun c m d m' e1 e2 => ?_⟩
    obtain rfl : d = b := by simpa using m'
    have := h.inn c m e1
    have := hi1 e2
    omega
/-- One window more, its numbers made ahead of the row. -/
theorem LinV.plus (hV : ∀ v, (V v).length = 7) (hT : T ≠ 2) (h : LinV V T w base so sc L) (hb : base ≤ w.heap.size) (hon : v.b.on w) (hin : v.b.L ≠ [] → lo' ≤ v.b.g ∧ v.b.g < base) (hl : lo' ≤ base)
    (o' : OwnV V T w' base s c (L ++ [v])) (hg : w.grownBy w' (Value.ownBlock (.slice so L.length sc))) (k : Below base w w') : Wq V w' lo' w'.heap.size s (L ++ [v]) := by
  obtain ⟨g1, g2⟩ := h.cis.grown hT h.ty h.own hg
  have hz := k.size
  refine ⟨by omega, Nat.le_refl _, ?_, (o'.sp hV).wide hl (Nat.le_refl _), fun g e b m hn => ?_⟩
  · rw [List.map_append]
    exact (g1.wide (Nat.le_refl _) hz).early (Ci.on_keep hon k fun e => (hin e).2) hin hl (by omega)
  · rw [List.map_append, List.mem_append] at m
    rcases m with m | m
    · exact fun e2 => o'.other hT (g2 b m) hn (by rw [e2, e]; rfl)
    · obtain rfl : b = v.b := by simpa using m
      rcases o'.sp hV with h0 | ⟨g', ha, h3, _⟩
      · simp at h0
      · rw [e] at ha; cases ha; have := hin hn; omega
/-- Panes handed on as a stack. -/
theorem Wq.doneM (h : Wq Wn.pals w lo hi so L) (k : Below w.heap.size w w') (O : OwnV Wn.vals 38 w' w.heap.size s c L) : Wq Wn.vals w' lo w'.heap.size s L :=
  ⟨by have := h.le; have := h.hs; have := k.size; omega, Nat.le_refl _, (h.cis.keep k h.hs).wide (Nat.le_refl _) (Nat.le_trans h.hs k.size), (O.sp vals7).wide (by have := h.le; have := h.hs; omega) (Nat.le_refl _), fun g hg b m e e2 => by
    have h1 := h.cis.inn b m e
    have h2 := h.hs
    rcases O.sp vals7 with h0 | ⟨g', ha, h3, _⟩
    · rw [h0] at m; simp at m
    · rw [hg] at ha; cases ha; omega⟩
end
theorem mk_ok {C : List Wc} {s x y p h : Int} (e : mkZ C s x y p h = 0) : askS C s = 0 ∧ wrB x y p h = false ∧ ¬ nxt (C.map Wc.i) s < 0 := by
  unfold mkZ at e
  by_cases h1 : askS C s = 0
  · rw [if_pos h1] at e
    cases h2 : wrB x y p h
    · rw [h2] at e
      by_cases h3 : nxt (C.map Wc.i) s < 0
      · rw [if_pos h3] at e; simp at e
      · exact ⟨h1, rfl, h3⟩
    · rw [h2] at e; simp at e
  · rw [if_neg h1] at e; exact absurd e h1
theorem mkV_yes {C : List Wc} {s x y p h : Int} (e : mkZ C s x y p h = 0) : mkV C s x y p h = nxt (C.map Wc.i) s := by unfold mkV; rw [if_pos e]
theorem mkP_yes {C : List Wc} {s x y p h : Int} (e : mkZ C s x y p h = 0) : mkP C s x y p h = C ++ [⟨nxt (C.map Wc.i) s, x, y, p, h, false, List.replicate (p * h).toNat 0⟩] := by unfold mkP; rw [if_pos e]

set_option maxRecDepth 100000 in
set_option maxHeartbeats 16000000 in
theorem iMake_yes (so : Option Addr) (sc : Nat) (L : List Wn) (s x y p h : Int) (w : World) (hL : Ws w 0 w.heap.size so L) (hn : L.length + wzs L ≤ 1048576) (hz : mkZ (L.map Wn.ct) s x y p h = 0) :
    Calls Try.prog 6 #[.slice so L.length sc, .int .i64 s, .agg #[.int .i64 x, .int .i64 y, .int .i64 p, .int .i64 h]] w (SAns 0 (mkV (L.map Wn.ct) s x y p h) (mkP (L.map Wn.ct) s x y p h) (mkP (L.map Wn.ct) s x y p h).length w) := by
  obtain ⟨ha, hr, hneg⟩ := mk_ok hz
  rw [mkV_yes hz, mkP_yes hz, mapI]
  have AN := fun w1 (kk : Below w.heap.size w w1) => fos_any 0 w.heap.size so sc L s w1 (hL.keep kk (Nat.le_refl _)) kk.size hn
  rw [ha] at AN
  have AN' := hideP AN
  have ID := hideP (fun w1 (kk : Below w.heap.size w w1) => idsIn_any 0 w.heap.size so sc L w1 (hL.keep kk (Nat.le_refl _)) kk.size (by omega))
  have PA := hideP (fun w1 (kk : Below w.heap.size w w1) => panes_any 0 w.heap.size so sc L w1 (hL.keep kk (Nat.le_refl _)) kk.size hn)
  obtain ⟨hst, hs1, hs2⟩ := askS_ok ha
  rw [mapI] at hneg
  obtain ⟨v, hv⟩ : ∃ v, nxt (L.map Wn.i) s = v := ⟨_, rfl⟩
  have hids : idsF (L.map Wn.i) = 0 := by have := (stF_ok hst).1; rwa [mapI] at this
  have haf := askF_yes hids hs1 hs2
  have hm1 : ¬ nxt (L.map Wn.i) s = -1 := by omega
  have hnc : nxC (L.map Wn.i) s = 0 := by rw [nxC_yes haf, if_neg hm1]
  have hnv : nxV (L.map Wn.i) s = v := by rw [nxV_yes haf, if_neg hm1, hv]
  rw [hv]
  have hIl : (L.map Wn.i).length = L.length := by simp
  obtain ⟨_, _, p1, p2, _⟩ := wrB_no hr
  have ab := area_le p1 p2
  obtain ⟨q, hq⟩ : ∃ q : Nat, (q : Int) = p * h := ⟨(p * h).toNat, by omega⟩
  have hq48 : q ≤ 48 := by omega
  have hqn : (p * h).toNat = q := by omega
  rw [hqn]
  have HPL : Hid ((L.map Wn.ct ++ [(⟨v, x, y, p, h, false, List.replicate q 0⟩ : Wc)]).length = L.length + 1) := hideP (by simp)
  have HI := hideP hIl
  have HNC := hideP hnc
  have HNV := hideP hnv
  have HQ := hideP hq
  have hnL : L.length ≤ 12 := by rw [← HI.out]; exact idsF_len hids
  obtain ⟨i0, hi0, hz0, hz1, hz2⟩ := info_parts Try.infoI5
  clear AN hL hz ha hst hneg hm1 hids haf hnc hnv hIl hq ab hqn hn
  go_enter Try.func6, Try.ntmps6
  go_wp2_with fail
  refine Calls.mono (AN'.out _ (by go_grown)) ?_
  rintro e w1 ⟨rfl, k1⟩
  have n1 := k1.size
  simp only [World.size_alloc] at n1
  have K1 : Hid (Below w.heap.size w w1) := hideP (Below.trans (by go_grown) (k1.mono (by simp; omega)))
  have X1 : R3 w1 (w.heap.size + 1) (.int .i64 0) (.int .i64 0) (.slice none 0 0) := R3.keep ⟨by simp [go_sem], by simp [go_sem], by simp [go_sem], by simp [go_sem], by simp⟩ k1 (by simp)
  have r0 : w1.cell? ⟨w.heap.size, 0, none⟩ = some (.int .i64 x) := (k1.cell (p := ⟨w.heap.size, 0, none⟩) (by simp; omega)).trans (by simp [go_sem])
  have r1 : w1.cell? ⟨w.heap.size, 1, none⟩ = some (.int .i64 y) := (k1.cell (p := ⟨w.heap.size, 1, none⟩) (by simp; omega)).trans (by simp [go_sem])
  have r2 : w1.cell? ⟨w.heap.size, 2, none⟩ = some (.int .i64 p) := (k1.cell (p := ⟨w.heap.size, 2, none⟩) (by simp; omega)).trans (by simp [go_sem])
  have r3 : w1.cell? ⟨w.heap.size, 3, none⟩ = some (.int .i64 h) := (k1.cell (p := ⟨w.heap.size, 3, none⟩) (by simp; omega)).trans (by simp [go_sem])
  have hlr : w.heap.size < w1.heap.size := by omega
  clear k1 AN'
  go_wp2_with fail
  have ka := kalC w1 (.cells #[.int .i64 x, .int .i64 y, .int .i64 p, .int .i64 h, .int .i64 0, .bool false, .slice none 0 0] 51)
  have K2 := hideP (K1.out.trans (ka.mono K1.out.size))
  have X2 := X1.keep ka X1.lt
  have Y2 := r7_new w1 (.int .i64 x) (.int .i64 y) (.int .i64 p) (.int .i64 h) (.int .i64 0) (.bool false) (.slice none 0 0) 51
  clear ka r0 r1 r2 r3 X1
  generalize w1.alloc (.cells #[.int .i64 x, .int .i64 y, .int .i64 p, .int .i64 h, .int .i64 0, .bool false, .slice none 0 0] 51) = w2 at *
  obtain ⟨B, hB⟩ : ∃ B, w1.heap.size = B := ⟨_, rfl⟩
  rw [hB] at Y2 n1 hlr ⊢
  have AR := area_any x y p h w2
  rw [hr, show rfOf false = 0 from rfl] at AR
  refine Calls.mono AR ?_
  rintro e w3 ⟨rfl, k3⟩
  have K3 := hideP (K2.out.trans (k3.mono K2.out.size))
  have X3 := X2.keep k3 X2.lt
  have Y3 := Y2.keep k3 Y2.lt
  clear k3 AR X2 K2 Y2 hB K1
  go_wp2_with fail
  refine Calls.mono (ID.out w3 K3.out) ?_
  rintro e w4 ⟨ao4, cap4, rfl, O4, k4⟩
  have K4 := hideP (K3.out.trans (k4.mono K3.out.size))
  have X4 := X3.keep k4 X3.lt
  have Y4 := Y3.keep k4 Y3.lt
  have NX := iNextId_any w3.heap.size w4.heap.size ao4 cap4 (L.map Wn.i) s w4 (OwnR.wrt O4).row (Nat.le_refl _) (by rw [HI.out]; omega)
  rw [HI.out, HNC.out, HNV.out] at NX
  have NX' := hideP NX
  rw [HI.out]
  clear k4 O4 NX X3 ID K3 Y3
  go_wp2_with fail
  refine Calls.mono NX'.out ?_
  rintro e w5 ⟨rfl, k5⟩
  have K5 := hideP (K4.out.trans (k5.mono K4.out.size))
  have X5 := X4.keep k5 X4.lt
  have Y5 := Y4.keep k5 Y4.lt
  have HX5 := hideP X5
  have hB5 := Y5.lt
  have HY5 := hideP Y5
  obtain ⟨y0, y1, y2, y3, y4, y5, y6, y7, y8⟩ := Y5
  clear k5 K4 X4 NX' X5 Y4
  go_wp2_with fail
  have f5 : Far B (B + 1) w5 (w5.setCell ⟨B, 4, none⟩ (.int .i64 v)) := Far.of_set7 ⟨Nat.le_refl _, Nat.lt_succ_self _⟩
  have Y6 : R7 (w5.setCell ⟨B, 4, none⟩ (.int .i64 v)) B (.int .i64 x) (.int .i64 y) (.int .i64 p) (.int .i64 h) (.int .i64 v) (.bool false) (.slice none 0 0) :=
    ⟨(cell_set_other (by omega)).trans y0, (cell_set_other (by omega)).trans y1, (cell_set_other (by omega)).trans y2, (cell_set_other (by omega)).trans y3, cell_set_same y4, (cell_set_other (by omega)).trans y5, (cell_set_other (by omega)).trans y6, fun c => by simpa using y7 c, by simpa using y8⟩
  have K6 := K5.out.trans (f5.below (B := w.heap.size) (by omega) K5.out.size)
  have X6 := HX5.out.far f5 (by omega)
  have ka := kalC (w5.setCell ⟨B, 4, none⟩ (.int .i64 v)) (.cells #[.int .i64 0, .int .i64 v] 41)
  have K7 := hideP (K6.trans (ka.mono K6.size))
  have X7 := hideP (X6.keep ka X6.lt)
  have Y7 := Y6.keep ka Y6.lt
  clear y0 y1 y2 y3 y4 y5 y6 y7 y8 K6 X6 ka f5 HY5 HX5 K5 Y6
  generalize (w5.setCell ⟨B, 4, none⟩ (.int .i64 v)).alloc (.cells #[.int .i64 0, .int .i64 v] 41) = w7 at *
  have CT := count_any x y p h w7 p1 p2
  rw [← HQ.out] at CT
  refine Calls.mono CT ?_
  rintro e w8 ⟨rfl, k8⟩
  have K8 := hideP (K7.out.trans (k8.mono K7.out.size))
  have X8 := hideP (X7.out.keep k8 X7.out.lt)
  have Y8 := Y7.keep k8 Y7.lt
  clear k8 CT K7 X7 Y7 hB5
  go_wp2_with (first | (at_make; refine wpList_make_full _ rfl _ _ 36 rfl w8.heap.size 2 i0 (.int .i64 0) 1 Try.underlying36 hi0 hz0 hz1 .i64 .i64 _ _ q rfl rfl rfl rfl (by rw [hz2]; omega) (by unfold maxLen; omega) (Nat.le_refl _) ?_; intro w9 hown9 hgrow9; refine Hid.out ?_) | go_in)
  have k9 : Below w8.heap.size w8 w9 := (Below.refl _ w8).grown hgrow9 (Nat.le_refl _) (by simp)
  have hO : OwnR .i64 2 w9 w8.heap.size (some ⟨w8.heap.size, 0, none⟩) q (List.replicate q 0) := zeros_ownI hown9
  obtain ⟨Bq, hBq⟩ : ∃ Bq, w8.heap.size = Bq := ⟨_, rfl⟩
  have hNC : ∃ b : Ci, b.ao = some ⟨Bq, 0, none⟩ ∧ b.cap = q ∧ b.L = List.replicate q 0 ∧ b.on w9 ∧ (b.L ≠ [] → Bq ≤ b.g ∧ b.g < w9.heap.size) := by
    obtain ⟨g, h1, h2, h3⟩ := Ci.of_own hO
    rw [hBq] at h1 h3
    exact ⟨_, rfl, rfl, rfl, h1, h3⟩
  obtain ⟨bc, hba, hbc, hbL, hbon, hbin⟩ := hNC
  have hbl : bc.L.length = q := by rw [hbL]; simp
  have K9 := hideP (K8.out.trans (k9.mono K8.out.size))
  have X9 := hideP (X8.out.keep k9 X8.out.lt)
  have Y9 := Y8.keep k9 Y8.lt
  have hBB : B < Bq := by rw [← hBq]; exact Y8.lt
  have n9 := k9.size
  rw [hBq] at n9 ⊢
  have HON := hideP hbon
  have HIN := hideP hbin
  have HBL := hideP hbL
  clear hown9 hgrow9 k9 hO hBq K8 X8 Y8 hbon hbin hbL
  obtain ⟨y0, y1, y2, y3, y4, y5, y6, y7, y8⟩ := Y9
  refine hideP ?_
  go_wp2_with fail
  have Y10 : R7 (w9.setCell ⟨B, 6, none⟩ (.slice (some ⟨Bq, 0, none⟩) q q)) B (.int .i64 x) (.int .i64 y) (.int .i64 p) (.int .i64 h) (.int .i64 v) (.bool false) (.slice (some ⟨Bq, 0, none⟩) q q) :=
    ⟨(cell_set_other (by omega)).trans y0, (cell_set_other (by omega)).trans y1, (cell_set_other (by omega)).trans y2, (cell_set_other (by omega)).trans y3, (cell_set_other (by omega)).trans y4, (cell_set_other (by omega)).trans y5, cell_set_same y6, fun c => by simpa using y7 c, by simpa using y8⟩
  have f10 : Far B (B + 1) w9 (w9.setCell ⟨B, 6, none⟩ (.slice (some ⟨Bq, 0, none⟩) q q)) := Far.of_set7 ⟨Nat.le_refl _, Nat.lt_succ_self _⟩
  have K10 := hideP (K9.out.trans (f10.below (B := w.heap.size) (by omega) K9.out.size))
  have X10 := hideP (X9.out.far f10 (by omega))
  have HON10 := hideP (Ci.on_far HON.out f10 fun e => by have := HIN.out e; omega)
  have z10 : (w9.setCell ⟨B, 6, none⟩ (.slice (some ⟨Bq, 0, none⟩) q q)).heap.size = w9.heap.size := by simp
  have HIN10 : Hid (bc.L ≠ [] → Bq ≤ bc.g ∧ bc.g < (w9.setCell ⟨B, 6, none⟩ (.slice (some ⟨Bq, 0, none⟩) q q)).heap.size) := hideP (by rw [z10]; exact HIN.out)
  rw [← z10] at n9
  clear y0 y1 y2 y3 y4 y5 y6 y7 y8 f10 K9 X9 HON HIN z10
  generalize w9.setCell ⟨B, 6, none⟩ (.slice (some ⟨Bq, 0, none⟩) q q) = w10 at *
  refine wp_region_held (S := (fun W => R7 W B (.int .i64 x) (.int .i64 y) (.int .i64 p) (.int .i64 h) (.int .i64 v) (.bool false) (.slice (some ⟨Bq, 0, none⟩) q q))) (by kernel_rfl) ?_
  show wpAnyH _ _ _ _ _ 10 (Array.replicate 10 false) _ (w10).drew
  generalize hQQ : (Exit.then _ _ : Exit → Act → World → Prop) = QQ
  have hQ : ∀ c a d v w, QQ (.panic c) (Act.put a d v) w → QQ (.panic c) a w := by
    subst hQQ
    intro c a d v w h
    cases d <;> exact h
  have kd : Below w10.heap.size w10 w10.drew := (Below.refl _ _).drew
  have S0 := Y10.keep kd Y10.lt
  have KU := hideP (K10.out.trans (kd.mono K10.out.size))
  have XU := hideP (X10.out.keep kd X10.out.lt)
  have OU := hideP (Ci.on_keep HON10.out kd fun e => (HIN10.out e).2)
  have hsd : w10.drew.heap.size = w10.heap.size := rfl
  have IU : Hid (bc.L ≠ [] → Bq ≤ bc.g ∧ bc.g < w10.drew.heap.size) := HIN10
  rw [← hsd] at n9
  clear kd K10 X10 HON10 HIN10 Y10 hsd
  generalize w10.drew = u at *
  have hv1 : (v, q) = (v, q) := rfl
  obtain ⟨y0, y1, y2, y3, y4, y5, y6, y7, y8⟩ := id S0
  clear y0 y1 y2 y3 y4 y5 y6 y7 hv1
  refine held_take (i := 0) rfl (by kernel_rfl) (by kernel_rfl) (by kernel_rfl) hQ S0 (by rfl) ?_
  apply Exists.intro
  refine ⟨fun w1 k1 => ?_, fun K hK => ?_⟩
  · have hc := k1.lt
    go_simp
    first | done | rfl
  go_simp
  refine hK _ ?_
  clear hK K
  refine held_take (i := 1) rfl (by kernel_rfl) (by kernel_rfl) (by kernel_rfl) hQ S0 (by rfl) ?_
  apply Exists.intro
  refine ⟨fun w1 k1 => ?_, fun K hK => ?_⟩
  · have hc := k1.c4
    go_simp
    first | done | rfl
  go_simp
  refine hK _ ?_
  clear hK K
  refine held_take (i := 2) rfl (by kernel_rfl) (by kernel_rfl) (by kernel_rfl) hQ S0 (by rfl) ?_
  apply Exists.intro
  refine ⟨fun w1 k1 => ?_, fun K hK => ?_⟩
  · have hc := k1.lt
    go_simp
    first | done | rfl
  go_simp
  refine hK _ ?_
  clear hK K
  refine held_take (i := 4) rfl (by kernel_rfl) (by kernel_rfl) (by kernel_rfl) hQ S0 (by rfl) ?_
  apply Exists.intro
  refine ⟨fun w1 k1 => ?_, fun K hK => ?_⟩
  · obtain ⟨y0, y1, y2, y3, y4, y5, y6, y7, y8⟩ := k1
    go_simp
    first | done | rfl
  go_simp
  refine hK _ ?_
  clear hK K
  refine held_two (i := 3) (j := 5) rfl rfl (by kernel_rfl) (by rfl) (by rfl) ?_ ?_
  · refine wp_of_callsM (by go_simp; exact ⟨rfl, rfl⟩) ?_
    refine (PA.out u (KU.out.trans (Below.mono (Below.refl _ _) KU.out.size))).mono ?_
    rintro e w4 ⟨sm, cm, M, rfl, hM, LN, k_w4⟩
    refine ⟨_, rfl, ?_⟩
    have S0 := S0.keep k_w4 S0.lt
    refine ⟨S0, ?_⟩
    refine norm_act fun K hK => ?_
    go_simp
    refine hK _ ?_
    clear hK K
    refine held_one (i := 5) rfl (by kernel_rfl) (by rfl) ?_
    refine wp_of_run (v := .slice (some ⟨w4.heap.size, 0, none⟩) 1 1) (w' := w4.alloc (.cells #[.int .i64 x, .int .i64 y, .int .i64 p, .int .i64 h, .int .i64 v, .bool false, .slice (some ⟨Bq, 0, none⟩) q q] 51)) (by go_simp; first | done | rfl) ?_
    have k_W6 := kalC w4 (.cells #[.int .i64 x, .int .i64 y, .int .i64 p, .int .i64 h, .int .i64 v, .bool false, .slice (some ⟨Bq, 0, none⟩) q q] 51)
    have DC : Cl Wn.pals (w4.alloc (.cells #[.int .i64 x, .int .i64 y, .int .i64 p, .int .i64 h, .int .i64 v, .bool false, .slice (some ⟨Bq, 0, none⟩) q q] 51)) w4.heap.size 0 ⟨v, x, y, p, h, false, bc⟩ := by
      have h := r7_new w4 (.int .i64 x) (.int .i64 y) (.int .i64 p) (.int .i64 h) (.int .i64 v) (.bool false) (.slice (some ⟨Bq, 0, none⟩) q q) 51
      exact Cl.mkP ⟨h.c0, h.c1, h.c2, h.c3, h.c4, h.c5, by rw [hba, hbc, hbl]; exact h.c6⟩
    have z_W6' : w4.heap.size < (w4.alloc (.cells #[.int .i64 x, .int .i64 y, .int .i64 p, .int .i64 h, .int .i64 v, .bool false, .slice (some ⟨Bq, 0, none⟩) q q] 51)).heap.size := by simp
    have S0 := S0.keep k_W6 S0.lt
    refine ⟨S0, ?_⟩
    refine norm_act fun K hK => ?_
    go_simp
    refine hK _ ?_
    clear hK K
    generalize w4.alloc (.cells #[.int .i64 x, .int .i64 y, .int .i64 p, .int .i64 h, .int .i64 v, .bool false, .slice (some ⟨Bq, 0, none⟩) q q] 51) = W6 at *
    have LN := LN.keep k_W6
    have k_uW : Below u.heap.size u W6 := k_w4.trans (k_W6.mono k_w4.size)
    have HMl := hideP (lenW hM)
    have hb0 : u.heap.size ≤ u.heap.size := by first | exact Nat.le_refl _ | exact k_w4.size
    have hbW : u.heap.size ≤ W6.heap.size := by first | exact k_uW.size | exact k_W6.size
    have hon6 : bc.on W6 := Ci.on_keep OU.out k_uW fun e => (IU.out e).2
    have hin6 : bc.L ≠ [] → Bq ≤ bc.g ∧ bc.g < u.heap.size := fun e => by have := IU.out e; omega
    refine held_one (i := 6) rfl (by kernel_rfl) (by rfl) ?_
    refine wp_appV (V := Wn.pals) (T := 51) pals7 pals1 Try.underlying57 Try.infoPn rfl _ _ rfl u.heap.size sm cm M rfl LN.own _ 1 ⟨v, x, y, p, h, false, bc⟩ rfl DC (by have := HMl.out; omega) hbW ?_
    intro so7 sc7 w7 O7 G7 K7
    have S0 := S0.keep (k := K7) (by omega)
    refine ⟨S0, ?_⟩
    refine norm_act fun K hK => ?_
    go_simp
    refine hK _ ?_
    clear hK K
    have WQ := LN.plus pals7 paneNe hbW hon6 hin6 (by omega) O7 G7 K7
    have KW := KU.out.trans ((k_uW.trans (K7.mono hb0)).mono KU.out.size)
    have X7 := (XU.out.keep k_uW XU.out.lt).keep K7 (by have := XU.out.lt; omega)
    have SO := stackOf_any Bq w7.heap.size so7 sc7 (M ++ [(⟨v, x, y, p, h, false, bc⟩ : Wn)]) w7 WQ.sp (Nat.le_refl _) (by have := HMl.out; simp; omega)
    rw [List.length_append, show [(⟨v, x, y, p, h, false, bc⟩ : Wn)].length = 1 from rfl] at SO
    refine held_one (i := 7) rfl (by kernel_rfl) (by rfl) ?_
    refine wp_of_callsM (by go_simp; exact ⟨rfl, rfl⟩) ?_
    refine SO.mono ?_
    rintro e w8 ⟨s8, c8, rfl, O8, k8⟩
    refine ⟨_, rfl, ?_⟩
    have S0 := S0.keep k8 S0.lt
    refine ⟨S0, ?_⟩
    refine norm_act fun K hK => ?_
    go_simp
    refine hK _ ?_
    clear hK K
    have Q8 := WQ.doneM k8 O8
    have K8 := KW.trans (k8.mono KW.size)
    have X8 := X7.keep k8 X7.lt
    obtain ⟨x0, x1, x2, x3, x4⟩ := X8
    have hwx : w.heap.size + 1 ≠ B := by omega
    refine held_one (i := 8) rfl (by kernel_rfl) (by rfl) ?_
    refine wp_of_run (v := .agg #[.int .i64 0, .int .i64 v, .slice s8 (M.length + 1) c8]) (w' := w8) (by go_simp; first | done | rfl) ?_
    refine ⟨S0, ?_⟩
    refine norm_act fun K hK => ?_
    go_simp
    refine hK _ ?_
    clear hK K
    refine held_one (i := 9) rfl (by kernel_rfl) (by rfl) ?_
    refine wp_of_skip (w' := ((w8.setCell ⟨w.heap.size + 1, 0, none⟩ (.int .i64 0)).setCell ⟨w.heap.size + 1, 1, none⟩ (.int .i64 v)).setCell ⟨w.heap.size + 1, 2, none⟩ (.slice s8 (M.length + 1) c8)) (by go_simp; first | done | rfl) ?_
    have fs : ∀ (W : World) (o : Nat) (v : Value), Far (w.heap.size + 1) (w.heap.size + 1 + 1) W (W.setCell ⟨w.heap.size + 1, o, none⟩ v) := fun W o v => Far.of_set7 ⟨Nat.le_refl _, Nat.lt_succ_self _⟩
    have S0 := ((S0.far (fs _ 0 (.int .i64 0)) (by omega)).far (fs _ 1 (.int .i64 v)) (by omega)).far (fs _ 2 (.slice s8 (M.length + 1) c8)) (by omega)
    refine ⟨S0, ?_⟩
    refine norm_act fun K hK => ?_
    go_simp
    refine hK _ ?_
    clear hK K
    refine wpAnyH_done (by kernel_rfl) ?_ _
    subst hQQ
    have K9 := ((K8.setCell (p := ⟨w.heap.size + 1, 0, none⟩) (Nat.le_succ _) (.int .i64 0)).setCell (p := ⟨w.heap.size + 1, 1, none⟩) (Nat.le_succ _) (.int .i64 v)).setCell (p := ⟨w.heap.size + 1, 2, none⟩) (Nat.le_succ _) (.slice s8 (M.length + 1) c8)
    have hlo : w.heap.size + 1 < Bq := by omega
    have Q9 := (((Q8.set ⟨w.heap.size + 1, 0, none⟩ (.int .i64 0) hlo).set ⟨w.heap.size + 1, 1, none⟩ (.int .i64 v) hlo).set ⟨w.heap.size + 1, 2, none⟩ (.slice s8 (M.length + 1) c8) hlo).wide (lo' := w.heap.size) (by omega) (Nat.le_refl _) (by simp)
    have hll : (M ++ [(⟨v, x, y, p, h, false, bc⟩ : Wn)]).length = M.length + 1 := by simp
    have HCT : Hid ((M ++ [(⟨v, x, y, p, h, false, bc⟩ : Wn)]).map Wn.ct = L.map Wn.ct ++ [(⟨v, x, y, p, h, false, List.replicate q 0⟩ : Wc)]) := hideP (by
      rw [List.map_append, hM, ← HBL.out]; rfl)
    clear S0 Q8 K8 fs O8 k8 SO KW X7 K7 G7 O7 WQ
    rw [HMl.out] at hll Q9 K9 ⊢
    go_wp2
    refine bodyPost_ret (v := .agg #[.int .i64 0, .int .i64 v, .slice s8 (L.length + 1) c8]) (by simp [results, Try.results6, go_sem, *]) rfl ⟨s8, c8, _, by rw [HPL.out], HCT.out, by rw [HPL.out]; exact hll, ?_, K9⟩
    simpa using Q9
  · refine wp_of_run (v := .slice (some ⟨u.heap.size, 0, none⟩) 1 1) (w' := u.alloc (.cells #[.int .i64 x, .int .i64 y, .int .i64 p, .int .i64 h, .int .i64 v, .bool false, .slice (some ⟨Bq, 0, none⟩) q q] 51)) (by go_simp; first | done | rfl) ?_
    have k_w4 := kalC u (.cells #[.int .i64 x, .int .i64 y, .int .i64 p, .int .i64 h, .int .i64 v, .bool false, .slice (some ⟨Bq, 0, none⟩) q q] 51)
    have DC : Cl Wn.pals (u.alloc (.cells #[.int .i64 x, .int .i64 y, .int .i64 p, .int .i64 h, .int .i64 v, .bool false, .slice (some ⟨Bq, 0, none⟩) q q] 51)) u.heap.size 0 ⟨v, x, y, p, h, false, bc⟩ := by
      have h := r7_new u (.int .i64 x) (.int .i64 y) (.int .i64 p) (.int .i64 h) (.int .i64 v) (.bool false) (.slice (some ⟨Bq, 0, none⟩) q q) 51
      exact Cl.mkP ⟨h.c0, h.c1, h.c2, h.c3, h.c4, h.c5, by rw [hba, hbc, hbl]; exact h.c6⟩
    have z_w4' : u.heap.size < (u.alloc (.cells #[.int .i64 x, .int .i64 y, .int .i64 p, .int .i64 h, .int .i64 v, .bool false, .slice (some ⟨Bq, 0, none⟩) q q] 51)).heap.size := by simp
    have S0 := S0.keep k_w4 S0.lt
    refine ⟨S0, ?_⟩
    refine norm_act fun K hK => ?_
    go_simp
    refine hK _ ?_
    clear hK K
    generalize u.alloc (.cells #[.int .i64 x, .int .i64 y, .int .i64 p, .int .i64 h, .int .i64 v, .bool false, .slice (some ⟨Bq, 0, none⟩) q q] 51) = w4 at *
    refine held_one (i := 3) rfl (by kernel_rfl) (by rfl) ?_
    refine wp_of_callsM (by go_simp; exact ⟨rfl, rfl⟩) ?_
    refine (PA.out w4 (KU.out.trans (Below.mono k_w4 KU.out.size))).mono ?_
    rintro e W6 ⟨sm, cm, M, rfl, hM, LN, k_W6⟩
    refine ⟨_, rfl, ?_⟩
    have S0 := S0.keep k_W6 S0.lt
    refine ⟨S0, ?_⟩
    refine norm_act fun K hK => ?_
    go_simp
    refine hK _ ?_
    clear hK K
    have DC := DC.keep k_W6 z_w4'
    have k_uW : Below u.heap.size u W6 := k_w4.trans (k_W6.mono k_w4.size)
    have HMl := hideP (lenW hM)
    have hb0 : u.heap.size ≤ w4.heap.size := by first | exact Nat.le_refl _ | exact k_w4.size
    have hbW : w4.heap.size ≤ W6.heap.size := by first | exact k_uW.size | exact k_W6.size
    have hon6 : bc.on W6 := Ci.on_keep OU.out k_uW fun e => (IU.out e).2
    have hin6 : bc.L ≠ [] → Bq ≤ bc.g ∧ bc.g < w4.heap.size := fun e => by have := IU.out e; omega
    refine held_one (i := 6) rfl (by kernel_rfl) (by rfl) ?_
    refine wp_appV (V := Wn.pals) (T := 51) pals7 pals1 Try.underlying57 Try.infoPn rfl _ _ rfl w4.heap.size sm cm M rfl LN.own _ 1 ⟨v, x, y, p, h, false, bc⟩ rfl DC (by have := HMl.out; omega) hbW ?_
    intro so7 sc7 w7 O7 G7 K7
    have S0 := S0.keep (k := K7) (by omega)
    refine ⟨S0, ?_⟩
    refine norm_act fun K hK => ?_
    go_simp
    refine hK _ ?_
    clear hK K
    have WQ := LN.plus pals7 paneNe hbW hon6 hin6 (by omega) O7 G7 K7
    have KW := KU.out.trans ((k_uW.trans (K7.mono hb0)).mono KU.out.size)
    have X7 := (XU.out.keep k_uW XU.out.lt).keep K7 (by have := XU.out.lt; omega)
    have SO := stackOf_any Bq w7.heap.size so7 sc7 (M ++ [(⟨v, x, y, p, h, false, bc⟩ : Wn)]) w7 WQ.sp (Nat.le_refl _) (by have := HMl.out; simp; omega)
    rw [List.length_append, show [(⟨v, x, y, p, h, false, bc⟩ : Wn)].length = 1 from rfl] at SO
    refine held_one (i := 7) rfl (by kernel_rfl) (by rfl) ?_
    refine wp_of_callsM (by go_simp; exact ⟨rfl, rfl⟩) ?_
    refine SO.mono ?_
    rintro e w8 ⟨s8, c8, rfl, O8, k8⟩
    refine ⟨_, rfl, ?_⟩
    have S0 := S0.keep k8 S0.lt
    refine ⟨S0, ?_⟩
    refine norm_act fun K hK => ?_
    go_simp
    refine hK _ ?_
    clear hK K
    have Q8 := WQ.doneM k8 O8
    have K8 := KW.trans (k8.mono KW.size)
    have X8 := X7.keep k8 X7.lt
    obtain ⟨x0, x1, x2, x3, x4⟩ := X8
    have hwx : w.heap.size + 1 ≠ B := by omega
    refine held_one (i := 8) rfl (by kernel_rfl) (by rfl) ?_
    refine wp_of_run (v := .agg #[.int .i64 0, .int .i64 v, .slice s8 (M.length + 1) c8]) (w' := w8) (by go_simp; first | done | rfl) ?_
    refine ⟨S0, ?_⟩
    refine norm_act fun K hK => ?_
    go_simp
    refine hK _ ?_
    clear hK K
    refine held_one (i := 9) rfl (by kernel_rfl) (by rfl) ?_
    refine wp_of_skip (w' := ((w8.setCell ⟨w.heap.size + 1, 0, none⟩ (.int .i64 0)).setCell ⟨w.heap.size + 1, 1, none⟩ (.int .i64 v)).setCell ⟨w.heap.size + 1, 2, none⟩ (.slice s8 (M.length + 1) c8)) (by go_simp; first | done | rfl) ?_
    have fs : ∀ (W : World) (o : Nat) (v : Value), Far (w.heap.size + 1) (w.heap.size + 1 + 1) W (W.setCell ⟨w.heap.size + 1, o, none⟩ v) := fun W o v => Far.of_set7 ⟨Nat.le_refl _, Nat.lt_succ_self _⟩
    have S0 := ((S0.far (fs _ 0 (.int .i64 0)) (by omega)).far (fs _ 1 (.int .i64 v)) (by omega)).far (fs _ 2 (.slice s8 (M.length + 1) c8)) (by omega)
    refine ⟨S0, ?_⟩
    refine norm_act fun K hK => ?_
    go_simp
    refine hK _ ?_
    clear hK K
    refine wpAnyH_done (by kernel_rfl) ?_ _
    subst hQQ
    have K9 := ((K8.setCell (p := ⟨w.heap.size + 1, 0, none⟩) (Nat.le_succ _) (.int .i64 0)).setCell (p := ⟨w.heap.size + 1, 1, none⟩) (Nat.le_succ _) (.int .i64 v)).setCell (p := ⟨w.heap.size + 1, 2, none⟩) (Nat.le_succ _) (.slice s8 (M.length + 1) c8)
    have hlo : w.heap.size + 1 < Bq := by omega
    have Q9 := (((Q8.set ⟨w.heap.size + 1, 0, none⟩ (.int .i64 0) hlo).set ⟨w.heap.size + 1, 1, none⟩ (.int .i64 v) hlo).set ⟨w.heap.size + 1, 2, none⟩ (.slice s8 (M.length + 1) c8) hlo).wide (lo' := w.heap.size) (by omega) (Nat.le_refl _) (by simp)
    have hll : (M ++ [(⟨v, x, y, p, h, false, bc⟩ : Wn)]).length = M.length + 1 := by simp
    have HCT : Hid ((M ++ [(⟨v, x, y, p, h, false, bc⟩ : Wn)]).map Wn.ct = L.map Wn.ct ++ [(⟨v, x, y, p, h, false, List.replicate q 0⟩ : Wc)]) := hideP (by
      rw [List.map_append, hM, ← HBL.out]; rfl)
    clear S0 Q8 K8 fs O8 k8 SO KW X7 K7 G7 O7 WQ
    rw [HMl.out] at hll Q9 K9 ⊢
    go_wp2
    refine bodyPost_ret (v := .agg #[.int .i64 0, .int .i64 v, .slice s8 (L.length + 1) c8]) (by simp [results, Try.results6, go_sem, *]) rfl ⟨s8, c8, _, by rw [HPL.out], HCT.out, by rw [HPL.out]; exact hll, ?_, K9⟩
    simpa using Q9
end Go.Proofs.Ytejgcheddloffaa
