/- FnJoined: the law's walk. (Written by mkjn5.py.) -/
import Derived.Test.YtgjbjafodkiilaaTj43
import Derived.Test.YtgjbjafodkiilaaTj45
import Derived.Test.YtgjbjafodkiilaaTj46
import Derived.Test.YtgjbjafodkiilaaTj23
import Derived.Test.YtgjbjafodkiilaaTj49
import Derived.Test.YtgjbjafodkiilaaTj48
import Derived.Test.YtgjbjafodkiilaaTj0
import Derived.Test.YtgjbjafodkiilaaTj2
namespace Go.Proofs.Ytgjbjafodkiilaa
open Go.RowKit
set_option linter.unusedVariables false
attribute [local go_sem] growUpon growAt growUponR growAtR
theorem fJ0 (c v : Int) (w : World) : Sem.run Try.prog (Instr.field 31 (.agg #[.int .i64 c, .int .i64 v]) 0) w = .ok (.int .i64 c) w := by kernel_rfl
theorem fJ1 (c v : Int) (w : World) : Sem.run Try.prog (Instr.field 31 (.agg #[.int .i64 c, .int .i64 v]) 1) w = .ok (.int .i64 v) w := by kernel_rfl
theorem fJ2 (c : Int) (s : Value) (w : World) : Sem.run Try.prog (Instr.field 27 (.agg #[.int .i64 c, s]) 0) w = .ok (.int .i64 c) w := by kernel_rfl
theorem fJ3 (c k : Int) (s d : Value) (w : World) : Sem.run Try.prog (Instr.field 44 (.agg #[.int .i64 c, .int .i64 k, s, d]) 1) w = .ok (.agg #[.int .i64 k, s, d]) w := by kernel_rfl
attribute [local go_sem high] fJ0 fJ1 fJ2 fJ3

set_option maxHeartbeats 400000 in
theorem bigJ (w : World) (a : Option Addr) (len cap : Nat) (hl : len ≤ maxLen) :
    Calls Try.prog 4 #[.slice a len cap] w fun e w' => e = .returned (.bool (decide ((1048576 : Int) < (len : Int)))) ∧ w' = w := by
  go_enter Try.func4, Try.ntmps4
  go_wp2
  go_returns
  exact ⟨rfl, rfl⟩
theorem Bytes.upJ {w w' : World} {a : Option Addr} {len : Nat} {f : Nat → Int} (h : Bytes w w.heap.size a len f) (k : Below w.heap.size w w') : Bytes w' w'.heap.size a len f := by
  have h2 := h.stay (Nat.le_refl _) (Turn.of_below (b := w.heap.size) k) (Nat.le_refl _)
  rcases h2 with h | ⟨xb, xo, ha, hx, hc⟩
  · exact .inl h
  · exact .inr ⟨xb, xo, ha, Nat.lt_of_lt_of_le hx k.size, hc⟩
theorem kalJ (w : World) (o : Obj) : Below w.heap.size w (w.alloc o) := (Below.refl _ w).alloc (Nat.le_refl _) o
theorem rb_newJ (w : World) (v0 v1 : Value) (T : TypeId) : Rb (w.alloc (.cells #[v0, v1] T)) w.heap.size v0 v1 := ⟨by simp, by simp, by simp, by simp, by simp⟩
theorem Rqs.upJ {w w' : World} {so : Option Addr} {L : List Rq} (h : Rqs w 0 w.heap.size so L) (k : Below w.heap.size w w') : Rqs w' 0 w'.heap.size so L := (h.keep k (Nat.le_refl _)).wide (Nat.le_refl _) k.size
theorem Row.upJ {kd : IntKind} {w w' : World} {so : Option Addr} {L : List Int} (h : Row kd w 0 w.heap.size so L) (k : Below w.heap.size w w') : Row kd w' 0 w'.heap.size so L := (h.keep k (Nat.le_refl _)).wide (Nat.le_refl _) k.size
theorem Frm.upJ {w w' : World} {so : Option Addr} {bs : List Bd} {r : Bd} (h : Frm w 0 w.heap.size so bs r) (k : Below w.heap.size w w') : Frm w' 0 w'.heap.size so bs r := (h.keep k (Nat.le_refl _)).wide (Nat.le_refl _) k.size (Nat.le_refl _)
/-- A box of four cells, read. -/
structure F4 (w : World) (b : Nat) (v0 v1 v2 v3 : Value) : Prop where
  c0 : w.cell? ⟨b, 0, none⟩ = some v0
  c1 : w.cell? ⟨b, 1, none⟩ = some v1
  c2 : w.cell? ⟨b, 2, none⟩ = some v2
  c3 : w.cell? ⟨b, 3, none⟩ = some v3
  lt : b < w.heap.size
theorem F4.keep {w w' : World} {b B : Nat} {v0 v1 v2 v3 : Value} (h : F4 w b v0 v1 v2 v3) (k : Below B w w') (hb : b < B) : F4 w' b v0 v1 v2 v3 :=
  ⟨(k.cell (p := ⟨b, 0, none⟩) hb).trans h.c0, (k.cell (p := ⟨b, 1, none⟩) hb).trans h.c1, (k.cell (p := ⟨b, 2, none⟩) hb).trans h.c2, (k.cell (p := ⟨b, 3, none⟩) hb).trans h.c3, Nat.lt_of_lt_of_le h.lt k.size⟩
theorem f4_new (w : World) (v0 v1 v2 v3 : Value) (T : TypeId) : F4 (w.alloc (.cells #[v0, v1, v2, v3] T)) w.heap.size v0 v1 v2 v3 := ⟨by simp, by simp, by simp, by simp, by simp⟩
/-- What stands in memory in the rounds. -/
structure JA (w W : World) (s so ao : Option Addr) (L : List Rq) (bs : List Bd) (r : Bd) (b4 b6 ca sc : Nat) (B : List Int) : Prop where
  kw : Below w.heap.size w W
  q : Rqs W 0 W.heap.size s L
  f : Frm W 0 W.heap.size so bs r
  x : Rb W b4 (.int .i64 0) (.slice ao B.length ca)
  row : Row .u8 W 0 W.heap.size ao B
  y : F4 W b6 (.int .i64 0) (.slice so L.length sc) (.int .i64 0) (.slice r.ao 0 r.cap)
theorem JA.keep {w W W' : World} {s so ao : Option Addr} {L : List Rq} {bs : List Bd} {r : Bd} {b4 b6 ca sc : Nat} {B : List Int} (h : JA w W s so ao L bs r b4 b6 ca sc B) (k : Below W.heap.size W W') : JA w W' s so ao L bs r b4 b6 ca sc B :=
  ⟨h.kw.trans (k.mono h.kw.size), h.q.upJ k, h.f.upJ k, h.x.keep k h.x.lt, h.row.upJ k, h.y.keep k h.y.lt⟩

set_option maxRecDepth 100000 in
set_option maxHeartbeats 2000000 in
theorem joined_big (w : World) (a : Option Addr) (len cap : Nat) (hl : len ≤ maxLen) (h : 1048576 < len) :
    Calls Try.prog 3 #[.slice a len cap] w fun e w' => e = .returned (.bool true) ∧ Below w.heap.size w w' := by
  have hb := bigJ w a len cap hl
  rw [decide_eq_true (by omega : (1048576 : Int) < (len : Int))] at hb
  go_enter Try.func3, Try.ntmps3
  go_wp2_with fail
  refine Calls.mono hb ?_
  rintro e w1 ⟨rfl, rfl⟩
  go_wp2
  go_returns
  exact ⟨rfl, Below.refl _ _⟩

set_option maxRecDepth 100000 in
set_option maxHeartbeats 8000000 in
theorem joined_small (w : World) (a : Option Addr) (len cap : Nat) (f : Nat → Int) (hB : Bytes w w.heap.size a len f) (hlm : len ≤ maxLen) (hl : len ≤ 1048576) :
    Calls Try.prog 3 #[.slice a len cap] w fun e w' => e = .returned (.bool true) ∧ Below w.heap.size w w' := by
  have hb := bigJ w a len cap hlm
  rw [decide_eq_false (by omega : ¬ (1048576 : Int) < (len : Int))] at hb
  have HB := hideP hB
  clear hB
  go_enter Try.func3, Try.ntmps3
  go_wp2_with fail
  refine Calls.mono hb ?_
  rintro e w0 ⟨rfl, hw0⟩
  subst w0
  clear hb
  go_wp2_with fail
  refine Calls.mono (drawJoin_any w a len cap f HB.out hl) ?_
  rintro e w1 ⟨s, c, L, rfl, hL11, hsm, hQ, kk⟩
  have K1 := hideP kk
  have Q1 := hideP (hQ.wide (lo' := 0) (hi' := w1.heap.size) (Nat.zero_le _) (Nat.le_refl _))
  have SM := hideP hsm
  have HL11 := hideP hL11
  clear kk hQ hsm hL11
  have PSJ := hideP (fun W (h : Rqs W 0 W.heap.size s L) => sJoin_any 0 W.heap.size s c L W h (Nat.le_refl _) (by have := HL11.out; omega))
  have PJ := hideP (iJoin_any 0 w1.heap.size s c L w1 Q1.out (Nat.le_refl _) (by have := HL11.out; omega))
  have HOK := hideP (fun h => join_ok (C := L.map Rq.ct) h)
  obtain ⟨z, hz⟩ : ∃ z, jC (L.map Rq.ct) = z := ⟨_, rfl⟩
  obtain ⟨B, hBB⟩ : ∃ B, jB (L.map Rq.ct) = B := ⟨_, rfl⟩
  rw [hz] at HOK
  simp only [hz, hBB] at PJ PSJ
  have HBB := hideP hBB
  clear hz hBB
  go_wp2_with fail
  refine Calls.mono PJ.out ?_
  rintro e w2 ⟨ao, ca, rfl, O2, kk⟩
  have kb := kk.trans ((kalJ w2 (.cells #[.int .i64 z, .slice ao B.length ca] 27)).mono kk.size)
  have K3 := hideP (K1.out.trans (kb.mono K1.out.size))
  have Q3 := hideP (Q1.out.upJ kb)
  have X3 := hideP (rb_newJ w2 (.int .i64 z) (.slice ao B.length ca) 27)
  have R3 : Hid (Row .u8 (w2.alloc (.cells #[.int .i64 z, .slice ao B.length ca] 27)) 0 (w2.alloc (.cells #[.int .i64 z, .slice ao B.length ca] 27)).heap.size ao B) := hideP (((OwnR.wrt O2).row.wide (lo' := 0) (Nat.zero_le _) (Nat.le_refl _)).upJ (kalJ w2 _))
  clear O2 kk kb K1 Q1 PJ
  go_wp2_with fail
  generalize w2.alloc (.cells #[.int .i64 z, .slice ao B.length ca] 27) = w3 at *
  generalize w2.heap.size = b4 at *
  refine Calls.mono (drawCount_any w3 a len cap f (HB.out.upJ K3.out) hl) ?_
  rintro e w4 ⟨bo, cb, M, rfl, hMB, hM, -, hMR, kk⟩
  have K4 := hideP (K3.out.trans (kk.mono K3.out.size))
  have Q4 := hideP (Q3.out.upJ kk)
  have X4 := hideP (X3.out.keep kk X3.out.lt)
  have R4 := hideP (R3.out.upJ kk)
  have M4 := hideP (hMR.wide (lo' := 0) (hi' := w4.heap.size) (Nat.zero_le _) (Nat.le_refl _))
  have PC := hideP (fun W (h : Row .u8 W 0 W.heap.size bo M) => iCount_any 0 W.heap.size bo cb M W h (Nat.le_refl _) hMB (by omega))
  have PD := hideP (fun W (h : Row .u8 W 0 W.heap.size bo M) => sCount_any 0 W.heap.size bo cb M W h (Nat.le_refl _) hMB (by omega))
  clear kk K3 Q3 X3 R3 hMR hMB hM
  generalize frC [] M = q1 at *
  generalize cnV M = q2 at *
  go_wp2_with fail
  refine Calls.mono (PC.out _ M4.out) ?_
  rintro e w5 ⟨rfl, kk⟩
  have K5 := hideP (K4.out.trans (kk.mono K4.out.size))
  have Q5 := hideP (Q4.out.upJ kk)
  have X5 := hideP (X4.out.keep kk X4.out.lt)
  have R5 := hideP (R4.out.upJ kk)
  have M5 := hideP (M4.out.upJ kk)
  clear kk K4 Q4 X4 R4 M4
  go_wp2_with fail
  refine Calls.mono (PD.out _ M5.out) ?_
  rintro e w6 ⟨rfl, kk⟩
  have K6 := hideP (K5.out.trans (kk.mono K5.out.size))
  have Q6 := hideP (Q5.out.upJ kk)
  have X6 := hideP (X5.out.keep kk X5.out.lt)
  have R6 := hideP (R5.out.upJ kk)
  have M6 := hideP (M5.out.upJ kk)
  clear kk K5 Q5 X5 R5 M5
  go_wp2_with fail
  refine Calls.mono (PC.out _ M6.out) ?_
  rintro e w7 ⟨rfl, kk⟩
  have K7 := hideP (K6.out.trans (kk.mono K6.out.size))
  have Q7 := hideP (Q6.out.upJ kk)
  have X7 := hideP (X6.out.keep kk X6.out.lt)
  have R7 := hideP (R6.out.upJ kk)
  have M7 := hideP (M6.out.upJ kk)
  clear kk K6 Q6 X6 R6 M6
  go_wp2_with fail
  refine Calls.mono (PD.out _ M7.out) ?_
  rintro e w8 ⟨rfl, kk⟩
  have K8 := hideP (K7.out.trans (kk.mono K7.out.size))
  have Q8 := hideP (Q7.out.upJ kk)
  have X8 := hideP (X7.out.keep kk X7.out.lt)
  have R8 := hideP (R7.out.upJ kk)
  have M8 := hideP (M7.out.upJ kk)
  clear kk K7 Q7 X7 R7 M7
  clear PC PD M8
  obtain ⟨x0, x1, xf0, xf1, xl⟩ := X8.out
  by_cases hz0 : z = 0
  · subst hz0
    have J := HOK.out rfl
    have HJ := hideP J
    have hbb : B = jL (L.map Rq.ct) := HBB.out.symm.trans J.b
    have hct : ∀ t ∈ L.map Rq.ct, byts t.2.2 := fun t m => by
      obtain ⟨r, hr, rfl⟩ := List.mem_map.1 m
      exact (SM.out r hr).2.2
    have hby : byts B := by rw [hbb]; exact byts_jL J.all hct
    have hBl : B.length ≤ 260 := by rw [hbb]; exact J.size
    have PF := hideP (iCut_any 0 w8.heap.size none ao 0 ca [] B w8 (.inl rfl) R8.out (Nat.le_refl _) (fun i hi => by simp at hi) hby (by simp) (by omega))
    have hfc : frC [] B = 0 := by rw [hbb]; exact J.c
    have hfa : frA [] B = B := by rw [hbb]; exact J.a
    rw [hfc, hfa] at PF
    have hcut : cut B = ((L.map Rq.ct).map bodT, []) := by rw [hbb]; exact J.cut
    have hcv : cnV B = L.length := by rw [hbb, J.v, List.length_map]
    have PCB := hideP (fun W (h : Row .u8 W 0 W.heap.size ao B) => iCount_any 0 W.heap.size ao ca B W h (Nat.le_refl _) hby (by omega))
    rw [hfc, hcv] at PCB
    have HCUT := hideP hcut
    have hL10 : L.length ≤ 10 := by have := J.len; simpa using this
    clear J hbb hby hBl hfc hfa hcut hcv HOK PSJ HBB hct
    go_wp2_with fail
    refine Calls.mono PF.out ?_
    rintro e w9 ⟨so, sc, bs, r, rfl, kk, hc9, hF⟩
    rw [HCUT.out] at hc9
    simp only [Prod.mk.injEq] at hc9
    obtain ⟨hb1, hb2⟩ := hc9
    have hr0 : r.L.length = 0 := by rw [← hb2]; rfl
    have hn0 : nW (bs.map Bd.L) = 0 := by rw [← hb1]; exact nW_bodT
    have hbl : bs.length = L.length := by
      have := congrArg List.length hb1
      simpa using this.symm
    rw [hr0, hn0, hbl]
    have HBL := hideP hbl
    have HB1 := hideP hb1
    clear hr0 hn0 hbl hb1 hb2 PF HCUT
    have kb := kk.trans ((kalJ w9 (.cells #[.int .i64 0, .slice so L.length sc, .int .i64 0, .slice r.ao 0 r.cap] 37)).mono kk.size)
    have U0 : Hid (JA w (w9.alloc (.cells #[.int .i64 0, .slice so L.length sc, .int .i64 0, .slice r.ao 0 r.cap] 37)) s so ao L bs r b4 w9.heap.size ca sc B) :=
      hideP ⟨K8.out.trans (kb.mono K8.out.size), Q8.out.upJ kb, (hF.wide (lo' := 0) (Nat.zero_le _) (Nat.le_refl _) (Nat.le_refl _)).upJ (kalJ w9 _), X8.out.keep kb X8.out.lt, R8.out.upJ kb, f4_new w9 _ _ _ _ _⟩
    clear kk kb hF K8 Q8 X8 R8 x0 x1 xf0 xf1 xl
    go_wp2
    generalize w9.alloc (.cells #[.int .i64 0, .slice so L.length sc, .int .i64 0, .slice r.ao 0 r.cap] 37) = w10 at *
    generalize w9.heap.size = b6 at *
    go_loopw [7] (fun v7 wr => ∃ k : Nat, k ≤ L.length ∧ v7 = .int .i64 k ∧ JA w wr s so ao L bs r b4 b6 ca sc B) (fun i _ => L.length - (intOf i).toNat)
    case atStart => exact ⟨0, Nat.zero_le _, rfl, U0.out⟩
    case round =>
      obtain ⟨k, hk, rfl, hU⟩ := hrel
      have UH := hideP hU
      clear hU U0
      have hL10' : (L.length : Int) ≤ 10 := by omega
      by_cases hlt : k < L.length
      · have hlt' : (k : Int) < (L.length : Int) := by omega
        have hne : L ≠ [] := fun e => by rw [e] at hlt; simp at hlt
        have hkb : k < bs.length := by rw [HBL.out]; exact hlt
        obtain ⟨g, o, hs, -, hgl, hc⟩ : ∃ g o, s = some ⟨g, o, none⟩ ∧ 0 ≤ g ∧ g < wr.heap.size ∧ ∀ i (h : i < L.length), L[i].cells wr g (o + i * 3) ∧ L[i].on wr 0 wr.heap.size := by
          rcases UH.out.q with e | h
          · exact absurd e hne
          · exact h
        obtain ⟨g', hso, -, hgl', hc'⟩ : ∃ g, so = some ⟨g, 0, none⟩ ∧ 0 ≤ g ∧ g < wr.heap.size ∧ ∀ i (h : i < bs.length), wr.cell? ⟨g, i, none⟩ = some (Bd.val bs[i]) := by
          rcases UH.out.f.spine with e | h
          · rw [e] at hkb; simp at hkb
          · exact h
        subst hs hso
        obtain ⟨⟨a0, a1, a2⟩, ⟨ha, hd⟩⟩ := hc k hlt
        have x0 := hc' k hkb
        have hon := UH.out.f.bods.each bs[k] (by simp)
        have hBk : bs[k].L = bodT L[k].ct := by
          have h1 : ((L.map Rq.ct).map bodT)[k]'(by simpa using hlt) = (bs.map Bd.L)[k]'(by simpa using hkb) := by simp only [HB1.out]
          simpa using h1.symm
        have htf := HJ.out.all L[k].ct (List.mem_map_of_mem (List.getElem_mem _))
        obtain ⟨p1, p2, p3⟩ := tP_yes htf
        have hbne : bs[k].L ≠ [] := fun e => by rw [hBk] at e; rw [e] at p2; simp at p2
        have hrow := hon.1.row
        have hrlt := Bd.lt hon hbne
        have hroom := hon.2.2
        obtain ⟨hm1, hm2, hm3⟩ := SM.out L[k] (by simp)
        have hbyt : byts (bodT L[k].ct) := byts_bodT htf hm3
        obtain ⟨e1, e2, e3, e4⟩ := read_bodJ (k := L[k].k) (A := L[k].A) (D := L[k].D) htf
        have eb : bodT L[k].ct = bod L[k].k L[k].A L[k].D := rfl
        rw [hBk] at hrow hroom
        unfold Bd.val at x0
        rw [hBk] at x0
        rw [eb] at hrow hroom hbyt x0 p3
        have PR := hideP (fun W (h : Row .u8 W bs[k].g (bs[k].g + 1) bs[k].ao (bod L[k].k L[k].A L[k].D)) (h2 : bs[k].g + 1 ≤ W.heap.size) => iRead_any _ _ bs[k].ao bs[k].cap _ W h h2 hroom (by omega) hbyt)
        unfold ReadAns at PR
        rw [e1, e2, e3, e4] at PR
        have HR := hideP hrow
        have HRL := hideP hrlt
        have HA := hideP ha
        have HD := hideP hd
        have HM1 := hideP hm1
        have HM2 := hideP hm2
        clear hc hc' hon hBk htf p1 p2 p3 hbne hrow hrlt hroom hm1 hm2 hm3 hbyt e1 e2 e3 e4 eb ha hd
        generalize bod L[k].k L[k].A L[k].D = BL at *
        obtain ⟨bo1, bc1, bg1, hbe⟩ : ∃ x y z, bs[k].ao = x ∧ bs[k].cap = y ∧ bs[k].g = z := ⟨_, _, _, rfl, rfl, rfl⟩
        obtain ⟨hbe1, hbe2, hbe3⟩ := hbe
        rw [hbe1, hbe2] at x0
        rw [hbe1, hbe2, hbe3] at PR
        rw [hbe1, hbe3] at HR
        rw [hbe3] at HRL
        clear hbe1 hbe2 hbe3
        generalize L[k] = R at *
        obtain ⟨kq, qa, qca, QA, qd, qcd, QD⟩ := R
        simp only at a0 a1 a2 HA HD HM1 HM2 PR
        obtain ⟨y0, y1, y2, y3, yl⟩ := UH.out.y
        have hkw : (k : Int) ≤ 10 := by omega
        go_wp2
        refine wp_region_plan (R := Kept) (G := Kept) rel_keptA rel_keptA (fun h => h) 13 [(true, 0), (true, 1), (true, 2), (true, 3), (true, 4), (true, 5), (true, 8), (true, 9), (true, 10), (true, 11), (false, 6), (true, 7), (true, 12)] (by kernel_rfl) (by kernel_rfl) ?_
        simp only [selP, List.filterMap_cons, List.filterMap_nil, List.getElem?_cons_succ, List.getElem?_cons_zero, Option.map_some]
        repeat (first | (refine plan_take _ (by first | exact wanted_free rfl | exact wanted_yes rfl rfl | exact wanted_no rfl rfl) (by first | with_reducible rfl | (simp; done) | decide) ?_; apply Exists.intro; refine ⟨fun w' k1 => ?_, fun K hK => ?_⟩; (focus (have hc := Kept.cell k1; go_simp; first | done | rfl)); (go_simp; refine hK _ ?_; clear hK K)) | (refine plan_off _ (by first | exact wanted_yes rfl rfl | exact wanted_no rfl rfl | rfl) (by first | with_reducible rfl | (simp; done) | rfl | decide) ?_; intro K hK; (try go_simp); refine hK _ ?_; clear hK K))
        refine plan_made _ (by first | exact wanted_free rfl | exact wanted_yes rfl rfl | exact wanted_no rfl rfl) (by first | with_reducible rfl | (simp; done) | decide) fun u1 i1 => ?_
        have bb1 := Kept.below i1
        refine made_callsR (by go_simp; first | done | rfl) ((PR.out u1 (HR.out.keep bb1 (by have := HRL.out; omega)) (by have := HRL.out; have := bb1.size; omega)).mono ?_)
        rintro e v1 ⟨xa, xca, xd, xcd, mid, rfl, j1, hm1, hm2, WA, WD⟩
        refine ⟨_, rfl, j1, fun K hK => ?_⟩
        go_simp
        refine hK _ ?_
        clear hK K
        have jj1 := bb1.trans (j1.mono bb1.size)
        have UV := hideP (UH.out.keep jj1)
        have SQ := hideP (fun W (k1 : Below v1.heap.size v1 W) => iSame_any u1.heap.size v1.heap.size 0 wr.heap.size kq kq xa xd qa qd xca xcd qca qcd QA QD QA QD W ((WA.row.wide (Nat.le_refl _) hm2).keep k1 (Nat.le_refl _)) ((WD.row.wide hm1 (Nat.le_refl _)).keep k1 (Nat.le_refl _)) (HA.out.keep (jj1.trans (k1.mono jj1.size)) (Nat.le_refl _)) (HD.out.keep (jj1.trans (k1.mono jj1.size)) (Nat.le_refl _)) k1.size (Nat.le_trans jj1.size k1.size) (by have := HM1.out; omega) (by have := HM2.out; omega) (by have := HM1.out; omega) (by have := HM2.out; omega))
        rw [sameQ_self] at SQ
        clear bb1 i1 j1 jj1 WA WD hm1 hm2 UH y0 y1 y2 y3 yl x0 a0 a1 a2
        repeat (first | (refine plan_take _ (by first | exact wanted_free rfl | exact wanted_yes rfl rfl | exact wanted_no rfl rfl) (by first | with_reducible rfl | (simp; done) | decide) ?_; apply Exists.intro; refine ⟨fun w' k1 => ?_, fun K hK => ?_⟩; (focus (have hc := Kept.cell k1; go_simp; first | done | (go_at_call 12; exact kept_call (Below.refl _ _) (SQ.out _ (Kept.below k1))) | rfl)); (go_simp; refine hK _ ?_; clear hK K)) | (refine plan_off _ (by first | exact wanted_yes rfl rfl | exact wanted_no rfl rfl | rfl) (by first | with_reducible rfl | (simp; done) | rfl | decide) ?_; intro K hK; (try go_simp); refine hK _ ?_; clear hK K))
        refine plan_nil fun w20 k20 => ?_
        try simp only [List.drop_succ_cons, List.drop_zero]
        have UR := hideP (UV.out.keep (Kept.below k20))
        clear k20 SQ UV
        go_wp2
        go_roundw
        case rel => exact ⟨k + 1, by omega, by go_num, UR.out⟩
        case measure => simp [intOf]; omega

      · obtain rfl : k = L.length := by omega
        obtain ⟨y0, y1, y2, y3, yl⟩ := UH.out.y
        obtain ⟨x0, x1, xf0, xf1, xl⟩ := UH.out.x
        go_wp2_with fail
        refine Calls.mono (PCB.out _ UH.out.row) ?_
        rintro e w21 ⟨rfl, kk⟩
        have UE := hideP (UH.out.keep kk)
        clear kk UH y0 y1 y2 y3 yl x0 x1 xf0 xf1 xl
        go_wp2
        go_returns
        exact ⟨rfl, UE.out.kw⟩

  · have hz : (z != 0) = true := by simpa using hz0
    go_wp2
    refine wp_region_plan (R := Kept) (G := Kept) rel_keptA rel_keptA (fun h => h) 5 [(true, 0), (true, 3), (true, 4), (false, 1), (true, 2)] (by kernel_rfl) (by kernel_rfl) ?_
    simp only [selP, List.filterMap_cons, List.filterMap_nil, List.getElem?_cons_succ, List.getElem?_cons_zero, Option.map_some]
    repeat (first | (refine plan_take _ (by first | exact wanted_free rfl | exact wanted_yes rfl rfl | exact wanted_no rfl rfl) (by first | with_reducible rfl | (simp; done) | decide) ?_; apply Exists.intro; refine ⟨fun w' k1 => ?_, fun K hK => ?_⟩; (focus (have hc := Kept.cell k1; go_simp; first | done | rfl)); (go_simp; refine hK _ ?_; clear hK K)) | (refine plan_off _ (by first | exact wanted_yes rfl rfl | exact wanted_no rfl rfl | rfl) (by first | with_reducible rfl | (simp; done) | rfl | decide) ?_; intro K hK; (try go_simp); refine hK _ ?_; clear hK K))
    refine plan_made _ (by first | exact wanted_free rfl | exact wanted_yes rfl rfl | exact wanted_no rfl rfl) (by first | with_reducible rfl | (simp; done) | decide) fun u1 i1 => ?_
    have bb1 := Kept.below i1
    refine made_callsR (by go_simp; first | done | rfl) ((PSJ.out u1 (Q8.out.upJ bb1)).mono ?_)
    rintro e v1 ⟨ao1, ca1, rfl, -, j1⟩
    refine ⟨_, rfl, j1, fun K hK => ?_⟩
    go_simp
    refine hK _ ?_
    clear hK K
    have jj1 := bb1.trans (j1.mono bb1.size)
    clear bb1 i1 j1 x0 x1 xf0 xf1 xl
    repeat (first | (refine plan_take _ (by first | exact wanted_free rfl | exact wanted_yes rfl rfl | exact wanted_no rfl rfl) (by first | with_reducible rfl | (simp; done) | decide) ?_; apply Exists.intro; refine ⟨fun w' k1 => ?_, fun K hK => ?_⟩; (focus (have hc := Kept.cell k1; go_simp; first | done | rfl)); (go_simp; refine hK _ ?_; clear hK K)) | (refine plan_off _ (by first | exact wanted_yes rfl rfl | exact wanted_no rfl rfl | rfl) (by first | with_reducible rfl | (simp; done) | rfl | decide) ?_; intro K hK; (try go_simp); refine hK _ ?_; clear hK K))
    refine plan_nil fun w20 k20 => ?_
    try simp only [List.drop_succ_cons, List.drop_zero]
    have jk := jj1.trans ((Kept.below k20).mono jj1.size)
    have UE := hideP (K8.out.trans (jk.mono K8.out.size))
    clear k20 jj1 jk
    go_wp2
    go_returns
    exact ⟨rfl, UE.out⟩


theorem joined_law (a : Option Addr) (len cap : Nat) (zs : List Int) (w : World) (h : IsRow .u8 w a len cap zs) :
    Calls Try.prog 3 #[.slice a len cap] w fun e w' => e = .returned (.bool true) ∧ Below w.heap.size w w' := by
  have hm : len ≤ maxLen := by
    rcases h with ⟨_, h, _⟩ | ⟨x, _, h1, h2, _⟩
    · rw [h]; exact Nat.zero_le _
    · omega
  by_cases hl : len ≤ 1048576
  · exact joined_small w a len cap _ h.bytes hm hl
  · exact joined_big w a len cap hm (by omega)
end Go.Proofs.Ytgjbjafodkiilaa
