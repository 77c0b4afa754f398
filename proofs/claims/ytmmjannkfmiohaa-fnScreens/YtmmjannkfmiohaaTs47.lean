/- The cell of a window at a point: by the program and by the specification. -/
import Derived.Test.YtmmjannkfmiohaaTs32
import Derived.Test.YtmmjannkfmiohaaTs14
import Derived.Test.YtmmjannkfmiohaaTs15
import Derived.Test.YtmmjannkfmiohaaTs34
namespace Go.Proofs.Ytmmjannkfmiohaa
open Go.RowKit Go.Maps
set_option linter.unusedVariables false

/-- The code and the value of a window's cell at a point. -/
def celZ (c : Wc) (a b : Int) : Int := if stF [c] = 0 then (if ownB c.w c.h a b = true then 0 else 3) else stF [c]
def celV (c : Wc) (a b : Int) : Int := if celZ c a b = 0 then c.L.getD (b * c.w + a).toNat 0 else 0
theorem cel_bad {c : Wc} {a b : Int} (h : ¬ stF [c] = 0) : celZ c a b = stF [c] ∧ celV c a b = 0 := by
  have e : celZ c a b = stF [c] := by unfold celZ; rw [if_neg h]
  exact ⟨e, by unfold celV; rw [e, if_neg h]⟩
theorem cel_out {c : Wc} {a b : Int} (h : stF [c] = 0) (ho : ownB c.w c.h a b = false) : celZ c a b = 3 ∧ celV c a b = 0 := by
  have e : celZ c a b = 3 := by unfold celZ; rw [if_pos h, ho]; rfl
  exact ⟨e, by unfold celV; rw [e, if_neg (by decide)]⟩
theorem cel_in {c : Wc} {a b : Int} (h : stF [c] = 0) (ho : ownB c.w c.h a b = true) : celZ c a b = 0 ∧ celV c a b = c.L.getD (b * c.w + a).toNat 0 := by
  have e : celZ c a b = 0 := by unfold celZ; rw [if_pos h, if_pos ho]
  exact ⟨e, by unfold celV; rw [e, if_pos rfl]⟩
theorem one_ok {c : Wc} (h : stF [c] = 0) : (1 ≤ c.w ∧ c.w ≤ 8) ∧ (1 ≤ c.h ∧ c.h ≤ 6) ∧ (c.L.length : Int) = c.w * c.h := by
  have h1 := winF_no (wsF_mem (stF_ok h).2 c (by simp))
  have h2 := wrB_no h1.1
  exact ⟨h2.2.2.1, h2.2.2.2.1, h1.2.1⟩
/-- A single window, as a stack. -/
theorem one_ws {w : World} {lo hi g : Nat} {v : Wn} (hc : Cl Wn.vals w g 0 v) (hg : g < w.heap.size) (hR : Row .i64 w lo hi v.b.ao v.b.L) (hs : hi ≤ w.heap.size) : Ws w 0 w.heap.size (some ⟨g, 0, none⟩) [v] :=
  .inr ⟨g, 0, rfl, Nat.zero_le _, hg, fun k hk => by
    obtain rfl : k = 0 := by simpa using hk
    exact ⟨by simpa using hc, hR.wide (Nat.zero_le _) hs⟩⟩

theorem sOne (lo hi : Nat) (v : Wn) (g : Nat) (w : World) (hc : Cl Wn.vals w g 0 v) (hg : g < w.heap.size) (hR : Row .i64 w lo hi v.b.ao v.b.L) (hs : hi ≤ w.heap.size) (hl : v.b.L.length ≤ 1048576) :
    Calls Try.prog 36 #[.slice (some ⟨g, 0, none⟩) 1 1] w fun e w' => e = .returned (.int .i64 (stF [v.ct])) ∧ Below w.heap.size w w' :=
  l7F_two 0 w.heap.size (some ⟨g, 0, none⟩) 1 [v] w (one_ws hc hg hR hs) (Nat.le_refl _) (by simp) (by simp [wzs]; omega)

theorem iOne (lo hi : Nat) (v : Wn) (g : Nat) (w : World) (hc : Cl Wn.vals w g 0 v) (hg : g < w.heap.size) (hR : Row .i64 w lo hi v.b.ao v.b.L) (hs : hi ≤ w.heap.size) (hl : v.b.L.length ≤ 1048576) :
    Calls Try.prog 39 #[.slice (some ⟨g, 0, none⟩) 1 1] w fun e w' => e = .returned (.int .i64 (stF [v.ct])) ∧ Below w.heap.size w w' :=
  iStack_two 0 w.heap.size (some ⟨g, 0, none⟩) 1 [v] w (one_ws hc hg hR hs) (Nat.le_refl _) (by simp) (by simp [wzs]; omega)

set_option maxRecDepth 100000 in
set_option maxHeartbeats 1000000 in
theorem iCell_any (lo hi : Nat) (i x y p h : Int) (m : Bool) (ao : Option Addr) (ca : Nat) (D : List Int) (a b : Int) (w : World) (hR : Row .i64 w lo hi ao D) (hs : hi ≤ w.heap.size) (hl : D.length ≤ 1048576) :
    Calls Try.prog 16 #[.agg #[.int .i64 i, .int .i64 x, .int .i64 y, .int .i64 p, .int .i64 h, .bool m, .slice ao D.length ca], .int .i64 a, .int .i64 b] w fun e w' => e = .returned (.agg #[.int .i64 (celZ ⟨i, x, y, p, h, m, D⟩ a b), .int .i64 (celV ⟨i, x, y, p, h, m, D⟩ a b)]) ∧ Below w.heap.size w w' := by
  obtain ⟨v, hv⟩ : ∃ v : Wn, v = ⟨i, x, y, p, h, m, ⟨ao, ca, 0, D⟩⟩ := ⟨_, rfl⟩
  have hvL : v.b.L = D := by rw [hv]
  have hvA : v.b.ao = ao := by rw [hv]
  have hct : v.ct = ⟨i, x, y, p, h, m, D⟩ := by rw [hv]; rfl
  have SF := fun w1 g (k : Below w.heap.size w w1) (hc : Cl Wn.vals w1 g 0 v) (hg : g < w1.heap.size) => iOne lo hi v g w1 hc hg (by rw [hvL, hvA]; exact hR.keep k hs) (Nat.le_trans hs k.size) (by rw [hvL]; exact hl)
  rw [hct] at SF
  obtain ⟨c, hcd⟩ : ∃ c : Wc, (⟨i, x, y, p, h, m, D⟩ : Wc) = c := ⟨_, rfl⟩
  rw [hcd] at SF ⊢
  by_cases hst : stF [c] = 0
  · obtain ⟨p1, p2, p3⟩ := one_ok hst
    rw [← hcd] at p1 p2 p3
    simp only at p1 p2 p3
    have ab := area_le p1 p2
    rw [hst] at SF
    replace SF := hideP SF
    cases ho : ownB p h a b
    · obtain ⟨e1, e2⟩ := cel_out (a := a) (b := b) hst (by rw [← hcd]; exact ho)
      rw [e1, e2]
      clear e1 e2 hst hcd hvL hvA hct hR
      go_enter Try.func16, Try.ntmps16
      go_wp2_with fail
      have k0 : Below w.heap.size w (((w.alloc (.cells #[.int .i64 i, .int .i64 x, .int .i64 y, .int .i64 p, .int .i64 h, .bool m, .slice ao D.length ca] 47)).alloc (.cells #[.int .i64 0, .int .i64 0] 38)).alloc (.cells #[.int .i64 i, .int .i64 x, .int .i64 y, .int .i64 p, .int .i64 h, .bool m, .slice ao D.length ca] 47)) := by go_grown
      have c0 : Cl Wn.vals (((w.alloc (.cells #[.int .i64 i, .int .i64 x, .int .i64 y, .int .i64 p, .int .i64 h, .bool m, .slice ao D.length ca] 47)).alloc (.cells #[.int .i64 0, .int .i64 0] 38)).alloc (.cells #[.int .i64 i, .int .i64 x, .int .i64 y, .int .i64 p, .int .i64 h, .bool m, .slice ao D.length ca] 47)) (w.heap.size + 1 + 1) 0 v := by rw [hv]; exact Cl.mkW ⟨by simp [go_sem], by simp [go_sem], by simp [go_sem], by simp [go_sem], by simp [go_sem], by simp [go_sem], by simp [go_sem]⟩
      have b0 : Cl Wn.vals (((w.alloc (.cells #[.int .i64 i, .int .i64 x, .int .i64 y, .int .i64 p, .int .i64 h, .bool m, .slice ao D.length ca] 47)).alloc (.cells #[.int .i64 0, .int .i64 0] 38)).alloc (.cells #[.int .i64 i, .int .i64 x, .int .i64 y, .int .i64 p, .int .i64 h, .bool m, .slice ao D.length ca] 47)) w.heap.size 0 v := by rw [hv]; exact Cl.mkW ⟨by simp [go_sem], by simp [go_sem], by simp [go_sem], by simp [go_sem], by simp [go_sem], by simp [go_sem], by simp [go_sem]⟩
      have X0 : Rb (((w.alloc (.cells #[.int .i64 i, .int .i64 x, .int .i64 y, .int .i64 p, .int .i64 h, .bool m, .slice ao D.length ca] 47)).alloc (.cells #[.int .i64 0, .int .i64 0] 38)).alloc (.cells #[.int .i64 i, .int .i64 x, .int .i64 y, .int .i64 p, .int .i64 h, .bool m, .slice ao D.length ca] 47)) (w.heap.size + 1) (.int .i64 0) (.int .i64 0) := ⟨by simp [go_sem], by first | (simp; done) | simp [go_sem], by first | (simp; done) | simp [go_sem], by first | (simp; done) | simp [go_sem], by first | (simp; done) | simp [go_sem]⟩
      have g0 : w.heap.size + 1 + 1 < (((w.alloc (.cells #[.int .i64 i, .int .i64 x, .int .i64 y, .int .i64 p, .int .i64 h, .bool m, .slice ao D.length ca] 47)).alloc (.cells #[.int .i64 0, .int .i64 0] 38)).alloc (.cells #[.int .i64 i, .int .i64 x, .int .i64 y, .int .i64 p, .int .i64 h, .bool m, .slice ao D.length ca] 47)).heap.size := by simp
      generalize (((w.alloc (.cells #[.int .i64 i, .int .i64 x, .int .i64 y, .int .i64 p, .int .i64 h, .bool m, .slice ao D.length ca] 47)).alloc (.cells #[.int .i64 0, .int .i64 0] 38)).alloc (.cells #[.int .i64 i, .int .i64 x, .int .i64 y, .int .i64 p, .int .i64 h, .bool m, .slice ao D.length ca] 47)) = w0 at *
      refine Calls.mono (SF.out w0 _ k0 c0 g0) ?_
      rintro e w1 ⟨rfl, k1⟩
      have n1 := k1.size
      have K1 := hideP (k0.trans (k1.mono k0.size))
      have X1 := X0.keep k1 X0.lt
      have b1 := b0.keep k1 (by omega)
      have gb : w.heap.size < w1.heap.size := by omega
      rw [hv] at b1
      have B1 := hideP b1
      clear k0 k1 c0 b0 X0 b1 SF
      obtain ⟨a0, a1, a2, a3, a4, a5, a6⟩ := B1.out.seven
      simp only [Nat.zero_add] at a0 a1 a2 a3 a4 a5 a6
      obtain ⟨x0, x1, x2, x3, x4⟩ := X1
      go_wp2_with fail
      have kB := kalC w1 (.cells #[.int .i64 x, .int .i64 y, .int .i64 p, .int .i64 h] 75)
      have K2 := hideP (K1.out.trans (kB.mono K1.out.size))
      have X2 : Rb (w1.alloc (.cells #[.int .i64 x, .int .i64 y, .int .i64 p, .int .i64 h] 75)) (w.heap.size + 1) (.int .i64 0) (.int .i64 0) := Rb.keep ⟨x0, x1, x2, x3, x4⟩ kB x4
      have HO := hasOwn_any x y p h a b (w1.alloc (.cells #[.int .i64 x, .int .i64 y, .int .i64 p, .int .i64 h] 75))
      rw [ho] at HO
      clear kB a0 a1 a2 a3 a4 a5 a6 x0 x1 x2 x3 x4
      generalize w1.alloc (.cells #[.int .i64 x, .int .i64 y, .int .i64 p, .int .i64 h] 75) = w2 at *
      refine Calls.mono HO ?_
      rintro e w3 ⟨rfl, k3⟩
      have K3 := hideP (K2.out.trans (k3.mono K2.out.size))
      obtain ⟨x0, x1, x2, x3, x4⟩ := X2.keep k3 X2.lt
      clear k3 HO X2
      go_wp2
      exact bodyPost_ret (v := .agg #[.int .i64 3, .int .i64 0]) (by simp [results, Try.results16, go_sem, *]) rfl ⟨rfl, (K3.out.setCell (p := ⟨w.heap.size + 1, 0, none⟩) (by show w.heap.size ≤ w.heap.size + 1; omega) (.int .i64 3)).setCell (p := ⟨w.heap.size + 1, 1, none⟩) (by show w.heap.size ≤ w.heap.size + 1; omega) (.int .i64 0)⟩
    · obtain ⟨e1, e2⟩ := cel_in (a := a) (b := b) hst (by rw [← hcd]; exact ho)
      rw [e1, e2]
      obtain ⟨r1, r2, r3⟩ := row_le p1 p2 ho
      obtain ⟨o1, o2, o3, o4⟩ := ownB_yes ho
      obtain ⟨q, hq⟩ : ∃ q : Nat, (q : Int) = b * p + a := ⟨(b * p + a).toNat, by omega⟩
      have hqL : q < D.length := by omega
      have hgd : c.L.getD (b * c.w + a).toNat 0 = D[q] := by
        rw [← hcd]
        show D.getD (b * p + a).toNat 0 = D[q]
        rw [← hq, Int.toNat_natCast, List.getD_eq_getElem?_getD, List.getElem?_eq_getElem hqL]; rfl
      obtain ⟨dq, hdq⟩ : ∃ dq, D[q] = dq := ⟨_, rfl⟩
      rw [hgd, hdq]
      have hRR := fun w1 (k : Below w.heap.size w w1) => hR.keep k hs
      have HRR := hideP hRR
      have hqi : (q : Int) < (D.length : Int) := by omega
      clear e1 e2 hst hcd hvL hvA hct hgd hR hRR p3 ab r1 r2 r3
      go_enter Try.func16, Try.ntmps16
      go_wp2_with fail
      have k0 : Below w.heap.size w (((w.alloc (.cells #[.int .i64 i, .int .i64 x, .int .i64 y, .int .i64 p, .int .i64 h, .bool m, .slice ao D.length ca] 47)).alloc (.cells #[.int .i64 0, .int .i64 0] 38)).alloc (.cells #[.int .i64 i, .int .i64 x, .int .i64 y, .int .i64 p, .int .i64 h, .bool m, .slice ao D.length ca] 47)) := by go_grown
      have c0 : Cl Wn.vals (((w.alloc (.cells #[.int .i64 i, .int .i64 x, .int .i64 y, .int .i64 p, .int .i64 h, .bool m, .slice ao D.length ca] 47)).alloc (.cells #[.int .i64 0, .int .i64 0] 38)).alloc (.cells #[.int .i64 i, .int .i64 x, .int .i64 y, .int .i64 p, .int .i64 h, .bool m, .slice ao D.length ca] 47)) (w.heap.size + 1 + 1) 0 v := by rw [hv]; exact Cl.mkW ⟨by simp [go_sem], by simp [go_sem], by simp [go_sem], by simp [go_sem], by simp [go_sem], by simp [go_sem], by simp [go_sem]⟩
      have b0 : Cl Wn.vals (((w.alloc (.cells #[.int .i64 i, .int .i64 x, .int .i64 y, .int .i64 p, .int .i64 h, .bool m, .slice ao D.length ca] 47)).alloc (.cells #[.int .i64 0, .int .i64 0] 38)).alloc (.cells #[.int .i64 i, .int .i64 x, .int .i64 y, .int .i64 p, .int .i64 h, .bool m, .slice ao D.length ca] 47)) w.heap.size 0 v := by rw [hv]; exact Cl.mkW ⟨by simp [go_sem], by simp [go_sem], by simp [go_sem], by simp [go_sem], by simp [go_sem], by simp [go_sem], by simp [go_sem]⟩
      have X0 : Rb (((w.alloc (.cells #[.int .i64 i, .int .i64 x, .int .i64 y, .int .i64 p, .int .i64 h, .bool m, .slice ao D.length ca] 47)).alloc (.cells #[.int .i64 0, .int .i64 0] 38)).alloc (.cells #[.int .i64 i, .int .i64 x, .int .i64 y, .int .i64 p, .int .i64 h, .bool m, .slice ao D.length ca] 47)) (w.heap.size + 1) (.int .i64 0) (.int .i64 0) := ⟨by simp [go_sem], by first | (simp; done) | simp [go_sem], by first | (simp; done) | simp [go_sem], by first | (simp; done) | simp [go_sem], by first | (simp; done) | simp [go_sem]⟩
      have g0 : w.heap.size + 1 + 1 < (((w.alloc (.cells #[.int .i64 i, .int .i64 x, .int .i64 y, .int .i64 p, .int .i64 h, .bool m, .slice ao D.length ca] 47)).alloc (.cells #[.int .i64 0, .int .i64 0] 38)).alloc (.cells #[.int .i64 i, .int .i64 x, .int .i64 y, .int .i64 p, .int .i64 h, .bool m, .slice ao D.length ca] 47)).heap.size := by simp
      generalize (((w.alloc (.cells #[.int .i64 i, .int .i64 x, .int .i64 y, .int .i64 p, .int .i64 h, .bool m, .slice ao D.length ca] 47)).alloc (.cells #[.int .i64 0, .int .i64 0] 38)).alloc (.cells #[.int .i64 i, .int .i64 x, .int .i64 y, .int .i64 p, .int .i64 h, .bool m, .slice ao D.length ca] 47)) = w0 at *
      refine Calls.mono (SF.out w0 _ k0 c0 g0) ?_
      rintro e w1 ⟨rfl, k1⟩
      have n1 := k1.size
      have K1 := hideP (k0.trans (k1.mono k0.size))
      have X1 := X0.keep k1 X0.lt
      have b1 := b0.keep k1 (by omega)
      have gb : w.heap.size < w1.heap.size := by omega
      rw [hv] at b1
      have B1 := hideP b1
      clear k0 k1 c0 b0 X0 b1 SF
      have hRow := HRR.out w1 K1.out
      rcases hRow with e | ⟨g, o, rfl, hg1, hg2, hcell⟩
      · rw [e] at hqL; simp at hqL
      have hgl : g < w1.heap.size := by have := K1.out.size; omega
      have aq := hcell q hqL
      rw [hdq] at aq
      obtain ⟨a0, a1, a2, a3, a4, a5, a6⟩ := B1.out.seven
      simp only [Nat.zero_add] at a0 a1 a2 a3 a4 a5 a6
      obtain ⟨x0, x1, x2, x3, x4⟩ := X1
      go_wp2_with fail
      have kB := kalC w1 (.cells #[.int .i64 x, .int .i64 y, .int .i64 p, .int .i64 h] 75)
      have K2 := hideP (K1.out.trans (kB.mono K1.out.size))
      have X2 : Rb (w1.alloc (.cells #[.int .i64 x, .int .i64 y, .int .i64 p, .int .i64 h] 75)) (w.heap.size + 1) (.int .i64 0) (.int .i64 0) := Rb.keep ⟨x0, x1, x2, x3, x4⟩ kB x4
      have R2 : IsRect (w1.alloc (.cells #[.int .i64 x, .int .i64 y, .int .i64 p, .int .i64 h] 75)) w1.heap.size 0 x y p h := ⟨by simp, by simp, by simp, by simp⟩
      have B2 := hideP (B1.out.keep kB (by omega))
      have n2 : (w1.alloc (.cells #[.int .i64 x, .int .i64 y, .int .i64 p, .int .i64 h] 75)).heap.size = w1.heap.size + 1 := by simp
      have HO := hasOwn_any x y p h a b (w1.alloc (.cells #[.int .i64 x, .int .i64 y, .int .i64 p, .int .i64 h] 75))
      rw [ho] at HO
      have q2 := (kB.cell (p := ⟨g, o + q, none⟩) (by simpa using hgl)).trans aq
      clear kB a0 a1 a2 a3 a4 a5 a6 x0 x1 x2 x3 x4 B1 aq hcell
      generalize w1.alloc (.cells #[.int .i64 x, .int .i64 y, .int .i64 p, .int .i64 h] 75) = w2 at *
      refine Calls.mono HO ?_
      rintro e w3 ⟨rfl, k3⟩
      have K3 := hideP (K2.out.trans (k3.mono K2.out.size))
      have n3 := k3.size
      obtain ⟨x0, x1, x2, x3, x4⟩ := X2.keep k3 X2.lt
      obtain ⟨d0, d1, d2, d3⟩ := R2
      have e0 := (k3.cell (p := ⟨w1.heap.size, 0, none⟩) (by simp; omega)).trans d0
      have e1 := (k3.cell (p := ⟨w1.heap.size, 1, none⟩) (by simp; omega)).trans d1
      have e2 := (k3.cell (p := ⟨w1.heap.size, 2, none⟩) (by simp; omega)).trans d2
      have e3 := (k3.cell (p := ⟨w1.heap.size, 3, none⟩) (by simp; omega)).trans d3
      have q3 := (k3.cell (p := ⟨g, o + q, none⟩) (by simp; omega)).trans q2
      have B3 := B2.out.keep k3 (by omega)
      obtain ⟨a0, a1, a2, a3, a4, a5, a6⟩ := B3.seven
      simp only [Nat.zero_add] at a0 a1 a2 a3 a4 a5 a6
      clear k3 HO X2 d0 d1 d2 d3 q2 B2
      have PO := fun w1 => placeOf_any x y p h a b w1 p1 p2 ho
      rw [← hq] at PO
      have PO' := hideP PO
      clear PO
      have z1 : w.heap.size < w3.heap.size := by omega
      have z2 : w1.heap.size < w3.heap.size := by omega
      have z3 : g < w3.heap.size := by omega
      generalize w1.heap.size = s1 at *
      clear hq hdq n2
      go_wp2
      refine wp_region_kept_tail 9 (by kernel_rfl) (by kernel_rfl) ?_
      simp only [List.take_succ_cons, List.take_zero, List.drop_succ_cons, List.drop_zero]
      repeat (refine kept_step (by rfl) ?_; apply Exists.intro; refine ⟨fun w1 k1 => ?_, fun K hK => ?_⟩; (focus (have hc := Kept.cell k1; go_simp; first | done | rfl | (go_at_call 41; exact kept_call k1 (PO'.out _)))); (go_simp; refine hK _ ?_; clear hK K))
      refine wpQuiet_nil ?_
      intro w7 k7
      replace k7 := Kept.below k7
      have hc7 := Kept.cell k7
      have hf7 := Kept.frozen k7
      have hz7 := k7.size
      try simp only [World.size_alloc] at hz7
      try simp only [World.size_setCell] at hz7
      try simp only [World.size_drew] at hz7
      try (first | have hs7 := sz12 hz7 | have hs7 := sz11 hz7 | have hs7 := sz10 hz7 | have hs7 := sz9 hz7 | have hs7 := sz8 hz7 | have hs7 := sz7 hz7 | have hs7 := sz6 hz7 | have hs7 := sz5 hz7 | have hs7 := sz4 hz7 | have hs7 := sz3 hz7 | have hs7 := sz2 hz7 | have hs7 := sz1 hz7)
      have K7 := hideP (K3.out.trans (k7.mono K3.out.size))
      obtain ⟨y0, y1, y2, y3, y4⟩ : Rb w7 (w.heap.size + 1) (.int .i64 0) (.int .i64 0) := Rb.keep ⟨x0, x1, x2, x3, x4⟩ k7 x4
      clear x0 x1 x2 x3 x4 a0 a1 a2 a3 a4 a5 a6 e0 e1 e2 e3 q3
      go_wp2
      exact bodyPost_ret (v := .agg #[.int .i64 0, .int .i64 dq]) (by simp [results, Try.results16, go_sem, *]) rfl ⟨rfl, (K7.out.setCell (p := ⟨w.heap.size + 1, 0, none⟩) (by show w.heap.size ≤ w.heap.size + 1; omega) (.int .i64 0)).setCell (p := ⟨w.heap.size + 1, 1, none⟩) (by show w.heap.size ≤ w.heap.size + 1; omega) (.int .i64 dq)⟩
  · obtain ⟨e1, e2⟩ := cel_bad (a := a) (b := b) hst
    rw [e1, e2]
    obtain ⟨F, hF⟩ : ∃ F, stF [c] = F := ⟨_, rfl⟩
    rw [hF] at SF hst ⊢
    have hne' : (F != 0) = true := by simpa using hst
    replace SF := hideP SF
    clear e1 e2 hF hcd hvL hvA hct hR
    go_enter Try.func16, Try.ntmps16
    go_wp2_with fail
    have k0 : Below w.heap.size w (((w.alloc (.cells #[.int .i64 i, .int .i64 x, .int .i64 y, .int .i64 p, .int .i64 h, .bool m, .slice ao D.length ca] 47)).alloc (.cells #[.int .i64 0, .int .i64 0] 38)).alloc (.cells #[.int .i64 i, .int .i64 x, .int .i64 y, .int .i64 p, .int .i64 h, .bool m, .slice ao D.length ca] 47)) := by go_grown
    have c0 : Cl Wn.vals (((w.alloc (.cells #[.int .i64 i, .int .i64 x, .int .i64 y, .int .i64 p, .int .i64 h, .bool m, .slice ao D.length ca] 47)).alloc (.cells #[.int .i64 0, .int .i64 0] 38)).alloc (.cells #[.int .i64 i, .int .i64 x, .int .i64 y, .int .i64 p, .int .i64 h, .bool m, .slice ao D.length ca] 47)) (w.heap.size + 1 + 1) 0 v := by rw [hv]; exact Cl.mkW ⟨by simp [go_sem], by simp [go_sem], by simp [go_sem], by simp [go_sem], by simp [go_sem], by simp [go_sem], by simp [go_sem]⟩
    have b0 : Cl Wn.vals (((w.alloc (.cells #[.int .i64 i, .int .i64 x, .int .i64 y, .int .i64 p, .int .i64 h, .bool m, .slice ao D.length ca] 47)).alloc (.cells #[.int .i64 0, .int .i64 0] 38)).alloc (.cells #[.int .i64 i, .int .i64 x, .int .i64 y, .int .i64 p, .int .i64 h, .bool m, .slice ao D.length ca] 47)) w.heap.size 0 v := by rw [hv]; exact Cl.mkW ⟨by simp [go_sem], by simp [go_sem], by simp [go_sem], by simp [go_sem], by simp [go_sem], by simp [go_sem], by simp [go_sem]⟩
    have X0 : Rb (((w.alloc (.cells #[.int .i64 i, .int .i64 x, .int .i64 y, .int .i64 p, .int .i64 h, .bool m, .slice ao D.length ca] 47)).alloc (.cells #[.int .i64 0, .int .i64 0] 38)).alloc (.cells #[.int .i64 i, .int .i64 x, .int .i64 y, .int .i64 p, .int .i64 h, .bool m, .slice ao D.length ca] 47)) (w.heap.size + 1) (.int .i64 0) (.int .i64 0) := ⟨by simp [go_sem], by first | (simp; done) | simp [go_sem], by first | (simp; done) | simp [go_sem], by first | (simp; done) | simp [go_sem], by first | (simp; done) | simp [go_sem]⟩
    have g0 : w.heap.size + 1 + 1 < (((w.alloc (.cells #[.int .i64 i, .int .i64 x, .int .i64 y, .int .i64 p, .int .i64 h, .bool m, .slice ao D.length ca] 47)).alloc (.cells #[.int .i64 0, .int .i64 0] 38)).alloc (.cells #[.int .i64 i, .int .i64 x, .int .i64 y, .int .i64 p, .int .i64 h, .bool m, .slice ao D.length ca] 47)).heap.size := by simp
    generalize (((w.alloc (.cells #[.int .i64 i, .int .i64 x, .int .i64 y, .int .i64 p, .int .i64 h, .bool m, .slice ao D.length ca] 47)).alloc (.cells #[.int .i64 0, .int .i64 0] 38)).alloc (.cells #[.int .i64 i, .int .i64 x, .int .i64 y, .int .i64 p, .int .i64 h, .bool m, .slice ao D.length ca] 47)) = w0 at *
    refine Calls.mono (SF.out w0 _ k0 c0 g0) ?_
    rintro e w1 ⟨rfl, k1⟩
    have n1 := k1.size
    have K1 := hideP (k0.trans (k1.mono k0.size))
    have X1 := X0.keep k1 X0.lt
    have b1 := b0.keep k1 (by omega)
    have gb : w.heap.size < w1.heap.size := by omega
    rw [hv] at b1
    have B1 := hideP b1
    clear k0 k1 c0 b0 X0 b1 SF
    obtain ⟨x0, x1, x2, x3, x4⟩ := X1
    go_wp2
    exact bodyPost_ret (v := .agg #[.int .i64 F, .int .i64 0]) (by simp [results, Try.results16, go_sem, *]) rfl ⟨rfl, (K1.out.setCell (p := ⟨w.heap.size + 1, 0, none⟩) (by show w.heap.size ≤ w.heap.size + 1; omega) (.int .i64 F)).setCell (p := ⟨w.heap.size + 1, 1, none⟩) (by show w.heap.size ≤ w.heap.size + 1; omega) (.int .i64 0)⟩
end Go.Proofs.Ytmmjannkfmiohaa
