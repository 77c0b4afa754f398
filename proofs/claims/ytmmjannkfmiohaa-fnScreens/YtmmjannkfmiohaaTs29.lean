/- Windows that are drawn and bent; an id of one of them. -/
import Derived.Test.YtmmjannkfmiohaaTs28
namespace Go.Proofs.Ytmmjannkfmiohaa
open Go.RowKit
set_option linter.unusedVariables false
attribute [local go_sem] growUponR growAtR

/-- A stack that is drawn, read from then on. -/
def BentW (w : World) (B b : Nat) (a : Option Addr) (len cap : Nat) (f : Nat → Int) (t : Int) (e : Ending) (w' : World) : Prop :=
  ∃ (so : Option Addr) (sc : Nat) (M : List Wn) (u : Int), e = .returned (.slice so M.length sc) ∧ M.length ≤ 13 ∧ wzs M ≤ 624 ∧ 0 ≤ u ∧ u ≤ t + 1010 ∧ Ws w' w.heap.size w'.heap.size so M ∧ Turn b w w' ∧ Src w' B b a len cap f u
theorem Ws.turn {w w' : World} {lo hi b : Nat} {so : Option Addr} {L : List Wn} (h : Ws w lo hi so L) (t : Turn b w w') (hb : b < lo) (hs : hi ≤ w.heap.size) : Ws w' lo hi so L := h.far t.far (.inr (by omega)) hs
theorem WMid.wsb {w wr : World} {B b : Nat} {a : Option Addr} {len cap : Nat} {f : Nat → Int} {t : Int} {so : Option Addr} {sc : Nat} {M : List Wn} (h : WMid w wr B b a len cap f t so sc M) : Ws wr w.heap.size wr.heap.size so M := (h.lin.wq vals7 winNe h.turn.size).ws
theorem bent_out {w wr : World} {B b : Nat} {a : Option Addr} {len cap : Nat} {f : Nat → Int} {t u : Int} {so : Option Addr} {sc n : Nat} {M : List Wn} (h : WMid w wr B b a len cap f u so sc M) (hl : M.length = n) (h1 : M.length ≤ 12) (h2 : wzs M ≤ 576) (h3 : 0 ≤ u) (h4 : u ≤ t + 1010) : BentW w B b a len cap f t (.returned (.slice so n sc)) wr :=
  ⟨so, sc, M, u, by rw [hl], by omega, by omega, h3, h4, h.wsb, h.turn, h.src⟩
theorem Turn.then {b : Nat} {w w1 w2 : World} (t : Turn b w w1) (k : Below w.heap.size w1 w2) : Turn b w w2 :=
  ⟨k.os.trans t.os, k.tape.trans t.tape, k.output.trans t.output, Nat.le_trans t.size k.size, fun q hq hn => (k.block q hq).trans (t.block q hq hn)⟩
/-- A list with one of its windows once more. -/
theorem LinV.twice {w w' : World} {base : Nat} {so s : Option Addr} {sc c : Nat} {Y : List Wn} {r : Wn} (h : LinV Wn.vals 47 w base so sc (r :: Y)) (hb : base ≤ w.heap.size) (o : OwnV Wn.vals 47 w' base s c (r :: Y ++ [r])) (hg : w.grownBy w' (Value.ownBlock (.slice so (r :: Y).length sc))) : Ws w' base w'.heap.size s (r :: Y ++ [r]) := by
  obtain ⟨g1, _⟩ := h.cis.grown winNe h.ty h.own hg
  have g2 := g1.wide (Nat.le_refl _) hg.size
  rcases o.sp vals7 with e | ⟨g, ha, h1, h2, hc, _⟩
  · exact .inl e
  · refine .inr ⟨g, 0, ha, h1, h2, fun i hi => ⟨by rw [Nat.zero_add]; exact hc i hi, ?_⟩⟩
    have hm : (r :: Y ++ [r])[i] ∈ r :: Y := by
      have := List.getElem_mem hi
      rcases List.mem_append.1 this with hm | hm
      · exact hm
      · rw [show (r :: Y ++ [r])[i] = r by simpa using hm]; simp
    exact g2.row (List.mem_map_of_mem hm)

set_option maxRecDepth 100000 in
set_option maxHeartbeats 8000000 in
theorem wbent_any (w : World) (B b : Nat) (a : Option Addr) (len cap : Nat) (f : Nat → Int) (t : Int) (S : Src w B b a len cap f t) (t0 : 0 ≤ t) (t1 : t ≤ 50000) :
    Calls Try.prog 19 #[.pointer (some ⟨b, 0, none⟩)] w (BentW w B b a len cap f t) := by
  have hlt := S.lt
  have DR := hideP (wdraw_any w B b a len cap f t S t0 t1)
  clear S
  go_enter Try.func19, Try.ntmps19
  go_wp2_with fail
  refine Calls.mono DR.out ?_
  rintro e w1 ⟨so, sc, M, u, rfl, hst, u0, u1, M1⟩
  have hcz := stF_cz hst
  rw [cz_wzs, List.length_map] at hcz
  have hneA : ∀ v ∈ M, v.b.L ≠ [] := fun v hv e => by
    have h1 := winF_no (wsF_mem (stF_ok hst).2 v.ct (List.mem_map_of_mem hv))
    obtain ⟨_, _, p1, p2, _⟩ := wrB_no h1.1
    have h3 := area_posW p1 p2
    have h4 := h1.2.1
    have h5 : v.ct.L.length = 0 := by show v.b.L.length = 0; rw [e]; rfl
    omega
  have h48A : ∀ v ∈ M, v.b.L.length ≤ 48 := fun v hv => by
    have h1 := winF_no (wsF_mem (stF_ok hst).2 v.ct (List.mem_map_of_mem hv))
    obtain ⟨_, _, p1, p2, _⟩ := wrB_no h1.1
    have h3 := area_le p1 p2
    have h4 : (v.b.L.length : Int) = v.ct.w * v.ct.h := h1.2.1
    omega
  have HM1 := hideP M1
  clear DR M1 hst
  cases M with
  | nil =>
    go_wp2
    go_returns
    exact bent_out HM1.out rfl (by omega) (by omega) (by omega) (by omega)
  | cons r Y =>
    obtain ⟨hc1, hc2⟩ := hcz
    have hneR := hneA r (by simp)
    have h48 := h48A r (by simp)
    clear hneA h48A
    have hl0 : ¬ (((r :: Y).length : Nat) : Int) = 0 := by first | (simp; done) | (simp; omega)
    have hlb : (((r :: Y).length : Nat) == 0) = false := by simp
    have hlp : (0 : Int) < (((r :: Y).length : Nat) : Int) := by first | (simp; done) | (simp; omega)
    have hll : (((r :: Y).length : Nat) : Int) ≤ 12 := by omega
    have hlc : (((((r :: Y).length : Nat) : Int)) == 0) = false := by first | (simp; done) | (simp; omega)
    obtain ⟨g, hge, g1, g2, hc, hfr⟩ := SpV.at (X := []) (HM1.out.lin.own.sp vals7)
    subst hge
    simp only [List.length_nil, Nat.zero_mul] at hc
    obtain ⟨n, hn⟩ : ∃ n, (r :: Y).length = n := ⟨_, rfl⟩
    have HNN := hideP hn
    rw [hn] at hl0 hlb hlp hll hlc hc1 hc2 ⊢
    have hnp : 0 < n := by omega
    clear hc hfr hn
    go_wp2_with fail
    refine Calls.mono (next_any _ B b a len cap f u 14 HM1.out.src (by omega) (by omega) (by omega) (by omega)) ?_
    rintro e w2 ⟨y, rfl, y0, y1, ht, hs⟩
    have M2 := hideP (HM1.out.next hlt ht hs)
    have HW : wzs (r :: Y) ≤ 576 := by omega
    clear HM1 ht hs hc2
    by_cases e0 : y = 0
    · subst e0
      go_wp2_with fail
      refine Calls.mono (pick5 (fun _ => True) w2 B b a len cap f (u + 1) _ 2 4 w2.heap.size rfl (inbL5 [0, 1, 65, 300] (by simp)) M2.out.src (by omega) (by omega) (by omega) (by omega)) ?_
      rintro e w3 ⟨z, rfl, -, ht, hs⟩
      have M3 := M2.out.next hlt ht hs
      obtain ⟨_, hge, _, g3, hc, hfr⟩ := SpV.at (X := []) (M3.lin.own.sp vals7)
      cases hge
      simp only [List.length_nil, Nat.zero_mul] at hc
      obtain ⟨c0, c1, c2, c3, c4, c5, c6⟩ := hc.seven
      simp only [Nat.zero_add] at c1 c2 c3 c4 c5 c6
      have L3 := M3.lin.put1 (X := []) (r := r) (Y := Y) vals7 winNe (q := 0) (u := .int .i64 z) (r' := ⟨z, r.x, r.y, r.w, r.h, r.m, r.b⟩) (by omega) rfl rfl
      simp only [List.length_nil, Nat.zero_mul, Nat.zero_add] at L3
      have M4 := hideP (M3.put hlt ⟨g, 0, none⟩ (.int .i64 z) g1 L3)
      clear M3 L3 hc ht hs M2
      go_wp2
      go_returns
      exact bent_out M4.out (by simpa using HNN.out) (by have := HNN.out; simp at this ⊢; omega) (by simp only [List.nil_append, wzs_cons] at HW ⊢; omega) (by omega) (by omega)
    by_cases e1 : y = 1
    · subst e1
      have hbin := M2.out.lin.cis.inn r.b (by simp) hneR
      have hbon := M2.out.lin.cis.each r.b (by simp)
      have hba := hbon.2 hneR
      have hgbb : ¬ r.b.g = b := by omega
      have hgb : ¬ g = b := by omega
      have hbg0 : w.heap.size ≤ r.b.g := hbin.1
      have hlp0 : 0 < r.b.L.length := List.length_pos_iff.2 hneR
      have hlp1 : (0 : Int) < (r.b.L.length : Int) := by omega
      obtain ⟨_, hge, _, g3, hc, hfr⟩ := SpV.at (X := []) (M2.out.lin.own.sp vals7)
      cases hge
      simp only [List.length_nil, Nat.zero_mul] at hc
      have c6 := hc.seven.2.2.2.2.2.2
      rw [hba] at c6
      simp only [Nat.zero_add] at c6
      have HNE := hideP hneR
      clear hc hbin hbon hba hneR
      go_wp2
      refine wp_region_madesR (R := Turn b) (G := Kept) (rel_turnW b) rel_keptA (fun h => Turn.of_below h) 5 2 (by kernel_rfl) (by kernel_rfl) ?_
      simp only [List.take_succ_cons, List.take_zero, List.drop_succ_cons, List.drop_zero]
      repeat (refine grow_stepR (by rfl) ?_; apply Exists.intro; refine ⟨fun w1 k1 => ?_, fun K hK => ?_⟩; (focus (have hc := Turn.cell k1; go_simp; first | done | rfl)); (go_simp; refine hK _ ?_; clear hK K))
      refine grow_nilR ?_
      refine mades_stepR (by rfl) fun w5 k5 => ?_
      refine made_allocR (rel_turnW b) (b := .cells #[.int .i64 255, .int .i64 256, .int .i64 (-1)] 2) (by go_simp; first | done | rfl) fun K hK => ?_
      go_simp
      refine hK _ ?_
      clear hK K
      refine mades_stepR (by rfl) fun w6 k6 => ?_
      have kk5 := Kept.below k5
      have kk6 := Kept.below k6
      have n5 := kk5.size
      have K46 : Below w2.heap.size w2 w6 := kk5.trans (((Below.refl _ w5).alloc (Nat.le_refl _) (.cells #[.int .i64 255, .int .i64 256, .int .i64 (-1)] 2)).mono n5 |>.trans (kk6.mono (by simp; omega)))
      have NU : Nums w6 w5.heap.size 3 (fun i => ([255, 256, -1] : List Int).getD i 0) := ⟨by have := kk6.size; simp at this; omega, fun i hi => by
        rw [kk6.cell (p := ⟨w5.heap.size, i, none⟩) (by simp), World.cell?_alloc_new]
        have : i = 0 ∨ i = 1 ∨ i = 2 := by omega
        rcases this with rfl | rfl | rfl <;> rfl⟩
      have M6 := M2.out.keep K46
      have hsb := M2.out.src.lt
      refine made_callsR (by go_simp; first | done | rfl) ((pick5_of w6 B b a len cap f _ w5.heap.size 3 3 _ M6.src (by omega) (by omega) (by omega) (by omega) NU (by omega)).mono ?_)
      rintro e w7 ⟨z, rfl, -, ht, hs⟩
      have M7 := M6.next hlt ht hs
      refine ⟨_, rfl, ht, fun K hK => ?_⟩
      go_simp
      refine hK _ ?_
      clear hK K
      refine mades_nilR fun w8 k8 => ?_
      try simp only [List.drop_succ_cons, List.drop_zero]
      have M8 := M7.keep (Kept.below k8)
      have hon8 := M8.lin.cis.each r.b (by simp)
      have hW8 := hon8.1
      rw [hon8.2 HNE.out] at hW8
      obtain ⟨⟨dj, cj⟩, hfr8⟩ : (∃ d : Int, w8.cell? ⟨r.b.g, 0, none⟩ = some (.int .i64 d)) ∧ ∀ c, w8.frozen? ⟨r.b.g, c, none⟩ = false := by
        rcases hW8 with e | ⟨g', o', ha, _, _, hcc, hff⟩
        · exact absurd e HNE.out
        · cases ha
          have := hcc 0 hlp0
          exact ⟨⟨_, by simpa using this⟩, hff⟩
      have hg8 : r.b.g < w8.heap.size := World.block_lt_of_cell? w8 _ cj
      have M9 := M8.put hlt ⟨r.b.g, 0, none⟩ (.int .i64 z) hbg0 (LinV.num (X := []) (Y := Y) winNe M8.lin HNE.out hlp0 z (r' := Wn.with r (r.b.L.set 0 z)) rfl (with_vals (r := r) (D := r.b.L) (by simp)))
      have HM9 := hideP M9
      clear M9 hW8 hon8 M8 M7 M6 ht hs k5 kk5 k6 kk6 k8 K46 NU c6 hfr
      go_wp2
      go_returns
      exact bent_out HM9.out (by simpa using HNN.out) (by have := HNN.out; simp at this ⊢; omega) (by
        simp only [List.nil_append, wzs_cons, Wn.with, List.length_set] at HW ⊢; omega) (by omega) (by omega)
    by_cases e2 : y = 2
    · subst e2
      go_wp2_with fail
      refine Calls.mono (pick5 (fun _ => True) w2 B b a len cap f (u + 1) _ 2 3 w2.heap.size rfl (inbL5 [2, 9, 0] (by simp)) M2.out.src (by omega) (by omega) (by omega) (by omega)) ?_
      rintro e w3 ⟨z, rfl, -, ht, hs⟩
      have M3 := M2.out.next hlt ht hs
      obtain ⟨_, hge, _, g3, hc, hfr⟩ := SpV.at (X := []) (M3.lin.own.sp vals7)
      cases hge
      simp only [List.length_nil, Nat.zero_mul] at hc
      obtain ⟨c0, c1, c2, c3, c4, c5, c6⟩ := hc.seven
      simp only [Nat.zero_add] at c1 c2 c3 c4 c5 c6
      have L3 := M3.lin.put1 (X := []) (r := r) (Y := Y) vals7 winNe (q := 3) (u := .int .i64 z) (r' := ⟨r.i, r.x, r.y, z, r.h, r.m, r.b⟩) (by omega) rfl rfl
      simp only [List.length_nil, Nat.zero_mul, Nat.zero_add] at L3
      have M4 := hideP (M3.put hlt ⟨g, 3, none⟩ (.int .i64 z) g1 L3)
      clear M3 L3 hc ht hs M2
      go_wp2
      go_returns
      exact bent_out M4.out (by simpa using HNN.out) (by have := HNN.out; simp at this ⊢; omega) (by simp only [List.nil_append, wzs_cons] at HW ⊢; omega) (by omega) (by omega)
    by_cases e3 : y = 3
    · subst e3
      obtain ⟨_, hge, _, g3, hc, hfr⟩ := SpV.at (X := []) (M2.out.lin.own.sp vals7)
      cases hge
      simp only [List.length_nil, Nat.zero_mul] at hc
      obtain ⟨ri, rx, ry, rp, rh, rm, ⟨ao, ca, gb, D⟩⟩ := r
      obtain ⟨c0, c1, c2, c3, c4, c5, c6⟩ := hc.seven
      simp only [Nat.zero_add] at c0 c1 c2 c3 c4 c5 c6
      have k2 := kalC w2 (.cells #[.int .i64 ri, .int .i64 rx, .int .i64 ry, .int .i64 rp, .int .i64 rh, .bool rm, .slice ao D.length ca] 47)
      have DC : Cl Wn.vals (w2.alloc (.cells #[.int .i64 ri, .int .i64 rx, .int .i64 ry, .int .i64 rp, .int .i64 rh, .bool rm, .slice ao D.length ca] 47)) w2.heap.size 0 ⟨ri, rx, ry, rp, rh, rm, ⟨ao, ca, gb, D⟩⟩ := by
        have h := r7_new w2 (.int .i64 ri) (.int .i64 rx) (.int .i64 ry) (.int .i64 rp) (.int .i64 rh) (.bool rm) (.slice ao D.length ca) 47
        exact Cl.mkW ⟨h.c0, h.c1, h.c2, h.c3, h.c4, h.c5, h.c6⟩
      have M3 := M2.out.keep k2
      have hz3 : w.heap.size ≤ (w2.alloc (.cells #[.int .i64 ri, .int .i64 rx, .int .i64 ry, .int .i64 rp, .int .i64 rh, .bool rm, .slice ao D.length ca] 47)).heap.size := M3.turn.size
      have HDC := hideP DC
      have HM3 := hideP M3
      clear hc k2 DC M3 M2
      go_wp2_with (first | (at_builtin; go_loud (refine wpList_appV (V := Wn.vals) (T := 47) vals7 vals1 Try.underlying24 Try.infoWn rfl rfl _ _ rfl w.heap.size (some ⟨g, 0, none⟩) sc (⟨ri, rx, ry, rp, rh, rm, ⟨ao, ca, gb, D⟩⟩ :: Y) (by rw [HNN.out]; rfl) HM3.out.lin.own w2.heap.size 1 ⟨ri, rx, ry, rp, rh, rm, ⟨ao, ca, gb, D⟩⟩ rfl HDC.out (by rw [HNN.out]; omega) hz3 ?_); intro so4 sc4 w4 O4 G4 K4; refine Hid.out ?_) | go_in)
      have HT := hideP (LinV.twice HM3.out.lin hz3 O4 G4)
      have HTU := hideP (HM3.out.turn.then K4)
      have HSR := hideP (HM3.out.src.below5 K4 hlt)
      clear O4 G4 K4 HM3 HDC c0 c1 c2 c3 c4 c5 c6 hfr
      refine hideP ?_
      go_wp2
      go_returns
      refine ⟨so4, sc4, (⟨ri, rx, ry, rp, rh, rm, ⟨ao, ca, gb, D⟩⟩ :: Y) ++ [⟨ri, rx, ry, rp, rh, rm, ⟨ao, ca, gb, D⟩⟩], u + 1, ?_, ?_, ?_, by omega, by omega, HT.out, HTU.out, HSR.out⟩
      · rw [List.length_append]; rfl
      · rw [List.length_append, HNN.out, List.length_singleton]; omega
      · rw [wzs_app, wzs_one]
        rw [wzs_cons] at HW ⊢
        simp only at HW h48 ⊢
        omega
    have e0' : (y == 0) = false := by simpa using e0
    have e1' : (y == 1) = false := by simpa using e1
    have e2' : (y == 2) = false := by simpa using e2
    have e3' : (y == 3) = false := by simpa using e3
    go_wp2
    go_returns
    exact bent_out M2.out HNN.out (by rw [HNN.out]; omega) (by omega) (by omega) (by omega)
end Go.Proofs.Ytmmjannkfmiohaa
