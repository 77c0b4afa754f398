/- Windows that are drawn: a right stack. -/
import Derived.Test.YtmmjannkfmiohaaTs26
import Derived.Test.YtmmjannkfmiohaaTs27
namespace Go.Proofs.Ytmmjannkfmiohaa
open Go.RowKit
set_option linter.unusedVariables false

theorem nodup_le : ∀ (L U : List Int), L.Nodup → (∀ x ∈ L, x ∈ U) → L.length ≤ U.length
  | [], _, _, _ => Nat.zero_le _
  | x :: L, U, hn, hs => by
    have hx := hs x (by simp)
    have hn' := List.nodup_cons.1 hn
    have h := nodup_le L (U.erase x) hn'.2 (fun y hy => (List.mem_erase_of_ne (by rintro rfl; exact hn'.1 hy)).2 (hs y (by simp [hy])))
    rw [List.length_erase_of_mem hx] at h
    have := List.length_pos_of_mem hx
    simp only [List.length_cons]
    omega
theorem ok_few {L : List Int} (h : ∀ x ∈ L, okId x = true) (hn : L.Nodup) : L.length ≤ 12 :=
  nodup_le L [1, 2, 3, 65, 66, 67, 129, 130, 131, 193, 194, 195] hn fun x hx => by
    have := okId_iff.1 (h x hx)
    have : x = 1 ∨ x = 2 ∨ x = 3 ∨ x = 65 ∨ x = 66 ∨ x = 67 ∨ x = 129 ∨ x = 130 ∨ x = 131 ∨ x = 193 ∨ x = 194 ∨ x = 195 := by omega
    simpa using this
theorem id_ofW {s i : Int} (h0 : 0 ≤ s) (h3 : s ≤ 3) (i1 : 1 ≤ i) (i3 : i ≤ 3) : okId (64 * s + i) = true ∧ slV (64 * s + i) = s := by
  have h : okId (64 * s + i) = true := okId_iff.2 (by omega)
  exact ⟨h, by rw [slV_yes h]; omega⟩
theorem nxt_freeW {L : List Int} {s : Int} (h0 : 0 ≤ s) (h3 : s ≤ 3) (h : nxt L s ≠ -1) : nxt L s ∉ L ∧ okId (nxt L s) = true ∧ slV (nxt L s) = s := by
  unfold nxt at h ⊢
  cases b1 : L.contains (64 * s + 1)
  · simp only [Bool.false_eq_true, if_false]
    exact ⟨by simpa using b1, id_ofW h0 h3 (by omega) (by omega)⟩
  · cases b2 : L.contains (64 * s + 2)
    · simp only [Bool.false_eq_true, if_false, if_true]
      exact ⟨by simpa using b2, id_ofW h0 h3 (by omega) (by omega)⟩
    · cases b3 : L.contains (64 * s + 3)
      · simp only [Bool.false_eq_true, if_false, if_true]
        exact ⟨by simpa using b3, id_ofW h0 h3 (by omega) (by omega)⟩
      · rw [b1, b2, b3] at h
        exact absurd rfl h
theorem ids_snoc {L : List Int} {s : Int} (hi : idsF L = 0) (h0 : 0 ≤ s) (h3 : s ≤ 3) (h : ¬ nxt L s < 0) : idsF (L ++ [nxt L s]) = 0 := by
  obtain ⟨h1, h2, _⟩ := nxt_freeW h0 h3 (show nxt L s ≠ -1 by omega)
  obtain ⟨h4, h5⟩ := idsF_ok hi
  have ha : ∀ x ∈ L ++ [nxt L s], okId x = true := fun x hx => by
    rcases List.mem_append.1 hx with hx | hx
    · exact h4 x hx
    · obtain rfl : x = nxt L s := by simpa using hx
      exact h2
  have hn : (L ++ [nxt L s]).Nodup := List.nodup_append.2 ⟨h5, by simp, fun x hx y hy => by
    obtain rfl : y = nxt L s := by simpa using hy
    rintro rfl
    exact h1 hx⟩
  exact idsF_mk (ok_few ha hn) ha hn
theorem stF_snoc {C : List Wc} {c : Wc} (h : stF C = 0) (hi : idsF (C.map Wc.i ++ [c.i]) = 0) (hc : winF c = 0) : stF (C ++ [c]) = 0 := by
  rw [stF_ws (by rw [List.map_append]; exact hi)]
  exact wsF_snoc (stF_ok h).2 hc

theorem area_posW {p h : Int} (h1 : 1 ≤ p ∧ p ≤ 8) (h2 : 1 ≤ h ∧ h ≤ 6) : 1 ≤ p * h := by
  have hp : p = 1 ∨ p = 2 ∨ p = 3 ∨ p = 4 ∨ p = 5 ∨ p = 6 ∨ p = 7 ∨ p = 8 := by omega
  rcases hp with rfl | rfl | rfl | rfl | rfl | rfl | rfl | rfl <;> omega
/-- A window with other numbers. -/
def Wn.with (r : Wn) (D : List Int) : Wn := ⟨r.i, r.x, r.y, r.w, r.h, r.m, ⟨r.b.ao, r.b.cap, r.b.g, D⟩⟩
theorem with_vals {r : Wn} {D D' : List Int} (h : D'.length = D.length) : Wn.vals (r.with D') = Wn.vals (r.with D) := by simp [Wn.vals, Wn.with, h]
/-- What is drawn as a stack. -/
def DrW (w : World) (B b : Nat) (a : Option Addr) (len cap : Nat) (f : Nat → Int) (t : Int) (P : List Wn → Prop) (e : Ending) (w' : World) : Prop :=
  ∃ (so : Option Addr) (sc : Nat) (M : List Wn) (u : Int), e = .returned (.slice so M.length sc) ∧ P M ∧ 0 ≤ u ∧ u ≤ t + 1000 ∧ WMid w w' B b a len cap f u so sc M
theorem r3_newD (w : World) (v0 v1 v2 : Value) (T : TypeId) : R3 (w.alloc (.cells #[v0, v1, v2] T)) w.heap.size v0 v1 v2 := r3_new w v0 v1 v2 T
theorem R3.turnD {w w' : World} {q b : Nat} {v0 v1 v2 : Value} (h : R3 w q v0 v1 v2) (t : Turn b w w') (hq : ¬ q = b) : R3 w' q v0 v1 v2 := h.far t.far (by omega)

theorem rel_turnW (b : Nat) : Rel (Turn b) := ⟨fun w => Turn.refl b w, fun h k => h.trans k, fun w o => Turn.of_below ((Below.refl _ _).alloc (Nat.le_refl _) _), fun w => (Turn.refl b w).drew⟩
attribute [local go_sem] growUponR growAtR

set_option maxRecDepth 100000 in
set_option maxHeartbeats 8000000 in
theorem wdraw_any (w : World) (B b : Nat) (a : Option Addr) (len cap : Nat) (f : Nat → Int) (t : Int) (S : Src w B b a len cap f t) (t0 : 0 ≤ t) (t1 : t ≤ 50000) :
    Calls Try.prog 44 #[.pointer (some ⟨b, 0, none⟩)] w (DrW w B b a len cap f t fun M => stF (M.map Wn.ct) = 0) := by
  have hlt := S.lt
  have M0 : Hid (WMid w (w.alloc (.cells #[] 47)) B b a len cap f t (some ⟨w.heap.size, 0, none⟩) 0 []) := ⟨LinV.lit _ _ _ (Nat.le_refl _), Turn.of_below (by go_grown), S.grow (by go_grown)⟩
  clear S
  go_enter Try.func44, Try.ntmps44
  go_wp2_with fail
  refine Calls.mono (next_any _ B b a len cap f t 6 M0.out.src (by omega) (by omega) (by omega) (by omega)) ?_
  rintro e w1 ⟨n, rfl, n0, n1, ht1, hs1⟩
  have M1 := hideP (M0.out.next hlt ht1 hs1)
  clear M0 ht1 hs1
  go_wp2
  go_loopw [3, 4] (fun v i wr => ∃ (k : Nat) (so : Option Addr) (sc : Nat) (M : List Wn) (u : Int), i = .int .i64 k ∧ v = .slice so M.length sc ∧ stF (M.map Wn.ct) = 0 ∧ k ≤ 5 ∧ 0 ≤ u ∧ u + 100 * k ≤ t + 600 ∧ WMid w wr B b a len cap f u so sc M) (fun _ i _ => (intOf i).toNat)
  case atStart => exact ⟨n.toNat, some ⟨w.heap.size, 0, none⟩, 0, [], t + 1, by rw [Int.toNat_of_nonneg n0], rfl, rfl, by omega, by omega, by omega, M1.out⟩
  case round =>
    obtain ⟨k, so, sc, M, u, rfl, rfl, hst, hk5, h0, h1, M'⟩ := hrel
    have HM := hideP M'
    have HST := hideP hst
    clear M' M1 hst
    cases k with
    | zero =>
      go_wp2
      go_returns
      exact ⟨so, sc, M, u, rfl, HST.out, by omega, by omega, HM.out⟩
    | succ k =>
      have hpos : (0 : Int) < ((k + 1 : Nat) : Int) := by omega
      go_wp2_with fail
      refine Calls.mono (next_any _ B b a len cap f u 3 HM.out.src (by omega) (by omega) (by omega) (by omega)) ?_
      rintro e w2 ⟨x1, rfl, x10, x11, ht, hs⟩
      have M2 := hideP (HM.out.next hlt ht hs)
      clear HM ht hs
      go_wp2_with fail
      refine Calls.mono (next_any _ B b a len cap f (u + 1) 9 M2.out.src (by omega) (by omega) (by omega) (by omega)) ?_
      rintro e w3 ⟨x2, rfl, x20, x21, ht, hs⟩
      have M3 := hideP (M2.out.next hlt ht hs)
      clear M2 ht hs
      go_wp2_with fail
      refine Calls.mono (next_any _ B b a len cap f (u + 1 + 1) 6 M3.out.src (by omega) (by omega) (by omega) (by omega)) ?_
      rintro e w4 ⟨x3, rfl, x30, x31, ht, hs⟩
      have M4 := hideP (M3.out.next hlt ht hs)
      clear M3 ht hs
      go_wp2_with fail
      refine Calls.mono (next_any _ B b a len cap f (u + 1 + 1 + 1) 5 M4.out.src (by omega) (by omega) (by omega) (by omega)) ?_
      rintro e w5 ⟨x4, rfl, x40, x41, ht, hs⟩
      have M5 := hideP (M4.out.next hlt ht hs)
      clear M4 ht hs
      go_wp2_with fail
      refine Calls.mono (next_any _ B b a len cap f (u + 1 + 1 + 1 + 1) 4 M5.out.src (by omega) (by omega) (by omega) (by omega)) ?_
      rintro e w6 ⟨x5, rfl, x50, x51, ht, hs⟩
      have M6 := hideP (M5.out.next hlt ht hs)
      clear M5 ht hs
      have hcz := stF_cz HST.out
      rw [cz_wzs, List.length_map] at hcz
      by_cases hz : mkZ (M.map Wn.ct) x1 (x2 - 1) x3 (1 + x4) (1 + x5) = 0
      · have hsn := ids_snoc (L := M.map Wn.i) (s := x1) (by have := (stF_ok HST.out).1; rwa [mapI] at this) x10 (by omega) (by obtain ⟨_, _, h3⟩ := mk_ok hz; rwa [mapI] at h3)
        have hmP := mkP_yes hz
        rw [mapI] at hmP
        have hwr := (mk_ok hz).2.1
        have MK := sMake_lin so sc M x1 (x2 - 1) x3 (1 + x4) (1 + x5) w6 M6.out.ws (by omega) hz
        rw [hmP] at MK
        obtain ⟨v, hv⟩ : ∃ v, nxt (M.map Wn.i) x1 = v := ⟨_, rfl⟩
        obtain ⟨V, hV⟩ : ∃ V, mkV (M.map Wn.ct) x1 (x2 - 1) x3 (1 + x4) (1 + x5) = V := ⟨_, rfl⟩
        rw [hv] at MK hsn
        rw [hV] at MK
        obtain ⟨_, _, p1, p2, _⟩ := wrB_no hwr
        have ab := area_le p1 p2
        obtain ⟨q, hq⟩ : ∃ q : Nat, ((1 + x4) * (1 + x5)).toNat = q := ⟨_, rfl⟩
        have hq48 : q ≤ 48 := by omega
        have hqe : (q : Int) = (1 + x4) * (1 + x5) := by omega
        rw [hq] at MK
        have HSN := hideP hsn
        have HWR := hideP hwr
        have HQE := hideP hqe
        have hMl : (M.length : Int) ≤ 12 := by omega
        clear hz hmP hv hV hsn hwr hq hqe ab p1 p2 hcz
        go_wp2_with fail
        refine Calls.mono MK ?_
        rintro e w7 ⟨s7, c7, N, rfl, hN, hNl, LN, k7⟩
        have ka := kalC w7 (.cells #[.int .i64 0, .int .i64 V, .slice s7 (M.length + 1) c7] 101)
        have M8 := hideP ((M6.out.new k7 LN).keep ka)
        have X8 := r3_newD w7 (.int .i64 0) (.int .i64 V) (.slice s7 (M.length + 1) c7) 101
        obtain ⟨N0, r, rfl⟩ : ∃ N0 r, N = N0 ++ [r] := by
          rcases List.eq_nil_or_concat N with h | ⟨N0, r, h⟩
          · rw [h] at hNl; simp at hNl
          · exact ⟨N0, r, by simpa using h⟩
        have hN0l : N0.length = M.length := by simpa using hNl
        obtain ⟨hN0, hr⟩ : N0.map Wn.ct = M.map Wn.ct ∧ r.ct = ⟨v, x2 - 1, x3, 1 + x4, 1 + x5, false, List.replicate q 0⟩ := by
          rw [List.map_append] at hN
          have h := List.append_inj hN (by simpa using hN0l)
          exact ⟨h.1, by simpa using h.2⟩
        obtain ⟨x0, x1', x2', x3', x4'⟩ := X8
        have HN0 := hideP hN0
        have HR := hideP hr
        have HNL := hideP hN0l
        clear k7 ka M6 MK LN hN hNl hN0 hr hN0l
        obtain ⟨g, hge, g1, g2, hc, hfr⟩ := SpV.at (M8.out.lin.own.sp vals7)
        subst hge
        rw [HNL.out] at hc
        obtain ⟨c0, c1, c2, c3, c4, c5, c6⟩ := hc.seven
        have hml1 : ((M.length + 1 : Nat) : Int) - 1 = (M.length : Int) := by omega
        have hml2 : (M.length : Int) < ((M.length + 1 : Nat) : Int) := by omega
        clear hc
        go_wp2_with fail
        refine Calls.mono (chance_any _ B b a len cap f _ 4 M8.out.src (by omega) (by omega) (by omega) (by omega)) ?_
        rintro e w9 ⟨m, rfl, ht, hs⟩
        have M9 := hideP (M8.out.next hlt ht hs)
        clear ht hs M8 x0 x1' x2' x3' x4' c0 c1 c2 c3 c4 c5 c6 hfr
        obtain ⟨_, hge, _, g2', hc, hfr⟩ := SpV.at (M9.out.lin.own.sp vals7)
        cases hge
        rw [HNL.out] at hc
        obtain ⟨c0, c1, c2, c3, c4, c5, c6⟩ := hc.seven
        have hgb : ¬ g = b := by omega
        have M10 := M9.out.put hlt ⟨g, M.length * 7 + 5, none⟩ (.bool (!m)) g1 (by
          have := M9.out.lin.put1 vals7 winNe (q := 5) (u := .bool (!m)) (r' := ⟨r.i, r.x, r.y, r.w, r.h, !m, r.b⟩) (by omega) rfl rfl
          rwa [HNL.out] at this)
        have HM10 := hideP M10
        clear M9 M10 hc
        go_wp2
        clear c0 c1 c2 c3 c4 c5 c6 hfr hml1 hml2
        generalize w9.setCell ⟨g, M.length * 7 + 5, none⟩ (.bool (!m)) = w10 at *
        have hbL : r.b.L = List.replicate q 0 := congrArg Wc.L HR.out
        have hbl : r.b.L.length = q := by rw [hbL]; simp
        obtain ⟨_, _, p1, p2, _⟩ := wrB_no HWR.out
        have hq1 : 1 ≤ q := by have := area_posW p1 p2; have := HQE.out; omega
        have hne : r.b.L ≠ [] := fun e => by rw [e] at hbl; simp at hbl; omega
        have hbon := HM10.out.lin.cis.each r.b (by simp)
        have hbin := HM10.out.lin.cis.inn r.b (by simp) hne
        have hba := hbon.2 hne
        have hbgb : ¬ r.b.g = b := by omega
        have hbw : w.heap.size ≤ r.b.g := hbin.1
        have HBA := hideP hba
        have HBL := hideP hbL
        have HNE := hideP hne
        clear hbL hne hbon hbin hba p1 p2
        go_loopw [7] (fun i wr => ∃ (j : Nat) (D : List Int) (u' : Int), i = .int .i64 (j : Int) ∧ j ≤ q ∧ D.length = q ∧ D.all byB = true ∧ 0 ≤ u' ∧ u' = u + 6 + j ∧ WMid w wr B b a len cap f u' (some ⟨g, 0, none⟩) c7 (N0 ++ [Wn.with ⟨r.i, r.x, r.y, r.w, r.h, !m, r.b⟩ D])) (fun i _ => q - (intOf i).toNat)
        case atStart => exact ⟨0, r.b.L, u + 6, rfl, Nat.zero_le _, hbl, by rw [HBL.out]; simp [byB], by omega, by omega, by
          have := HM10.out
          rw [show u + 1 + 1 + 1 + 1 + 1 + 1 = u + 6 by omega] at this
          exact this⟩
        case round =>
          obtain ⟨j, D, u', rfl, hjq, hDl, hDb, hu0, hu1, M11⟩ := hrel
          have HM11 := hideP M11
          have HDB := hideP hDb
          obtain ⟨_, hge, _, g3, hc, hfr⟩ := SpV.at (M11.lin.own.sp vals7)
          cases hge
          rw [HNL.out] at hc
          have c6 := hc.seven.2.2.2.2.2.2
          simp only [Wn.with] at c6
          rw [hDl, HBA.out] at c6
          clear M11 hc hDb
          by_cases hj2 : j < q
          · have hji : (j : Int) < (q : Int) := by omega
            go_wp2
            refine wp_region_madesR (R := Turn b) (G := Kept) (rel_turnW b) rel_keptA (fun h => Turn.of_below h) 6 1 (by kernel_rfl) (by kernel_rfl) ?_
            simp only [List.take_succ_cons, List.take_zero, List.drop_succ_cons, List.drop_zero]
            repeat (refine grow_stepR (by rfl) ?_; apply Exists.intro; refine ⟨fun w1 k1 => ?_, fun K hK => ?_⟩; (focus (have hc := Turn.cell k1; go_simp; first | done | rfl)); (go_simp; refine hK _ ?_; clear hK K))
            refine grow_nilR ?_
            refine mades_stepR (by rfl) fun w3 k3 => ?_
            have kk3 := Kept.below k3
            have HM3 := HM11.out.keep kk3
            refine made_callsR (by go_simp; first | done | rfl) ((next_any w3 B b a len cap f u' 9 HM3.src (by omega) (by omega) (by omega) (by omega)).mono ?_)
            rintro e w4 ⟨z, rfl, z0, z1, ht, hs⟩
            have HM4 := HM3.next hlt ht hs
            refine ⟨_, rfl, ht, fun K hK => ?_⟩
            go_simp
            refine hK _ ?_
            clear hK K
            refine mades_nilR fun w5 k5 => ?_
            try simp only [List.drop_succ_cons, List.drop_zero]
            have HM5 := HM4.keep (Kept.below k5)
            have hon5 := HM5.lin.cis.each ⟨r.b.ao, r.b.cap, r.b.g, D⟩ (by simp [Wn.with])
            have hDne : D ≠ [] := fun e => by rw [e] at hDl; simp at hDl; omega
            have hW5 := hon5.1
            rw [hon5.2 hDne] at hW5
            obtain ⟨cj, hfr5⟩ : (∃ d : Int, w5.cell? ⟨r.b.g, j, none⟩ = some (.int .i64 d)) ∧ ∀ c, w5.frozen? ⟨r.b.g, c, none⟩ = false := by
              rcases hW5 with e | ⟨g', o', ha, _, _, hcc, hff⟩
              · exact absurd e hDne
              · cases ha
                have := hcc j (by simp only; omega)
                exact ⟨⟨_, by simpa using this⟩, hff⟩
            obtain ⟨dj, cj⟩ := cj
            have hg5 : r.b.g < w5.heap.size := World.block_lt_of_cell? w5 _ cj
            have hjD : j < D.length := by omega
            have M12 := HM5.put hlt ⟨r.b.g, j, none⟩ (.int .i64 z) hbw (LinV.num winNe HM5.lin (i := j) (n := z) (r' := Wn.with ⟨r.i, r.x, r.y, r.w, r.h, !m, r.b⟩ (D.set j z)) hDne hjD rfl (with_vals (by simp)))
            have HM12 := hideP M12
            have hDb' : (D.set j z).all byB = true := by
              rw [List.all_eq_true]
              intro x hx
              rcases List.mem_or_eq_of_mem_set hx with hx | rfl
              · exact List.all_eq_true.1 HDB.out x hx
              · unfold byB; exact decide_eq_true (by omega)
            have HDB' := hideP hDb'
            clear M12 hDb' hW5 hon5 HM5 HM4 HM3 ht hs k3 kk3 k5 c6
            go_wp2
            go_roundw
            case rel => exact ⟨j + 1, D.set j z, u' + 1, by go_num, by omega, by simpa using hDl, HDB'.out, by omega, by omega, HM12.out⟩
            case measure => first | (simp [intOf]; done) | (simp [intOf]; omega)
          · obtain rfl : j = q := by omega
            go_wp2
            go_roundw
            case rel =>
              refine ⟨k, some ⟨g, 0, none⟩, c7, N0 ++ [Wn.with ⟨r.i, r.x, r.y, r.w, r.h, !m, r.b⟩ D], u', by go_num, by simp [HNL.out], ?_, by omega, by omega, by omega, HM11.out⟩
              have hr := HR.out
              have e1 : r.i = v := congrArg Wc.i hr
              have e2 : r.x = x2 - 1 := congrArg Wc.x hr
              have e3 : r.y = x3 := congrArg Wc.y hr
              have e4 : r.w = 1 + x4 := congrArg Wc.w hr
              have e5 : r.h = 1 + x5 := congrArg Wc.h hr
              rw [List.map_append, HN0.out]
              refine stF_snoc HST.out ?_ ?_
              · rw [mapI]
                show idsF (M.map Wn.i ++ [r.i]) = 0
                rw [e1]
                exact HSN.out
              · refine winF_ok ?_ ?_ HDB.out
                · show wrB r.x r.y r.w r.h = false
                  rw [e2, e3, e4, e5]
                  exact HWR.out
                · show (D.length : Int) = r.w * r.h
                  rw [e4, e5, hDl]
                  exact HQE.out
            case measure => first | (simp [intOf]; done) | (simp [intOf]; omega)
      · have MK := sMake_no so sc M x1 (x2 - 1) x3 (1 + x4) (1 + x5) w6 M6.out.ws (by omega) hz
        have hne : (mkZ (M.map Wn.ct) x1 (x2 - 1) x3 (1 + x4) (1 + x5) != 0) = true := by simpa using hz
        generalize mkZ (M.map Wn.ct) x1 (x2 - 1) x3 (1 + x4) (1 + x5) = Z at *
        go_wp2_with fail
        refine Calls.mono MK ?_
        rintro e w7 ⟨s7, c7, M7, rfl, _, _, _, k7⟩
        have ka := kalC w7 (.cells #[.int .i64 Z, .int .i64 0, .slice s7 0 c7] 101)
        have M8 := hideP (M6.out.keep (k7.trans (ka.mono k7.size)))
        have X8 := r3_newD w7 (.int .i64 Z) (.int .i64 0) (.slice s7 0 c7) 101
        obtain ⟨x0, x1, x2, x3, x4⟩ := X8
        clear k7 ka M6 MK hz
        go_wp2
        go_roundw
        case rel => exact ⟨k, so, sc, M, _, by go_num, rfl, HST.out, by omega, by omega, by omega, M8.out⟩
        case measure => first | (simp [intOf]; done) | (simp [intOf]; omega)
end Go.Proofs.Ytmmjannkfmiohaa
