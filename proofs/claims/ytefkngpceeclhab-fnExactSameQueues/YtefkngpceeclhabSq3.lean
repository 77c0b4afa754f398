/- SameQueues: the law's walk. -/
import Derived.Test.YtefkngpceeclhabSq2
import Derived.Test.YtefkngpceeclhabTakeK
import Derived.Test.YtefkngpceeclhabQf3
namespace Go.Proofs.Ytefkngpceeclhab
open Go.RowKit
set_option linter.unusedVariables false
attribute [local go_sem] growUpon growAt

/-- The law's own two boxes. -/
structure In2s (w W : World) (u0 u1 v0 v1 : Value) : Prop where
  K : Below w.heap.size w W
  A : Rb W w.heap.size u0 u1
  D : Rb W (w.heap.size + 1) v0 v1
theorem In2s.keep {w W W' : World} {u0 u1 v0 v1 : Value} {B : Nat} (h : In2s w W u0 u1 v0 v1) (k : Below B W W') (hb : w.heap.size + 2 ≤ B) : In2s w W' u0 u1 v0 v1 :=
  ⟨h.K.trans (k.mono (by omega)), h.A.keep k (by omega), h.D.keep k (by omega)⟩
/-- A queue of one's own, in its box. -/
structure XQs (W : World) (b lo hi : Nat) (s : Option Addr) (M : List Mg) (n : Nat) (v : Bool) : Prop where
  box : Rb W b (.slice s n n) (.bool v)
  qm : QM W lo hi none [] s M
theorem XQs.keep {W W' : World} {b lo hi B n : Nat} {s : Option Addr} {M : List Mg} {v : Bool} (h : XQs W b lo hi s M n v) (k : Below B W W') (hb : b < B) (hh : hi ≤ B) : XQs W' b lo hi s M n v := ⟨h.box.keep k hb, h.qm.keep k hh⟩
theorem byts_ct {L M : List Mg} (h : M.map Mg.ct = L.map Mg.ct) (hb : ∀ r ∈ L, byts r.b.L) : ∀ r ∈ M, byts r.b.L := fun r hr => by
  have : r.ct ∈ L.map Mg.ct := by rw [← h]; exact List.mem_map_of_mem hr
  obtain ⟨s, hs, e⟩ := List.mem_map.1 this
  have := congrArg Prod.snd e
  simp only [Mg.ct] at this
  rw [← this]
  exact hb s hs

set_option maxHeartbeats 1000000 in
theorem sq_big (lo hi lo2 hi2 : Nat) (so so2 : Option Addr) (sc sc2 : Nat) (L M : List Mg) (v u : Bool) (w : World) (hL : Ms w lo hi so L) (hM : Ms w lo2 hi2 so2 M) (hs : hi ≤ w.heap.size) (hs2 : hi2 ≤ w.heap.size) (hn : L.length ≤ maxLen) (hm : ∀ r ∈ L, r.b.L.length ≤ maxLen) (hn2 : M.length ≤ maxLen) (hm2 : ∀ r ∈ M, r.b.L.length ≤ maxLen) (h : 1048576 < L.length + mzs L + (M.length + mzs M)) :
    Calls Try.prog 4 #[.agg #[.slice so L.length sc, .bool v], .agg #[.slice so2 M.length sc2, .bool u]] w fun e w' => e = .returned (.bool true) ∧ Below w.heap.size w w' := by
  have SZ := fun w1 (kk : Below w.heap.size w w1) => szQ_any lo hi so sc L v 1048576 w1 (hL.keep kk hs) (by have := kk.size; omega) hn hm (by omega) (by omega)
  by_cases h1 : 1048576 < L.length + mzs L
  · rw [szV_no (by omega)] at SZ
    have SZ' := hideP SZ
    clear SZ hL hM hm hm2 h hn hn2
    go_enter Try.func4, Try.ntmps4
    go_wp2_with fail
    refine Calls.mono (SZ'.out _ (by go_grown)) ?_
    rintro e w1 ⟨rfl, k1⟩
    have K1 : Hid (Below w.heap.size w w1) := hideP (Below.trans (by go_grown) (k1.mono (by simp; omega)))
    clear k1
    go_wp2
    go_returns
    exact ⟨rfl, K1.out⟩
  · rw [szV_yes (by omega)] at SZ
    have SM := fun w1 (kk : Below w.heap.size w w1) => szQ_any lo2 hi2 so2 sc2 M u ((1048576 : Int) - ((L.length + mzs L : Nat) : Int)) w1 (hM.keep kk hs2) (by have := kk.size; omega) hn2 hm2 (by omega) (by omega)
    rw [szV_no (by omega)] at SM
    obtain ⟨z, hz⟩ : ∃ z : Int, (1048576 : Int) - ((L.length + mzs L : Nat) : Int) = z := ⟨_, rfl⟩
    have hz0 : ¬ z < 0 := by omega
    rw [hz] at SZ SM
    have SZ' := hideP SZ
    have SM' := hideP SM
    clear SZ SM hL hM hm hm2 h h1 hn hn2 hz
    go_enter Try.func4, Try.ntmps4
    go_wp2_with fail
    refine Calls.mono (SZ'.out _ (by go_grown)) ?_
    rintro e w1 ⟨rfl, k1⟩
    have K1 : Hid (Below w.heap.size w w1) := hideP (Below.trans (by go_grown) (k1.mono (by simp; omega)))
    have X1 : Hid (Rb w1 (w.heap.size + 1) (.slice so2 M.length sc2) (.bool u)) := hideP (Rb.keep ⟨by simp, by simp, by simp, by simp, by simp⟩ k1 (by simp))
    clear k1
    obtain ⟨p0, p1, p2, p3, p4⟩ := X1.out
    go_wp2_with fail
    clear p0 p1 p2 p3 p4
    refine Calls.mono (SM'.out w1 K1.out) ?_
    rintro e w2 ⟨rfl, k2⟩
    have K2 : Hid (Below w.heap.size w w2) := hideP (K1.out.trans (k2.mono (by have := X1.out.lt; omega)))
    clear k2
    go_wp2
    go_returns
    exact ⟨rfl, K2.out⟩

set_option maxRecDepth 100000 in
set_option maxHeartbeats 8000000 in
theorem sq_small (so so2 : Option Addr) (sc sc2 : Nat) (L M : List Mg) (v u : Bool) (w : World) (hL : Ms w 0 w.heap.size so L) (hM : Ms w 0 w.heap.size so2 M) (hn : L.length ≤ maxLen) (hm : ∀ r ∈ L, r.b.L.length ≤ maxLen) (hn2 : M.length ≤ maxLen) (hm2 : ∀ r ∈ M, r.b.L.length ≤ maxLen) (hb : ∀ r ∈ L, byts r.b.L) (hb2 : ∀ r ∈ M, byts r.b.L) (h : L.length + mzs L + (M.length + mzs M) ≤ 1048576) :
    Calls Try.prog 4 #[.agg #[.slice so L.length sc, .bool v], .agg #[.slice so2 M.length sc2, .bool u]] w fun e w' => e = .returned (.bool true) ∧ Below w.heap.size w w' := by
  have hn1 : L.length + mzs L ≤ 1048576 := by omega
  have hn3 : M.length + mzs M ≤ 1048576 := by omega
  have SZ := fun w1 (kk : Below w.heap.size w w1) => szQ_any 0 w.heap.size so sc L v 1048576 w1 (hL.keep kk (Nat.le_refl _)) (by have := kk.size; omega) hn hm (by omega) (by omega)
  rw [szV_yes (by omega)] at SZ
  have SM := fun w1 (kk : Below w.heap.size w w1) => szQ_any 0 w.heap.size so2 sc2 M u ((1048576 : Int) - ((L.length + mzs L : Nat) : Int)) w1 (hM.keep kk (Nat.le_refl _)) (by have := kk.size; omega) hn2 hm2 (by omega) (by omega)
  rw [szV_yes (by omega)] at SM
  obtain ⟨z, hz⟩ : ∃ z : Int, (1048576 : Int) - ((L.length + mzs L : Nat) : Int) = z := ⟨_, rfl⟩
  obtain ⟨z2, hz2⟩ : ∃ z2 : Int, z - ((M.length + mzs M : Nat) : Int) = z2 := ⟨_, rfl⟩
  have hz0 : ¬ z < 0 := by omega
  have hz1 : ¬ z2 < 0 := by omega
  rw [hz] at SZ SM
  rw [hz2] at SM
  have SZ' := hideP SZ
  have SM' := hideP SM
  have TO := hideP (fun w1 (kk : Below w.heap.size w w1) => toQ_copy 0 w.heap.size so sc L v w1 (hL.keep kk (Nat.le_refl _)) kk.size hn1)
  have TM := hideP (fun w1 (kk : Below w.heap.size w w1) => toQ_copy 0 w.heap.size so2 sc2 M u w1 (hM.keep kk (Nat.le_refl _)) kk.size hn3)
  have SP := fun (A B : List Mg) (la : A.length = L.length) (lb : B.length = M.length) (ca : A.map Mg.ct = L.map Mg.ct) (cb : B.map Mg.ct = M.map Mg.ct) s t W (a1 : Ms W 0 W.heap.size s A) (a2 : Ms W 0 W.heap.size t B) => sSameQ_any 0 W.heap.size 0 W.heap.size s t A.length B.length A B v u W a1 a2 (Nat.le_refl _) (Nat.le_refl _) (by have := mzs_ct ca; omega) (by have := mzs_ct cb; omega) (byts_ct ca hb) (byts_ct cb hb2)
  have IP := fun (A B : List Mg) (la : A.length = L.length) (lb : B.length = M.length) (ca : A.map Mg.ct = L.map Mg.ct) (cb : B.map Mg.ct = M.map Mg.ct) s t W (a1 : Ms W 0 W.heap.size s A) (a2 : Ms W 0 W.heap.size t B) => iSameQ_any 0 W.heap.size 0 W.heap.size s t A.length B.length A B v u W a1 a2 (Nat.le_refl _) (Nat.le_refl _) (by have := mzs_ct ca; omega) (by have := mzs_ct cb; omega)
  obtain ⟨C, hC⟩ : ∃ C, L.map Mg.ct = C := ⟨_, rfl⟩
  obtain ⟨R, hR⟩ : ∃ R, M.map Mg.ct = R := ⟨_, rfl⟩
  obtain ⟨n, hnL⟩ : ∃ n, L.length = n := ⟨_, rfl⟩
  obtain ⟨m, hmL⟩ : ∃ m, M.length = m := ⟨_, rfl⟩
  obtain ⟨zl, hzl⟩ : ∃ zl, mzs L = zl := ⟨_, rfl⟩
  obtain ⟨zm, hzm⟩ : ∃ zm, mzs M = zm := ⟨_, rfl⟩
  obtain ⟨q, hq⟩ : ∃ q, sameQs v u C R = q := ⟨_, rfl⟩
  unfold CopyQ at TO TM
  rw [hnL, hC, hzl] at TO
  rw [hmL, hR, hzm] at TM
  have SP' : Hid (∀ (A B : List Mg), A.length = n → B.length = m → A.map Mg.ct = C → B.map Mg.ct = R → ∀ s t W, Ms W 0 W.heap.size s A → Ms W 0 W.heap.size t B → Calls Try.prog 16 #[.agg #[.slice s n n, .bool v], .agg #[.slice t m m, .bool u]] W fun e w' => e = .returned (.bool q) ∧ Below W.heap.size W w') := hideP (fun A B la lb ca cb s t W a1 a2 => by
    have hh := SP A B (la.trans hnL.symm) (lb.trans hmL.symm) (ca.trans hC.symm) (cb.trans hR.symm) s t W a1 a2
    rw [ca, cb, la, lb, hq] at hh
    exact hh)
  have IP' : Hid (∀ (A B : List Mg), A.length = n → B.length = m → A.map Mg.ct = C → B.map Mg.ct = R → ∀ s t W, Ms W 0 W.heap.size s A → Ms W 0 W.heap.size t B → Calls Try.prog 18 #[.agg #[.slice s n n, .bool v], .agg #[.slice t m m, .bool u]] W fun e w' => e = .returned (.bool q) ∧ Below W.heap.size W w') := hideP (fun A B la lb ca cb s t W a1 a2 => by
    have hh := IP A B (la.trans hnL.symm) (lb.trans hmL.symm) (ca.trans hC.symm) (cb.trans hR.symm) s t W a1 a2
    rw [ca, cb, la, lb, hq] at hh
    exact hh)
  have hqq : (q != q) = false := by simp
  rw [hnL, hzl] at hn1
  rw [hmL, hzm] at hn3
  rw [hnL] at SZ' ⊢
  rw [hmL] at SM' ⊢
  clear SZ SM hL hM hm hm2 hz hz2 hn hn2 hC hR SP IP hq hnL hmL hzl hzm hb hb2 h
  go_enter Try.func4, Try.ntmps4
  go_wp2_with fail
  refine Calls.mono (SZ'.out _ (by go_grown)) ?_
  rintro e w1 ⟨rfl, k1⟩
  have I1 : Hid (In2s w w1 (.slice so n sc) (.bool v) (.slice so2 m sc2) (.bool u)) := hideP ⟨Below.trans (by go_grown) (k1.mono (by simp; omega)), Rb.keep ⟨by simp, by simp, by simp, by simp, by simp; omega⟩ k1 (by simp; omega), Rb.keep ⟨by simp, by simp, by simp, by simp, by simp⟩ k1 (by simp)⟩
  have n1 : w.heap.size + 2 ≤ w1.heap.size := I1.out.D.lt
  clear k1 SZ'
  obtain ⟨d0, d1, d2, d3, d4⟩ := I1.out.D
  go_wp2_with fail
  clear d0 d1 d2 d3 d4
  refine Calls.mono (SM'.out w1 I1.out.K) ?_
  rintro e w2 ⟨rfl, k2⟩
  have I2 := hideP (I1.out.keep k2 n1)
  have n2 := Nat.le_trans n1 k2.size
  clear k2 I1 n1 SM'
  obtain ⟨a0, a1, a2, a3, a4⟩ := I2.out.A
  obtain ⟨d0, d1, d2, d3, d4⟩ := I2.out.D
  go_wp2_with fail
  refine wp_region_takes 5 [0, 2] [1, 3, 4] (by kernel_rfl) (by kernel_rfl) ?_
  simp only [sel, List.filterMap_cons, List.filterMap_nil, List.getElem?_cons_succ, List.getElem?_cons_zero]
  repeat (refine grow_step (by rfl) ?_; apply Exists.intro; refine ⟨fun w1 k1 => ?_, fun K hK => ?_⟩; (focus (have hc := Kept.cell k1; go_simp; first | done | rfl)); (go_simp; refine hK _ ?_; clear hK K))
  refine grow_nil ?_
  clear a0 a1 a2 a3 a4 d0 d1 d2 d3 d4
  refine mades_step (by rfl) fun v1 j1 => ?_
  have jj1 := Kept.below j1
  refine made_calls (by go_simp; first | done | rfl) ((TO.out v1 (I2.out.keep jj1 n2).K).mono ?_)
  rintro e v2 ⟨_, rfl, ⟨sA, MA, rfl, lA, zA, cA, QA⟩, j2⟩
  refine ⟨_, rfl, j2, fun K hK => ?_⟩
  go_simp
  refine hK _ ?_
  clear hK K
  refine mades_step (by rfl) fun v3 j3 => ?_
  have jj3 := Kept.below j3
  have j13 : Below w2.heap.size w2 v3 := jj1.trans ((j2.trans (jj3.mono j2.size)).mono jj1.size)
  refine made_calls (by go_simp; first | done | rfl) ((TM.out v3 (I2.out.keep j13 n2).K).mono ?_)
  rintro e v4 ⟨_, rfl, ⟨sB, MB, rfl, lB, zB, cB, QB⟩, j4⟩
  refine ⟨_, rfl, j4, fun K hK => ?_⟩
  go_simp
  refine hK _ ?_
  clear hK K
  refine mades_step (by rfl) fun v5 j5 => ?_
  have jj5 := Kept.below j5
  have j45 : Below v3.heap.size v3 v5 := j4.trans (jj5.mono j4.size)
  have e1 := jj1.size
  have e2 := j2.size
  have e3 := jj3.size
  have e4 := j4.size
  have e5 := jj5.size
  refine made_calls (by go_simp; first | done | rfl) ((SP'.out MA MB lA lB cA cB sA sB v5 (((QA.ms2.keep jj3 (Nat.le_refl _)).keep j45 (by omega)).wide (Nat.zero_le _) (by omega)) ((QB.ms2.keep jj5 (Nat.le_refl _)).wide (Nat.zero_le _) (by omega))).mono ?_)
  rintro e v6 ⟨rfl, j6⟩
  refine ⟨_, rfl, j6, fun K hK => ?_⟩
  go_simp
  refine hK _ ?_
  clear hK K
  refine mades_nil fun W3 j7 => ?_
  have k7 : Below w2.heap.size w2 W3 := j13.trans ((j45.trans ((j6.trans ((Kept.below j7).mono j6.size)).mono (by omega))).mono (by omega))
  have I3 := hideP (I2.out.keep k7 n2)
  have n3 := Nat.le_trans n2 k7.size
  clear j1 jj1 j2 QA cA j3 jj3 j13 QB cB j4 j5 jj5 j45 j6 j7 k7 I2 n2 e1 e2 e3 e4 e5 lA lB zA zB
  obtain ⟨a0, a1, a2, a3, a4⟩ := I3.out.A
  go_wp2_with fail
  clear a0 a1 a2 a3 a4
  refine Calls.mono (TO.out W3 I3.out.K) ?_
  rintro e w4 ⟨_, rfl, ⟨s4, M4, rfl, l4, z4, c4, Q4⟩, k4⟩
  have ka := kalM w4 (.cells #[.slice s4 n n, .bool v] 40)
  have k5 := k4.trans (ka.mono k4.size)
  have I5 := hideP (I3.out.keep k5 n3)
  have X5 : Hid (XQs (w4.alloc (.cells #[.slice s4 n n, .bool v] 40)) w4.heap.size W3.heap.size w4.heap.size s4 M4 n v) := hideP ⟨⟨by simp, by simp, by simp, by simp, by simp⟩, Q4.keep ka (Nat.le_refl _)⟩
  have n4 := k4.size
  have n5 : w4.heap.size < (w4.alloc (.cells #[.slice s4 n n, .bool v] 40)).heap.size := by simp
  have C4 := hideP c4
  clear ka k4 k5 Q4 I3 c4
  obtain ⟨d0, d1, d2, d3, d4⟩ := I5.out.D
  go_wp2_with fail
  clear d0 d1 d2 d3 d4
  generalize w4.alloc (.cells #[.slice s4 n n, .bool v] 40) = w5 at *
  refine Calls.mono (TM.out w5 I5.out.K) ?_
  rintro e w6 ⟨_, rfl, ⟨s6, M6, rfl, l6, z6, c6, Q6⟩, k6⟩
  have ka := kalM w6 (.cells #[.slice s6 m m, .bool u] 40)
  have k7 := k6.trans (ka.mono k6.size)
  have I7 := hideP (I5.out.keep k7 (by omega))
  have X7 := hideP (X5.out.keep k7 (by omega) (by omega))
  have Y7 : Hid (XQs (w6.alloc (.cells #[.slice s6 m m, .bool u] 40)) w6.heap.size w5.heap.size w6.heap.size s6 M6 m u) := hideP ⟨⟨by simp, by simp, by simp, by simp, by simp⟩, Q6.keep ka (Nat.le_refl _)⟩
  have n6 := k6.size
  have n7 : w6.heap.size < (w6.alloc (.cells #[.slice s6 m m, .bool u] 40)).heap.size := by simp
  have C6 := hideP c6
  clear ka k6 k7 Q6 I5 X5 c6
  obtain ⟨p0, p1, p2, p3, p4⟩ := X7.out.box
  obtain ⟨q0, q1, q2, q3, q4⟩ := Y7.out.box
  go_wp2_with fail
  clear p0 p1 p2 p3 p4 q0 q1 q2 q3 q4
  generalize w6.alloc (.cells #[.slice s6 m m, .bool u] 40) = w7 at *
  refine Calls.mono (IP'.out M4 M6 l4 l6 C4.out C6.out s4 s6 w7 (X7.out.qm.ms2.wide (Nat.zero_le _) (by omega)) (Y7.out.qm.ms2.wide (Nat.zero_le _) (by omega))) ?_
  rintro e w10 ⟨rfl, k10⟩
  have I10 := hideP (I7.out.keep k10 (by omega))
  have X10 := hideP (X7.out.keep k10 (by omega) (by omega))
  have Y10 := hideP (Y7.out.keep k10 (by omega) (by omega))
  have n10 := k10.size
  clear k10 I7 X7 Y7
  obtain ⟨a0, a1, a2, a3, a4⟩ := I10.out.A
  obtain ⟨p0, p1, p2, p3, p4⟩ := X10.out.box
  go_wp2_with fail
  refine wp_region_mades 2 2 (by kernel_rfl) (by kernel_rfl) ?_
  simp only [List.take_succ_cons, List.take_zero, List.drop_succ_cons, List.drop_zero]
  repeat (refine grow_step (by rfl) ?_; apply Exists.intro; refine ⟨fun w1 k1 => ?_, fun K hK => ?_⟩; (focus (have hc := Kept.cell k1; go_simp; first | done | rfl)); (go_simp; refine hK _ ?_; clear hK K))
  refine grow_nil ?_
  clear a0 a1 a2 a3 a4 p0 p1 p2 p3 p4
  refine mades_step (by rfl) fun w11 k11 => ?_
  have kk11 := Kept.below k11
  refine made_calls (by go_simp; first | done | rfl) ((TO.out w11 (I10.out.keep kk11 (by omega)).K).mono ?_)
  rintro e w12 ⟨_, rfl, ⟨s12, M12, rfl, l12, z12, c12, Q12⟩, k12⟩
  refine ⟨_, rfl, k12, fun K hK => ?_⟩
  go_simp
  refine hK _ ?_
  clear hK K
  refine mades_step (by rfl) fun w13 k13 => ?_
  have kk13 := Kept.below k13
  have n11 := kk11.size
  have n12 := k12.size
  have n13 := kk13.size
  have kB : Below w10.heap.size w10 w13 := kk11.trans ((k12.trans (kk13.mono (by omega))).mono (by omega))
  refine made_calls (by go_simp; first | done | rfl) ((eqQ_n n _ _ _ _ s4 s12 n n M4 M12 v w13 l4 l12 (c12.trans C4.out.symm) (X10.out.qm.ms2.keep kB (by omega)) (Q12.ms2.keep kk13 (Nat.le_refl _)) (by omega) (by omega) (by omega)).mono ?_)
  rintro e w14 ⟨rfl, k14⟩
  refine ⟨_, rfl, k14, fun K hK => ?_⟩
  go_simp
  refine hK _ ?_
  clear hK K
  refine mades_nil fun w15 k15 => ?_
  have k15' : Below w10.heap.size w10 w15 := kB.trans ((k14.trans ((Kept.below k15).mono k14.size)).mono (by omega))
  have I15 := hideP (I10.out.keep k15' (by omega))
  have Y15 := hideP (Y10.out.keep k15' (by omega) (by omega))
  have n15 := k15'.size
  clear k11 kk11 k12 Q12 c12 k13 kk13 n11 n12 n13 kB k14 k15 k15' I10 X10 Y10 z12 l12
  obtain ⟨a0, a1, a2, a3, a4⟩ := I15.out.D
  obtain ⟨p0, p1, p2, p3, p4⟩ := Y15.out.box
  go_wp2_with fail
  refine wp_region_mades 2 2 (by kernel_rfl) (by kernel_rfl) ?_
  simp only [List.take_succ_cons, List.take_zero, List.drop_succ_cons, List.drop_zero]
  repeat (refine grow_step (by rfl) ?_; apply Exists.intro; refine ⟨fun w1 k1 => ?_, fun K hK => ?_⟩; (focus (have hc := Kept.cell k1; go_simp; first | done | rfl)); (go_simp; refine hK _ ?_; clear hK K))
  refine grow_nil ?_
  clear a0 a1 a2 a3 a4 p0 p1 p2 p3 p4
  refine mades_step (by rfl) fun w11 k11 => ?_
  have kk11 := Kept.below k11
  refine made_calls (by go_simp; first | done | rfl) ((TM.out w11 (I15.out.keep kk11 (by omega)).K).mono ?_)
  rintro e w12 ⟨_, rfl, ⟨s12, M12, rfl, l12, z12, c12, Q12⟩, k12⟩
  refine ⟨_, rfl, k12, fun K hK => ?_⟩
  go_simp
  refine hK _ ?_
  clear hK K
  refine mades_step (by rfl) fun w13 k13 => ?_
  have kk13 := Kept.below k13
  have n11 := kk11.size
  have n12 := k12.size
  have n13 := kk13.size
  have kB : Below w15.heap.size w15 w13 := kk11.trans ((k12.trans (kk13.mono (by omega))).mono (by omega))
  refine made_calls (by go_simp; first | done | rfl) ((eqQ_n m _ _ _ _ s6 s12 m m M6 M12 u w13 l6 l12 (c12.trans C6.out.symm) (Y15.out.qm.ms2.keep kB (by omega)) (Q12.ms2.keep kk13 (Nat.le_refl _)) (by omega) (by omega) (by omega)).mono ?_)
  rintro e w14 ⟨rfl, k14⟩
  refine ⟨_, rfl, k14, fun K hK => ?_⟩
  go_simp
  refine hK _ ?_
  clear hK K
  refine mades_nil fun w20 k20 => ?_
  have k20' : Below w15.heap.size w15 w20 := kB.trans ((k14.trans ((Kept.below k20).mono k14.size)).mono (by omega))
  have K20 := hideP (I15.out.keep k20' (by omega)).K
  clear k11 kk11 k12 Q12 c12 k13 kk13 n11 n12 n13 kB k14 k20 k20' I15 Y15 z12 l12
  go_wp2
  go_returns
  exact ⟨rfl, K20⟩

theorem same_law (so : Option Addr) (sc : Nat) (L : List Mg) (v : Bool) (so2 : Option Addr) (sc2 : Nat) (M : List Mg) (u : Bool) (w : World) (hn : L.length ≤ maxLen) (hL : Ms w 0 w.heap.size so L) (hm : ∀ r ∈ L, r.b.L.length ≤ maxLen ∧ ∀ n ∈ r.b.L, (Lit.int .u8 n).wf = true)
    (hn2 : M.length ≤ maxLen) (hM : Ms w 0 w.heap.size so2 M) (hm2 : ∀ r ∈ M, r.b.L.length ≤ maxLen ∧ ∀ n ∈ r.b.L, (Lit.int .u8 n).wf = true) :
    Calls Try.prog 4 #[.agg #[.slice so L.length sc, .bool v], .agg #[.slice so2 M.length sc2, .bool u]] w fun e w' => e = .returned (.bool true) ∧ Below w.heap.size w w' := by
  by_cases h : L.length + mzs L + (M.length + mzs M) ≤ 1048576
  · exact sq_small so so2 sc sc2 L M v u w hL hM hn (fun r hr => (hm r hr).1) hn2 (fun r hr => (hm2 r hr).1) (fun r hr => byts_of (hm r hr).2) (fun r hr => byts_of (hm2 r hr).2) h
  · exact sq_big 0 w.heap.size 0 w.heap.size so so2 sc sc2 L M v u w hL hM (Nat.le_refl _) (Nat.le_refl _) hn (fun r hr => (hm r hr).1) hn2 (fun r hr => (hm2 r hr).1) (by omega)
end Go.Proofs.Ytefkngpceeclhab
