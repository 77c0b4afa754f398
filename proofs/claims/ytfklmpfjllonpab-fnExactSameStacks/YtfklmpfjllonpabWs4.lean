/- SameStacks: the law's walk. -/
import Derived.Test.YtfklmpfjllonpabWs3
import Derived.Test.YtfklmpfjllonpabWiC
namespace Go.Proofs.Ytfklmpfjllonpab
open Go.RowKit
set_option linter.unusedVariables false

set_option maxHeartbeats 800000 in
theorem ss_big (lo hi lo2 hi2 : Nat) (so so2 : Option Addr) (sc sc2 : Nat) (L M : List Wn) (w : World) (hL : Ws w lo hi so L) (hM : Ws w lo2 hi2 so2 M) (hs : hi ≤ w.heap.size) (hs2 : hi2 ≤ w.heap.size) (hn : L.length ≤ maxLen) (hm : ∀ r ∈ L, r.b.L.length ≤ maxLen) (hn2 : M.length ≤ maxLen) (hm2 : ∀ r ∈ M, r.b.L.length ≤ maxLen) (h : 1048576 < L.length + wzs L + (M.length + wzs M)) :
    Calls Try.prog 7 #[.slice so L.length sc, .slice so2 M.length sc2] w fun e w' => e = .returned (.bool true) ∧ Below w.heap.size w w' := by
  have SZ := szWS_any lo hi so sc L 1048576 w hL hs hn hm (by omega) (by omega)
  by_cases h1 : 1048576 < L.length + wzs L
  · rw [szV_no (by omega)] at SZ
    have SZ' := hideP SZ
    clear SZ hL hm hM hm2 hn hn2 h h1
    go_enter Try.func7, Try.ntmps7
    go_wp2_with fail
    refine Calls.mono SZ'.out ?_
    rintro e w1 ⟨rfl, k1⟩
    have K1 := hideP k1
    clear k1
    go_wp2
    go_returns
    exact ⟨rfl, K1.out⟩
  · rw [szV_yes (by omega)] at SZ
    have SM := fun w1 (kk : Below w.heap.size w w1) => szWS_any lo2 hi2 so2 sc2 M ((1048576 : Int) - ((L.length + wzs L : Nat) : Int)) w1 (hM.keep kk hs2) (by have := kk.size; omega) hn2 hm2 (by omega) (by omega)
    rw [szV_no (by omega)] at SM
    obtain ⟨z, hz⟩ : ∃ z : Int, (1048576 : Int) - ((L.length + wzs L : Nat) : Int) = z := ⟨_, rfl⟩
    have hz0 : ¬ z < 0 := by omega
    rw [hz] at SZ SM
    have SZ' := hideP SZ
    have SM' := hideP SM
    clear SZ SM hL hm hM hm2 hn hn2 h h1 hz
    go_enter Try.func7, Try.ntmps7
    go_wp2_with fail
    refine Calls.mono SZ'.out ?_
    rintro e w1 ⟨rfl, k1⟩
    have K1 := hideP k1
    clear k1
    go_wp2_with fail
    refine Calls.mono (SM'.out w1 K1.out) ?_
    rintro e w2 ⟨rfl, k2⟩
    have K2 := hideP (K1.out.trans (k2.mono K1.out.size))
    clear k2
    go_wp2
    go_returns
    exact ⟨rfl, K2.out⟩

set_option maxRecDepth 100000 in
set_option maxHeartbeats 2000000 in
theorem ss_small (so so2 : Option Addr) (sc sc2 : Nat) (L M : List Wn) (w : World) (hL : Ws w 0 w.heap.size so L) (hM : Ws w 0 w.heap.size so2 M) (h : L.length + wzs L + (M.length + wzs M) ≤ 1048576) :
    Calls Try.prog 7 #[.slice so L.length sc, .slice so2 M.length sc2] w fun e w' => e = .returned (.bool true) ∧ Below w.heap.size w w' := by
  have h1 : L.length + wzs L ≤ 1048576 := by omega
  have h2 : M.length + wzs M ≤ 1048576 := by omega
  have SZ := szW_n (sc := sc) hL (Nat.le_refl _) h1
  have SM := fun w1 (kk : Below w.heap.size w w1) => szWS_any 0 w.heap.size so2 sc2 M ((1048576 : Int) - ((L.length + wzs L : Nat) : Int)) w1 (hM.keep kk (Nat.le_refl _)) kk.size (by unfold maxLen; omega) (fun r hr => by have := wzs_mem hr; unfold maxLen; omega) (by omega) (by omega)
  rw [szV_yes (by omega)] at SM
  have TO := copyW 0 w.heap.size so sc L w hL (Nat.le_refl _) h1
  have TM := copyW 0 w.heap.size so2 sc2 M w hM (Nat.le_refl _) h2
  have SP := fun (A B : List Wn) (la : A.length = L.length) (za : wzs A = wzs L) (lb : B.length = M.length) (zb : wzs B = wzs M) (ca : A.map Wn.ct = L.map Wn.ct) (cb : B.map Wn.ct = M.map Wn.ct) s t W (a1 : Ws W 0 W.heap.size s A) (a2 : Ws W 0 W.heap.size t B) => sSameS_any 0 W.heap.size 0 W.heap.size s t A.length B.length A B W a1 a2 (Nat.le_refl _) (Nat.le_refl _) (by omega) (by omega)
  have IP := fun (A B : List Wn) (la : A.length = L.length) (za : wzs A = wzs L) (lb : B.length = M.length) (zb : wzs B = wzs M) (ca : A.map Wn.ct = L.map Wn.ct) (cb : B.map Wn.ct = M.map Wn.ct) s t W (a1 : Ws W 0 W.heap.size s A) (a2 : Ws W 0 W.heap.size t B) => iSameS_any 0 W.heap.size 0 W.heap.size s t A.length B.length A B W a1 a2 (Nat.le_refl _) (Nat.le_refl _) (by omega) (by omega)
  obtain ⟨n, hnL⟩ : ∃ n, L.length = n := ⟨_, rfl⟩
  obtain ⟨z, hzL⟩ : ∃ z, wzs L = z := ⟨_, rfl⟩
  obtain ⟨C, hC⟩ : ∃ C, L.map Wn.ct = C := ⟨_, rfl⟩
  obtain ⟨m, hmL⟩ : ∃ m, M.length = m := ⟨_, rfl⟩
  obtain ⟨y, hyL⟩ : ∃ y, wzs M = y := ⟨_, rfl⟩
  obtain ⟨R, hR⟩ : ∃ R, M.map Wn.ct = R := ⟨_, rfl⟩
  obtain ⟨q, hq⟩ : ∃ q, decide (C = R) = q := ⟨_, rfl⟩
  rw [hnL, hzL, hC] at TO
  rw [hmL, hyL, hR] at TM
  rw [hnL, hzL] at SZ h h1
  rw [hnL, hzL, hmL, hyL] at SM
  rw [hmL, hyL] at h h2
  obtain ⟨u, hu⟩ : ∃ u : Int, (1048576 : Int) - ((n + z : Nat) : Int) = u := ⟨_, rfl⟩
  obtain ⟨v, hv⟩ : ∃ v : Int, u - ((m + y : Nat) : Int) = v := ⟨_, rfl⟩
  have hz0 : ¬ u < 0 := by omega
  have hz1 : ¬ v < 0 := by omega
  rw [hu] at SZ SM
  rw [hv] at SM
  have SP' : Hid (∀ (A B : List Wn), A.length = n → wzs A = z → B.length = m → wzs B = y → A.map Wn.ct = C → B.map Wn.ct = R → ∀ s t W, Ws W 0 W.heap.size s A → Ws W 0 W.heap.size t B → Calls Try.prog 24 #[.slice s n n, .slice t m m] W fun e w' => e = .returned (.bool q) ∧ Below W.heap.size W w') := hideP (fun A B la za lb zb ca cb s t W a1 a2 => by
    have hh := SP A B (la.trans hnL.symm) (za.trans hzL.symm) (lb.trans hmL.symm) (zb.trans hyL.symm) (ca.trans hC.symm) (cb.trans hR.symm) s t W a1 a2
    rw [ca, cb, la, lb, hq] at hh
    exact hh)
  have IP' : Hid (∀ (A B : List Wn), A.length = n → wzs A = z → B.length = m → wzs B = y → A.map Wn.ct = C → B.map Wn.ct = R → ∀ s t W, Ws W 0 W.heap.size s A → Ws W 0 W.heap.size t B → Calls Try.prog 25 #[.slice s n n, .slice t m m] W fun e w' => e = .returned (.bool q) ∧ Below W.heap.size W w') := hideP (fun A B la za lb zb ca cb s t W a1 a2 => by
    have hh := IP A B (la.trans hnL.symm) (za.trans hzL.symm) (lb.trans hmL.symm) (zb.trans hyL.symm) (ca.trans hC.symm) (cb.trans hR.symm) s t W a1 a2
    rw [ca, cb, la, lb, hq] at hh
    exact hh)
  have SZ' := hideP SZ
  have SM' := hideP SM
  have TO' := hideP TO
  have TM' := hideP TM
  have hqq : (q != q) = false := by simp
  rw [hnL, hmL]
  clear SP IP hq hC hzL hnL hL hM hmL hyL hR SZ SM TO TM hu hv
  go_enter Try.func7, Try.ntmps7
  go_wp2_with fail
  refine Calls.mono SZ'.out ?_
  rintro e w1 ⟨rfl, k1⟩
  have K1 := hideP k1
  clear k1
  go_wp2_with fail
  refine Calls.mono (SM'.out w1 K1.out) ?_
  rintro e w2 ⟨rfl, k2⟩
  have K2 := hideP (K1.out.trans (k2.mono K1.out.size))
  clear k2 SZ' SM'
  go_wp2_with fail
  refine Calls.mono (TO'.out w2 K2.out) ?_
  rintro e w3 ⟨s3, M3, rfl, l3, z3, c3, Q3, k3⟩
  have K3 := hideP (K2.out.trans (k3.mono K2.out.size))
  have H3 := hideP Q3
  have C3 := hideP c3
  have L3 := hideP l3
  have Z3 := hideP z3
  clear k3 Q3 c3 l3 z3
  go_wp2_with fail
  refine Calls.mono (TM'.out w3 K3.out) ?_
  rintro e w4 ⟨s4, M4, rfl, l4, z4, c4, Q4, k4⟩
  have K4 := hideP (K3.out.trans (k4.mono K3.out.size))
  have hs4 := K4.out.size
  have SC := hideP (SP'.out M3 M4 L3.out Z3.out l4 z4 C3.out c4 s3 s4 w4 ((H3.out.keep k4 (Nat.le_refl _)).ws.wide (Nat.zero_le _) k4.size) (Q4.ws.wide (Nat.zero_le _) (Nat.le_refl _)))
  clear k4 Q4 c4 l4 z4 H3 C3 L3 Z3
  go_wp2_with fail
  refine Calls.mono SC.out ?_
  rintro e w5 ⟨rfl, k5⟩
  have K5 := hideP (K4.out.trans (k5.mono hs4))
  clear k5 SC
  go_wp2_with fail
  refine Calls.mono (TO'.out w5 K5.out) ?_
  rintro e w6 ⟨s6, M6, rfl, l6, z6, c6, Q6, k6⟩
  have K6 := hideP (K5.out.trans (k6.mono K5.out.size))
  have H6 := hideP Q6
  have C6 := hideP c6
  have L6 := hideP l6
  have Z6 := hideP z6
  clear k6 Q6 c6 l6 z6
  go_wp2_with fail
  refine Calls.mono (TM'.out w6 K6.out) ?_
  rintro e w7 ⟨s7, M7, rfl, l7, z7, c7, Q7, k7⟩
  have K7 := hideP (K6.out.trans (k7.mono K6.out.size))
  have H6b := hideP (H6.out.keep k7 (Nat.le_refl _))
  have n7 := k7.size
  have hs7 := K7.out.size
  have H7 := hideP Q7
  have C7 := hideP c7
  have L7 := hideP l7
  have Z7 := hideP z7
  clear k7 Q7 c7 l7 z7 H6
  have SC := hideP (IP'.out M6 M7 L6.out Z6.out L7.out Z7.out C6.out C7.out s6 s7 w7 (H6b.out.ws.wide (Nat.zero_le _) n7) (H7.out.ws.wide (Nat.zero_le _) (Nat.le_refl _)))
  go_wp2_with fail
  refine Calls.mono SC.out ?_
  rintro e w8 ⟨rfl, k8⟩
  have K8 := hideP (K7.out.trans (k8.mono hs7))
  have H6c := hideP (H6b.out.keep k8 n7)
  have H7c := hideP (H7.out.keep k8 (Nat.le_refl _))
  have n8 := k8.size
  have hs8 := K8.out.size
  clear k8 SC H6b H7
  cases q
  all_goals
    go_wp2_with fail
    refine Calls.mono (TO'.out w8 K8.out) ?_
    rintro e w9 ⟨s9, M9, rfl, l9, z9, c9, Q9, k9⟩
    have K9 := hideP (K8.out.trans (k9.mono hs8))
    have EQ := hideP (eqW_n (c := n) (d := n) n z L6.out Z6.out C6.out c9 (H6c.out.keep k9 (by omega)) Q9 h1)
    have H7d := hideP (H7c.out.keep k9 (by omega))
    have n9 := k9.size
    have hs9 := K9.out.size
    clear k9 Q9 c9 l9 z9
    go_wp2_with fail
    refine Calls.mono EQ.out ?_
    rintro e w10 ⟨rfl, k10⟩
    have K10 := hideP (K9.out.trans (k10.mono hs9))
    have H7e := hideP (H7d.out.keep k10 (by omega))
    have n10 := k10.size
    have hs10 := K10.out.size
    clear k10 EQ
    go_wp2_with fail
    refine Calls.mono (TM'.out w10 K10.out) ?_
    rintro e w11 ⟨s11, M11, rfl, l11, z11, c11, Q11, k11⟩
    have K11 := hideP (K10.out.trans (k11.mono hs10))
    have EQ := hideP (eqW_n (c := m) (d := m) m y L7.out Z7.out C7.out c11 (H7e.out.keep k11 (by omega)) Q11 h2)
    have hs11 := K11.out.size
    clear k11 Q11 c11 l11 z11
    go_wp2_with fail
    refine Calls.mono EQ.out ?_
    rintro e w12 ⟨rfl, k12⟩
    have K12 := hideP (K11.out.trans (k12.mono hs11))
    clear k12 EQ
    go_wp2
    go_returns
    exact ⟨rfl, K12.out⟩

theorem ss_law (so : Option Addr) (sc : Nat) (L : List Wn) (so2 : Option Addr) (sc2 : Nat) (M : List Wn) (w : World) (hn : L.length ≤ maxLen) (hL : Ws w 0 w.heap.size so L) (hm : ∀ r ∈ L, r.b.L.length ≤ maxLen) (hn2 : M.length ≤ maxLen) (hM : Ws w 0 w.heap.size so2 M) (hm2 : ∀ r ∈ M, r.b.L.length ≤ maxLen) :
    Calls Try.prog 7 #[.slice so L.length sc, .slice so2 M.length sc2] w fun e w' => e = .returned (.bool true) ∧ Below w.heap.size w w' := by
  by_cases h : L.length + wzs L + (M.length + wzs M) ≤ 1048576
  · exact ss_small so so2 sc sc2 L M w hL hM h
  · exact ss_big 0 w.heap.size 0 w.heap.size so so2 sc sc2 L M w hL hM (Nat.le_refl _) (Nat.le_refl _) hn hm hn2 hm2 (by omega)
end Go.Proofs.Ytfklmpfjllonpab
