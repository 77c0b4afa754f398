/- StackFault: the law's walk. -/
import Derived.Test.YtfklmpfjllonpaaWi7
import Derived.Test.YtfklmpfjllonpaaWi4
namespace Go.Proofs.Ytfklmpfjllonpaa
open Go.RowKit Go.Maps
set_option linter.unusedVariables false

set_option maxHeartbeats 400000 in
theorem stf_big (lo hi : Nat) (so : Option Addr) (sc : Nat) (L : List Wn) (w : World) (hL : Ws w lo hi so L) (hs : hi ≤ w.heap.size) (hn : L.length ≤ maxLen) (hm : ∀ r ∈ L, r.b.L.length ≤ maxLen) (h : 1048576 < L.length + wzs L) :
    Calls Try.prog 5 #[.slice so L.length sc] w fun e w' => e = .returned (.bool true) ∧ Below w.heap.size w w' := by
  have SZ := szWS_any lo hi so sc L 1048576 w hL hs hn hm (by omega) (by omega)
  rw [szV_no (by omega)] at SZ
  have SZ' := hideP SZ
  clear SZ hL hm hn h
  go_enter Try.func5, Try.ntmps5
  go_wp2_with fail
  refine Calls.mono SZ'.out ?_
  rintro e w1 ⟨rfl, k1⟩
  have K1 := hideP k1
  clear k1
  go_wp2
  go_returns
  exact ⟨rfl, K1.out⟩

/-- What is told of copies and of answers, the list's own length behind a name. -/
theorem wq_at {V : Wn → List Value} {w : World} {lo hi : Nat} {s : Option Addr} {M : List Wn} (h : Wq V w lo hi s M) : hi ≤ w.heap.size ∧ lo ≤ hi := ⟨h.hs, h.le⟩

/-- Copies of a stack, in whatever later world. -/
def CopyW (so : Option Addr) (sc n : Nat) (C : List Wc) (z : Nat) (w : World) : Prop :=
  ∀ w1, Below w.heap.size w w1 → Calls Try.prog 36 #[.slice so n sc] w1 fun e w' => ∃ (s : Option Addr) (M : List Wn), e = .returned (.slice s n n) ∧ M.length = n ∧ wzs M = z ∧ M.map Wn.ct = C ∧ Wq Wn.vals w' w1.heap.size w'.heap.size s M ∧ Below w1.heap.size w1 w'
theorem copyW (lo hi : Nat) (so : Option Addr) (sc : Nat) (L : List Wn) (w : World) (hL : Ws w lo hi so L) (hs : hi ≤ w.heap.size) (hn : L.length + wzs L ≤ 1048576) : CopyW so sc L.length (L.map Wn.ct) (wzs L) w := fun w1 k =>
  (toWS_any lo hi so sc L w1 (hL.keep k hs) (Nat.le_trans hs k.size) hn).mono fun e w' ⟨s, M, he, hc, hq, hb⟩ => ⟨s, M, by rw [he, lenW hc], lenW hc, wzs_ct hc, hc, hq, hb⟩
theorem eqW_n (n z : Nat) {C : List Wc} {lo hi lo2 hi2 : Nat} {s t : Option Addr} {c d : Nat} {M N : List Wn} {w : World} (hl : M.length = n) (hz : wzs M = z) (hM : M.map Wn.ct = C) (hN : N.map Wn.ct = C) (h1 : Wq Wn.vals w lo hi s M) (h2 : Wq Wn.vals w lo2 hi2 t N) (hn : n + z ≤ 1048576) :
    Calls Try.prog 37 #[.slice s n c, .slice t n d] w fun e w' => e = .returned (.bool true) ∧ Below w.heap.size w w' := by
  have hh := eqWS_same lo hi lo2 hi2 s t c d M N w (hN.trans hM.symm) h1.ws h2.ws h1.hs h2.hs (by omega)
  have hN' : N.length = n := by rw [← hl]; exact lenW (hN.trans hM.symm)
  rw [hl, hN'] at hh
  exact hh
theorem szW_n {lo hi : Nat} {so : Option Addr} {sc : Nat} {L : List Wn} {w : World} (hL : Ws w lo hi so L) (hs : hi ≤ w.heap.size) (hn : L.length + wzs L ≤ 1048576) :
    Calls Try.prog 35 #[.slice so L.length sc, .int .i64 1048576] w fun e w' => e = .returned (.int .i64 (1048576 - ((L.length + wzs L : Nat) : Int))) ∧ Below w.heap.size w w' := by
  have SZ := szWS_any lo hi so sc L 1048576 w hL hs (by unfold maxLen; omega) (fun r hr => by have := wzs_mem hr; unfold maxLen; omega) (by omega) (by omega)
  rwa [szV_yes (by omega)] at SZ

set_option maxRecDepth 100000 in
set_option maxHeartbeats 2000000 in
theorem stf_small (so : Option Addr) (sc : Nat) (L : List Wn) (w : World) (hL : Ws w 0 w.heap.size so L) (h : L.length + wzs L ≤ 1048576) :
    Calls Try.prog 5 #[.slice so L.length sc] w fun e w' => e = .returned (.bool true) ∧ Below w.heap.size w w' := by
  have SZ := hideP (szW_n (sc := sc) hL (Nat.le_refl _) h)
  have TO := hideP (copyW 0 w.heap.size so sc L w hL (Nat.le_refl _) h)
  have SP := fun (M : List Wn) (hc : M.map Wn.ct = L.map Wn.ct) s W (a1 : Ws W 0 W.heap.size s M) => sStack_any 0 W.heap.size s M.length M W a1 (Nat.le_refl _) (by have := lenW hc; have := wzs_ct hc; omega)
  have IP := fun (M : List Wn) (hc : M.map Wn.ct = L.map Wn.ct) s W (a1 : Ws W 0 W.heap.size s M) => iStack_any 0 W.heap.size s M.length M W a1 (Nat.le_refl _) (by have := lenW hc; have := wzs_ct hc; omega)
  have hln := fun (M : List Wn) (hc : M.map Wn.ct = L.map Wn.ct) => lenW hc
  obtain ⟨n, hnL⟩ : ∃ n, L.length = n := ⟨_, rfl⟩
  obtain ⟨z, hzL⟩ : ∃ z, wzs L = z := ⟨_, rfl⟩
  obtain ⟨C, hC⟩ : ∃ C, L.map Wn.ct = C := ⟨_, rfl⟩
  obtain ⟨F, hF⟩ : ∃ F, stF C = F := ⟨_, rfl⟩
  rw [hnL, hzL, hC] at TO
  rw [hnL, hzL] at SZ h
  rw [hC] at hln
  have SP' : Hid (∀ (M : List Wn), M.map Wn.ct = C → ∀ s W, Ws W 0 W.heap.size s M → Calls Try.prog 20 #[.slice s n n] W fun e w' => e = .returned (.int .i64 F) ∧ Below W.heap.size W w') := hideP (fun M hc s W a1 => by
    have hh := SP M (hc.trans hC.symm) s W a1
    rw [hc, hln M hc, hnL, hF] at hh
    exact hh)
  have IP' : Hid (∀ (M : List Wn), M.map Wn.ct = C → ∀ s W, Ws W 0 W.heap.size s M → Calls Try.prog 17 #[.slice s n n] W fun e w' => e = .returned (.int .i64 F) ∧ Below W.heap.size W w') := hideP (fun M hc s W a1 => by
    have hh := IP M (hc.trans hC.symm) s W a1
    rw [hc, hln M hc, hnL, hF] at hh
    exact hh)
  have hFF : (F != F) = false := by simp
  have hz0 : ¬ (1048576 : Int) - ((n + z : Nat) : Int) < 0 := by omega
  rw [hnL]
  obtain ⟨q, hq⟩ : ∃ q, (1048576 : Int) - ((n + z : Nat) : Int) = q := ⟨_, rfl⟩
  rw [hq] at SZ hz0
  clear SP IP hF hC hzL hnL hL hln hq
  go_enter Try.func5, Try.ntmps5
  go_wp2_with fail
  refine Calls.mono SZ.out ?_
  rintro e w1 ⟨rfl, k1⟩
  have K1 := hideP k1
  clear k1
  go_wp2_with fail
  refine Calls.mono (TO.out w1 K1.out) ?_
  rintro e w2 ⟨s2, M2, rfl, l2, z2, c2, Q2, k2⟩
  have K2 := hideP (K1.out.trans (k2.mono K1.out.size))
  have hs2 := K2.out.size
  clear k2
  go_wp2_with fail
  refine Calls.mono (SP'.out M2 c2 s2 w2 (Q2.ws.wide (Nat.zero_le _) (Nat.le_refl _))) ?_
  rintro e w3 ⟨rfl, k3⟩
  have K3 := hideP (K2.out.trans (k3.mono hs2))
  clear k3 Q2 c2 l2 z2
  go_wp2_with fail
  refine Calls.mono (TO.out w3 K3.out) ?_
  rintro e w4 ⟨s4, M4, rfl, l4, z4, c4, Q4, k4⟩
  have K4 := hideP (K3.out.trans (k4.mono K3.out.size))
  have hs4 := K4.out.size
  have H4 := hideP Q4
  have C4 := hideP c4
  have L4 := hideP l4
  have Z4 := hideP z4
  clear k4 Q4 c4 l4 z4
  go_wp2_with fail
  refine Calls.mono (IP'.out M4 C4.out s4 w4 (H4.out.ws.wide (Nat.zero_le _) (Nat.le_refl _))) ?_
  rintro e w5 ⟨rfl, k5⟩
  have K5 := hideP (K4.out.trans (k5.mono hs4))
  have H5 := hideP (H4.out.keep k5 (Nat.le_refl _))
  have n5 := k5.size
  clear k5 H4
  go_wp2_with fail
  refine Calls.mono (TO.out w5 K5.out) ?_
  rintro e w6 ⟨s6, M6, rfl, l6, z6, c6, Q6, k6⟩
  have K6 := hideP (K5.out.trans (k6.mono K5.out.size))
  have hs6 := K6.out.size
  have EQ := hideP (eqW_n (c := n) (d := n) n z L4.out Z4.out C4.out c6 (H5.out.keep k6 n5) Q6 h)
  clear k6 Q6 c6 l6 z6
  go_wp2_with fail
  refine Calls.mono EQ.out ?_
  rintro e w7 ⟨rfl, k7⟩
  have K7 := hideP (K6.out.trans (k7.mono hs6))
  clear k7
  go_wp2
  go_returns
  exact ⟨rfl, K7.out⟩

theorem stf_law (so : Option Addr) (sc : Nat) (L : List Wn) (w : World) (hn : L.length ≤ maxLen) (hL : Ws w 0 w.heap.size so L) (hm : ∀ r ∈ L, r.b.L.length ≤ maxLen) :
    Calls Try.prog 5 #[.slice so L.length sc] w fun e w' => e = .returned (.bool true) ∧ Below w.heap.size w w' := by
  by_cases h : L.length + wzs L ≤ 1048576
  · exact stf_small so sc L w hL h
  · exact stf_big 0 w.heap.size so sc L w hL (Nat.le_refl _) hn hm (by omega)
end Go.Proofs.Ytfklmpfjllonpaa
