/- InputFault and LoseFocus: the laws' walks. -/
import Derived.Test.YtoipcnpemmajaaaRr26
import Derived.Test.YtoipcnpemmajaaaRr24
namespace Go.Proofs.Ytoipcnpemmajaaa
open Go.RowKit Go.Maps
set_option linter.unusedVariables false

set_option maxHeartbeats 400000 in
theorem toInput_any (t : Bool) (f : Int) (w : World) : Calls Try.prog 27 #[.agg #[.bool t, .int .i64 f]] w fun e w' => e = .returned (.agg #[.bool t, .int .i64 f]) ∧ Below w.heap.size w w' := by
  go_enter Try.func27, Try.ntmps27
  go_wp2
  go_returns
  refine ⟨rfl, ?_⟩
  repeat' (first | (with_reducible exact Below.refl _ _) | (with_reducible refine kept_below ?_ (by assumption) ?_) | (with_reducible refine Below.alloc ?_ ?_ _) | (with_reducible refine Below.drew ?_) | (with_reducible refine Below.setCell ?_ ?_ _) | go_size)

set_option maxHeartbeats 400000 in
theorem eqInput_same (t : Bool) (f : Int) (w : World) : Calls Try.prog 34 #[.agg #[.bool t, .int .i64 f], .agg #[.bool t, .int .i64 f]] w fun e w' => e = .returned (.bool true) ∧ Below w.heap.size w w' := by
  have e1 : (t != t) = false := by simp
  have e2 : (f != f) = false := by simp
  go_enter Try.func34, Try.ntmps34
  go_wp2
  go_returns
  exact ⟨rfl, by go_grown⟩

set_option maxHeartbeats 400000 in
theorem big_InputFault (t : Bool) (f : Int) (so : Option Addr) (sc : Nat) (L : List Wn) (w : World) (hL : Ws w 0 w.heap.size so L) (hn : L.length ≤ maxLen) (hm : ∀ r ∈ L, r.b.L.length ≤ maxLen) (h : 1048576 < L.length + wzs L) :
    Calls Try.prog 7 #[.agg #[.bool t, .int .i64 f], .slice so L.length sc] w fun e w' => e = .returned (.bool true) ∧ Below w.heap.size w w' := by
  have SZ := fun w1 (kk : Below w.heap.size w w1) => szWS_any 0 w.heap.size so sc L 1048576 w1 (hL.keep kk (Nat.le_refl _)) kk.size hn hm (by omega) (by omega)
  rw [szV_no (by omega)] at SZ
  have SZ' := hideP SZ
  clear SZ hL hm hn h
  go_enter Try.func7, Try.ntmps7
  go_wp2_with fail
  refine Calls.mono (SZ'.out _ (by go_grown)) ?_
  rintro e w1 ⟨rfl, k1⟩
  have K1 : Hid (Below w.heap.size w w1) := hideP (Below.trans (by go_grown) (k1.mono (by simp)))
  clear k1
  go_wp2
  go_returns
  exact ⟨rfl, K1.out⟩

set_option maxRecDepth 100000 in
set_option maxHeartbeats 4000000 in
theorem small_InputFault (t : Bool) (f : Int) (so : Option Addr) (sc : Nat) (L : List Wn) (w : World) (hL : Ws w 0 w.heap.size so L) (h : L.length + wzs L ≤ 1048576) :
    Calls Try.prog 7 #[.agg #[.bool t, .int .i64 f], .slice so L.length sc] w fun e w' => e = .returned (.bool true) ∧ Below w.heap.size w w' := by
  have SZ := fun w1 (kk : Below w.heap.size w w1) => szW_n (sc := sc) (hL.keep kk (Nat.le_refl _)) kk.size h
  have TO := hideP (copyW 0 w.heap.size so sc L w hL (Nat.le_refl _) h)
  have SP := fun (M : List Wn) (hc : M.map Wn.ct = L.map Wn.ct) s W (a1 : Ws W 0 W.heap.size s M) => sInput_any 0 W.heap.size t f s M.length M W a1 (Nat.le_refl _) (by have := lenW hc; have := wzs_ct hc; omega)
  have IP := fun (M : List Wn) (hc : M.map Wn.ct = L.map Wn.ct) s W (a1 : Ws W 0 W.heap.size s M) => iInput_any 0 W.heap.size t f s M.length M W a1 (Nat.le_refl _) (by have := lenW hc; have := wzs_ct hc; omega)
  have hln := fun (M : List Wn) (hc : M.map Wn.ct = L.map Wn.ct) => lenW hc
  obtain ⟨n, hnL⟩ : ∃ n, L.length = n := ⟨_, rfl⟩
  obtain ⟨z, hzL⟩ : ∃ z, wzs L = z := ⟨_, rfl⟩
  obtain ⟨C, hC⟩ : ∃ C, L.map Wn.ct = C := ⟨_, rfl⟩
  obtain ⟨F, hF⟩ : ∃ F, inpF C f = F := ⟨_, rfl⟩
  rw [hnL, hzL, hC] at TO
  rw [hnL, hzL] at SZ h
  rw [hC] at hln
  have SP' : Hid (∀ (M : List Wn), M.map Wn.ct = C → ∀ s W, Ws W 0 W.heap.size s M → Calls Try.prog 16 #[.agg #[.bool t, .int .i64 f], .slice s n n] W fun e w' => e = .returned (.int .i64 F) ∧ Below W.heap.size W w') := hideP (fun M hc s W a1 => by
    have hh := SP M (hc.trans hC.symm) s W a1
    rw [hc, hln M hc, hnL, hF] at hh
    exact hh)
  have IP' : Hid (∀ (M : List Wn), M.map Wn.ct = C → ∀ s W, Ws W 0 W.heap.size s M → Calls Try.prog 15 #[.agg #[.bool t, .int .i64 f], .slice s n n] W fun e w' => e = .returned (.int .i64 F) ∧ Below W.heap.size W w') := hideP (fun M hc s W a1 => by
    have hh := IP M (hc.trans hC.symm) s W a1
    rw [hc, hln M hc, hnL, hF] at hh
    exact hh)
  have hFF : (F != F) = false := by simp
  have hz0 : ¬ (1048576 : Int) - ((n + z : Nat) : Int) < 0 := by omega
  rw [hnL]
  obtain ⟨q, hq⟩ : ∃ q, (1048576 : Int) - ((n + z : Nat) : Int) = q := ⟨_, rfl⟩
  rw [hq] at SZ hz0
  have SZ' := hideP SZ
  clear SP IP hF hC hzL hnL hL hln hq SZ
  go_enter Try.func7, Try.ntmps7
  go_wp2_with fail
  refine Calls.mono (SZ'.out _ (by go_grown)) ?_
  rintro e w1 ⟨rfl, k1⟩
  have K1 : Hid (Below w.heap.size w w1) := hideP (Below.trans (by go_grown) (k1.mono (by simp)))
  have B1 := hideP ((i2_new w t f 55).keep k1 (by simp))
  clear k1 SZ'
  obtain ⟨b0, b1, b2⟩ := B1.out
  go_wp2_with fail
  clear b0 b1 b2
  refine Calls.mono (toInput_any t f w1) ?_
  rintro e w2 ⟨rfl, k2⟩
  have K2 := hideP (K1.out.trans (k2.mono K1.out.size))
  have B2 := hideP (B1.out.keep k2 B1.out.lt)
  clear k2 K1 B1
  go_wp2_with fail
  refine Calls.mono (TO.out w2 K2.out) ?_
  rintro e w3 ⟨s3, M3, rfl, l3, z3, c3, Q3, k3⟩
  have K3 := hideP (K2.out.trans (k3.mono K2.out.size))
  have B3 := hideP (B2.out.keep k3 B2.out.lt)
  clear k3 K2 B2
  go_wp2_with fail
  refine Calls.mono (SP'.out M3 c3 s3 w3 (Q3.ws.wide (Nat.zero_le _) (Nat.le_refl _))) ?_
  rintro e w4 ⟨rfl, k4⟩
  have K4 := hideP (K3.out.trans (k4.mono K3.out.size))
  have B4 := hideP (B3.out.keep k4 B3.out.lt)
  clear k4 Q3 c3 l3 z3 K3 B3
  go_wp2_with fail
  refine Calls.mono (TO.out w4 K4.out) ?_
  rintro e w6 ⟨s6, M6, rfl, l6, z6, c6, Q6, k6⟩
  have C6 := hideP c6
  have L6 := hideP l6
  have Z6 := hideP z6
  have K6 := hideP (K4.out.trans (k6.mono K4.out.size))
  have B6 := hideP (B4.out.keep k6 B4.out.lt)
  clear K4 B4 k6
  have H6 := hideP Q6
  clear Q6 c6 l6 z6
  obtain ⟨b0, b1, b2⟩ := B6.out
  go_wp2_with fail
  clear b0 b1 b2
  refine Calls.mono (toInput_any t f w6) ?_
  rintro e w7 ⟨rfl, k7⟩
  have K7 := hideP (K6.out.trans (k7.mono K6.out.size))
  have B7 := hideP (B6.out.keep k7 B6.out.lt)
  have H7 := hideP (H6.out.keep k7 H6.out.hs)
  clear K6 B6 H6 k7
  go_wp2_with fail
  refine Calls.mono (IP'.out M6 C6.out s6 w7 (H7.out.ws.wide (Nat.zero_le _) H7.out.hs)) ?_
  rintro e w8 ⟨rfl, k8⟩
  have K8 := hideP (K7.out.trans (k8.mono K7.out.size))
  have B8 := hideP (B7.out.keep k8 B7.out.lt)
  have H8 := hideP (H7.out.keep k8 H7.out.hs)
  clear K7 B7 H7 k8
  go_wp2_with fail
  refine Calls.mono (TO.out w8 K8.out) ?_
  rintro e w11 ⟨s11, M11, rfl, l11, z11, c11, Q11, k11⟩
  have K11 := hideP (K8.out.trans (k11.mono K8.out.size))
  have H11 := hideP (H8.out.keep k11 H8.out.hs)
  clear K8 H8 k11
  have EQ := hideP (eqW_n (c := n) (d := n) n z L6.out Z6.out C6.out c11 H11.out Q11 h)
  go_wp2_with fail
  refine Calls.mono EQ.out ?_
  rintro e w12 ⟨rfl, k12⟩
  have K12 := hideP (K11.out.trans (k12.mono K11.out.size))
  clear K11 k12
  go_wp2
  go_returns
  exact ⟨rfl, K12.out⟩

theorem law_InputFault (t : Bool) (f : Int) (so : Option Addr) (sc : Nat) (L : List Wn) (w : World) (hn : L.length ≤ maxLen) (hL : Ws w 0 w.heap.size so L) (hm : ∀ r ∈ L, r.b.L.length ≤ maxLen) :
    Calls Try.prog 7 #[.agg #[.bool t, .int .i64 f], .slice so L.length sc] w fun e w' => e = .returned (.bool true) ∧ Below w.heap.size w w' := by
  by_cases h : L.length + wzs L ≤ 1048576
  · exact small_InputFault t f so sc L w hL h
  · exact big_InputFault t f so sc L w hL hn hm (by omega)

theorem kalI (w : World) (t : Bool) (f : Int) : Below w.heap.size w (w.alloc (.cells #[.bool t, .int .i64 f] 25)) := Below.alloc (Below.refl _ _) (Nat.le_refl _) _

set_option maxHeartbeats 400000 in
theorem big_LoseFocus (t : Bool) (f : Int) (so : Option Addr) (sc : Nat) (L : List Wn) (w : World) (hL : Ws w 0 w.heap.size so L) (hn : L.length ≤ maxLen) (hm : ∀ r ∈ L, r.b.L.length ≤ maxLen) (h : 1048576 < L.length + wzs L) :
    Calls Try.prog 8 #[.agg #[.bool t, .int .i64 f], .slice so L.length sc] w fun e w' => e = .returned (.bool true) ∧ Below w.heap.size w w' := by
  have SZ := fun w1 (kk : Below w.heap.size w w1) => szWS_any 0 w.heap.size so sc L 1048576 w1 (hL.keep kk (Nat.le_refl _)) kk.size hn hm (by omega) (by omega)
  rw [szV_no (by omega)] at SZ
  have SZ' := hideP SZ
  clear SZ hL hm hn h
  go_enter Try.func8, Try.ntmps8
  go_wp2_with fail
  refine Calls.mono (SZ'.out _ (by go_grown)) ?_
  rintro e w1 ⟨rfl, k1⟩
  have K1 : Hid (Below w.heap.size w w1) := hideP (Below.trans (by go_grown) (k1.mono (by simp)))
  clear k1
  go_wp2
  go_returns
  exact ⟨rfl, K1.out⟩

set_option maxRecDepth 100000 in
set_option maxHeartbeats 4000000 in
theorem small_LoseFocus (t : Bool) (f : Int) (so : Option Addr) (sc : Nat) (L : List Wn) (w : World) (hL : Ws w 0 w.heap.size so L) (h : L.length + wzs L ≤ 1048576) :
    Calls Try.prog 8 #[.agg #[.bool t, .int .i64 f], .slice so L.length sc] w fun e w' => e = .returned (.bool true) ∧ Below w.heap.size w w' := by
  have SZ := fun w1 (kk : Below w.heap.size w w1) => szW_n (sc := sc) (hL.keep kk (Nat.le_refl _)) kk.size h
  have TO := hideP (copyW 0 w.heap.size so sc L w hL (Nat.le_refl _) h)
  have SP := fun (M : List Wn) (hc : M.map Wn.ct = L.map Wn.ct) s W (a1 : Ws W 0 W.heap.size s M) => sLose_any 0 W.heap.size t f s M.length M W a1 (Nat.le_refl _) (by have := lenW hc; have := wzs_ct hc; omega)
  have IP := fun (M : List Wn) (hc : M.map Wn.ct = L.map Wn.ct) s W (a1 : Ws W 0 W.heap.size s M) => iLose_any 0 W.heap.size t f s M.length M W a1 (Nat.le_refl _) (by have := lenW hc; have := wzs_ct hc; omega)
  have hln := fun (M : List Wn) (hc : M.map Wn.ct = L.map Wn.ct) => lenW hc
  obtain ⟨n, hnL⟩ : ∃ n, L.length = n := ⟨_, rfl⟩
  obtain ⟨z, hzL⟩ : ∃ z, wzs L = z := ⟨_, rfl⟩
  obtain ⟨C, hC⟩ : ∃ C, L.map Wn.ct = C := ⟨_, rfl⟩
  obtain ⟨F, hF⟩ : ∃ F, loseF C f = F := ⟨_, rfl⟩
  rw [hnL, hzL, hC] at TO
  rw [hnL, hzL] at SZ h
  rw [hC] at hln
  have SP' : Hid (∀ (M : List Wn), M.map Wn.ct = C → ∀ s W, Ws W 0 W.heap.size s M → Calls Try.prog 14 #[.agg #[.bool t, .int .i64 f], .slice s n n] W fun e w' => e = .returned (.agg #[.bool t, .int .i64 F]) ∧ Below W.heap.size W w') := hideP (fun M hc s W a1 => by
    have hh := SP M (hc.trans hC.symm) s W a1
    rw [hc, hln M hc, hnL, hF] at hh
    exact hh)
  have IP' : Hid (∀ (M : List Wn), M.map Wn.ct = C → ∀ s W, Ws W 0 W.heap.size s M → Calls Try.prog 13 #[.agg #[.bool t, .int .i64 f], .slice s n n] W fun e w' => e = .returned (.agg #[.bool t, .int .i64 F]) ∧ Below W.heap.size W w') := hideP (fun M hc s W a1 => by
    have hh := IP M (hc.trans hC.symm) s W a1
    rw [hc, hln M hc, hnL, hF] at hh
    exact hh)
  have hFF : (F != F) = false := by simp
  have hz0 : ¬ (1048576 : Int) - ((n + z : Nat) : Int) < 0 := by omega
  rw [hnL]
  obtain ⟨q, hq⟩ : ∃ q, (1048576 : Int) - ((n + z : Nat) : Int) = q := ⟨_, rfl⟩
  rw [hq] at SZ hz0
  have SZ' := hideP SZ
  clear SP IP hF hC hzL hnL hL hln hq SZ
  go_enter Try.func8, Try.ntmps8
  go_wp2_with fail
  refine Calls.mono (SZ'.out _ (by go_grown)) ?_
  rintro e w1 ⟨rfl, k1⟩
  have K1 : Hid (Below w.heap.size w w1) := hideP (Below.trans (by go_grown) (k1.mono (by simp)))
  have B1 := hideP ((i2_new w t f 55).keep k1 (by simp))
  clear k1 SZ'
  obtain ⟨b0, b1, b2⟩ := B1.out
  go_wp2_with fail
  clear b0 b1 b2
  refine Calls.mono (toInput_any t f w1) ?_
  rintro e w2 ⟨rfl, k2⟩
  have K2 := hideP (K1.out.trans (k2.mono K1.out.size))
  have B2 := hideP (B1.out.keep k2 B1.out.lt)
  clear k2 K1 B1
  go_wp2_with fail
  refine Calls.mono (TO.out w2 K2.out) ?_
  rintro e w3 ⟨s3, M3, rfl, l3, z3, c3, Q3, k3⟩
  have K3 := hideP (K2.out.trans (k3.mono K2.out.size))
  have B3 := hideP (B2.out.keep k3 B2.out.lt)
  clear k3 K2 B2
  go_wp2_with fail
  refine Calls.mono (SP'.out M3 c3 s3 w3 (Q3.ws.wide (Nat.zero_le _) (Nat.le_refl _))) ?_
  rintro e w4 ⟨rfl, k4⟩
  have K4 := hideP (K3.out.trans (k4.mono K3.out.size))
  have B4 := hideP (B3.out.keep k4 B3.out.lt)
  clear k4 Q3 c3 l3 z3 K3 B3
  go_wp2_with fail
  have ka := kalI w4 t F
  have K5 := hideP (K4.out.trans (ka.mono K4.out.size))
  have B5 := hideP (B4.out.keep ka B4.out.lt)
  have R5 := hideP (i2_new w4 t F 25)
  clear ka K4 B4
  generalize w4.alloc (.cells #[.bool t, .int .i64 F] 25) = w5 at *
  generalize w4.heap.size = r5 at *
  refine Calls.mono (TO.out w5 K5.out) ?_
  rintro e w6 ⟨s6, M6, rfl, l6, z6, c6, Q6, k6⟩
  have C6 := hideP c6
  have L6 := hideP l6
  have Z6 := hideP z6
  have K6 := hideP (K5.out.trans (k6.mono K5.out.size))
  have B6 := hideP (B5.out.keep k6 B5.out.lt)
  have R6 := hideP (R5.out.keep k6 R5.out.lt)
  clear K5 B5 R5 k6
  have H6 := hideP Q6
  clear Q6 c6 l6 z6
  obtain ⟨b0, b1, b2⟩ := B6.out
  go_wp2_with fail
  clear b0 b1 b2
  refine Calls.mono (toInput_any t f w6) ?_
  rintro e w7 ⟨rfl, k7⟩
  have K7 := hideP (K6.out.trans (k7.mono K6.out.size))
  have B7 := hideP (B6.out.keep k7 B6.out.lt)
  have R7 := hideP (R6.out.keep k7 R6.out.lt)
  have H7 := hideP (H6.out.keep k7 H6.out.hs)
  clear K6 B6 R6 H6 k7
  go_wp2_with fail
  refine Calls.mono (IP'.out M6 C6.out s6 w7 (H7.out.ws.wide (Nat.zero_le _) H7.out.hs)) ?_
  rintro e w8 ⟨rfl, k8⟩
  have K8 := hideP (K7.out.trans (k8.mono K7.out.size))
  have B8 := hideP (B7.out.keep k8 B7.out.lt)
  have R8 := hideP (R7.out.keep k8 R7.out.lt)
  have H8 := hideP (H7.out.keep k8 H7.out.hs)
  clear K7 B7 R7 H7 k8
  obtain ⟨p0, p1, p2⟩ := R8.out
  go_wp2_with fail
  clear p0 p1 p2
  have k9 := kalI w8 t F
  have K9 := hideP (K8.out.trans (k9.mono K8.out.size))
  have B9 := hideP (B8.out.keep k9 B8.out.lt)
  have R9 := hideP (R8.out.keep k9 R8.out.lt)
  have H9 := hideP (H8.out.keep k9 H8.out.hs)
  clear K8 B8 R8 H8 k9
  clear B9 R9
  generalize w8.alloc (.cells #[.bool t, .int .i64 F] 25) = w9 at *
  refine Calls.mono (eqInput_same t F w9) ?_
  rintro e w10 ⟨rfl, k10⟩
  have K10 := hideP (K9.out.trans (k10.mono K9.out.size))
  have H10 := hideP (H9.out.keep k10 H9.out.hs)
  clear K9 H9 k10
  go_wp2_with fail
  refine Calls.mono (TO.out w10 K10.out) ?_
  rintro e w11 ⟨s11, M11, rfl, l11, z11, c11, Q11, k11⟩
  have K11 := hideP (K10.out.trans (k11.mono K10.out.size))
  have H11 := hideP (H10.out.keep k11 H10.out.hs)
  clear K10 H10 k11
  have EQ := hideP (eqW_n (c := n) (d := n) n z L6.out Z6.out C6.out c11 H11.out Q11 h)
  go_wp2_with fail
  refine Calls.mono EQ.out ?_
  rintro e w12 ⟨rfl, k12⟩
  have K12 := hideP (K11.out.trans (k12.mono K11.out.size))
  clear K11 k12
  go_wp2
  go_returns
  exact ⟨rfl, K12.out⟩

theorem law_LoseFocus (t : Bool) (f : Int) (so : Option Addr) (sc : Nat) (L : List Wn) (w : World) (hn : L.length ≤ maxLen) (hL : Ws w 0 w.heap.size so L) (hm : ∀ r ∈ L, r.b.L.length ≤ maxLen) :
    Calls Try.prog 8 #[.agg #[.bool t, .int .i64 f], .slice so L.length sc] w fun e w' => e = .returned (.bool true) ∧ Below w.heap.size w w' := by
  by_cases h : L.length + wzs L ≤ 1048576
  · exact small_LoseFocus t f so sc L w hL h
  · exact big_LoseFocus t f so sc L w hL hn hm (by omega)
end Go.Proofs.Ytoipcnpemmajaaa
