/- PointOf: the law's walk. FnFills: what its walk carries along. -/
import Derived.Test.YtclfobpmafkgfaaV23
import Derived.Test.YtclfobpmafkgfaaV26
import Derived.Test.YtclfobpmafkgfaaV6
import Derived.Test.YtclfobpmafkgfaaV24
import Derived.Test.YtclfobpmafkgfaaV25
import Derived.Test.YtclfobpmafkgfaaV43
import Derived.Test.YtclfobpmafkgfaaV1
namespace Go.Proofs.Ytclfobpmafkgfaa
open Go.RowKit Go.Maps
set_option linter.unusedVariables false

theorem rb_newT (w : World) (v0 v1 : Value) (T : TypeId) : Rb (w.alloc (.cells #[v0, v1] T)) w.heap.size v0 v1 := ⟨by simp, by simp, by simp, by simp, by simp⟩

set_option maxHeartbeats 400000 in
theorem point_big (so : Option Addr) (sc : Nat) (L : List Wn) (id a b : Int) (w : World) (hL : Ws w 0 w.heap.size so L) (hn : L.length ≤ maxLen) (hm : ∀ r ∈ L, r.b.L.length ≤ maxLen) (h : 1048576 < L.length + wzs L) :
    Calls Try.prog 7 #[.slice so L.length sc, .int .i64 id, .int .i64 a, .int .i64 b] w fun e w' => e = .returned (.bool true) ∧ Below w.heap.size w w' := by
  have SZ := szWS_any 0 w.heap.size so sc L 1048576 w hL (Nat.le_refl _) hn hm (by omega) (by omega)
  rw [szV_no (by omega)] at SZ
  have SZ' := hideP SZ
  clear SZ hL hm hn h
  go_enter Try.func7, Try.ntmps7
  go_wp2_with fail
  refine Calls.mono SZ'.out ?_
  rintro e w1 ⟨rfl, k1⟩
  have K1 := hideP k1
  clear k1
  go_wp2
  go_returns
  exact ⟨rfl, K1.out⟩

set_option maxRecDepth 100000 in
set_option maxHeartbeats 2000000 in
theorem point_small (so : Option Addr) (sc : Nat) (L : List Wn) (id a b : Int) (w : World) (hL : Ws w 0 w.heap.size so L) (h : L.length + wzs L ≤ 1048576) :
    Calls Try.prog 7 #[.slice so L.length sc, .int .i64 id, .int .i64 a, .int .i64 b] w fun e w' => e = .returned (.bool true) ∧ Below w.heap.size w w' := by
  have SZ := hideP (szW_n (sc := sc) hL (Nat.le_refl _) h)
  have TO := hideP (copyW 0 w.heap.size so sc L w hL (Nat.le_refl _) h)
  have SP := fun (M : List Wn) (hc : M.map Wn.ct = L.map Wn.ct) s W (a1 : Ws W 0 W.heap.size s M) => sPoint_any 0 W.heap.size s M.length M id a b W a1 (Nat.le_refl _) (by have := lenW hc; have := wzs_ct hc; omega)
  have IP := fun (M : List Wn) (hc : M.map Wn.ct = L.map Wn.ct) s W (a1 : Ws W 0 W.heap.size s M) => iPoint_any 0 W.heap.size s M.length M id a b W a1 (Nat.le_refl _) (by have := lenW hc; have := wzs_ct hc; omega)
  have hln := fun (M : List Wn) (hc : M.map Wn.ct = L.map Wn.ct) => lenW hc
  obtain ⟨n, hnL⟩ : ∃ n, L.length = n := ⟨_, rfl⟩
  obtain ⟨z, hzL⟩ : ∃ z, wzs L = z := ⟨_, rfl⟩
  obtain ⟨C, hC⟩ : ∃ C, L.map Wn.ct = C := ⟨_, rfl⟩
  obtain ⟨F, hF⟩ : ∃ F, ptZ C id a b = F := ⟨_, rfl⟩
  obtain ⟨V, hV⟩ : ∃ V, ptV C id a b = V := ⟨_, rfl⟩
  rw [hnL, hzL, hC] at TO
  rw [hnL, hzL] at SZ h
  rw [hC] at hln
  have SP' : Hid (∀ (M : List Wn), M.map Wn.ct = C → ∀ s W, Ws W 0 W.heap.size s M → Calls Try.prog 15 #[.slice s n n, .int .i64 id, .int .i64 a, .int .i64 b] W fun e w' => e = .returned (.agg #[.int .i64 F, .int .i64 V]) ∧ Below W.heap.size W w') := hideP (fun M hc s W a1 => by
    have hh := SP M (hc.trans hC.symm) s W a1
    rw [hc, hln M hc, hnL, hF, hV] at hh
    exact hh)
  have IP' : Hid (∀ (M : List Wn), M.map Wn.ct = C → ∀ s W, Ws W 0 W.heap.size s M → Calls Try.prog 13 #[.slice s n n, .int .i64 id, .int .i64 a, .int .i64 b] W fun e w' => e = .returned (.agg #[.int .i64 F, .int .i64 V]) ∧ Below W.heap.size W w') := hideP (fun M hc s W a1 => by
    have hh := IP M (hc.trans hC.symm) s W a1
    rw [hc, hln M hc, hnL, hF, hV] at hh
    exact hh)
  have hz0 : ¬ (1048576 : Int) - ((n + z : Nat) : Int) < 0 := by omega
  rw [hnL]
  obtain ⟨m, hq⟩ : ∃ m, (1048576 : Int) - ((n + z : Nat) : Int) = m := ⟨_, rfl⟩
  rw [hq] at SZ hz0
  clear SP IP hF hV hC hzL hnL hL hln hq
  go_enter Try.func7, Try.ntmps7
  go_wp2_with fail
  refine Calls.mono SZ.out ?_
  rintro e w1 ⟨rfl, k1⟩
  have K1 := hideP k1
  clear k1
  go_wp2_with fail
  refine Calls.mono (TO.out w1 K1.out) ?_
  rintro e w2 ⟨s2, M2, rfl, l2, z2, c2, Q2, k2⟩
  have K2 := hideP (K1.out.trans (k2.mono K1.out.size))
  have hs2 := K2.out.size
  clear k2
  go_wp2_with fail
  refine Calls.mono (SP'.out M2 c2 s2 w2 (Q2.ws.wide (Nat.zero_le _) (Nat.le_refl _))) ?_
  rintro e w3 ⟨rfl, k3⟩
  have k3' := k3.mono hs2
  have ka3 := kalC w3 (.cells #[.int .i64 F, .int .i64 V] 35)
  have K3 := hideP ((K2.out.trans k3').trans (ka3.mono (K2.out.trans k3').size))
  have A3 := hideP (rb_newT w3 (.int .i64 F) (.int .i64 V) 35)
  clear k3 k3' ka3 Q2 c2 l2 z2
  go_wp2_with fail
  generalize w3.alloc (.cells #[.int .i64 F, .int .i64 V] 35) = W3 at *
  refine Calls.mono (TO.out W3 K3.out) ?_
  rintro e w4 ⟨s4, M4, rfl, l4, z4, c4, Q4, k4⟩
  have K4 := hideP (K3.out.trans (k4.mono K3.out.size))
  have A4 := hideP (A3.out.keep k4 A3.out.lt)
  have hs4 := K4.out.size
  have H4 := hideP Q4
  have C4 := hideP c4
  have L4 := hideP l4
  have Z4 := hideP z4
  clear k4 Q4 c4 l4 z4 A3
  go_wp2_with fail
  refine Calls.mono (IP'.out M4 C4.out s4 w4 (H4.out.ws.wide (Nat.zero_le _) (Nat.le_refl _))) ?_
  rintro e w5 ⟨rfl, k5⟩
  have ka5 := kalC w5 (.cells #[.int .i64 F, .int .i64 V] 35)
  have kk5 := k5.trans (ka5.mono k5.size)
  have K5 := hideP (K4.out.trans (kk5.mono hs4))
  have H5 := hideP (H4.out.keep kk5 (Nat.le_refl _))
  have A5 := hideP (A4.out.keep kk5 A4.out.lt)
  have B5 := hideP (rb_newT w5 (.int .i64 F) (.int .i64 V) 35)
  have n5 := kk5.size
  clear k5 ka5 kk5 H4 A4
  obtain ⟨x0, x1, x2, x3, x4⟩ := A5.out
  obtain ⟨y0, y1, y2, y3, y4⟩ := B5.out
  go_wp2_with fail
  generalize w5.alloc (.cells #[.int .i64 F, .int .i64 V] 35) = W5 at *
  clear x0 x1 x2 x3 x4 y0 y1 y2 y3 y4 A5 B5
  refine Calls.mono (eqIR5_same F V W5) ?_
  rintro e w6 ⟨rfl, k6⟩
  have K6 := hideP (K5.out.trans (k6.mono K5.out.size))
  have H6 := hideP (H5.out.keep k6 n5)
  have n6 := k6.size
  clear k6 H5
  go_wp2_with fail
  refine Calls.mono (TO.out w6 K6.out) ?_
  rintro e w7 ⟨s6, M6, rfl, l6, z6, c6, Q6, k7⟩
  have K7 := hideP (K6.out.trans (k7.mono K6.out.size))
  have hs6 := K7.out.size
  have EQ := hideP (eqW_n (c := n) (d := n) n z L4.out Z4.out C4.out c6 (H6.out.keep k7 (by omega)) Q6 h)
  clear k7 Q6 c6 l6 z6
  go_wp2_with fail
  refine Calls.mono EQ.out ?_
  rintro e w8 ⟨rfl, k8⟩
  have K8 := hideP (K7.out.trans (k8.mono hs6))
  clear k8
  go_wp2
  go_returns
  exact ⟨rfl, K8.out⟩

theorem point_law (so : Option Addr) (sc : Nat) (L : List Wn) (id a b : Int) (w : World) (hn : L.length ≤ maxLen) (hL : Ws w 0 w.heap.size so L) (hm : ∀ r ∈ L, r.b.L.length ≤ maxLen) :
    Calls Try.prog 7 #[.slice so L.length sc, .int .i64 id, .int .i64 a, .int .i64 b] w fun e w' => e = .returned (.bool true) ∧ Below w.heap.size w w' := by
  by_cases h : L.length + wzs L ≤ 1048576
  · exact point_small so sc L id a b w hL h
  · exact point_big so sc L id a b w hL hn hm (by omega)
end Go.Proofs.Ytclfobpmafkgfaa

namespace Go.Proofs.Ytclfobpmafkgfaa
open Go.RowKit Go.Maps
set_option linter.unusedVariables false
attribute [local go_sem] growUpon growAt growUponR growAtR

set_option maxHeartbeats 400000 in
theorem bigF (w : World) (a : Option Addr) (len cap : Nat) (hl : len ≤ maxLen) :
    Calls Try.prog 9 #[.slice a len cap] w fun e w' => e = .returned (.bool (decide ((1048576 : Int) < (len : Int)))) ∧ w' = w := by
  go_enter Try.func9, Try.ntmps9
  go_wp2
  go_returns
  exact ⟨rfl, rfl⟩
theorem fJ0 (c v : Int) (w : World) : Sem.run Try.prog (Instr.field 35 (.agg #[.int .i64 c, .int .i64 v]) 0) w = .ok (.int .i64 c) w := by kernel_rfl
theorem fJ1 (c v : Int) (w : World) : Sem.run Try.prog (Instr.field 35 (.agg #[.int .i64 c, .int .i64 v]) 1) w = .ok (.int .i64 v) w := by kernel_rfl
theorem fJ2 (c v : Int) (s : Value) (w : World) : Sem.run Try.prog (Instr.field 30 (.agg #[.int .i64 c, .int .i64 v, s]) 0) w = .ok (.int .i64 c) w := by kernel_rfl
theorem Bytes.upF {w w' : World} {a : Option Addr} {len : Nat} {f : Nat → Int} (h : Bytes w w.heap.size a len f) (k : Below w.heap.size w w') : Bytes w' w'.heap.size a len f := by
  have h2 := h.stay (Nat.le_refl _) (Turn.of_below (b := w.heap.size) k) (Nat.le_refl _)
  rcases h2 with h | ⟨xb, xo, ha, hx, hc⟩
  · exact .inl h
  · exact .inr ⟨xb, xo, ha, Nat.lt_of_lt_of_le hx k.size, hc⟩

set_option maxHeartbeats 2000000 in
theorem lwInF_any (x y pw ph p q : Int) (w : World) (hr : rfB x y pw ph = false) :
    Calls Try.prog 20 #[.agg #[.int .i64 x, .int .i64 y, .int .i64 pw, .int .i64 ph], .int .i64 p, .int .i64 q] w fun e w' => e = .returned (.bool (inB x y pw ph p q)) ∧ Below w.heap.size w w' := by
  obtain ⟨⟨s1, s2⟩, ⟨s3, s4⟩, ⟨s5, s6⟩, s7, s8⟩ := rfB_no hr
  have hr : Hid (inB x y pw ph p q = decide (x ≤ p ∧ p < x + pw ∧ y ≤ q ∧ q < y + ph)) := rfl
  by_cases g1 : x ≤ p
  · by_cases g2 : y ≤ q
    · by_cases g3 : p < x + pw
      · by_cases g4 : q < y + ph
        all_goals
          go_enter Try.func20, Try.ntmps20
          go_wp2
          go_returns
          exact ⟨congrArg (fun b => Ending.returned (.bool b)) (by rw [hr.out, Bool.eq_iff_iff]; first | (simp; done) | (simp; omega)), by go_grown⟩
      · go_enter Try.func20, Try.ntmps20
        go_wp2
        go_returns
        exact ⟨congrArg (fun b => Ending.returned (.bool b)) (by rw [hr.out, Bool.eq_iff_iff]; first | (simp; done) | (simp; omega)), by go_grown⟩
    · go_enter Try.func20, Try.ntmps20
      go_wp2
      go_returns
      exact ⟨congrArg (fun b => Ending.returned (.bool b)) (by rw [hr.out, Bool.eq_iff_iff]; first | (simp; done) | (simp; omega)), by go_grown⟩
  · go_enter Try.func20, Try.ntmps20
    go_wp2
    go_returns
    exact ⟨congrArg (fun b => Ending.returned (.bool b)) (by rw [hr.out, Bool.eq_iff_iff]; first | (simp; done) | (simp; omega)), by go_grown⟩

/-- A stack, another one that an answer holds, a rectangle. -/
structure FS (w W : World) (so s : Option Addr) (L M : List Wn) (b5 b7 c : Nat) (rx ry rp rh z v : Int) : Prop where
  k : Below w.heap.size w W
  l : Ws W 0 W.heap.size so L
  m : Ws W 0 W.heap.size s M
  q : Qr W b5 rx ry rp rh
  r : R3 W b7 (.int .i64 z) (.int .i64 v) (.slice s M.length c)
theorem FS.keep {w W W' : World} {so s : Option Addr} {L M : List Wn} {b5 b7 c : Nat} {rx ry rp rh z v : Int} (h : FS w W so s L M b5 b7 c rx ry rp rh z v) (k : Below W.heap.size W W') : FS w W' so s L M b5 b7 c rx ry rp rh z v :=
  ⟨h.k.trans (k.mono h.k.size), (h.l.keep k (Nat.le_refl _)).wide (Nat.le_refl _) k.size, (h.m.keep k (Nat.le_refl _)).wide (Nat.le_refl _) k.size, h.q.keep k h.q.lt, h.r.keep k h.r.lt⟩
theorem ansF {z v : Int} {P : List Wc} {n : Nat} {w w' : World} {e : Ending} (h : SAns z v P n w e w') : ∃ (s : Option Addr) (c : Nat) (M : List Wn), e = .returned (.agg #[.int .i64 z, .int .i64 v, .slice s M.length c]) ∧ M.map Wn.ct = P ∧ Ws w' 0 w'.heap.size s M ∧ Below w.heap.size w w' := by
  obtain ⟨s, c, M, he, h1, h2, h3, h4⟩ := h
  exact ⟨s, c, M, by rw [he, h2], h1, h3.ws.wide (Nat.zero_le _) (Nat.le_refl _), h4⟩

set_option maxRecDepth 100000 in
set_option maxHeartbeats 2000000 in
theorem fills_big (w : World) (a : Option Addr) (len cap : Nat) (hl : len ≤ maxLen) (h : 1048576 < len) :
    Calls Try.prog 3 #[.slice a len cap] w fun e w' => e = .returned (.bool true) ∧ Below w.heap.size w w' := by
  have hb := bigF w a len cap hl
  rw [decide_eq_true (by omega : (1048576 : Int) < (len : Int))] at hb
  go_enter Try.func3, Try.ntmps3
  go_wp2_with fail
  refine Calls.mono hb ?_
  rintro e w1 ⟨rfl, rfl⟩
  go_wp2
  go_returns
  exact ⟨rfl, Below.refl _ _⟩
end Go.Proofs.Ytclfobpmafkgfaa
