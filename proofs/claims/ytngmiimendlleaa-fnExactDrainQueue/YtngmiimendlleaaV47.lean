/- The model's DrainQueue. -/
import Derived.Test.YtngmiimendlleaaV46
namespace Go.Proofs.Ytngmiimendlleaa
open Go.RowKit
set_option linter.unusedVariables false
attribute [local go_sem] growUpon growAt

theorem Lin.addr {w : World} {base : Nat} {s : Option Addr} {c : Nat} {M : List Mg} (h : Lin w base s c M) : (∀ a, s = some a → a.add 0 = a) ∧ M.length ≤ c := by
  rcases h.own.row.2 with ⟨hv, hn⟩ | ⟨g, cap, cur, hv, _, _, hn, _⟩
  · simp only [Value.slice.injEq] at hv
    obtain ⟨rfl, h1, rfl⟩ := hv
    exact ⟨(fun a e => by cases e), (by omega)⟩
  · simp only [Value.slice.injEq] at hv
    obtain ⟨rfl, _, rfl⟩ := hv
    exact ⟨(fun a e => by cases e; exact addr0 g 0), hn⟩
theorem q_small {M : List Mg} (h : qF (M.map Mg.ct) = 0) : M.length ≤ 10 ∧ mzs M ≤ 300 := by
  obtain ⟨h4, h5⟩ := qF_nn _ h
  rw [List.length_map] at h4
  have := mzs_le M fun m hm => by
    have := mF_len (msF_mem h5 m.ct (List.mem_map_of_mem hm))
    simpa [Mg.ct] using this.1
  exact ⟨h4, by omega⟩
theorem R4.put1 {w : World} {b : Nat} {v0 v1 v2 v3 : Value} (h : R4 w b v0 v1 v2 v3) (u : Value) : R4 (w.setCell ⟨b, 1, none⟩ u) b v0 u v2 v3 :=
  ⟨(cell_set_other (by omega)).trans h.c0, cell_set_same h.c1, (cell_set_other (by omega)).trans h.c2, (cell_set_other (by omega)).trans h.c3, by simpa using h.f0, by simpa using h.f1, by simpa using h.f2, by simpa using h.f3, by simpa using h.lt⟩
theorem R4.put2 {w : World} {b : Nat} {v0 v1 v2 v3 : Value} (h : R4 w b v0 v1 v2 v3) (u : Value) : R4 (w.setCell ⟨b, 2, none⟩ u) b v0 v1 u v3 :=
  ⟨(cell_set_other (by omega)).trans h.c0, (cell_set_other (by omega)).trans h.c1, cell_set_same h.c2, (cell_set_other (by omega)).trans h.c3, by simpa using h.f0, by simpa using h.f1, by simpa using h.f2, by simpa using h.f3, by simpa using h.lt⟩

set_option maxRecDepth 100000 in
set_option maxHeartbeats 2000000 in
theorem sDrain_any (lo hi : Nat) (so : Option Addr) (sc : Nat) (L : List Mg) (v : Bool) (n : Int) (w : World) (hL : Ms w lo hi so L) (hs : hi ≤ w.heap.size) (hn : L.length + mzs L ≤ 1048576) :
    Calls Try.prog 5 #[.agg #[.slice so L.length sc, .bool v], .int .i64 n] w fun e w' => DrA (L.map Mg.ct) n v w e w' := by
  have QF := hideP (fun b w1 (kk : Below w.heap.size w w1) hb => l6F_any lo hi b so sc L w1 hb (hL.keep kk hs) (by have := kk.size; omega) hn)
  have CQ := hideP (fun w1 (kk : Below w.heap.size w w1) => copyQ_any lo hi so sc L v w1 (hL.keep kk hs) (by have := kk.size; omega) hn)
  have QS : Hid (qF (L.map Mg.ct) = 0 → ∀ M : List Mg, M.map Mg.ct = L.map Mg.ct → M.length ≤ 10 ∧ mzs M ≤ 300) := hideP (fun h M e => q_small (by rw [e]; exact h))
  generalize L.map Mg.ct = C at *
  generalize L.length = ln at *
  have PQ := hideP (fun h => drC_q (C := C) (n := n) h)
  have PR := hideP (fun h => drC_r (C := C) (n := n) h)
  have PO := hideP (fun h => drC_ok (C := C) (n := n) h)
  have MN := hideP (fun h => drK_min (C := C) (n := n) h)
  have KL := drK_le C n
  obtain ⟨z, hz⟩ : ∃ z, drC C n = z := ⟨_, rfl⟩
  obtain ⟨k, hk⟩ : ∃ k, drK C n = k := ⟨_, rfl⟩
  have AN : Hid (∀ c, z = c → c ≠ 0 → ∀ w', Below w.heap.size w w' → DrA C n v w (.returned (.agg #[.int .i64 c, .slice none 0 0, .slice none 0 0, .bool false])) w') := hideP (fun c hc h w' hb => drA_no (hz.trans hc) h hb)
  have AY : Hid (z = 0 → ∀ w' s1 s2 c1 c2 m (L1 L2 : List Mg), C.length = k + m → L1.map Mg.ct = C.take k → L2.map Mg.ct = C.drop k → QM w' w.heap.size w'.heap.size s1 L1 s2 L2 → Below w.heap.size w w' → DrA C n v w (.returned (.agg #[.int .i64 0, .slice s1 k c1, .slice s2 m c2, .bool v])) w') := hideP (fun h w' s1 s2 c1 c2 m L1 L2 hm h1 h2 hq hb => drA_yes (hz.trans h) hk hm h1 h2 hq hb)
  obtain ⟨P, hP⟩ : ∃ P, DrA C n v w = P := ⟨_, rfl⟩
  rw [hP] at AN AY ⊢
  rw [hz] at PQ PR PO
  rw [hk] at MN KL
  obtain ⟨m, hm⟩ : ∃ m, C.length = k + m := ⟨C.length - k, by omega⟩
  have HM := hideP hm
  obtain ⟨q, hq⟩ : ∃ q, qF C = q := ⟨_, rfl⟩
  rw [hq] at PQ PR PO QF QS
  clear hL hs hn hz hk hP hm hq KL
  go_enter Try.func5, Try.ntmps5
  go_wp2_with fail
  have K0 : Hid (Below w.heap.size w ((w.alloc (.cells #[.slice so ln sc, .bool v] 28)).alloc (.cells #[.int .i64 0, .slice none 0 0, .slice none 0 0, .bool false] 30))) := hideP (by go_grown)
  have Y0 : Hid (Rb ((w.alloc (.cells #[.slice so ln sc, .bool v] 28)).alloc (.cells #[.int .i64 0, .slice none 0 0, .slice none 0 0, .bool false] 30)) w.heap.size (.slice so ln sc) (.bool v)) := hideP ((rb_new w _ _ _).keep (kal3 _ _) (by simp))
  have Z0 : Hid (R4 ((w.alloc (.cells #[.slice so ln sc, .bool v] 28)).alloc (.cells #[.int .i64 0, .slice none 0 0, .slice none 0 0, .bool false] 30)) (w.heap.size + 1) (.int .i64 0) (.slice none 0 0) (.slice none 0 0) (.bool false)) := hideP (r4_new2 w _ _ _ _ _ _)
  have n0 : ((w.alloc (.cells #[.slice so ln sc, .bool v] 28)).alloc (.cells #[.int .i64 0, .slice none 0 0, .slice none 0 0, .bool false] 30)).heap.size = w.heap.size + 2 := by simp
  generalize ((w.alloc (.cells #[.slice so ln sc, .bool v] 28)).alloc (.cells #[.int .i64 0, .slice none 0 0, .slice none 0 0, .bool false] 30)) = W at *
  refine Calls.mono (QF.out w.heap.size _ K0.out Y0.out.c0) ?_
  rintro e w1 ⟨rfl, k1⟩
  have K1 := hideP (K0.out.trans (k1.mono (by omega)))
  have Y1 := hideP (Y0.out.keep k1 (by omega))
  have Z1 := hideP (Z0.out.keep k1 (by omega))
  have n1 := k1.size
  clear k1 K0 Y0 Z0 QF
  by_cases h1 : q = 0
  · have PR1 := hideP (PR.out h1)
    have PO1 := hideP (PO.out h1)
    have QS1 := hideP (QS.out h1)
    clear PR PO PQ QS
    subst h1
    go_wp2_with fail
    by_cases h2 : n < 0 ∨ 10 < n
    · have AN' := hideP (AN.out 3 (PR1.out h2) (by omega))
      refine Calls.mono (in_no n 0 10 w1 h2) ?_
      rintro e w2 ⟨rfl, hw2⟩
      subst w2
      clear AN AY PO1 PR1 CQ MN h2
      obtain ⟨p0, p1, p2, p3, p4, p5, p6, p7, p8⟩ := Z1.out
      go_wp2
      refine bodyPost_ret (v := .agg #[.int .i64 3, .slice none 0 0, .slice none 0 0, .bool false]) (by simp [results, Try.results5, go_sem, *]) rfl (AN'.out _ ?_)
      repeat' (first | exact K1.out | (with_reducible refine Below.setCell ?_ ?_ _) | go_size)
    · have AY' := hideP (AY.out (PO1.out h2))
      have hn0 : 0 ≤ n := by omega
      have hmn := hideP (MN.out hn0)
      refine Calls.mono (in_yes n 0 10 w1 (by omega) (by omega)) ?_
      rintro e w2 ⟨rfl, hw2⟩
      subst w2
      clear AN AY PO1 PR1 h2 MN
      obtain ⟨q0, q1, q2, q3, q4⟩ := Y1.out
      go_wp2_with fail
      clear q0 q1 q2 q3 q4
      refine Calls.mono (CQ.out w1 K1.out) ?_
      rintro e w2 ⟨s, c, M, rfl, hM, L2, k2⟩
      have ka := kal3 w2 (.cells #[.int .i64 0, .slice none 0 0, .slice s M.length c, .bool v] 30)
      have k3 := k2.trans (ka.mono k2.size)
      have B3 := r4_new w2 (.int .i64 0) (.slice none 0 0) (.slice s M.length c) (.bool v) 30
      have L3 := L2.keep ka
      have K3 := hideP (K1.out.trans (k3.mono (by omega)))
      have Z3 := hideP (Z1.out.keep k3 (by omega))
      have n2 := k2.size
      have n3 : w2.heap.size < (w2.alloc (.cells #[.int .i64 0, .slice none 0 0, .slice s M.length c, .bool v] 30)).heap.size := by simp
      have HMC := hideP hM
      have hMl : M.length = C.length := by rw [← hM]; simp
      have hMs := QS1.out M hM
      have DR' := hideP (l6Drain_any w1.heap.size _ w2.heap.size 2 s c M n k m _ B3.c2 B3.f2 n3 (L3.qm (s1 := none) (by omega)).ms2 (Nat.le_refl _) L3.addr.1 L3.addr.2 (by omega) (by rw [hMl]; exact HM.out) (by rw [hMl]; exact hmn.out))
      have HB3 := hideP B3
      obtain ⟨p0, p1, p2, p3, p4, p5, p6, p7, p8⟩ := B3
      clear ka k2 k3 L3 L2 K1 Y1 Z1 CQ hM hMl hMs
      go_wp2_with fail
      clear p0 p1 p2 p3 p4 p5 p6 p7 p8
      generalize w2.alloc (.cells #[.int .i64 0, .slice none 0 0, .slice s M.length c, .bool v] 30) = w3 at *
      refine Calls.mono DR'.out ?_
      rintro e w4 ⟨s1, c1, s2, c2, L1, L2, w5, rfl, h1, h2, rfl, Q5, k5⟩
      have B5 := HB3.out.keep k5 n3
      have B6 := (B5.put2 (.slice s2 m c2)).put1 (.slice s1 k c1)
      have B62 := B5.put2 (.slice s2 m c2)
      have Z5 := Z3.out.keep k5 (by omega)
      have FB : Far w2.heap.size (w2.heap.size + 1) w5 ((w5.setCell ⟨w2.heap.size, 2, none⟩ (.slice s2 m c2)).setCell ⟨w2.heap.size, 1, none⟩ (.slice s1 k c1)) := ((Far.refl _ _ w5).setCell (p := ⟨w2.heap.size, 2, none⟩) (Nat.le_refl _) (Nat.lt_succ_self _) _).setCell (p := ⟨w2.heap.size, 1, none⟩) (Nat.le_refl _) (Nat.lt_succ_self _) _
      have Z6 := Z5.far FB (by omega)
      have Q6 := hideP (Q5.far FB (by omega))
      have K6 := hideP ((K3.out.trans (k5.mono (by omega))).trans (FB.below (B := w.heap.size) (by omega) (by have := k5.size; omega)))
      have H1 := hideP (h1.trans (by rw [HMC.out]))
      have H2 := hideP (h2.trans (by rw [HMC.out]))
      have n5 := k5.size
      have n6 := FB.size
      clear k5 Q5 DR' K3 Z3 HB3 h1 h2 FB Z5 B5
      obtain ⟨b0, b1, b2, b3, b4, b5, b6, b7, b8⟩ := B62
      obtain ⟨p0, p1, p2, p3, p4, p5, p6, p7, p8⟩ := B6
      obtain ⟨q0, q1, q2, q3, q4, q5, q6, q7, q8⟩ := Z6
      go_wp2
      refine bodyPost_ret (v := .agg #[.int .i64 0, .slice s1 k c1, .slice s2 m c2, .bool v]) (by simp [results, Try.results5, go_sem, *]) rfl (AY'.out _ s1 s2 c1 c2 m L1 L2 HM.out H1.out H2.out ?_ ?_)
      · refine QM.wide (lo := w3.heap.size) (hi := w5.heap.size) ?_ (by omega) (by simp) (Nat.le_refl _)
        repeat' (first | (with_reducible exact Q6.out) | (with_reducible refine QM.set ?_ _ _ (by dsimp only; omega)))
      · repeat' (first | (with_reducible exact K6.out) | (with_reducible refine Below.setCell ?_ ?_ _) | go_size)
  · have h3 : (q != 0) = true := by simpa using h1
    have AN' := hideP (AN.out q (PQ.out h1) h1)
    clear h1 AN AY CQ
    obtain ⟨p0, p1, p2, p3, p4, p5, p6, p7, p8⟩ := Z1.out
    go_wp2
    refine bodyPost_ret (v := .agg #[.int .i64 q, .slice none 0 0, .slice none 0 0, .bool false]) (by simp [results, Try.results5, go_sem, *]) rfl (AN'.out _ ?_)
    repeat' (first | exact K1.out | (with_reducible refine Below.setCell ?_ ?_ _) | go_size)
end Go.Proofs.Ytngmiimendlleaa
