/- What a drain answers; the program's. -/
import Derived.Test.YtngmiimendlleaaV35
import Derived.Test.YtngmiimendlleaaV44
namespace Go.Proofs.Ytngmiimendlleaa
open Go.RowKit
set_option linter.unusedVariables false

theorem r4_new2 (w : World) (o : Obj) (v0 v1 v2 v3 : Value) (T : TypeId) : R4 ((w.alloc o).alloc (.cells #[v0, v1, v2, v3] T)) (w.heap.size + 1) v0 v1 v2 v3 := by
  have h := r4_new (w.alloc o) v0 v1 v2 v3 T
  rwa [show (w.alloc o).heap.size = w.heap.size + 1 by simp] at h

/-- What a drain answers, in contents. -/
def drC (C : List (Int × List Int)) (n : Int) : Int := if qF C = 0 then (if n < 0 ∨ 10 < n then 3 else 0) else qF C
def drK (C : List (Int × List Int)) (n : Int) : Nat := Nat.min n.toNat C.length
def dr1 (C : List (Int × List Int)) (n : Int) : List (Int × List Int) := if drC C n = 0 then C.take (drK C n) else []
def dr2 (C : List (Int × List Int)) (n : Int) : List (Int × List Int) := if drC C n = 0 then C.drop (drK C n) else []
def drV (C : List (Int × List Int)) (n : Int) (v : Bool) : Bool := if drC C n = 0 then v else false
theorem drC_q {C : List (Int × List Int)} {n : Int} (h : qF C ≠ 0) : drC C n = qF C := by unfold drC; rw [if_neg h]
theorem drC_r {C : List (Int × List Int)} {n : Int} (h : qF C = 0) (h2 : n < 0 ∨ 10 < n) : drC C n = 3 := by unfold drC; rw [if_pos h, if_pos h2]
theorem drC_ok {C : List (Int × List Int)} {n : Int} (h : qF C = 0) (h2 : ¬ (n < 0 ∨ 10 < n)) : drC C n = 0 := by unfold drC; rw [if_pos h, if_neg h2]
theorem drC_zero {C : List (Int × List Int)} {n : Int} (h : drC C n = 0) : qF C = 0 ∧ 0 ≤ n ∧ n ≤ 10 := by
  unfold drC at h
  by_cases h1 : qF C = 0
  · rw [if_pos h1] at h
    by_cases h2 : n < 0 ∨ 10 < n
    · rw [if_pos h2] at h; simp at h
    · exact ⟨h1, by omega, by omega⟩
  · rw [if_neg h1] at h; exact absurd h h1
theorem drK_min {C : List (Int × List Int)} {n : Int} (h0 : 0 ≤ n) : mnQ n (C.length : Int) = (drK C n : Int) := by
  have h := mnQ_eq n (C.length : Int)
  have e : drK C n = min n.toNat C.length := rfl
  omega
theorem drK_le (C : List (Int × List Int)) (n : Int) : drK C n ≤ C.length := Nat.min_le_right _ _
/-- All that is told is small. -/
theorem dr_small {C : List (Int × List Int)} {n : Int} : (∀ N : List Mg, N.map Mg.ct = dr1 C n → N.length + mzs N ≤ 10000) ∧ (∀ N : List Mg, N.map Mg.ct = dr2 C n → N.length + mzs N ≤ 10000) := by
  have small : ∀ (P : List (Int × List Int)), P.length ≤ 10 → (∀ t ∈ P, mF t = 0) → ∀ N : List Mg, N.map Mg.ct = P → N.length + mzs N ≤ 10000 := fun P h1 h2 N hN => by
    have hN' : N.length ≤ 10 := by have := congrArg List.length hN; simp at this; omega
    have := mzs_le N fun m hm => by
      have := mF_len (h2 m.ct (by rw [← hN]; exact List.mem_map_of_mem hm))
      simpa [Mg.ct] using this.1
    omega
  by_cases h : drC C n = 0
  · obtain ⟨h1, h2, h3⟩ := drC_zero h
    obtain ⟨h4, h5⟩ := qF_nn C h1
    have hall := msF_mem h5
    refine ⟨fun N hN => small (dr1 C n) ?_ ?_ N hN, fun N hN => small (dr2 C n) ?_ ?_ N hN⟩
    · unfold dr1; rw [if_pos h]; simp; omega
    · unfold dr1; rw [if_pos h]; exact fun t ht => hall t (List.mem_of_mem_take ht)
    · unfold dr2; rw [if_pos h]; simp; omega
    · unfold dr2; rw [if_pos h]; exact fun t ht => hall t (List.mem_of_mem_drop ht)
  · refine ⟨fun N hN => small (dr1 C n) ?_ ?_ N hN, fun N hN => small (dr2 C n) ?_ ?_ N hN⟩
    all_goals (first | unfold dr1 | unfold dr2)
    all_goals rw [if_neg h]
    all_goals simp
/-- An answer of a drain. -/
def DrA (C : List (Int × List Int)) (n : Int) (v : Bool) (w : World) (e : Ending) (w' : World) : Prop := QAns (drC C n) (dr1 C n) (dr2 C n) (dr1 C n).length (dr2 C n).length (drV C n v) w e w'
theorem drA_no {C : List (Int × List Int)} {n c : Int} {v : Bool} {w w' : World} (hc : drC C n = c) (h : c ≠ 0) (hb : Below w.heap.size w w') : DrA C n v w (.returned (.agg #[.int .i64 c, .slice none 0 0, .slice none 0 0, .bool false])) w' := by
  have h' : drC C n ≠ 0 := by rw [hc]; exact h
  have e1 : dr1 C n = [] := by unfold dr1; rw [if_neg h']
  have e2 : dr2 C n = [] := by unfold dr2; rw [if_neg h']
  have e3 : drV C n v = false := by unfold drV; rw [if_neg h']
  unfold DrA
  rw [e1, e2, e3, hc]
  exact ⟨none, none, 0, 0, [], [], rfl, rfl, rfl, rfl, rfl, ⟨hb.size, Nat.le_refl _, by simpa using Bods.nil _ _ _, .inl rfl, .inl rfl, fun h => absurd rfl h⟩, hb⟩
theorem drA_yes {C : List (Int × List Int)} {n : Int} {v : Bool} {w w' : World} {s1 s2 : Option Addr} {c1 c2 k m : Nat} {L1 L2 : List Mg} (h : drC C n = 0) (hk : drK C n = k) (hm : C.length = k + m) (h1 : L1.map Mg.ct = C.take k) (h2 : L2.map Mg.ct = C.drop k) (hq : QM w' w.heap.size w'.heap.size s1 L1 s2 L2) (hb : Below w.heap.size w w') : DrA C n v w (.returned (.agg #[.int .i64 0, .slice s1 k c1, .slice s2 m c2, .bool v])) w' := by
  have e1 : dr1 C n = C.take k := by unfold dr1; rw [if_pos h, hk]
  have e2 : dr2 C n = C.drop k := by unfold dr2; rw [if_pos h, hk]
  have e3 : drV C n v = v := by unfold drV; rw [if_pos h]
  have l1 : L1.length = (C.take k).length := by rw [← h1]; simp
  have l2 : L2.length = (C.drop k).length := by rw [← h2]; simp
  have e4 : (C.take k).length = k := by simp; omega
  have e5 : (C.drop k).length = m := by simp; omega
  unfold DrA
  rw [e1, e2, e3, h, e4, e5]
  exact ⟨s1, s2, c1, c2, L1, L2, rfl, h1, h2, by omega, by omega, hq, hb⟩

set_option maxRecDepth 100000 in
set_option maxHeartbeats 2000000 in
theorem iDrain_any (lo hi : Nat) (so : Option Addr) (sc : Nat) (L : List Mg) (v : Bool) (n : Int) (w : World) (hL : Ms w lo hi so L) (hs : hi ≤ w.heap.size) (hn : L.length + mzs L ≤ 1048576) :
    Calls Try.prog 7 #[.agg #[.slice so L.length sc, .bool v], .int .i64 n] w fun e w' => DrA (L.map Mg.ct) n v w e w' := by
  have QF := hideP (fun w1 (kk : Below w.heap.size w w1) => iQF_any lo hi so sc L v w1 (hL.keep kk hs) (by have := kk.size; omega) hn)
  have LN := hideP (fun w1 (kk : Below w.heap.size w w1) => line_any lo hi so sc L v w1 (hL.keep kk hs) (by have := kk.size; omega) hn)
  have DR := hideP drain_any
  generalize L.map Mg.ct = C at *
  generalize L.length = ln at *
  have PQ := hideP (fun h => drC_q (C := C) (n := n) h)
  have PR := hideP (fun h => drC_r (C := C) (n := n) h)
  have PO := hideP (fun h => drC_ok (C := C) (n := n) h)
  have QN := hideP (qF_nn C)
  have MN := hideP (fun h => drK_min (C := C) (n := n) h)
  have KL := drK_le C n
  obtain ⟨z, hz⟩ : ∃ z, drC C n = z := ⟨_, rfl⟩
  obtain ⟨k, hk⟩ : ∃ k, drK C n = k := ⟨_, rfl⟩
  have AN : Hid (∀ c, z = c → c ≠ 0 → ∀ w', Below w.heap.size w w' → DrA C n v w (.returned (.agg #[.int .i64 c, .slice none 0 0, .slice none 0 0, .bool false])) w') := hideP (fun c hc h w' hb => drA_no (hz.trans hc) h hb)
  have AY : Hid (z = 0 → ∀ w' s1 s2 c1 c2 m (L1 L2 : List Mg), C.length = k + m → L1.map Mg.ct = C.take k → L2.map Mg.ct = C.drop k → QM w' w.heap.size w'.heap.size s1 L1 s2 L2 → Below w.heap.size w w' → DrA C n v w (.returned (.agg #[.int .i64 0, .slice s1 k c1, .slice s2 m c2, .bool v])) w') := hideP (fun h w' s1 s2 c1 c2 m L1 L2 hm h1 h2 hq hb => drA_yes (hz.trans h) hk hm h1 h2 hq hb)
  obtain ⟨P, hP⟩ : ∃ P, DrA C n v w = P := ⟨_, rfl⟩
  rw [hP] at AN AY ⊢
  rw [hz] at PQ PR PO
  rw [hk] at MN KL
  obtain ⟨m, hm⟩ : ∃ m, C.length = k + m := ⟨C.length - k, by omega⟩
  have HM := hideP hm
  obtain ⟨q, hq⟩ : ∃ q, qF C = q := ⟨_, rfl⟩
  rw [hq] at PQ PR PO QF QN
  clear hL hs hn hz hk hP hm hq KL
  go_enter Try.func7, Try.ntmps7
  go_wp2_with fail
  have K0 : Hid (Below w.heap.size w ((w.alloc (.cells #[.slice so ln sc, .bool v] 28)).alloc (.cells #[.int .i64 0, .slice none 0 0, .slice none 0 0, .bool false] 30))) := hideP (by go_grown)
  have Y0 : Hid (Rb ((w.alloc (.cells #[.slice so ln sc, .bool v] 28)).alloc (.cells #[.int .i64 0, .slice none 0 0, .slice none 0 0, .bool false] 30)) w.heap.size (.slice so ln sc) (.bool v)) := hideP ((rb_new w _ _ _).keep (kal3 _ _) (by simp))
  have Z0 : Hid (R4 ((w.alloc (.cells #[.slice so ln sc, .bool v] 28)).alloc (.cells #[.int .i64 0, .slice none 0 0, .slice none 0 0, .bool false] 30)) (w.heap.size + 1) (.int .i64 0) (.slice none 0 0) (.slice none 0 0) (.bool false)) := hideP (r4_new2 w _ _ _ _ _ _)
  have n0 : ((w.alloc (.cells #[.slice so ln sc, .bool v] 28)).alloc (.cells #[.int .i64 0, .slice none 0 0, .slice none 0 0, .bool false] 30)).heap.size = w.heap.size + 2 := by simp
  generalize ((w.alloc (.cells #[.slice so ln sc, .bool v] 28)).alloc (.cells #[.int .i64 0, .slice none 0 0, .slice none 0 0, .bool false] 30)) = W at *
  refine Calls.mono (QF.out _ K0.out) ?_
  rintro e w1 ⟨rfl, k1⟩
  have K1 := hideP (K0.out.trans (k1.mono (by omega)))
  have Y1 := hideP (Y0.out.keep k1 (by omega))
  have Z1 := hideP (Z0.out.keep k1 (by omega))
  have n1 := k1.size
  clear k1 K0 Y0 Z0 QF
  by_cases h1 : q = 0
  · have PR1 := hideP (PR.out h1)
    have PO1 := hideP (PO.out h1)
    have hC10 := (QN.out h1).1
    clear PR PO PQ QN
    subst h1
    by_cases h2 : n < 0 ∨ 10 < n
    · have AN' := hideP (AN.out 3 (PR1.out h2) (by omega))
      clear AN AY PO1 PR1 LN DR MN
      obtain ⟨p0, p1, p2, p3, p4, p5, p6, p7, p8⟩ := Z1.out
      by_cases h3 : n < 0
      · clear h2
        go_wp2
        refine bodyPost_ret (v := .agg #[.int .i64 3, .slice none 0 0, .slice none 0 0, .bool false]) (by simp [results, Try.results7, go_sem, *]) rfl (AN'.out _ ?_)
        repeat' (first | exact K1.out | (with_reducible refine Below.setCell ?_ ?_ _) | go_size)
      · have h4 : 10 < n := by omega
        clear h2
        go_wp2
        refine bodyPost_ret (v := .agg #[.int .i64 3, .slice none 0 0, .slice none 0 0, .bool false]) (by simp [results, Try.results7, go_sem, *]) rfl (AN'.out _ ?_)
        repeat' (first | exact K1.out | (with_reducible refine Below.setCell ?_ ?_ _) | go_size)
    · have AY' := hideP (AY.out (PO1.out h2))
      have hn0 : 0 ≤ n := by omega
      have hn1 : n ≤ 10 := by omega
      have hmn := hideP (MN.out hn0)
      clear AN AY PO1 PR1 h2 MN
      obtain ⟨q0, q1, q2, q3, q4⟩ := Y1.out
      go_wp2_with fail
      clear q0 q1 q2 q3 q4
      refine Calls.mono (LN.out w1 K1.out) ?_
      rintro e w2 ⟨s, c, M, rfl, hM, L2, k2⟩
      have ka := kal3 w2 (.cells #[.slice s M.length c, .bool v] 47)
      have k3 := k2.trans (ka.mono k2.size)
      have B3 := rb_new w2 (.slice s M.length c) (.bool v) 47
      have L3 := L2.keep ka
      have K3 := hideP (K1.out.trans (k3.mono (by omega)))
      have Z3 := hideP (Z1.out.keep k3 (by omega))
      have n2 := k2.size
      have n3 : w2.heap.size < (w2.alloc (.cells #[.slice s M.length c, .bool v] 47)).heap.size := by simp
      have HMC := hideP hM
      have hMl : M.length = C.length := by rw [← hM]; simp
      have DR' := hideP (DR.out w2.heap.size w1.heap.size s c M v n k m _ B3 L3 n2 (by omega) (by omega) (by rw [hMl]; exact HM.out) (by rw [hMl]; exact hmn.out))
      clear ka k2 k3 B3 L3 L2 K1 Y1 Z1 DR LN hM hMl
      go_wp2_with fail
      generalize w2.alloc (.cells #[.slice s M.length c, .bool v] 47) = w3 at *
      refine Calls.mono DR'.out ?_
      rintro e w4 ⟨s1, c1, s2, c2, rfl, B4, Q4, k4⟩
      have HB4 := hideP B4
      have HQ4 := hideP Q4
      have K4 := hideP (K3.out.trans (k4.mono (by omega)))
      have Z4 := hideP (Z3.out.keep k4 (by omega))
      have n4 := k4.size
      clear k4 B4 Q4 DR' K3 Z3
      obtain ⟨q0, q1, q2, q3, q4⟩ := HB4.out
      go_wp2_with fail
      clear q0 q1 q2 q3 q4
      refine Calls.mono (queueOf_any s2 m c2 v w4) ?_
      rintro e w5 ⟨rfl, k5⟩
      have HQ5 := hideP (HQ4.out.keep k5 (Nat.le_refl _))
      have K5 := hideP (K4.out.trans (k5.mono (by omega)))
      have Z5 := Z4.out.keep k5 (by omega)
      have n5 := k5.size
      clear k5 HB4 HQ4 K4 Z4
      obtain ⟨p0, p1, p2, p3, p4, p5, p6, p7, p8⟩ := Z5
      go_wp2
      refine bodyPost_ret (v := .agg #[.int .i64 0, .slice s1 k c1, .slice s2 m c2, .bool v]) (by simp [results, Try.results7, go_sem, *]) rfl (AY'.out _ s1 s2 c1 c2 m (M.take k) (M.drop k) HM.out (by rw [← HMC.out, List.map_take]) (by rw [← HMC.out, List.map_drop]) ?_ ?_)
      · refine QM.wide (lo := w1.heap.size) (hi := w4.heap.size) ?_ (by omega) (by simp; omega) (Nat.le_refl _)
        repeat' (first | exact HQ5.out | refine QM.set ?_ _ _ (by dsimp only; omega))
      · repeat' (first | exact K5.out | (with_reducible refine Below.setCell ?_ ?_ _) | go_size)
  · have h3 : (q != 0) = true := by simpa using h1
    have AN' := hideP (AN.out q (PQ.out h1) h1)
    clear h1 AN AY LN DR
    obtain ⟨p0, p1, p2, p3, p4, p5, p6, p7, p8⟩ := Z1.out
    go_wp2
    refine bodyPost_ret (v := .agg #[.int .i64 q, .slice none 0 0, .slice none 0 0, .bool false]) (by simp [results, Try.results7, go_sem, *]) rfl (AN'.out _ ?_)
    repeat' (first | exact K1.out | (with_reducible refine Below.setCell ?_ ?_ _) | go_size)
end Go.Proofs.Ytngmiimendlleaa
