/- Queues and their results marked, and held behind it. -/
import Derived.Test.YtngmiimendlleaaV22
import Derived.Test.YtngmiimendlleaaV23
namespace Go.Proofs.Ytngmiimendlleaa
open Go.RowKit
set_option linter.unusedVariables false

set_option maxHeartbeats 1000000 in
theorem markQ_any (lo hi : Nat) (so : Option Addr) (sc : Nat) (U : List Bd) (L : List Mg) (v : Bool) (k : Int) (w : World) (hB : Bods w lo hi (U ++ L.map Mg.b)) (hS : SpM w lo hi so L) (h1 : hi ≤ w.heap.size) (hn : L.length + mzs L ≤ 1048576) (k0 : 0 ≤ k) (k1 : k ≤ 1048577) :
    Calls Try.prog 10 #[.agg #[.slice so L.length sc, .bool v], .int .i64 k] w fun e w' => e = .returned (.int .i64 (k + L.length + mzs L)) ∧ Far lo hi w w' ∧ Bods w' lo hi (U ++ (mkM k L).map Mg.b) ∧ SpM w' lo hi so (mkM k L) ∧ (∀ s2 L2, SpM w lo hi s2 L2 → (L ≠ [] → L2 ≠ [] → s2 ≠ so) → SpM w' lo hi s2 L2) := by
  have ka := kal_M w (.cells #[.slice so L.length sc, .bool v] 28)
  have MK := markMS_any lo hi so sc U L [] k (w.alloc (.cells #[.slice so L.length sc, .bool v] 28)) (by simpa using hB.keep ka h1) (hS.keep ka h1) (by have := ka.size; omega) hn k0 k1
  have MK' := hideP MK
  have HK := hideP (fun s2 L2 (h : SpM w lo hi s2 L2) => h.keep ka h1)
  have F0 := hideP (Far.of_below (lo := lo) (hi := hi) ka)
  clear MK hB hS ka
  go_enter Try.func10, Try.ntmps10
  go_wp2_with fail
  refine Calls.mono MK'.out ?_
  rintro e w1 ⟨rfl, f1, B1, S1, O1⟩
  have F1 := hideP (F0.out.trans f1)
  have B1' := hideP B1
  have S1' := hideP S1
  have O1' := hideP (fun s2 L2 h hne => O1 s2 L2 (HK.out s2 L2 h) hne)
  clear f1 B1 S1 O1 MK' HK F0
  go_wp2
  go_returns
  exact ⟨rfl, F1.out, by simpa using B1'.out, S1'.out, O1'.out⟩
where kal_M (w : World) (o : Obj) : Below w.heap.size w (w.alloc o) := (Below.refl _ _).alloc (Nat.le_refl _) o

theorem QM.swap2 {w : World} {lo hi : Nat} {s1 s2 : Option Addr} {L1 L2 : List Mg} (h : QM w lo hi s1 L1 s2 L2) : L1 ≠ [] → L2 ≠ [] → s2 ≠ s1 := fun a b e => h.ne a b e.symm

set_option maxHeartbeats 1000000 in
theorem markQR_any (lo hi : Nat) (s1 s2 : Option Addr) (c1 c2 : Nat) (L1 L2 : List Mg) (c : Int) (v : Bool) (k : Int) (w : World) (h : QM w lo hi s1 L1 s2 L2) (hn1 : L1.length + mzs L1 ≤ 10000) (hn2 : L2.length + mzs L2 ≤ 10000) (k0 : 0 ≤ k) (k1 : k ≤ 1) :
    Calls Try.prog 11 #[.agg #[.int .i64 c, .slice s1 L1.length c1, .slice s2 L2.length c2, .bool v], .int .i64 k] w fun e w' => e = .returned (.int .i64 (k + L1.length + mzs L1 + L2.length + mzs L2)) ∧ Far lo hi w w' ∧ QM w' lo hi s1 (mkM k L1) s2 (mkM (k + L1.length + mzs L1) L2) := by
  have hL1 : (L1.length : Int) ≤ 10000 := by omega
  have hM1 : (mzs L1 : Int) ≤ 10000 := by omega
  have hL2 : (L2.length : Int) ≤ 10000 := by omega
  have hM2 : (mzs L2 : Int) ≤ 10000 := by omega
  have ka : Below w.heap.size w (w.alloc (.cells #[.int .i64 c, .slice s1 L1.length c1, .slice s2 L2.length c2, .bool v] 30)) := (Below.refl _ _).alloc (Nat.le_refl _) _
  have hQ := h.keep ka h.hs
  have X0 : Hid (R4 (w.alloc (.cells #[.int .i64 c, .slice s1 L1.length c1, .slice s2 L2.length c2, .bool v] 30)) w.heap.size (.int .i64 c) (.slice s1 L1.length c1) (.slice s2 L2.length c2) (.bool v)) := hideP ⟨by simp, by simp, by simp, by simp, by simp, by simp, by simp, by simp, by simp⟩
  have n0 := h.hs
  have hne := hideP (QM.swap2 h)
  have hle := h.le
  have F0 := hideP (Far.of_below (lo := lo) (hi := hi) ka)
  have HQ := hideP hQ
  clear h hQ ka
  go_enter Try.func11, Try.ntmps11
  go_wp2_with fail
  generalize (w.alloc (.cells #[.int .i64 c, .slice s1 L1.length c1, .slice s2 L2.length c2, .bool v] 30)) = W at *
  have hW := X0.out.lt
  obtain ⟨p0, p1, p2, p3, p4, p5, p6, p7, p8⟩ := X0.out
  go_wp2_with fail
  clear p0 p1 p2 p3 p4 p5 p6 p7 p8
  refine Calls.mono (markMS_any lo hi s1 c1 [] L1 (L2.map Mg.b) k W (by simpa using HQ.out.bods) HQ.out.sp1 (by omega) (by omega) k0 (by omega)) ?_
  rintro e w1 ⟨rfl, f1, B1, S1, O1⟩
  have S21 := hideP (O1 s2 L2 HQ.out.sp2 (fun a b => hne.out a b))
  have B1' := hideP B1
  have S1' := hideP S1
  have X1 := hideP (X0.out.far f1 (.inr (by omega)))
  have F1 := hideP (F0.out.trans f1)
  have n1 := f1.size
  clear f1 B1 S1 O1 HQ X0 F0
  obtain ⟨q, hq⟩ : ∃ q : Int, k + (L1.length : Int) + (mzs L1 : Int) = q := ⟨_, rfl⟩
  have HqQ := hideP hq
  have hq1 : q ≤ 20001 := by omega
  have hq0 : 0 ≤ q := by omega
  rw [hq]
  clear hq
  obtain ⟨p0, p1, p2, p3, p4, p5, p6, p7, p8⟩ := X1.out
  go_wp2_with fail
  clear p0 p1 p2 p3 p4 p5 p6 p7 p8
  refine Calls.mono (markQ_any lo hi s2 c2 ((mkM k L1).map Mg.b) L2 v q w1 (by simpa using B1'.out) S21.out (by omega) (by omega) hq0 (by omega)) ?_
  rintro e w2 ⟨rfl, f2, B2, S2, O2⟩
  have S12 := hideP (O2 s1 (mkM k L1) S1'.out (fun a b e => hne.out (fun e1 => b (by rw [e1]; rfl)) a e.symm))
  have B2' := hideP B2
  have S2' := hideP S2
  have F2 := hideP (F1.out.trans f2)
  have n2 := f2.size
  clear f2 B2 S2 O2 S21 B1' S1' F1 X1
  go_wp2
  go_returns
  rw [HqQ.out]
  refine ⟨rfl, F2.out, hle, by omega, by simpa using B2'.out, S12.out, S2'.out, fun a b e => hne.out (fun e1 => a (by rw [e1]; rfl)) (fun e2 => b (by rw [e2]; rfl)) e.symm⟩

set_option maxHeartbeats 1000000 in
theorem heldQ_any (lo hi : Nat) (so : Option Addr) (sc : Nat) (L : List Mg) (v : Bool) (k : Int) (w : World) (hB : ∀ b ∈ (mkM k L).map Mg.b, b.on w) (hS : SpM w lo hi so (mkM k L)) (hh : hi ≤ w.heap.size) (hn : L.length + mzs L ≤ 1048576) (k0 : 0 ≤ k) (k1 : k ≤ 1048577) :
    Calls Try.prog 26 #[.agg #[.slice so L.length sc, .bool v], .int .i64 k] w fun e w' => e = .returned (.int .i64 (k + L.length + mzs L)) ∧ Below w.heap.size w w' := by
  have ka : Below w.heap.size w (w.alloc (.cells #[.slice so L.length sc, .bool v] 28)) := (Below.refl _ _).alloc (Nat.le_refl _) _
  have MK := heldMS_any lo hi so sc L k (w.alloc (.cells #[.slice so L.length sc, .bool v] 28)) (fun b hb => Bd.on_keep (hB b hb) ka (fun e => Bd.lt (hB b hb) e)) (hS.keep ka hh) (by have := ka.size; omega) hn k0 k1
  have hpos : ¬ (k + (L.length : Int) + (mzs L : Int) < 0) := by omega
  have MK' := hideP MK
  have KA := hideP ka
  clear MK hB hS ka
  go_enter Try.func26, Try.ntmps26
  go_wp2_with fail
  refine Calls.mono MK'.out ?_
  rintro e w1 ⟨rfl, rfl⟩
  go_wp2
  go_returns
  exact ⟨rfl, KA.out⟩

set_option maxHeartbeats 1000000 in
theorem heldQR_any (lo hi : Nat) (s1 s2 : Option Addr) (c1 c2 : Nat) (L1 L2 : List Mg) (c : Int) (v : Bool) (k : Int) (w : World) (h : QM w lo hi s1 (mkM k L1) s2 (mkM (k + L1.length + mzs L1) L2)) (hn1 : L1.length + mzs L1 ≤ 10000) (hn2 : L2.length + mzs L2 ≤ 10000) (k0 : 0 ≤ k) (k1 : k ≤ 1) :
    Calls Try.prog 12 #[.agg #[.int .i64 c, .slice s1 L1.length c1, .slice s2 L2.length c2, .bool v], .int .i64 k] w fun e w' => e = .returned (.int .i64 (k + L1.length + mzs L1 + L2.length + mzs L2)) ∧ Below w.heap.size w w' := by
  have hL1 : (L1.length : Int) ≤ 10000 := by omega
  have hM1 : (mzs L1 : Int) ≤ 10000 := by omega
  have hL2 : (L2.length : Int) ≤ 10000 := by omega
  have hM2 : (mzs L2 : Int) ≤ 10000 := by omega
  have hp1 : ¬ (k + (L1.length : Int) + (mzs L1 : Int) < 0) := by omega
  have hp2 : ¬ (k + (L1.length : Int) + (mzs L1 : Int) + (L2.length : Int) + (mzs L2 : Int) < 0) := by omega
  have ka : Below w.heap.size w (w.alloc (.cells #[.int .i64 c, .slice s1 L1.length c1, .slice s2 L2.length c2, .bool v] 30)) := (Below.refl _ _).alloc (Nat.le_refl _) _
  have hQ := h.keep ka h.hs
  have X0 : Hid (R4 (w.alloc (.cells #[.int .i64 c, .slice s1 L1.length c1, .slice s2 L2.length c2, .bool v] 30)) w.heap.size (.int .i64 c) (.slice s1 L1.length c1) (.slice s2 L2.length c2) (.bool v)) := hideP ⟨by simp, by simp, by simp, by simp, by simp, by simp, by simp, by simp, by simp⟩
  have n0 := h.hs
  have hz : w.heap.size ≤ (w.alloc (.cells #[.int .i64 c, .slice s1 L1.length c1, .slice s2 L2.length c2, .bool v] 30)).heap.size := ka.size
  have KA := hideP ka
  have H1 := hideP (heldMS_any lo hi s1 c1 L1 k (w.alloc (.cells #[.int .i64 c, .slice s1 L1.length c1, .slice s2 L2.length c2, .bool v] 30)) (fun b hb => hQ.bods.each b (by rw [List.map_append]; exact List.mem_append_left _ hb)) hQ.sp1 (by omega) (by omega) k0 (by omega))
  have H2 := hideP (heldQ_any lo hi s2 c2 L2 v (k + L1.length + mzs L1) (w.alloc (.cells #[.int .i64 c, .slice s1 L1.length c1, .slice s2 L2.length c2, .bool v] 30)) (fun b hb => hQ.bods.each b (by rw [List.map_append]; exact List.mem_append_right _ hb)) hQ.sp2 (by omega) (by omega) (by omega) (by omega))
  clear h hQ ka
  go_enter Try.func12, Try.ntmps12
  go_wp2_with fail
  generalize (w.alloc (.cells #[.int .i64 c, .slice s1 L1.length c1, .slice s2 L2.length c2, .bool v] 30)) = W at *
  have hW := X0.out.lt
  obtain ⟨p0, p1, p2, p3, p4, p5, p6, p7, p8⟩ := X0.out
  go_wp2_with fail
  clear p0 p1 p2 p3 p4 p5 p6 p7 p8
  refine Calls.mono H1.out ?_
  rintro e w1 ⟨rfl, rfl⟩
  obtain ⟨p0, p1, p2, p3, p4, p5, p6, p7, p8⟩ := X0.out
  go_wp2_with fail
  clear p0 p1 p2 p3 p4 p5 p6 p7 p8
  refine Calls.mono H2.out ?_
  rintro e w2 ⟨rfl, k2⟩
  have K2 := hideP (KA.out.trans (k2.mono hz))
  clear k2 KA X0
  go_wp2
  go_returns
  exact ⟨rfl, K2.out⟩

/-- A result of queues in its box. -/
structure QW (W : World) (b lo hi : Nat) (C : Int) (s1 : Option Addr) (c1 : Nat) (L1 : List Mg) (s2 : Option Addr) (c2 : Nat) (L2 : List Mg) (n1 n2 : Nat) (v : Bool) : Prop where
  box : R4 W b (.int .i64 C) (.slice s1 n1 c1) (.slice s2 n2 c2) (.bool v)
  qm : QM W lo hi s1 L1 s2 L2
  l1 : L1.length = n1
  l2 : L2.length = n2
section
variable {W W' : World} {b lo hi b' lo' hi' : Nat} {C : Int} {s1 s2 t1 t2 : Option Addr} {c1 c2 d1 d2 n1 n2 : Nat} {L1 L2 M1 M2 : List Mg} {v : Bool}
theorem QW.keep {B : Nat} (h : QW W b lo hi C s1 c1 L1 s2 c2 L2 n1 n2 v) (k : Below B W W') (hb : b < B) (hh : hi ≤ B) : QW W' b lo hi C s1 c1 L1 s2 c2 L2 n1 n2 v := ⟨h.box.keep k hb, h.qm.keep k hh, h.l1, h.l2⟩
theorem QW.far (h : QW W b lo hi C s1 c1 L1 s2 c2 L2 n1 n2 v) (f : Far lo' hi' W W') (hb : b < lo' ∨ hi' ≤ b) (hd : hi ≤ lo' ∨ hi' ≤ lo) : QW W' b lo hi C s1 c1 L1 s2 c2 L2 n1 n2 v := ⟨h.box.far f hb, h.qm.far f hd, h.l1, h.l2⟩
theorem eqQR_w (h : QW W b lo hi C s1 c1 L1 s2 c2 L2 n1 n2 v) (h' : QW W b' lo' hi' C t1 d1 M1 t2 d2 M2 n1 n2 v) (e1 : M1.map Mg.ct = L1.map Mg.ct) (e2 : M2.map Mg.ct = L2.map Mg.ct) (z1 : n1 + mzs L1 ≤ 10000) (z2 : n2 + mzs L2 ≤ 10000) :
    Calls Try.prog 8 #[.agg #[.int .i64 C, .slice s1 n1 c1, .slice s2 n2 c2, .bool v], .agg #[.int .i64 C, .slice t1 n1 d1, .slice t2 n2 d2, .bool v]] W fun e w' => e = .returned (.bool true) ∧ Below W.heap.size W w' := by
  have hh := eqQR_same lo hi lo' hi' s1 s2 t1 t2 c1 c2 d1 d2 L1 L2 M1 M2 C v W e1 e2 h.qm.ms1 h.qm.ms2 h'.qm.ms1 h'.qm.ms2 h.qm.hs h'.qm.hs (by have := h.l1; omega) (by have := h.l2; omega)
  rw [h.l1, h.l2, h'.l1, h'.l2] at hh
  exact hh
theorem markQR_w (h : QW W b lo hi C s1 c1 L1 s2 c2 L2 n1 n2 v) (z1 : n1 + mzs L1 ≤ 10000) (z2 : n2 + mzs L2 ≤ 10000) :
    ∃ T : Int, 0 ≤ T ∧ (Calls Try.prog 11 #[.agg #[.int .i64 C, .slice s1 n1 c1, .slice s2 n2 c2, .bool v], .int .i64 1] W fun e w' => e = .returned (.int .i64 T) ∧ Far lo hi W w' ∧ QM w' lo hi s1 (mkM 1 L1) s2 (mkM (1 + L1.length + mzs L1) L2)) ∧
      ∀ W', QM W' lo hi s1 (mkM 1 L1) s2 (mkM (1 + L1.length + mzs L1) L2) → Calls Try.prog 12 #[.agg #[.int .i64 C, .slice s1 n1 c1, .slice s2 n2 c2, .bool v], .int .i64 1] W' fun e w' => e = .returned (.int .i64 T) ∧ Below W'.heap.size W' w' := by
  have h1 := h.l1
  have h2 := h.l2
  refine ⟨1 + L1.length + mzs L1 + L2.length + mzs L2, by omega, ?_, fun W' hq => ?_⟩
  · have hh := markQR_any lo hi s1 s2 c1 c2 L1 L2 C v 1 W h.qm (by omega) (by omega) (by omega) (by omega)
    rw [h.l1, h.l2] at hh ⊢
    exact hh
  · have hh := heldQR_any lo hi s1 s2 c1 c2 L1 L2 C v 1 W' hq (by omega) (by omega) (by omega) (by omega)
    rw [h.l1, h.l2] at hh ⊢
    exact hh
end
end Go.Proofs.Ytngmiimendlleaa
