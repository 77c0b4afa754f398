/- The model's push of a message into a queue. -/
import Derived.Test.YtefkngpceeclhaaV25
namespace Go.Proofs.Ytefkngpceeclhaa
open Go.RowKit
set_option linter.unusedVariables false
attribute [local go_sem] growUpon growAt growUponR growAtR

/-- One message more, in a region whose order is open. -/
theorem made_appM {R : World → World → Prop} {w : World} {o : Oper} {a : Act} {K : World → Value → Prop}
    (s x : Operand) (ho : o.op = .call { callee := .builtin .append, args := #[s, x], argTypes := #[24, 24] })
    (base : Nat) (so : Option Addr) (sc : Nat) (L : List Mg) (hs : a.eval s = .slice so L.length sc) (hown : OwnM w base so sc L)
    (g cb : Nat) (m : Mg) (hx : a.eval x = .slice (some ⟨g, 0, none⟩) 1 cb) (hc : m.cells w g 0) (hn : L.length ≤ 1048577) (hbase : base ≤ w.heap.size)
    (h : ∀ so' sc' w', OwnM w' base so' sc' (L ++ [m]) → w.grownBy w' (Value.ownBlock (.slice so L.length sc)) → Below base w w' → R w w' ∧ K w' (.slice so' (L.length + 1) sc')) : madeAtR R Try.prog o a w K := by
  obtain ⟨i0, hi0, hz0, hz1, hz2⟩ := info_parts Try.infoM
  obtain ⟨v', w', hr, h2, h3, h4⟩ := run_append_own (P := Try.prog) w base 24 o.type 28 i0 (.agg #[.int .i64 0, .slice none 0 0]) 2 32 Try.underlying24 hi0 hz0 hz1 hz2 rfl (by decide) (.slice so L.length sc) L.length (mcs L) hown.row ⟨g, 0, none⟩ 1 cb m.vals (by simp [Mg.vals]) (fun j u hj => by
    rw [add_none]
    have hj' : j < 2 := by have := (List.getElem?_eq_some_iff.1 hj).1; simpa [Mg.vals] using this
    match j, hj' with
    | 0, _ => simp [Mg.vals] at hj; subst hj; exact hc.c0
    | 1, _ => simp [Mg.vals] at hj; subst hj; exact hc.c1) (fun v hv => by simp [Mg.vals] at hv; rcases hv with rfl | rfl <;> rfl) (by unfold maxLen; omega) (by omega) hbase
  have hr' : (execOp a.eval o).run Try.prog w = .ok (.value v') w' := by
    unfold execOp
    simp only [ho, resolve, invoke, builtin, Sem.run_bind, Sem.run_pure, Result.andThen_ok, List.map_toArray, List.map_cons, List.map_nil, hs, hx, hr]
  have ho2 : w'.ownsRow base 28 2 v' (L ++ [m]).length (mcs (L ++ [m])) := by
    rw [mcs_app, List.length_append]
    simpa [mcs] using h2
  have hbel : Below base w w' := (Below.refl base w).grown h3 hbase fun q hq => (World.ownsRow.lt hown.row q hq).1
  obtain ⟨g', cap', hv, _, _⟩ := World.ownsRow.form ho2 (by simp)
  subst hv
  have hh := h (some ⟨g', 0, none⟩) cap' w' ⟨ho2, fun e => by simp at e⟩ h3 hbel
  unfold madeAtR
  rw [hr']
  simpa [madeUponR] using hh

theorem pcC_yes {room : Int} {C : List (Int × List Int)} {t : Int × List Int} (h : room ≤ (C.length : Int)) : pcC room C t = C := by unfold pcC; rw [if_pos h]
theorem pcC_no {room : Int} {C : List (Int × List Int)} {t : Int × List Int} (h : ¬ room ≤ (C.length : Int)) : pcC room C t = C ++ [t] := by unfold pcC; rw [if_neg h]
theorem pcV_yes {room : Int} {C : List (Int × List Int)} {v : Bool} (h : room ≤ (C.length : Int)) : pcV room C v = true := by unfold pcV; rw [if_pos h]
theorem pcV_no {room : Int} {C : List (Int × List Int)} {v : Bool} (h : ¬ room ≤ (C.length : Int)) : pcV room C v = v := by unfold pcV; rw [if_neg h]
/-- What a push of the model leaves. -/
def PshA (b base : Nat) (C : List (Int × List Int)) (v : Bool) (w' : World) : Prop := ∃ (s' : Option Addr) (c' : Nat) (N : List Mg), LBox w' b base N v s' c' ∧ N.map Mg.ct = C

set_option maxRecDepth 100000 in
set_option maxHeartbeats 2000000 in
theorem push_true (lo hi b base : Nat) (s : Option Addr) (c : Nat) (M : List Mg) (v : Bool) (k : Int) (ao : Option Addr) (ca : Nat) (D : List Int) (w : World) (hR : Rb w b (.slice s M.length c) (.bool v)) (hL : Lin w base s c M) (hD : Row .u8 w lo hi ao D) (hs : hi ≤ w.heap.size) (hb : base ≤ b) (hn : M.length ≤ 1048576) (hl : D.length ≤ 1048576) (hk : isRep k = true) :
    Calls Try.prog 77 #[.pointer (some ⟨b, 0, none⟩), .agg #[.int .i64 k, .slice ao D.length ca]] w fun e w' => e = .returned (.tuple #[]) ∧ PshA b base (pcC 10 (M.map Mg.ct) (k, D)) (pcV 10 (M.map Mg.ct) v) w' ∧ Below base w w' := by
  have hlt := hR.lt
  have RP := hideP (l6Rep_any k)
  rw [hk] at RP
  have hMl : (M.map Mg.ct).length = M.length := by simp
  have hnz : some w.heap.size ≠ Value.ownBlock (.slice s M.length c) := fun e => by have := (World.ownsRow.lt hL.own.row _ e.symm).2; omega
  obtain ⟨P, hP⟩ : ∃ P, PshA b base (pcC 10 (M.map Mg.ct) (k, D)) (pcV 10 (M.map Mg.ct) v) = P := ⟨_, rfl⟩
  rw [hP]
  have HP := hideP hP
  have ka := kal3 w (.cells #[.int .i64 k, .slice ao D.length ca] 28)
  have R1 := hideP (hR.keep ka hlt)
  have L1 := hideP (hL.keep ka)
  have D1 := hideP (hD.keep ka hs)
  have Z1 := hideP (rb_new w (.int .i64 k) (.slice ao D.length ca) 28)
  have K1 : Hid (Below base w (w.alloc (.cells #[.int .i64 k, .slice ao D.length ca] 28))) := hideP (ka.mono (by omega))
  have n1 : (w.alloc (.cells #[.int .i64 k, .slice ao D.length ca] 28)).heap.size = w.heap.size + 1 := by simp
  clear hR hL hD ka hk hP
  go_enter Try.func77, Try.ntmps77
  go_wp2_with fail
  generalize w.alloc (.cells #[.int .i64 k, .slice ao D.length ca] 28) = w1 at *
  obtain ⟨p0, p1, p2, p3, p4⟩ := Z1.out
  go_wp2_with fail
  clear p0 p1 p2 p3 p4
  refine Calls.mono (RP.out w1) ?_
  rintro e w2 ⟨rfl, k2⟩
  have R2 := hideP (R1.out.keep k2 R1.out.lt)
  have L2 := hideP (L1.out.keep k2)
  have D2 := hideP (D1.out.keep k2 (by omega))
  have Z2 := hideP (Z1.out.keep k2 Z1.out.lt)
  have K2 := hideP (K1.out.trans (k2.mono (by omega)))
  have n2 := k2.size
  clear k2 R1 L1 D1 Z1 K1 RP
  have hr := R2.out.lt
  have hz := Z2.out.lt
  obtain ⟨p0, p1, p2, p3, p4⟩ := R2.out
  by_cases hroom : (10 : Int) ≤ (M.length : Int)
  · have HA : Hid (∀ w', LBox w' b base M true s c → P w') := hideP (fun w' h => by rw [← HP.out, pcC_yes (by omega), pcV_yes (by omega)]; exact ⟨s, c, M, h, rfl⟩)
    go_wp2
    go_returns
    exact ⟨rfl, HA.out _ ⟨R2.out.set1 _, L2.out.setBox R2.out.c0⟩, K2.out.setCell (p := ⟨b, 1, none⟩) hb _⟩
  · have HA : Hid (∀ w' s' c' (N : List Mg), LBox w' b base N v s' c' → N.map Mg.ct = M.map Mg.ct ++ [(k, D)] → P w') := hideP (fun w' s' c' N h hN => by rw [← HP.out, pcC_no (by omega), pcV_no (by omega)]; exact ⟨s', c', N, h, hN⟩)
    have CP := hideP (fun w3 (kk : Below w2.heap.size w2 w3) => sB_new lo hi ao ca D w3 (D2.out.keep kk (by omega)) (by have := kk.size; omega) hl)
    have hroom' : (M.length : Int) < 10 := by omega
    clear hroom
    go_wp2_with fail
    obtain ⟨q0, q1, q2, q3, q4⟩ := Z2.out
    refine wp_region_madesR (R := Stay (fun q => q = b ∨ q = w.heap.size)) (G := Kept) (rel_stay _) rel_keptA (fun h => Stay.of_below h) 9 6 (by kernel_rfl) (by kernel_rfl) ?_
    simp only [List.take_succ_cons, List.take_zero, List.drop_succ_cons, List.drop_zero]
    repeat (refine grow_stepR (by rfl) ?_; apply Exists.intro; refine ⟨fun w1 k1 => ?_, fun K hK => ?_⟩; (focus (have hc := fun o => k1.cell b o (.inl rfl) hr; have hd := fun o => k1.cell w.heap.size o (.inr rfl) hz; go_simp; first | done | rfl)); (go_simp; refine hK _ ?_; clear hK K))
    refine grow_nilR ?_
    clear p0 p1 p2 p3 p4 q0 q1 q2 q3 q4
    refine mades_stepR (by rfl) fun w3 k3 => ?_
    have kk3 := Kept.below k3
    refine made_callsR (by go_simp; first | done | rfl) ((CP.out w3 kk3).mono ?_)
    rintro e w4 ⟨d, rfl, N4, k4⟩
    refine ⟨_, rfl, Stay.of_below k4, fun K hK => ?_⟩
    go_simp
    refine hK _ ?_
    clear hK K
    refine mades_stepR (by rfl) fun w5 k5 => ?_
    have kk5 := Kept.below k5
    refine made_valueR (rel_stay _) (v := .agg #[.int .i64 k, .slice d.ao D.length d.cap]) (by go_simp; first | done | rfl) fun K hK => ?_
    go_simp
    refine hK _ ?_
    clear hK K
    refine mades_stepR (by rfl) fun w6 k6 => ?_
    have kk6 := Kept.below k6
    refine made_allocR (rel_stay _) (b := .cells #[.int .i64 k, .slice d.ao D.length d.cap] 28) (by go_simp; first | done | rfl) fun K hK => ?_
    go_simp
    refine hK _ ?_
    clear hK K
    refine mades_stepR (by rfl) fun w7 k7 => ?_
    have kk7 := Kept.below k7
    have hdl := N4.le
    have ka := kal3 w6 (.cells #[.int .i64 k, .slice d.ao D.length d.cap] 28)
    have N7 := (((N4.keep kk5).keep kk6).keep ka).keep kk7
    have K67 : Below w6.heap.size w6 w7 := ka.trans (kk7.mono ka.size)
    have K57 : Below w5.heap.size w5 w7 := kk6.trans (K67.mono kk6.size)
    have K47 : Below w4.heap.size w4 w7 := kk5.trans (K57.mono kk5.size)
    have K37 : Below w3.heap.size w3 w7 := k4.trans (K47.mono k4.size)
    have K27 : Below w2.heap.size w2 w7 := kk3.trans (K37.mono kk3.size)
    have C7 : Hid (Mg.cells w7 w6.heap.size 0 ⟨k, d⟩) := hideP (by
      have h := (rb_new w6 (.int .i64 k) (.slice d.ao D.length d.cap) 28).keep kk7 (by simp)
      exact ⟨h.c0, by rw [hdl]; exact h.c1⟩)
    obtain ⟨O7, B7⟩ := L2.out.more (k := k) kk3 (by omega) N7 K37
    have HO7 := hideP O7
    have HB7 := hideP B7
    have n7 := K27.size
    have R7 := hideP (R2.out.keep K27 hr)
    have HCT : Hid (Mg.ct ⟨k, d⟩ = (k, D)) := hideP (by simp [Mg.ct, hdl])
    have K7 := hideP (K2.out.trans (K27.mono (by omega)))
    have hbw : base ≤ w7.heap.size := by omega
    have hnb : some b ≠ Value.ownBlock (.slice s M.length c) := R2.out.c0 |> L2.out.own.notBox
    clear k3 kk3 k4 N4 k5 kk5 k6 kk6 k7 kk7 ka N7 K67 K57 K47 K37 K27 O7 B7 hdl CP R2 L2 D2 Z2 K2
    refine made_appM _ _ rfl base s c M rfl HO7.out w6.heap.size 1 ⟨k, d⟩ rfl C7.out (by omega) hbw ?_
    intro s8 c8 w8 O8 G8 K8
    have L8 := hideP (Lin.pushed HO7.out HB7.out O8 G8)
    have R8 := hideP (R7.out.grown G8 hnb)
    have KK8 := hideP (K7.out.trans K8)
    refine ⟨Stay.grown G8 (fun q hq => by rcases hq with rfl | rfl; exact hnb; exact hnz), fun K hK => ?_⟩
    clear O8 G8 K8 HO7 HB7 C7 R7 K7
    go_simp
    refine hK _ ?_
    clear hK K
    refine mades_stepR (by rfl) fun w9 k9 => ?_
    refine made_valueR (rel_stay _) (v := .pointer (some ⟨b, 0, none⟩)) (by go_simp; first | done | rfl) fun K hK => ?_
    go_simp
    refine hK _ ?_
    clear hK K
    refine mades_stepR (by rfl) fun w10 k10 => ?_
    refine made_valueR (rel_stay _) (v := .pointer (some ⟨b, 0, none⟩)) (by go_simp; first | done | rfl) fun K hK => ?_
    go_simp
    refine hK _ ?_
    clear hK K
    refine mades_nilR fun w11 k11 => ?_
    have KK : Below w8.heap.size w8 w11 := by
      have h9 := Kept.below k9
      have h10 := Kept.below k10
      exact h9.trans ((h10.trans ((Kept.below k11).mono h10.size)).mono h9.size)
    have L11 := hideP (L8.out.keep KK)
    have R11 := hideP (R8.out.keep KK R8.out.lt)
    have K11 := hideP (KK8.out.trans (KK.mono (by have := R8.out.lt; omega)))
    clear k9 k10 k11 KK L8 R8 KK8
    obtain ⟨p0, p1, p2, p3, p4⟩ := R11.out
    go_wp2
    go_returns
    refine ⟨rfl, HA.out _ s8 c8 (M ++ [⟨k, d⟩]) ⟨?_, L11.out.setBox R11.out.c0⟩ (by rw [List.map_append, List.map_cons, HCT.out]; rfl), K11.out.setCell (p := ⟨b, 0, none⟩) hb _⟩
    rw [List.length_append]
    exact R11.out.set0 _

set_option maxRecDepth 100000 in
set_option maxHeartbeats 2000000 in
theorem push_false (lo hi b base : Nat) (s : Option Addr) (c : Nat) (M : List Mg) (v : Bool) (k : Int) (ao : Option Addr) (ca : Nat) (D : List Int) (w : World) (hR : Rb w b (.slice s M.length c) (.bool v)) (hL : Lin w base s c M) (hD : Row .u8 w lo hi ao D) (hs : hi ≤ w.heap.size) (hb : base ≤ b) (hn : M.length ≤ 1048576) (hl : D.length ≤ 1048576) (hk : isRep k = false) :
    Calls Try.prog 77 #[.pointer (some ⟨b, 0, none⟩), .agg #[.int .i64 k, .slice ao D.length ca]] w fun e w' => e = .returned (.tuple #[]) ∧ PshA b base (pcC 6 (M.map Mg.ct) (k, D)) (pcV 6 (M.map Mg.ct) v) w' ∧ Below base w w' := by
  have hlt := hR.lt
  have RP := hideP (l6Rep_any k)
  rw [hk] at RP
  have hMl : (M.map Mg.ct).length = M.length := by simp
  have hnz : some w.heap.size ≠ Value.ownBlock (.slice s M.length c) := fun e => by have := (World.ownsRow.lt hL.own.row _ e.symm).2; omega
  obtain ⟨P, hP⟩ : ∃ P, PshA b base (pcC 6 (M.map Mg.ct) (k, D)) (pcV 6 (M.map Mg.ct) v) = P := ⟨_, rfl⟩
  rw [hP]
  have HP := hideP hP
  have ka := kal3 w (.cells #[.int .i64 k, .slice ao D.length ca] 28)
  have R1 := hideP (hR.keep ka hlt)
  have L1 := hideP (hL.keep ka)
  have D1 := hideP (hD.keep ka hs)
  have Z1 := hideP (rb_new w (.int .i64 k) (.slice ao D.length ca) 28)
  have K1 : Hid (Below base w (w.alloc (.cells #[.int .i64 k, .slice ao D.length ca] 28))) := hideP (ka.mono (by omega))
  have n1 : (w.alloc (.cells #[.int .i64 k, .slice ao D.length ca] 28)).heap.size = w.heap.size + 1 := by simp
  clear hR hL hD ka hk hP
  go_enter Try.func77, Try.ntmps77
  go_wp2_with fail
  generalize w.alloc (.cells #[.int .i64 k, .slice ao D.length ca] 28) = w1 at *
  obtain ⟨p0, p1, p2, p3, p4⟩ := Z1.out
  go_wp2_with fail
  clear p0 p1 p2 p3 p4
  refine Calls.mono (RP.out w1) ?_
  rintro e w2 ⟨rfl, k2⟩
  have R2 := hideP (R1.out.keep k2 R1.out.lt)
  have L2 := hideP (L1.out.keep k2)
  have D2 := hideP (D1.out.keep k2 (by omega))
  have Z2 := hideP (Z1.out.keep k2 Z1.out.lt)
  have K2 := hideP (K1.out.trans (k2.mono (by omega)))
  have n2 := k2.size
  clear k2 R1 L1 D1 Z1 K1 RP
  have hr := R2.out.lt
  have hz := Z2.out.lt
  obtain ⟨p0, p1, p2, p3, p4⟩ := R2.out
  by_cases hroom : (6 : Int) ≤ (M.length : Int)
  · have HA : Hid (∀ w', LBox w' b base M true s c → P w') := hideP (fun w' h => by rw [← HP.out, pcC_yes (by omega), pcV_yes (by omega)]; exact ⟨s, c, M, h, rfl⟩)
    go_wp2
    go_returns
    exact ⟨rfl, HA.out _ ⟨R2.out.set1 _, L2.out.setBox R2.out.c0⟩, K2.out.setCell (p := ⟨b, 1, none⟩) hb _⟩
  · have HA : Hid (∀ w' s' c' (N : List Mg), LBox w' b base N v s' c' → N.map Mg.ct = M.map Mg.ct ++ [(k, D)] → P w') := hideP (fun w' s' c' N h hN => by rw [← HP.out, pcC_no (by omega), pcV_no (by omega)]; exact ⟨s', c', N, h, hN⟩)
    have CP := hideP (fun w3 (kk : Below w2.heap.size w2 w3) => sB_new lo hi ao ca D w3 (D2.out.keep kk (by omega)) (by have := kk.size; omega) hl)
    have hroom' : (M.length : Int) < 6 := by omega
    clear hroom
    go_wp2_with fail
    obtain ⟨q0, q1, q2, q3, q4⟩ := Z2.out
    refine wp_region_madesR (R := Stay (fun q => q = b ∨ q = w.heap.size)) (G := Kept) (rel_stay _) rel_keptA (fun h => Stay.of_below h) 9 6 (by kernel_rfl) (by kernel_rfl) ?_
    simp only [List.take_succ_cons, List.take_zero, List.drop_succ_cons, List.drop_zero]
    repeat (refine grow_stepR (by rfl) ?_; apply Exists.intro; refine ⟨fun w1 k1 => ?_, fun K hK => ?_⟩; (focus (have hc := fun o => k1.cell b o (.inl rfl) hr; have hd := fun o => k1.cell w.heap.size o (.inr rfl) hz; go_simp; first | done | rfl)); (go_simp; refine hK _ ?_; clear hK K))
    refine grow_nilR ?_
    clear p0 p1 p2 p3 p4 q0 q1 q2 q3 q4
    refine mades_stepR (by rfl) fun w3 k3 => ?_
    have kk3 := Kept.below k3
    refine made_callsR (by go_simp; first | done | rfl) ((CP.out w3 kk3).mono ?_)
    rintro e w4 ⟨d, rfl, N4, k4⟩
    refine ⟨_, rfl, Stay.of_below k4, fun K hK => ?_⟩
    go_simp
    refine hK _ ?_
    clear hK K
    refine mades_stepR (by rfl) fun w5 k5 => ?_
    have kk5 := Kept.below k5
    refine made_valueR (rel_stay _) (v := .agg #[.int .i64 k, .slice d.ao D.length d.cap]) (by go_simp; first | done | rfl) fun K hK => ?_
    go_simp
    refine hK _ ?_
    clear hK K
    refine mades_stepR (by rfl) fun w6 k6 => ?_
    have kk6 := Kept.below k6
    refine made_allocR (rel_stay _) (b := .cells #[.int .i64 k, .slice d.ao D.length d.cap] 28) (by go_simp; first | done | rfl) fun K hK => ?_
    go_simp
    refine hK _ ?_
    clear hK K
    refine mades_stepR (by rfl) fun w7 k7 => ?_
    have kk7 := Kept.below k7
    have hdl := N4.le
    have ka := kal3 w6 (.cells #[.int .i64 k, .slice d.ao D.length d.cap] 28)
    have N7 := (((N4.keep kk5).keep kk6).keep ka).keep kk7
    have K67 : Below w6.heap.size w6 w7 := ka.trans (kk7.mono ka.size)
    have K57 : Below w5.heap.size w5 w7 := kk6.trans (K67.mono kk6.size)
    have K47 : Below w4.heap.size w4 w7 := kk5.trans (K57.mono kk5.size)
    have K37 : Below w3.heap.size w3 w7 := k4.trans (K47.mono k4.size)
    have K27 : Below w2.heap.size w2 w7 := kk3.trans (K37.mono kk3.size)
    have C7 : Hid (Mg.cells w7 w6.heap.size 0 ⟨k, d⟩) := hideP (by
      have h := (rb_new w6 (.int .i64 k) (.slice d.ao D.length d.cap) 28).keep kk7 (by simp)
      exact ⟨h.c0, by rw [hdl]; exact h.c1⟩)
    obtain ⟨O7, B7⟩ := L2.out.more (k := k) kk3 (by omega) N7 K37
    have HO7 := hideP O7
    have HB7 := hideP B7
    have n7 := K27.size
    have R7 := hideP (R2.out.keep K27 hr)
    have HCT : Hid (Mg.ct ⟨k, d⟩ = (k, D)) := hideP (by simp [Mg.ct, hdl])
    have K7 := hideP (K2.out.trans (K27.mono (by omega)))
    have hbw : base ≤ w7.heap.size := by omega
    have hnb : some b ≠ Value.ownBlock (.slice s M.length c) := R2.out.c0 |> L2.out.own.notBox
    clear k3 kk3 k4 N4 k5 kk5 k6 kk6 k7 kk7 ka N7 K67 K57 K47 K37 K27 O7 B7 hdl CP R2 L2 D2 Z2 K2
    refine made_appM _ _ rfl base s c M rfl HO7.out w6.heap.size 1 ⟨k, d⟩ rfl C7.out (by omega) hbw ?_
    intro s8 c8 w8 O8 G8 K8
    have L8 := hideP (Lin.pushed HO7.out HB7.out O8 G8)
    have R8 := hideP (R7.out.grown G8 hnb)
    have KK8 := hideP (K7.out.trans K8)
    refine ⟨Stay.grown G8 (fun q hq => by rcases hq with rfl | rfl; exact hnb; exact hnz), fun K hK => ?_⟩
    clear O8 G8 K8 HO7 HB7 C7 R7 K7
    go_simp
    refine hK _ ?_
    clear hK K
    refine mades_stepR (by rfl) fun w9 k9 => ?_
    refine made_valueR (rel_stay _) (v := .pointer (some ⟨b, 0, none⟩)) (by go_simp; first | done | rfl) fun K hK => ?_
    go_simp
    refine hK _ ?_
    clear hK K
    refine mades_stepR (by rfl) fun w10 k10 => ?_
    refine made_valueR (rel_stay _) (v := .pointer (some ⟨b, 0, none⟩)) (by go_simp; first | done | rfl) fun K hK => ?_
    go_simp
    refine hK _ ?_
    clear hK K
    refine mades_nilR fun w11 k11 => ?_
    have KK : Below w8.heap.size w8 w11 := by
      have h9 := Kept.below k9
      have h10 := Kept.below k10
      exact h9.trans ((h10.trans ((Kept.below k11).mono h10.size)).mono h9.size)
    have L11 := hideP (L8.out.keep KK)
    have R11 := hideP (R8.out.keep KK R8.out.lt)
    have K11 := hideP (KK8.out.trans (KK.mono (by have := R8.out.lt; omega)))
    clear k9 k10 k11 KK L8 R8 KK8
    obtain ⟨p0, p1, p2, p3, p4⟩ := R11.out
    go_wp2
    go_returns
    refine ⟨rfl, HA.out _ s8 c8 (M ++ [⟨k, d⟩]) ⟨?_, L11.out.setBox R11.out.c0⟩ (by rw [List.map_append, List.map_cons, HCT.out]; rfl), K11.out.setCell (p := ⟨b, 0, none⟩) hb _⟩
    rw [List.length_append]
    exact R11.out.set0 _
end Go.Proofs.Ytefkngpceeclhaa
