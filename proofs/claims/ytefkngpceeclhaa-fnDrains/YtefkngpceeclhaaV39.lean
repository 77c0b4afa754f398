/- QueueFault: the law's walk. -/
import Derived.Test.YtefkngpceeclhaaV19
namespace Go.Proofs.Ytefkngpceeclhaa
open Go.RowKit
set_option linter.unusedVariables false

set_option maxHeartbeats 400000 in
theorem qf_big (lo hi : Nat) (so : Option Addr) (sc : Nat) (L : List Mg) (v : Bool) (w : World) (hL : Ms w lo hi so L) (hs : hi ≤ w.heap.size) (hn : L.length ≤ maxLen) (hm : ∀ r ∈ L, r.b.L.length ≤ maxLen) (h : 1048576 < L.length + mzs L) :
    Calls Try.prog 5 #[.agg #[.slice so L.length sc, .bool v]] w fun e w' => e = .returned (.bool true) ∧ Below w.heap.size w w' := by
  have SZ := fun w1 (kk : Below w.heap.size w w1) => szQ_any lo hi so sc L v 1048576 w1 (hL.keep kk hs) (by have := kk.size; omega) hn hm (by omega) (by omega)
  rw [szV_no (by omega)] at SZ
  have SZ' := hideP SZ
  clear SZ hL hm
  go_enter Try.func5, Try.ntmps5
  go_wp2_with fail
  refine Calls.mono (SZ'.out _ (by go_grown)) ?_
  rintro e w1 ⟨rfl, k1⟩
  have K1 : Hid (Below w.heap.size w w1) := hideP (Below.trans (by go_grown) (k1.mono (by simp)))
  clear k1
  go_wp2
  go_returns
  exact ⟨rfl, K1.out⟩

/-- What a copy of a queue is, where it was told. -/
def CopyQ (w : World) (L : List Mg) (b : Bool) (w2 : World) (v : Value) : Prop := ∃ (s : Option Addr) (M : List Mg), v = .agg #[.slice s L.length L.length, .bool b] ∧ M.length = L.length ∧ mzs M = mzs L ∧ M.map Mg.ct = L.map Mg.ct ∧ QM w2 w.heap.size w2.heap.size none [] s M

theorem toQ_copy (lo hi : Nat) (so : Option Addr) (sc : Nat) (L : List Mg) (v : Bool) (w : World) (hL : Ms w lo hi so L) (hs : hi ≤ w.heap.size) (hn : L.length + mzs L ≤ 1048576) :
    Calls Try.prog 30 #[.agg #[.slice so L.length sc, .bool v]] w fun e w' => ∃ u, e = .returned u ∧ CopyQ w L v w' u ∧ Below w.heap.size w w' :=
  (toQ_any lo hi so sc L v w hL hs hn).mono fun e w' ⟨s, M, he, hc, hq, hb⟩ => ⟨_, he, ⟨s, M, by rw [len_ct hc], len_ct hc, mzs_ct hc, hc, hq⟩, hb⟩

theorem copyQ_made (lo hi : Nat) (so : Option Addr) (sc : Nat) (L : List Mg) (v : Bool) (w : World) (hL : Ms w lo hi so L) (hs : hi ≤ w.heap.size) (hn : L.length + mzs L ≤ 1048576) :
    Calls Try.prog 30 #[.agg #[.slice so L.length sc, .bool v]] w fun e w2 => ∃ u, e = .returned u ∧ Below w.heap.size w w2 ∧ CopyQ w L v w2 u :=
  (toQ_copy lo hi so sc L v w hL hs hn).mono fun e w' ⟨u, he, hc, hb⟩ => ⟨u, he, hb, hc⟩

def SaidYes (w2 : World) (v : Value) : Prop := v = .bool true

theorem true_made {P : Program} {f : FuncId} {args : Array Value} {w : World} (h : Calls P f args w fun e w' => e = .returned (.bool true) ∧ Below w.heap.size w w') :
    Calls P f args w fun e w2 => ∃ v, e = .returned v ∧ Below w.heap.size w w2 ∧ SaidYes w2 v := h.mono fun e w2 ⟨he, hb⟩ => ⟨_, he, hb, rfl⟩

theorem eqQ_n (n lo hi lo2 hi2 : Nat) (so so2 : Option Addr) (sc sc2 : Nat) (L M : List Mg) (v : Bool) (w : World) (h1 : L.length = n) (h2 : M.length = n) (hE : M.map Mg.ct = L.map Mg.ct) (hL : Ms w lo hi so L) (hM : Ms w lo2 hi2 so2 M) (h3 : hi ≤ w.heap.size) (h4 : hi2 ≤ w.heap.size) (hn : n + mzs L ≤ 1048576) :
    Calls Try.prog 31 #[.agg #[.slice so n sc, .bool v], .agg #[.slice so2 n sc2, .bool v]] w fun e w' => e = .returned (.bool true) ∧ Below w.heap.size w w' := by
  have h := eqQ_same lo hi lo2 hi2 so so2 sc sc2 L M v w hE hL hM h3 h4 (by omega)
  rw [h1, h2] at h
  exact h

theorem iQF_n (n lo hi : Nat) (so : Option Addr) (sc : Nat) (C : List (Int × List Int)) (M : List Mg) (v : Bool) (w : World) (h1 : M.length = n) (hc : M.map Mg.ct = C) (hL : Ms w lo hi so M) (hs : hi ≤ w.heap.size) (hn : n + mzs M ≤ 1048576) :
    Calls Try.prog 18 #[.agg #[.slice so n sc, .bool v]] w fun e w' => e = .returned (.int .i64 (qF C)) ∧ Below w.heap.size w w' := by
  have h := iQF_any lo hi so sc M v w hL hs (by omega)
  rw [h1, hc] at h
  exact h

theorem sQF_n (n lo hi : Nat) (so : Option Addr) (sc : Nat) (C : List (Int × List Int)) (M : List Mg) (v : Bool) (w : World) (h1 : M.length = n) (hc : M.map Mg.ct = C) (hL : Ms w lo hi so M) (hs : hi ≤ w.heap.size) (hn : n + mzs M ≤ 1048576) :
    Calls Try.prog 19 #[.agg #[.slice so n sc, .bool v]] w fun e w' => e = .returned (.int .i64 (qF C)) ∧ Below w.heap.size w w' := by
  have h := sQF_any lo hi so sc M v w hL hs (by omega)
  rw [h1, hc] at h
  exact h

theorem kalM (w : World) (o : Obj) : Below w.heap.size w (w.alloc o) := (Below.refl _ _).alloc (Nat.le_refl _) o

set_option maxHeartbeats 2000000 in
theorem qf_small (lo hi : Nat) (so : Option Addr) (sc : Nat) (L : List Mg) (v : Bool) (w : World) (hL : Ms w lo hi so L) (hs : hi ≤ w.heap.size) (hn : L.length ≤ maxLen) (hm : ∀ r ∈ L, r.b.L.length ≤ maxLen) (h : L.length + mzs L ≤ 1048576) :
    Calls Try.prog 5 #[.agg #[.slice so L.length sc, .bool v]] w fun e w' => e = .returned (.bool true) ∧ Below w.heap.size w w' := by
  have SZ := fun w1 (kk : Below w.heap.size w w1) => szQ_any lo hi so sc L v 1048576 w1 (hL.keep kk hs) (by have := kk.size; omega) hn hm (by omega) (by omega)
  rw [szV_yes (by omega)] at SZ
  obtain ⟨z, hz⟩ : ∃ z : Int, (1048576 : Int) - ((L.length + mzs L : Nat) : Int) = z := ⟨_, rfl⟩
  have hz0 : ¬ z < 0 := by omega
  rw [hz] at SZ
  have SZ' := hideP SZ
  have TO := hideP (fun w1 (kk : Below w.heap.size w w1) => toQ_copy lo hi so sc L v w1 (hL.keep kk hs) (by have := kk.size; omega) h)
  have TM := hideP (fun w1 (kk : Below w.heap.size w w1) => copyQ_made lo hi so sc L v w1 (hL.keep kk hs) (by have := kk.size; omega) h)
  obtain ⟨C, hC⟩ : ∃ C, L.map Mg.ct = C := ⟨_, rfl⟩
  have HC := hideP hC
  obtain ⟨n, hnL⟩ : ∃ n, L.length = n := ⟨_, rfl⟩
  unfold CopyQ at TO
  rw [hnL, hC] at TO
  rw [hnL] at SZ' TM h ⊢
  clear SZ hL hm hz hn hC
  go_enter Try.func5, Try.ntmps5
  go_wp2_with fail
  refine Calls.mono (SZ'.out _ (by go_grown)) ?_
  rintro e w1 ⟨rfl, k1⟩
  have K1 : Hid (Below w.heap.size w w1) := hideP (Below.trans (by go_grown) (k1.mono (by simp)))
  have X1 : Hid (Rb w1 w.heap.size (.slice so n sc) (.bool v)) := hideP (Rb.keep ⟨by simp, by simp, by simp, by simp, by simp⟩ k1 (by simp))
  have n1 : w.heap.size < w1.heap.size := X1.out.lt
  clear k1 SZ'
  obtain ⟨p0, p1, p2, p3, p4⟩ := X1.out
  go_wp2_with fail
  clear p0 p1 p2 p3 p4
  refine Calls.mono (TO.out _ K1.out) ?_
  rintro e w2 ⟨_, rfl, ⟨s2, M2, rfl, l2, z2, c2, Q2⟩, k2⟩
  have HQ2 := hideP Q2
  have HC2 := hideP c2
  have K2 : Hid (Below w.heap.size w w2) := hideP (K1.out.trans (k2.mono (by omega)))
  have X2 := hideP (X1.out.keep k2 n1)
  have n2 := Nat.lt_of_lt_of_le n1 k2.size
  clear k2 Q2 c2 K1 X1 n1
  go_wp2_with fail
  refine Calls.mono (sQF_n n _ _ s2 n C M2 v _ l2 HC2.out HQ2.out.ms2 (Nat.le_refl _) (by omega)) ?_
  rintro e w3 ⟨rfl, k3⟩
  have K3 : Hid (Below w.heap.size w w3) := hideP (K2.out.trans (k3.mono (by omega)))
  have X3 := hideP (X2.out.keep k3 n2)
  have n3 := Nat.lt_of_lt_of_le n2 k3.size
  clear k3 K2 X2 n2 HQ2 HC2
  obtain ⟨p0, p1, p2, p3, p4⟩ := X3.out
  go_wp2_with fail
  clear p0 p1 p2 p3 p4
  refine Calls.mono (TO.out _ K3.out) ?_
  rintro e w4 ⟨_, rfl, ⟨s4, M4, rfl, l4, z4, c4, Q4⟩, k4⟩
  have HQ4 := hideP Q4
  have HC4 := hideP c4
  have K4 : Hid (Below w.heap.size w w4) := hideP (K3.out.trans (k4.mono (by omega)))
  have X4 := hideP (X3.out.keep k4 n3)
  have n4 := Nat.lt_of_lt_of_le n3 k4.size
  clear k4 Q4 c4 K3 X3 n3
  go_wp2_with fail
  have ka := kalM w4 (.cells #[.slice s4 n n, .bool v] 26)
  have K5 := hideP (K4.out.trans (ka.mono (by omega)))
  have X5 := hideP (X4.out.keep ka n4)
  have Y5 : Hid (Rb (w4.alloc (.cells #[.slice s4 n n, .bool v] 26)) w4.heap.size (.slice s4 n n) (.bool v)) := hideP ⟨by simp, by simp, by simp, by simp, by simp⟩
  have HQ5 := hideP (HQ4.out.keep ka (Nat.le_refl _))
  have n5 : w4.heap.size < (w4.alloc (.cells #[.slice s4 n n, .bool v] 26)).heap.size := by simp
  clear ka K4 X4 HQ4
  generalize w4.alloc (.cells #[.slice s4 n n, .bool v] 26) = w5 at *
  refine Calls.mono (iQF_n n _ _ s4 n C M4 v w5 l4 HC4.out HQ5.out.ms2 (by omega) (by omega)) ?_
  rintro e w6 ⟨rfl, k6⟩
  have K6 : Hid (Below w.heap.size w w6) := hideP (K5.out.trans (k6.mono (by omega)))
  have X6 := hideP (X5.out.keep k6 (by omega))
  have Y6 := hideP (Y5.out.keep k6 n5)
  have HQ6 := hideP (HQ5.out.keep k6 (by omega))
  have n6 := k6.size
  have hne : (qF C != qF C) = false := by simp
  clear k6 K5 X5 Y5 HQ5
  have n6a : w.heap.size < w6.heap.size := by omega
  have n6b : w4.heap.size < w6.heap.size := by omega
  obtain ⟨p0, p1, p2, p3, p4⟩ := X6.out
  obtain ⟨q0, q1, q2, q3, q4⟩ := Y6.out
  go_wp2_with fail
  refine wp_region_held (S := Kept w6) (by kernel_rfl) ?_
  show wpAnyH _ _ _ _ _ 5 (Array.replicate 5 false) _ (w6).drew
  have hK0 : Kept (w6) (w6).drew := (Below.refl _ _).drew
  generalize hQQ : (Exit.then _ _ : Exit → Act → World → Prop) = QQ
  have hQ : ∀ c a d v w, QQ (.panic c) (Act.put a d v) w → QQ (.panic c) a w := by
    subst hQQ
    intro c a d v w h
    cases d <;> exact h
  refine held_take (i := 0) rfl (by kernel_rfl) (by kernel_rfl) (by kernel_rfl) hQ hK0 (by rfl) ?_
  apply Exists.intro
  refine ⟨fun w1 k1 => ?_, fun K hK => ?_⟩
  · have hc := Kept.cell k1
    go_simp
    first | done | rfl
  go_simp
  refine hK _ ?_
  clear hK K
  refine held_take (i := 1) rfl (by kernel_rfl) (by kernel_rfl) (by kernel_rfl) hQ hK0 (by rfl) ?_
  apply Exists.intro
  refine ⟨fun w1 k1 => ?_, fun K hK => ?_⟩
  · have hc := Kept.cell k1
    go_simp
    first | done | rfl
  go_simp
  refine hK _ ?_
  clear hK K
  refine held_one (i := 2) rfl (by kernel_rfl) (by rfl) ?_
  refine wp_of_made (L := CopyQ w6.drew L v) ?_ ?_
  · exact made_call (by go_simp; first | done | rfl) (TM.out _ (K6.out.trans (Below.mono hK0 (by omega))))
  rintro w7 u hb ⟨s7, M7, rfl, l7, z7, c7, Q7⟩
  have hK7 := Kept.trans hK0 hb
  refine ⟨hK7, ?_⟩
  refine norm_act fun K hK => ?_
  go_simp
  refine hK _ ?_
  clear hK K
  have n7 := hb.size
  simp only [World.size_drew] at n7
  have l7' := l7.trans hnL
  have c7' : M7.map Mg.ct = M4.map Mg.ct := (c7.trans HC.out).trans HC4.out.symm
  refine held_one (i := 3) rfl (by kernel_rfl) (by rfl) ?_
  refine wp_of_made (L := SaidYes) ?_ ?_
  · exact made_call (by go_simp; first | done | rfl) (true_made (eqQ_n n _ _ _ _ s4 s7 n n M4 M7 v w7 l4 l7' c7' (HQ6.out.ms2.keep hK7 (by omega)) Q7.ms2 (by omega) (Nat.le_refl _) (by omega)))
  rintro w8 u hb ⟨⟩
  have hK8 := Kept.trans hK7 hb
  refine ⟨hK8, ?_⟩
  refine norm_act fun K hK => ?_
  go_simp
  refine hK _ ?_
  clear hK K
  refine held_one (i := 4) rfl (by kernel_rfl) (by rfl) ?_
  refine wp_of_run (v := .bool false) (w' := _) (by go_simp; first | done | rfl) ?_
  refine ⟨hK8, ?_⟩
  refine norm_act fun K hK => ?_
  go_simp
  refine hK _ ?_
  clear hK K
  refine wpAnyH_done (by kernel_rfl) ?_ _
  subst hQQ
  have K8 : Hid (Below w.heap.size w w8) := hideP (K6.out.trans (hK8.mono (by omega)))
  clear hQ hK0 hK7 hK8 Q7 hb p0 p1 p2 p3 p4 q0 q1 q2 q3 q4 X6 Y6
  go_wp2
  go_returns
  exact ⟨rfl, K8.out⟩

theorem qf_law (so : Option Addr) (sc : Nat) (L : List Mg) (v : Bool) (w : World) (hn : L.length ≤ maxLen) (hL : Ms w 0 w.heap.size so L) (hm : ∀ r ∈ L, r.b.L.length ≤ maxLen) :
    Calls Try.prog 5 #[.agg #[.slice so L.length sc, .bool v]] w fun e w' => e = .returned (.bool true) ∧ Below w.heap.size w w' := by
  by_cases h : L.length + mzs L ≤ 1048576
  · exact qf_small 0 w.heap.size so sc L v w hL (Nat.le_refl _) hn hm h
  · exact qf_big 0 w.heap.size so sc L v w hL (Nat.le_refl _) hn hm (by omega)
end Go.Proofs.Ytefkngpceeclhaa
