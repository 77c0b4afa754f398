/- What a push answers; the program's push. -/
import Derived.Test.YtefkngpceeclhaaV20
namespace Go.Proofs.Ytefkngpceeclhaa
open Go.RowKit
set_option linter.unusedVariables false

/-- What a push answers, in contents. -/
def puC (C : List (Int × List Int)) (t : Int × List Int) (rep : Bool) : Int := if qF C = 0 then (if mF t = 0 then (if isRep t.1 = rep then 0 else 1) else mF t) else qF C
def pcC (room : Int) (C : List (Int × List Int)) (t : Int × List Int) : List (Int × List Int) := if room ≤ (C.length : Int) then C else C ++ [t]
def pcV (room : Int) (C : List (Int × List Int)) (v : Bool) : Bool := if room ≤ (C.length : Int) then true else v
def rmOf (rep : Bool) : Int := if rep then 10 else 6
def puL (C : List (Int × List Int)) (t : Int × List Int) (rep : Bool) : List (Int × List Int) := if puC C t rep = 0 then pcC (rmOf rep) C t else []
def puV (C : List (Int × List Int)) (t : Int × List Int) (rep v : Bool) : Bool := if puC C t rep = 0 then pcV (rmOf rep) C v else false
theorem puC_q {C : List (Int × List Int)} {t : Int × List Int} {rep : Bool} (h : qF C ≠ 0) : puC C t rep = qF C := by unfold puC; rw [if_neg h]
theorem puC_m {C : List (Int × List Int)} {t : Int × List Int} {rep : Bool} (h : qF C = 0) (h2 : mF t ≠ 0) : puC C t rep = mF t := by unfold puC; rw [if_pos h, if_neg h2]
theorem puC_r {C : List (Int × List Int)} {t : Int × List Int} {rep : Bool} (h : qF C = 0) (h2 : mF t = 0) (h3 : isRep t.1 ≠ rep) : puC C t rep = 1 := by unfold puC; rw [if_pos h, if_pos h2, if_neg h3]
theorem puC_ok {C : List (Int × List Int)} {t : Int × List Int} {rep : Bool} (h : qF C = 0) (h2 : mF t = 0) (h3 : isRep t.1 = rep) : puC C t rep = 0 := by unfold puC; rw [if_pos h, if_pos h2, if_pos h3]
theorem qF_nn (C : List (Int × List Int)) (h : qF C = 0) : C.length ≤ 10 ∧ msF C = 0 := by
  by_cases h10 : 10 < C.length
  · rw [qF_many h10] at h; simp at h
  · rw [qF_few h10] at h; exact ⟨by omega, h⟩
theorem puC_zero {C : List (Int × List Int)} {t : Int × List Int} {rep : Bool} (h : puC C t rep = 0) : qF C = 0 ∧ mF t = 0 ∧ isRep t.1 = rep := by
  unfold puC at h
  by_cases h1 : qF C = 0
  · rw [if_pos h1] at h
    by_cases h2 : mF t = 0
    · rw [if_pos h2] at h
      by_cases h3 : isRep t.1 = rep
      · exact ⟨h1, h2, h3⟩
      · rw [if_neg h3] at h; simp at h
    · rw [if_neg h2] at h; exact absurd h h2
  · rw [if_neg h1] at h; exact absurd h h1
theorem psh_ct (room : Int) (M : List Mg) (m : Mg) : (psh room M m).map Mg.ct = pcC room (M.map Mg.ct) m.ct := by
  unfold psh pcC
  rw [List.length_map]
  split
  · rfl
  · simp
theorem psh_v (room : Int) (M : List Mg) (v : Bool) : pshV room M v = pcV room (M.map Mg.ct) v := by unfold pshV pcV; rw [List.length_map]
/-- All bodies are small. -/
theorem mzs_le (L : List Mg) (h : ∀ m ∈ L, m.b.L.length ≤ 30) : mzs L ≤ 30 * L.length := by
  induction L with
  | nil => simp [mzs_nil]
  | cons m L ih => have := ih fun x hx => h x (by simp [hx]); have := h m (by simp); rw [mzs_cons, List.length_cons]; omega
theorem pu_small {C : List (Int × List Int)} {t : Int × List Int} {rep : Bool} {N : List Mg} (h : N.map Mg.ct = puL C t rep) : N.length ≤ 11 ∧ mzs N ≤ 330 := by
  unfold puL at h
  by_cases h0 : puC C t rep = 0
  · rw [if_pos h0] at h
    obtain ⟨h1, h2, h3⟩ := puC_zero h0
    obtain ⟨h4, h5⟩ := qF_nn C h1
    have hall : ∀ x ∈ pcC (rmOf rep) C t, mF x = 0 := by
      unfold pcC
      intro x hx
      split at hx
      · exact msF_mem h5 x hx
      · rcases List.mem_append.1 hx with hx | hx
        · exact msF_mem h5 x hx
        · simp at hx; rw [hx]; exact h2
    have hlen : (pcC (rmOf rep) C t).length ≤ 11 := by
      unfold pcC
      split
      · omega
      · simp; omega
    have hN : N.length ≤ 11 := by have := congrArg List.length h; simp at this; omega
    have := mzs_le N fun m hm => by
      have := mF_len (hall m.ct (by rw [← h]; exact List.mem_map_of_mem hm))
      simpa [Mg.ct] using this.1
    exact ⟨hN, by omega⟩
  · rw [if_neg h0] at h
    have : N = [] := by simpa using h
    subst this
    exact ⟨by simp, by simp [mzs_nil]⟩

theorem Lin.le {w : World} {base base' : Nat} {so : Option Addr} {sc : Nat} {L : List Mg} (h : Lin w base so sc L) (hb : base' ≤ base) : Lin w base' so sc L := ⟨h.own.le hb, h.bods.wide hb (Nat.le_refl _)⟩
/-- An answer of a push. -/
def PutA (C : List (Int × List Int)) (t : Int × List Int) (rep v : Bool) (w : World) (e : Ending) (w' : World) : Prop :=
  ∃ (s : Option Addr) (c : Nat) (N : List Mg), e = .returned (.agg #[.int .i64 (puC C t rep), .slice none 0 0, .slice s N.length c, .bool (puV C t rep v)]) ∧ N.map Mg.ct = puL C t rep ∧ Lin w' w.heap.size s c N ∧ Below w.heap.size w w'
theorem putA_no {C : List (Int × List Int)} {t : Int × List Int} {rep v : Bool} {w w' : World} (h : puC C t rep ≠ 0) (hb : Below w.heap.size w w') : PutA C t rep v w (.returned (.agg #[.int .i64 (puC C t rep), .slice none 0 0, .slice none 0 0, .bool false])) w' :=
  ⟨none, 0, [], by unfold puV; rw [if_neg h]; rfl, by unfold puL; rw [if_neg h]; rfl, Lin.nil _ _, hb⟩
theorem putA_yes {C : List (Int × List Int)} {t : Int × List Int} {rep v : Bool} {w w' : World} {s : Option Addr} {c : Nat} {N : List Mg} (h : puC C t rep = 0) (hN : N.map Mg.ct = pcC (rmOf rep) C t) (hl : Lin w' w.heap.size s c N) (hb : Below w.heap.size w w') : PutA C t rep v w (.returned (.agg #[.int .i64 0, .slice none 0 0, .slice s N.length c, .bool (pcV (rmOf rep) C v)])) w' :=
  ⟨s, c, N, by unfold puV; rw [if_pos h, h], by unfold puL; rw [if_pos h]; exact hN, hl, hb⟩

set_option maxHeartbeats 1000000 in
theorem fop_any (lo hi : Nat) (so : Option Addr) (sc : Nat) (L : List Mg) (v : Bool) (k : Int) (ao : Option Addr) (ca : Nat) (D : List Int) (rep : Bool) (w : World) (hL : Ms w lo hi so L) (hs : hi ≤ w.heap.size) (hn : L.length + mzs L ≤ 1048576) (hl : D.length ≤ 1048576) :
    Calls Try.prog 45 #[.agg #[.slice so L.length sc, .bool v], .agg #[.int .i64 k, .slice ao D.length ca], .bool rep] w fun e w' => e = .returned (.int .i64 (puC (L.map Mg.ct) (k, D) rep)) ∧ Below w.heap.size w w' := by
  have QF := hideP (fun w1 (kk : Below w.heap.size w w1) => iQF_any lo hi so sc L v w1 (hL.keep kk hs) (by have := kk.size; omega) hn)
  have MF := hideP (fun w1 => iMF_any k ao ca D w1 hl)
  have PQ := hideP (fun h => puC_q (C := L.map Mg.ct) (t := (k, D)) (rep := rep) h)
  have PM := hideP (fun h => puC_m (C := L.map Mg.ct) (t := (k, D)) (rep := rep) h)
  have PR := hideP (fun h => puC_r (C := L.map Mg.ct) (t := (k, D)) (rep := rep) h)
  have PO := hideP (fun h => puC_ok (C := L.map Mg.ct) (t := (k, D)) (rep := rep) h)
  generalize L.length = n at *
  generalize qF (L.map Mg.ct) = q at *
  generalize puC (L.map Mg.ct) (k, D) rep = z at *
  generalize mF (k, D) = f at *
  clear hL hn hl
  generalize D.length = dn at *
  go_enter Try.func45, Try.ntmps45
  go_wp2_with fail
  refine Calls.mono (QF.out _ (by go_grown)) ?_
  rintro e w1 ⟨rfl, k1⟩
  have K1 : Hid (Below w.heap.size w w1) := hideP (Below.trans (by go_grown) (k1.mono (by simp; omega)))
  have X1 : Hid (Rb w1 (w.heap.size + 1) (.int .i64 k) (.slice ao dn ca)) := hideP (Rb.keep ⟨by simp, by simp, by simp, by simp, by simp⟩ k1 (by simp))
  clear k1
  by_cases h1 : q = 0
  · have PM1 := hideP (PM.out h1)
    have PR1 := hideP (PR.out h1)
    have PO1 := hideP (PO.out h1)
    clear PM PR PO
    subst h1
    obtain ⟨p0, p1, p2, p3, p4⟩ := X1.out
    go_wp2_with fail
    clear p0 p1 p2 p3 p4
    refine Calls.mono (MF.out _) ?_
    rintro e w2 ⟨rfl, k2⟩
    have K2 : Hid (Below w.heap.size w w2) := hideP (K1.out.trans (k2.mono (by have := X1.out.lt; omega)))
    have X2 := hideP (X1.out.keep k2 X1.out.lt)
    clear k2 K1 X1
    by_cases h2 : f = 0
    · have PR2 := hideP (PR1.out h2)
      have PO2 := hideP (PO1.out h2)
      clear PR1 PO1
      subst h2
      obtain ⟨p0, p1, p2, p3, p4⟩ := X2.out
      go_wp2_with fail
      clear p0 p1 p2 p3 p4
      refine Calls.mono (iRep_any k _) ?_
      rintro e w3 ⟨rfl, k3⟩
      have K3 : Hid (Below w.heap.size w w3) := hideP (K2.out.trans (k3.mono (by have := X2.out.lt; omega)))
      clear k3 K2 X2
      by_cases h3 : isRep k = rep
      · have h4 : (isRep k == rep) = true := by simp [h3]
        have HZ := hideP (PO2.out h3)
        clear h3
        go_wp2
        go_returns
        exact ⟨by rw [HZ.out]; rfl, K3.out⟩
      · have h4 : (isRep k == rep) = false := by simp [h3]
        have HZ := hideP (PR2.out h3)
        clear h3
        go_wp2
        go_returns
        exact ⟨by rw [HZ.out]; rfl, K3.out⟩
    · have h3 : (f != 0) = true := by simpa using h2
      have HZ := hideP (PM1.out h2)
      clear h2
      go_wp2
      go_returns
      exact ⟨by rw [HZ.out]; rfl, K2.out⟩
  · have h3 : (q != 0) = true := by simpa using h1
    have HZ := hideP (PQ.out h1)
    clear h1
    go_wp2
    go_returns
    exact ⟨by rw [HZ.out]; rfl, K1.out⟩

set_option maxRecDepth 100000 in
set_option maxHeartbeats 1000000 in
theorem pushed_any (lo hi : Nat) (so : Option Addr) (sc : Nat) (L : List Mg) (v : Bool) (k : Int) (ao : Option Addr) (ca : Nat) (D : List Int) (room : Int) (w : World) (hL : Ms w lo hi so L) (hs : hi ≤ w.heap.size) (hn : L.length + mzs L ≤ 1048576) (hR : Row .u8 w lo hi ao D) (hl : D.length ≤ 1048576) :
    Calls Try.prog 46 #[.agg #[.slice so L.length sc, .bool v], .agg #[.int .i64 k, .slice ao D.length ca], .int .i64 room] w fun e w' => ∃ (s : Option Addr) (c : Nat) (N : List Mg), e = .returned (.agg #[.slice s N.length c, .bool (pcV room (L.map Mg.ct) v)]) ∧ N.map Mg.ct = pcC room (L.map Mg.ct) (k, D) ∧ Lin w' w.heap.size s c N ∧ Below w.heap.size w w' := by
  have LN := hideP (fun w1 (kk : Below w.heap.size w w1) => line_any lo hi so sc L v w1 (hL.keep kk hs) (by have := kk.size; omega) hn)
  have CP := hideP (fun w1 (kk : Below w.heap.size w w1) => copyM_any lo hi k ao ca D w1 (hR.keep kk hs) (by have := kk.size; omega) hl)
  have hCn : (L.map Mg.ct).length ≤ 1048576 := by simp; omega
  generalize L.map Mg.ct = C at *
  generalize L.length = n at *
  obtain ⟨v', hv'⟩ : ∃ v', pcV room C v = v' := ⟨_, rfl⟩
  rw [hv']
  have HV := hideP hv'
  clear hL hR hl hs hn hv'
  go_enter Try.func46, Try.ntmps46
  go_wp2_with fail
  have K0 : Hid (Below w.heap.size w (((w.alloc (.cells #[.slice so n sc, .bool v] 26)).alloc (.cells #[.int .i64 k, .slice ao D.length ca] 28)).alloc (.cells #[.slice none 0 0, .bool false] 26))) := hideP (by go_grown)
  have X0 : Hid (Rb (((w.alloc (.cells #[.slice so n sc, .bool v] 26)).alloc (.cells #[.int .i64 k, .slice ao D.length ca] 28)).alloc (.cells #[.slice none 0 0, .bool false] 26)) (w.heap.size + 1) (.int .i64 k) (.slice ao D.length ca)) := hideP (rb_new2 w _ _ _ _ _)
  have Y0 : Hid (Rb (((w.alloc (.cells #[.slice so n sc, .bool v] 26)).alloc (.cells #[.int .i64 k, .slice ao D.length ca] 28)).alloc (.cells #[.slice none 0 0, .bool false] 26)) (w.heap.size + 1 + 1) (.slice none 0 0) (.bool false)) := hideP (rb_new3 w _ _ _ _ _)
  have n0 : (((w.alloc (.cells #[.slice so n sc, .bool v] 26)).alloc (.cells #[.int .i64 k, .slice ao D.length ca] 28)).alloc (.cells #[.slice none 0 0, .bool false] 26)).heap.size = w.heap.size + 3 := by simp
  generalize (((w.alloc (.cells #[.slice so n sc, .bool v] 26)).alloc (.cells #[.int .i64 k, .slice ao D.length ca] 28)).alloc (.cells #[.slice none 0 0, .bool false] 26)) = W at *
  refine Calls.mono (LN.out _ K0.out) ?_
  rintro e w1 ⟨s, c, M, rfl, hM, L1, k1⟩
  have L1' := hideP L1
  have K1 : Hid (Below w.heap.size w w1) := hideP (K0.out.trans (k1.mono (by omega)))
  have X1 := hideP (X0.out.keep k1 (by omega))
  have Y1 := hideP (Y0.out.keep k1 (by omega))
  have HM := hideP hM
  have hMn : M.length ≤ 1048576 := by have := congrArg List.length hM; simp at this; omega
  have n1 := k1.size
  clear k1 L1 K0 X0 Y0 hM
  obtain ⟨p0, p1, p2, p3, p4⟩ := X1.out
  go_wp2_with fail
  clear p0 p1 p2 p3 p4
  have ka := kal3 w1 (.cells #[.slice s M.length c, .bool v] 77)
  have Z2 := hideP (rb_new w1 (.slice s M.length c) (.bool v) 77)
  have L2 := hideP (L1'.out.keep ka)
  have K2 := hideP (K1.out.trans (ka.mono (by omega)))
  have Y2 := hideP (Y1.out.keep ka (by omega))
  have n2 := ka.size
  clear ka L1' K1 X1 Y1
  generalize w1.alloc (.cells #[.slice s M.length c, .bool v] 77) = w2 at *
  refine Calls.mono (CP.out w2 K2.out) ?_
  rintro e w3 ⟨b, rfl, N3, k3⟩
  obtain ⟨O3, B3⟩ := L2.out.more (k := k) (Below.refl _ _) (by omega) N3 k3
  have Z3 := Z2.out.keep k3 Z2.out.lt
  have hbl := N3.le
  have PU := push_any w1.heap.size W.heap.size s c M v ⟨k, b⟩ room w3 Z3 O3 B3 (by omega) hMn
  simp only at PU
  rw [hbl] at PU
  have PU' := hideP PU
  have HP1 : (psh room M ⟨k, b⟩).map Mg.ct = pcC room C (k, D) := by rw [psh_ct, HM.out]; simp only [Mg.ct, hbl]
  have HP2 : pshV room M v = v' := by rw [psh_v, HM.out]; exact HV.out
  rw [HP2] at PU'
  generalize psh room M ⟨k, b⟩ = N at *
  have HN := hideP HP1
  have K3 := hideP (K2.out.trans (k3.mono (by omega)))
  have Y3 := hideP (Y2.out.keep k3 (by omega))
  have n3 := k3.size
  clear PU HP1 HP2 O3 B3 Z3 N3 k3 K2 Y2 Z2 L2 HM hbl
  go_wp2_with fail
  refine Calls.mono PU'.out ?_
  rintro e w4 ⟨rfl, ⟨s4, c4, B4⟩, k4⟩
  have HB4 := hideP B4
  have K4 := hideP (K3.out.trans (k4.mono (by omega)))
  have Y4 := hideP (Y3.out.keep k4 (by omega))
  have n4 := k4.size
  clear k4 B4 PU' K3 Y3
  obtain ⟨p0, p1, p2, p3, p4⟩ := HB4.out.box
  go_wp2_with fail
  clear p0 p1 p2 p3 p4
  refine Calls.mono (queueOf_any s4 N.length c4 v' w4) ?_
  rintro e w5 ⟨rfl, k5⟩
  have HL5 := hideP (HB4.out.lin.keep k5)
  have K5 := hideP (K4.out.trans (k5.mono (by omega)))
  have Y5 := hideP (Y4.out.keep k5 (by omega))
  have n5 := k5.size
  clear k5 HB4 K4 Y4
  obtain ⟨p0, p1, p2, p3, p4⟩ := Y5.out
  go_wp2
  refine bodyPost_ret (v := .agg #[.slice s4 N.length c4, .bool v']) (by simp [results, Try.results46, go_sem, *]) rfl ⟨s4, c4, N, rfl, HN.out, ?_, ?_⟩
  · exact ((HL5.out.set _ _ (by dsimp only; omega)).set _ _ (by dsimp only; omega)).le (by omega)
  · repeat' (first | exact K5.out | (with_reducible refine Below.setCell ?_ ?_ _) | go_size)
end Go.Proofs.Ytefkngpceeclhaa
