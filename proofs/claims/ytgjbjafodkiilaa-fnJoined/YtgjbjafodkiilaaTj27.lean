/- CountFrames of the program and of the model. -/
import Derived.Test.YtgjbjafodkiilaaTj26
namespace Go.Proofs.Ytgjbjafodkiilaa
open Go.RowKit
set_option linter.unusedVariables false

/-- How many right frames there are. -/
def cnV (M : List Int) : Int := ((cut (frA [] M)).1.length : Int) - nW (cut (frA [] M)).1
theorem cnV_no {M : List Int} (h : frC [] M ≠ 0) : cnV M = 0 := by
  have e : frA [] M = [] := by unfold frA; rw [if_neg h]
  unfold cnV
  rw [e, cut_nil]; simp [nW]
theorem nW_one (b : List Int) : nW [b] = if b.length = 0 then 1 else 0 := by
  cases b <;> simp [nW]

set_option maxRecDepth 100000 in
set_option maxHeartbeats 1000000 in
theorem iCount_no (lo hi : Nat) (bo : Option Addr) (cb : Nat) (M : List Int) (w : World) (hM : Row .u8 w lo hi bo M) (hs : hi ≤ w.heap.size) (hB : byts M) (hm : M.length ≤ 1048576) (h : frC [] M ≠ 0) :
    Calls Try.prog 8 #[.slice bo M.length cb] w fun e w' => e = .returned (.agg #[.int .i64 (frC [] M), .int .i64 0]) ∧ Below w.heap.size w w' := by
  have IC := fun w1 (k : Below w.heap.size w w1) => iCut_any lo hi none bo 0 cb [] M w1 (.inl rfl) (hM.keep k hs) (by have := k.size; omega) (fun i hi => by simp at hi) hB (by simp) hm
  have hne : (frC [] M != 0) = true := by simpa using h
  generalize frC [] M = C at *
  have IC' := hideP IC
  clear IC hM hB h
  go_enter Try.func8, Try.ntmps8
  go_wp2_with fail
  refine Calls.mono (IC'.out _ (by go_grown)) ?_
  rintro e w1 ⟨so, sc, bs, r, rfl, k1, _, _⟩
  generalize nW (bs.map Bd.L) = N at *
  have K1 : Hid (Below w.heap.size w w1) := hideP (Below.trans (by go_grown) (k1.mono (by simp)))
  have R1 : Rb w1 w.heap.size (.int .i64 0) (.int .i64 0) := Rb.keep ⟨by simp, by simp, by simp, by simp, by simp⟩ k1 (by simp)
  clear k1
  obtain ⟨a0, a1, a2, a3, a4⟩ := R1
  go_wp2
  refine bodyPost_ret (v := .agg #[.int .i64 C, .int .i64 0]) (by simp [results, Try.results8, go_sem, *]) rfl ⟨rfl, ?_⟩
  repeat' (first | exact K1.out | (with_reducible refine Below.setCell ?_ ?_ _) | (with_reducible refine Below.alloc ?_ ?_ _) | go_size)

set_option maxRecDepth 100000 in
set_option maxHeartbeats 2000000 in
theorem iCount_yes (lo hi : Nat) (bo : Option Addr) (cb : Nat) (M : List Int) (w : World) (hM : Row .u8 w lo hi bo M) (hs : hi ≤ w.heap.size) (hB : byts M) (hm : M.length ≤ 1048576) (h : frC [] M = 0) :
    Calls Try.prog 8 #[.slice bo M.length cb] w fun e w' => e = .returned (.agg #[.int .i64 0, .int .i64 (cnV M)]) ∧ Below w.heap.size w w' := by
  have IC := fun w1 (k : Below w.heap.size w w1) => iCut_any lo hi none bo 0 cb [] M w1 (.inl rfl) (hM.keep k hs) (by have := k.size; omega) (fun i hi => by simp at hi) hB (by simp) hm
  have hAl : (cut (frA [] M)).1.length ≤ (frA [] M).length := (cut_len _ _ (Nat.le_refl _)).1
  have hAm : (frA [] M).length ≤ M.length := by unfold frA; rw [if_pos h]; simp
  obtain ⟨V, hV⟩ : ∃ V, cnV M = V := ⟨_, rfl⟩
  rw [hV]
  unfold cnV at hV
  rw [h] at IC
  have IC' := hideP IC
  have HV := hideP hV
  have HA := hideP (Nat.le_trans hAl hAm)
  clear IC hM hB h hV hAl hAm
  go_enter Try.func8, Try.ntmps8
  go_wp2_with fail
  refine Calls.mono (IC'.out _ (by go_grown)) ?_
  rintro e w1 ⟨so, sc, bs, r, rfl, k1, hcut, F1⟩
  have HV2 : Hid ((bs.length : Int) - nW (bs.map Bd.L) = V) := hideP (by have := HV.out; rw [hcut] at this; simpa using this)
  have hbl : bs.length ≤ 1048576 := by have := HA.out; rw [hcut] at this; simp at this; omega
  have hbl' : (bs.length : Int) ≤ 1048576 := by omega
  clear hcut HV HA
  obtain ⟨N, hN⟩ : ∃ N, nW (bs.map Bd.L) = N := ⟨_, rfl⟩
  rw [hN]
  clear hN
  have K1 : Hid (Below w.heap.size w w1) := hideP (Below.trans (by go_grown) (k1.mono (by simp)))
  have R1 : Hid (Rb w1 w.heap.size (.int .i64 0) (.int .i64 0)) := hideP (Rb.keep ⟨by simp, by simp, by simp, by simp, by simp⟩ k1 (by simp))
  have S1 := hideP F1.spine
  have n1 := R1.out.lt
  clear k1 F1
  have ka := kalF w1 (.cells #[.int .i64 0, .slice so bs.length sc, .int .i64 N, .slice r.ao r.L.length r.cap] 37)
  have K2 := hideP (K1.out.trans (ka.mono (by omega)))
  have R2 := R1.out.keep ka n1
  have S2 := hideP (S1.out.keep ka (Nat.le_refl _))
  have RR2 := hideP R2
  have n2 : w1.heap.size < (w1.alloc (.cells #[.int .i64 0, .slice so bs.length sc, .int .i64 N, .slice r.ao r.L.length r.cap] 37)).heap.size := by simp
  clear ka S1 R1 K1 R2
  go_wp2
  generalize w1.alloc (.cells #[.int .i64 0, .slice so bs.length sc, .int .i64 N, .slice r.ao r.L.length r.cap] 37) = w2 at *
  go_loop [4, 19] (fun c i => ∃ X Y : List Bd, X ++ Y = bs ∧ i = .int .i64 (X.length : Nat) ∧ c = .int .i64 ((X.length : Int) - nW (X.map Bd.L))) (fun _ i => bs.length - (intOf i).toNat)
  case atStart => exact ⟨[], bs, rfl, rfl, by simp [nW]⟩
  case round =>
    obtain ⟨X, Y, hXY, rfl, rfl⟩ := hrel
    have hlen : X.length + Y.length = bs.length := by rw [← hXY]; simp
    have hw0 := nW_nonneg (X.map Bd.L)
    have hw1 : nW (X.map Bd.L) ≤ (X.length : Int) := by have := nW_le (X.map Bd.L); simpa using this
    have HW : Hid (∀ b : Bd, nW ((X ++ [b]).map Bd.L) = nW (X.map Bd.L) + if b.L.length = 0 then 1 else 0) := hideP (fun b => by rw [List.map_append, nW_app]; simp [nW_one])
    cases Y with
    | cons b Y =>
      have hlt : (X.length : Int) < (bs.length : Int) := by simp at hlen; omega
      have hlt' : X.length < bs.length := by omega
      have hget : bs[X.length] = b := by simp [← hXY]
      rcases S2.out with e | ⟨gs, rfl, _, hg, hc⟩
      · rw [e] at hlt'; simp at hlt'
      have a0 := hc X.length hlt'
      rw [hget] at a0
      unfold Bd.val at a0
      have HXY := hideP hXY
      have HWb := hideP (HW.out b)
      clear hc hget hXY hlen HW
      obtain ⟨NX, hNX⟩ : ∃ NX, nW (X.map Bd.L) = NX := ⟨_, rfl⟩
      rw [hNX] at hw0 hw1 HWb ⊢
      clear hNX
      by_cases hb : b.L.length = 0
      · rw [if_pos hb] at HWb
        rw [hb] at a0
        go_wp2
        go_round
        case rel =>
          refine ⟨X ++ [b], Y, (List.append_assoc X [b] Y).trans HXY.out, by simp, ?_⟩
          rw [HWb.out]; simp; omega
        case measure => simp [intOf]; omega
      · rw [if_neg hb] at HWb
        generalize b.L.length = m at *
        have hm0 : (0 : Int) < (m : Int) := by omega
        go_wp2
        go_round
        case rel =>
          refine ⟨X ++ [b], Y, (List.append_assoc X [b] Y).trans HXY.out, by simp, ?_⟩
          rw [HWb.out]; simp; omega
        case measure => simp [intOf]; omega
    | nil =>
      have hX : X = bs := by simpa using hXY
      subst hX
      clear hXY hlen HW
      rw [HV2.out] at *
      obtain ⟨a0, a1, a2, a3, a4⟩ := RR2.out
      go_wp2
      refine bodyPost_ret (v := .agg #[.int .i64 0, .int .i64 V]) (by simp [results, Try.results8, go_sem, *]) rfl ⟨rfl, ?_⟩
      repeat' (first | exact K2.out | (with_reducible refine Below.setCell ?_ ?_ _) | go_size)

set_option maxRecDepth 100000 in
set_option maxHeartbeats 1000000 in
theorem sCount_no (lo hi : Nat) (bo : Option Addr) (cb : Nat) (M : List Int) (w : World) (hM : Row .u8 w lo hi bo M) (hs : hi ≤ w.heap.size) (hB : byts M) (hm : M.length ≤ 1048576) (h : frC [] M ≠ 0) :
    Calls Try.prog 9 #[.slice bo M.length cb] w fun e w' => e = .returned (.agg #[.int .i64 (frC [] M), .int .i64 0]) ∧ Below w.heap.size w w' := by
  have IC := fun w1 (k : Below w.heap.size w w1) => sCut_any lo hi none bo 0 cb [] M w1 (.inl rfl) (hM.keep k hs) (by have := k.size; omega) (fun i hi => by simp at hi) hB (by simp) hm
  have hne : (frC [] M != 0) = true := by simpa using h
  generalize frC [] M = C at *
  have IC' := hideP IC
  clear IC hM hB h
  go_enter Try.func9, Try.ntmps9
  go_wp2_with fail
  refine Calls.mono (IC'.out _ (by go_grown)) ?_
  rintro e w1 ⟨so, sc, bs, r, rfl, k1, _, _⟩
  generalize nW (bs.map Bd.L) = N at *
  have K1 : Hid (Below w.heap.size w w1) := hideP (Below.trans (by go_grown) (k1.mono (by simp)))
  have R1 : Rb w1 w.heap.size (.int .i64 0) (.int .i64 0) := Rb.keep ⟨by simp, by simp, by simp, by simp, by simp⟩ k1 (by simp)
  clear k1
  obtain ⟨a0, a1, a2, a3, a4⟩ := R1
  go_wp2
  refine bodyPost_ret (v := .agg #[.int .i64 C, .int .i64 0]) (by simp [results, Try.results9, go_sem, *]) rfl ⟨rfl, ?_⟩
  repeat' (first | exact K1.out | (with_reducible refine Below.setCell ?_ ?_ _) | (with_reducible refine Below.alloc ?_ ?_ _) | go_size)

set_option maxRecDepth 100000 in
set_option maxHeartbeats 2000000 in
theorem sCount_yes (lo hi : Nat) (bo : Option Addr) (cb : Nat) (M : List Int) (w : World) (hM : Row .u8 w lo hi bo M) (hs : hi ≤ w.heap.size) (hB : byts M) (hm : M.length ≤ 1048576) (h : frC [] M = 0) :
    Calls Try.prog 9 #[.slice bo M.length cb] w fun e w' => e = .returned (.agg #[.int .i64 0, .int .i64 (cnV M)]) ∧ Below w.heap.size w w' := by
  have IC := fun w1 (k : Below w.heap.size w w1) => sCut_any lo hi none bo 0 cb [] M w1 (.inl rfl) (hM.keep k hs) (by have := k.size; omega) (fun i hi => by simp at hi) hB (by simp) hm
  have hAl : (cut (frA [] M)).1.length ≤ (frA [] M).length := (cut_len _ _ (Nat.le_refl _)).1
  have hAm : (frA [] M).length ≤ M.length := by unfold frA; rw [if_pos h]; simp
  obtain ⟨V, hV⟩ : ∃ V, cnV M = V := ⟨_, rfl⟩
  rw [hV]
  unfold cnV at hV
  rw [h] at IC
  have IC' := hideP IC
  have HV := hideP hV
  have HA := hideP (Nat.le_trans hAl hAm)
  clear IC hM hB h hV hAl hAm
  go_enter Try.func9, Try.ntmps9
  go_wp2_with fail
  refine Calls.mono (IC'.out _ (by go_grown)) ?_
  rintro e w1 ⟨so, sc, bs, r, rfl, k1, hcut, F1⟩
  have HV2 : Hid ((bs.length : Int) - nW (bs.map Bd.L) = V) := hideP (by have := HV.out; rw [hcut] at this; simpa using this)
  have hbl : bs.length ≤ 1048576 := by have := HA.out; rw [hcut] at this; simp at this; omega
  have hbl' : (bs.length : Int) ≤ 1048576 := by omega
  clear hcut HV HA
  obtain ⟨N, hN⟩ : ∃ N, nW (bs.map Bd.L) = N := ⟨_, rfl⟩
  have hn0 : 0 ≤ N := by rw [← hN]; exact nW_nonneg _
  have hn1 : N ≤ (bs.length : Int) := by rw [← hN]; have := nW_le (bs.map Bd.L); simpa using this
  rw [hN] at HV2 ⊢
  clear hN
  have K1 : Hid (Below w.heap.size w w1) := hideP (Below.trans (by go_grown) (k1.mono (by simp)))
  have R1 : Hid (Rb w1 w.heap.size (.int .i64 0) (.int .i64 0)) := hideP (Rb.keep ⟨by simp, by simp, by simp, by simp, by simp⟩ k1 (by simp))
  have S1 := hideP F1.spine
  have n1 := R1.out.lt
  clear k1 F1
  clear S1
  obtain ⟨a0, a1, a2, a3, a4⟩ := R1.out
  go_wp2
  refine bodyPost_ret (v := .agg #[.int .i64 0, .int .i64 ((bs.length : Int) - N)]) (by simp [results, Try.results9, go_sem, *]) rfl ⟨by rw [HV2.out], ?_⟩
  repeat' (first | exact K1.out | (with_reducible refine Below.setCell ?_ ?_ _) | (with_reducible refine Below.alloc ?_ ?_ _) | go_size)

theorem iCount_any (lo hi : Nat) (bo : Option Addr) (cb : Nat) (M : List Int) (w : World) (hM : Row .u8 w lo hi bo M) (hs : hi ≤ w.heap.size) (hB : byts M) (hm : M.length ≤ 1048576) :
    Calls Try.prog 8 #[.slice bo M.length cb] w fun e w' => e = .returned (.agg #[.int .i64 (frC [] M), .int .i64 (cnV M)]) ∧ Below w.heap.size w w' := by
  by_cases h : frC [] M = 0
  · rw [h]; exact iCount_yes lo hi bo cb M w hM hs hB hm h
  · rw [cnV_no h]; exact iCount_no lo hi bo cb M w hM hs hB hm h

theorem sCount_any (lo hi : Nat) (bo : Option Addr) (cb : Nat) (M : List Int) (w : World) (hM : Row .u8 w lo hi bo M) (hs : hi ≤ w.heap.size) (hB : byts M) (hm : M.length ≤ 1048576) :
    Calls Try.prog 9 #[.slice bo M.length cb] w fun e w' => e = .returned (.agg #[.int .i64 (frC [] M), .int .i64 (cnV M)]) ∧ Below w.heap.size w w' := by
  by_cases h : frC [] M = 0
  · rw [h]; exact sCount_yes lo hi bo cb M w hM hs hB hm h
  · rw [cnV_no h]; exact sCount_no lo hi bo cb M w hM hs hB hm h

end Go.Proofs.Ytgjbjafodkiilaa
