/- ParseLabel of the program at every text. -/
import Derived.Test.YtmnekheaggleaaaDoorPrsMath
import Derived.OwnWalk
namespace Go.Proofs.YtmnekheaggleaaaDoor
open Go.RowKit
set_option linter.unusedVariables false

theorem list2 (t : ByteArray) (h0 : 0 < t.size) (h1 : 1 < t.size) : t.data.toList = (t[0]'h0) :: (t[1]'h1) :: (t.extract 2 t.size).data.toList := by
  obtain ⟨⟨l⟩⟩ := t
  match l, h0, h1 with
  | a :: c :: r, _, _ =>
    rw [ByteArray.data_extract]
    show a :: c :: r = a :: c :: _
    congr 2
    simp [ByteArray.size]

theorem rs_yes {s : List UInt8} {t : ByteArray} {k : Nat} (H : Hid ((rsL k s).1 = t.data.toList)) (h0 : 0 < t.size) (h1 : 1 < t.size) (e0 : ((t[0]'h0).toNat : Int) = 43) (e1 : (((t[1]'h1).toNat : Int) == 97 + (k : Int)) = true) :
    (rsL (k + 1) s).1 = (t.extract 2 t.size).data.toList ∧ (rsL (k + 1) s).2 = (rsL k s).2 + 2 ^ k := by
  have hh := H.out
  rw [list2 t h0 h1] at hh
  have e1' : (t[1]'h1).toNat = 97 + k := by have := beq_iff_eq.1 e1; omega
  have ho : one k (rsL k s).1 = some (t.extract 2 t.size).data.toList := by
    rw [hh]; simp only [one]; rw [if_pos ⟨by omega, e1'⟩]
  simp only [rsL, ho]
  exact ⟨trivial, trivial⟩
theorem rs_no {s : List UInt8} {k : Nat} (h : one k (rsL k s).1 = none) : rsL (k + 1) s = rsL k s := by simp only [rsL, h]
theorem no_1 {s : List UInt8} {t : ByteArray} {k : Nat} (H : Hid ((rsL k s).1 = t.data.toList)) (h0 : 0 < t.size) (h1 : 1 < t.size) (e1 : (((t[1]'h1).toNat : Int) == 97 + (k : Int)) = false) : rsL (k + 1) s = rsL k s := by
  refine rs_no ?_
  rw [H.out, list2 t h0 h1]
  have e1' : (t[1]'h1).toNat ≠ 97 + k := by have := beq_eq_false_iff_ne.1 e1; omega
  simp only [one]; rw [if_neg (fun h => e1' h.2)]
theorem no_0 {s : List UInt8} {t : ByteArray} {k : Nat} (H : Hid ((rsL k s).1 = t.data.toList)) (h0 : 0 < t.size) (h1 : 1 < t.size) (e0 : ¬ ((t[0]'h0).toNat : Int) = 43) : rsL (k + 1) s = rsL k s := by
  refine rs_no ?_
  rw [H.out, list2 t h0 h1]
  simp only [one]; rw [if_neg (fun h => e0 (by omega))]
theorem no_s {s : List UInt8} {t : ByteArray} {k : Nat} (H : Hid ((rsL k s).1 = t.data.toList)) (h1 : ¬ (2 : Int) ≤ (t.size : Int)) : rsL (k + 1) s = rsL k s := by
  refine rs_no ?_
  rw [H.out]
  obtain ⟨⟨l⟩⟩ := t
  match l, h1 with
  | [], _ => rfl
  | [_], _ => rfl
  | _ :: _ :: _, h1 => simp [ByteArray.size] at h1; omega

theorem or_dec : ∀ q z : Fin 16, ((q.val : Int) < 1 → bits .or .u8 (q.val : Int) 1 = (q.val : Int) + 2 ^ 0) ∧ ((q.val : Int) < 2 → bits .or .u8 (q.val : Int) 2 = (q.val : Int) + 2 ^ 1) ∧ ((q.val : Int) < 4 → bits .or .u8 (q.val : Int) 4 = (q.val : Int) + 2 ^ 2) ∧ ((q.val : Int) < 8 → bits .or .u8 (q.val : Int) 8 = (q.val : Int) + 2 ^ 3) := by decide +kernel
theorem or_q (q : Int) (h1 : 0 ≤ q) (h2 : q ≤ 15) : (q < 1 → bits .or .u8 q 1 = q + 2 ^ 0) ∧ (q < 2 → bits .or .u8 q 2 = q + 2 ^ 1) ∧ (q < 4 → bits .or .u8 q 4 = q + 2 ^ 2) ∧ (q < 8 → bits .or .u8 q 8 = q + 2 ^ 3) :=
  fin16 (fun q _ => (q < 1 → bits .or .u8 q 1 = q + 2 ^ 0) ∧ (q < 2 → bits .or .u8 q 2 = q + 2 ^ 1) ∧ (q < 4 → bits .or .u8 q 4 = q + 2 ^ 2) ∧ (q < 8 → bits .or .u8 q 8 = q + 2 ^ 3)) or_dec q 0 h1 h2 (by omega) (by omega)

set_option maxHeartbeats 2000000 in
theorem rp_any (s : ByteArray) (w : World) (T : Tab w) (hs : s.size ≤ 1048576) :
    Calls Tryd.prog 22 #[.string s] w fun e w' => e = .returned (.tuple #[.int .u8 (rsL 4 s.data.toList).2, .bool (rsL 4 s.data.toList).1.isEmpty]) ∧ Below w.heap.size w w' := by
  obtain ⟨T0, T1, T2, T3, T4⟩ := T
  go_enter Tryd.func22, Tryd.ntmps22
  go_wp2
  go_loop [0, 4, 8] (fun v b i => ∃ k : Nat, ∃ t : ByteArray, k ≤ 4 ∧ i = .int .i64 k ∧ v = .string t ∧ b = .int .u8 (rsL k s.data.toList).2 ∧ (rsL k s.data.toList).1 = t.data.toList) (fun _ _ i => 4 - (intOf i).toNat)
  case atStart => exact ⟨0, s, by omega, rfl, rfl, rfl, rfl⟩
  case round =>
    obtain ⟨k, t, hk, rfl, rfl, rfl, ht⟩ := hrel
    have HT := hideP ht
    have hts : t.size ≤ 1048576 := by
      have h1 := rs_size k s.data.toList
      rw [ht] at h1
      have h2 : t.data.toList.length = t.size := rfl
      have h3 : s.data.toList.length = s.size := rfl
      omega
    clear ht
    have hq := rs_lt k s.data.toList
    have hcases : k = 0 ∨ k = 1 ∨ k = 2 ∨ k = 3 ∨ k = 4 := by omega
    rcases hcases with rfl | rfl | rfl | rfl | rfl
    · have hix : ∀ w, (Instr.index 54 (.agg #[.int .u8 97, .int .u8 98, .int .u8 99, .int .u8 100]) (.int .i64 0)).run Tryd.prog w = .ok (.int .u8 97) w := fun _ => by kernel_rfl
      have HQ : Hid (bits .or .u8 (rsL 0 s.data.toList).2 1 = (rsL 0 s.data.toList).2 + 2 ^ 0) := by
        have hq' : 0 ≤ (rsL 0 s.data.toList).2 ∧ (rsL 0 s.data.toList).2 < 1 := hq
        exact (or_q _ hq'.1 (by omega)).1 hq'.2
      have hq2 : 0 ≤ (rsL 0 s.data.toList).2 ∧ (rsL 0 s.data.toList).2 ≤ 15 := by have hq' : 0 ≤ (rsL 0 s.data.toList).2 ∧ (rsL 0 s.data.toList).2 < 1 := hq; omega
      clear hq
      generalize hqq : (rsL 0 s.data.toList).2 = q at *
      have HE := hideP hqq
      clear hqq
      go_wp2
      all_goals go_round
      all_goals first
        | (case rel => (have hr := rs_yes (k := 0) HT (by assumption) (by omega) (by assumption) (by assumption); exact ⟨1, _, by omega, rfl, rfl, by rw [HQ.out, hr.2, HE.out], hr.1⟩))
        | (case rel => (have hr := no_1 (k := 0) HT (by assumption) (by omega) (by assumption); exact ⟨1, t, by omega, rfl, rfl, by rw [hr, HE.out], by rw [hr]; exact HT.out⟩))
        | (case rel => (have hr := no_0 (k := 0) HT (by assumption) (by omega) (by assumption); exact ⟨1, t, by omega, rfl, rfl, by rw [hr, HE.out], by rw [hr]; exact HT.out⟩))
        | (case rel => (have hr := no_s (k := 0) HT (by assumption); exact ⟨1, t, by omega, rfl, rfl, by rw [hr, HE.out], by rw [hr]; exact HT.out⟩))
        | (simp [intOf])
    · have hix : ∀ w, (Instr.index 54 (.agg #[.int .u8 97, .int .u8 98, .int .u8 99, .int .u8 100]) (.int .i64 1)).run Tryd.prog w = .ok (.int .u8 98) w := fun _ => by kernel_rfl
      have HQ : Hid (bits .or .u8 (rsL 1 s.data.toList).2 2 = (rsL 1 s.data.toList).2 + 2 ^ 1) := by
        have hq' : 0 ≤ (rsL 1 s.data.toList).2 ∧ (rsL 1 s.data.toList).2 < 2 := hq
        exact (or_q _ hq'.1 (by omega)).2.1 hq'.2
      have hq2 : 0 ≤ (rsL 1 s.data.toList).2 ∧ (rsL 1 s.data.toList).2 ≤ 15 := by have hq' : 0 ≤ (rsL 1 s.data.toList).2 ∧ (rsL 1 s.data.toList).2 < 2 := hq; omega
      clear hq
      generalize hqq : (rsL 1 s.data.toList).2 = q at *
      have HE := hideP hqq
      clear hqq
      go_wp2
      all_goals go_round
      all_goals first
        | (case rel => (have hr := rs_yes (k := 1) HT (by assumption) (by omega) (by assumption) (by assumption); exact ⟨2, _, by omega, rfl, rfl, by rw [HQ.out, hr.2, HE.out], hr.1⟩))
        | (case rel => (have hr := no_1 (k := 1) HT (by assumption) (by omega) (by assumption); exact ⟨2, t, by omega, rfl, rfl, by rw [hr, HE.out], by rw [hr]; exact HT.out⟩))
        | (case rel => (have hr := no_0 (k := 1) HT (by assumption) (by omega) (by assumption); exact ⟨2, t, by omega, rfl, rfl, by rw [hr, HE.out], by rw [hr]; exact HT.out⟩))
        | (case rel => (have hr := no_s (k := 1) HT (by assumption); exact ⟨2, t, by omega, rfl, rfl, by rw [hr, HE.out], by rw [hr]; exact HT.out⟩))
        | (simp [intOf])
    · have hix : ∀ w, (Instr.index 54 (.agg #[.int .u8 97, .int .u8 98, .int .u8 99, .int .u8 100]) (.int .i64 2)).run Tryd.prog w = .ok (.int .u8 99) w := fun _ => by kernel_rfl
      have HQ : Hid (bits .or .u8 (rsL 2 s.data.toList).2 4 = (rsL 2 s.data.toList).2 + 2 ^ 2) := by
        have hq' : 0 ≤ (rsL 2 s.data.toList).2 ∧ (rsL 2 s.data.toList).2 < 4 := hq
        exact (or_q _ hq'.1 (by omega)).2.2.1 hq'.2
      have hq2 : 0 ≤ (rsL 2 s.data.toList).2 ∧ (rsL 2 s.data.toList).2 ≤ 15 := by have hq' : 0 ≤ (rsL 2 s.data.toList).2 ∧ (rsL 2 s.data.toList).2 < 4 := hq; omega
      clear hq
      generalize hqq : (rsL 2 s.data.toList).2 = q at *
      have HE := hideP hqq
      clear hqq
      go_wp2
      all_goals go_round
      all_goals first
        | (case rel => (have hr := rs_yes (k := 2) HT (by assumption) (by omega) (by assumption) (by assumption); exact ⟨3, _, by omega, rfl, rfl, by rw [HQ.out, hr.2, HE.out], hr.1⟩))
        | (case rel => (have hr := no_1 (k := 2) HT (by assumption) (by omega) (by assumption); exact ⟨3, t, by omega, rfl, rfl, by rw [hr, HE.out], by rw [hr]; exact HT.out⟩))
        | (case rel => (have hr := no_0 (k := 2) HT (by assumption) (by omega) (by assumption); exact ⟨3, t, by omega, rfl, rfl, by rw [hr, HE.out], by rw [hr]; exact HT.out⟩))
        | (case rel => (have hr := no_s (k := 2) HT (by assumption); exact ⟨3, t, by omega, rfl, rfl, by rw [hr, HE.out], by rw [hr]; exact HT.out⟩))
        | (simp [intOf])
    · have hix : ∀ w, (Instr.index 54 (.agg #[.int .u8 97, .int .u8 98, .int .u8 99, .int .u8 100]) (.int .i64 3)).run Tryd.prog w = .ok (.int .u8 100) w := fun _ => by kernel_rfl
      have HQ : Hid (bits .or .u8 (rsL 3 s.data.toList).2 8 = (rsL 3 s.data.toList).2 + 2 ^ 3) := by
        have hq' : 0 ≤ (rsL 3 s.data.toList).2 ∧ (rsL 3 s.data.toList).2 < 8 := hq
        exact (or_q _ hq'.1 (by omega)).2.2.2 hq'.2
      have hq2 : 0 ≤ (rsL 3 s.data.toList).2 ∧ (rsL 3 s.data.toList).2 ≤ 15 := by have hq' : 0 ≤ (rsL 3 s.data.toList).2 ∧ (rsL 3 s.data.toList).2 < 8 := hq; omega
      clear hq
      generalize hqq : (rsL 3 s.data.toList).2 = q at *
      have HE := hideP hqq
      clear hqq
      go_wp2
      all_goals go_round
      all_goals first
        | (case rel => (have hr := rs_yes (k := 3) HT (by assumption) (by omega) (by assumption) (by assumption); exact ⟨4, _, by omega, rfl, rfl, by rw [HQ.out, hr.2, HE.out], hr.1⟩))
        | (case rel => (have hr := no_1 (k := 3) HT (by assumption) (by omega) (by assumption); exact ⟨4, t, by omega, rfl, rfl, by rw [hr, HE.out], by rw [hr]; exact HT.out⟩))
        | (case rel => (have hr := no_0 (k := 3) HT (by assumption) (by omega) (by assumption); exact ⟨4, t, by omega, rfl, rfl, by rw [hr, HE.out], by rw [hr]; exact HT.out⟩))
        | (case rel => (have hr := no_s (k := 3) HT (by assumption); exact ⟨4, t, by omega, rfl, rfl, by rw [hr, HE.out], by rw [hr]; exact HT.out⟩))
        | (simp [intOf])
    · go_wp2
      go_returns
      refine ⟨?_, Below.refl _ _⟩
      show Ending.returned (.tuple #[.int .u8 (rsL 4 s.data.toList).2, .bool t.toList.isEmpty]) = _
      rw [ByteArray.toList_eq, ← HT.out]

end Go.Proofs.YtmnekheaggleaaaDoor
