/- ParseLabel of the program at every text. -/
import Derived.Test.YtmnekheaggleaaaDoorPrs1
namespace Go.Proofs.YtmnekheaggleaaaDoor
open Go.RowKit
set_option linter.unusedVariables false

set_option maxHeartbeats 400000 in
theorem labelWith_any (l p : Int) (w : World) (h1 : 0 ≤ p) (h2 : p ≤ 15) : Calls Tryd.prog 23 #[.int .i64 l, .int .u8 p] w fun e w' => e = .returned (.agg #[.int .i64 l, .int .i64 p]) ∧ Below w.heap.size w w' := by
  go_enter Tryd.func23, Tryd.ntmps23
  go_wp2
  go_returns
  exact ⟨rfl, by go_grown⟩

theorem ip_none {s : ByteArray} (h : ¬ (2 : Int) ≤ (s.size : Int)) : ipL s.data.toList = (5, 0, 0) := by
  obtain ⟨⟨l⟩⟩ := s
  match l, h with
  | [], _ => rfl
  | [_], _ => rfl
  | _ :: _ :: _, h => simp [ByteArray.size] at h; omega
theorem ip_bad {s : ByteArray} (h0 : 0 < s.size) (h1 : 1 < s.size) (h : ¬ ((s[0]'h0).toNat = 76 ∧ 48 ≤ (s[1]'h1).toNat ∧ (s[1]'h1).toNat ≤ 51)) : ipL s.data.toList = (5, 0, 0) := by
  rw [list2 s h0 h1]; simp only [ipL]; rw [if_neg (fun hh => h ⟨hh.1, hh.2.1, hh.2.2.1⟩)]
theorem ip_left {s : ByteArray} (h0 : 0 < s.size) (h1 : 1 < s.size) (h : (rsL 4 (s.extract 2 s.size).data.toList).1.isEmpty = false) : ipL s.data.toList = (5, 0, 0) := by
  rw [list2 s h0 h1]; simp only [ipL]; rw [if_neg (fun hh => by rw [hh.2.2.2] at h; cases h)]
theorem ip_good {s : ByteArray} (h0 : 0 < s.size) (h1 : 1 < s.size) (h2 : (s[0]'h0).toNat = 76) (h3 : 48 ≤ (s[1]'h1).toNat) (h4 : (s[1]'h1).toNat ≤ 51) (h : (rsL 4 (s.extract 2 s.size).data.toList).1.isEmpty = true) :
    ipL s.data.toList = ((0 : Int), ((s[1]'h1).toNat : Int) - 48, (rsL 4 (s.extract 2 s.size).data.toList).2) := by
  rw [list2 s h0 h1]; simp only [ipL]; rw [if_pos ⟨h2, h3, h4, by simpa using h⟩]

set_option maxHeartbeats 1000000 in
theorem ip_1 (s : ByteArray) (w : World) (h : ¬ (2 : Int) ≤ (s.size : Int)) :
    Calls Tryd.prog 6 #[.string s] w fun e w' => e = .returned (.agg #[.int .i64 5, .int .i64 0, .int .i64 0]) ∧ Below w.heap.size w w' := by
  have h' : (s.size : Int) < 2 := by omega
  go_enter Tryd.func6, Tryd.ntmps6
  go_wp2
  go_returns
  exact ⟨rfl, by go_grown⟩

set_option maxHeartbeats 1000000 in
theorem ip_2 (s : ByteArray) (w : World) (hs : s.size ≤ 1048576) (h0 : 0 < s.size) (h1 : 1 < s.size) (h : ¬ ((s[0]'h0).toNat = 76 ∧ 48 ≤ (s[1]'h1).toNat ∧ (s[1]'h1).toNat ≤ 51)) :
    Calls Tryd.prog 6 #[.string s] w fun e w' => e = .returned (.agg #[.int .i64 5, .int .i64 0, .int .i64 0]) ∧ Below w.heap.size w w' := by
  have g0 : (2 : Int) ≤ (s.size : Int) := by omega
  by_cases a0 : (s[0]'h0).toNat = 76
  · by_cases a1 : (s[1]'h1).toNat < 48
    · have b0 : ((s[0]'h0).toNat : Int) = 76 := by omega
      have b1 : ((s[1]'h1).toNat : Int) < 48 := by omega
      clear h a0 a1
      go_enter Tryd.func6, Tryd.ntmps6
      go_wp2
      go_returns
      exact ⟨rfl, by go_grown⟩
    · have a2 : 51 < (s[1]'h1).toNat := by omega
      have b0 : ((s[0]'h0).toNat : Int) = 76 := by omega
      have b1 : (48 : Int) ≤ ((s[1]'h1).toNat : Int) := by omega
      have b2 : (51 : Int) < ((s[1]'h1).toNat : Int) := by omega
      clear h a0 a1 a2
      go_enter Tryd.func6, Tryd.ntmps6
      go_wp2
      go_returns
      exact ⟨rfl, by go_grown⟩
  · have b0 : ((((s[0]'h0).toNat : Int)) != 76) = true := by simp; omega
    clear h a0
    go_enter Tryd.func6, Tryd.ntmps6
    go_wp2
    go_returns
    exact ⟨rfl, by go_grown⟩

set_option maxHeartbeats 2000000 in
theorem ip_3a (s : ByteArray) (w : World) (T : Tab w) (hs : s.size ≤ 1048576) (h0 : 0 < s.size) (h1 : 1 < s.size) (h2 : (s[0]'h0).toNat = 76) (h3 : 48 ≤ (s[1]'h1).toNat) (h4 : (s[1]'h1).toNat ≤ 51) (hE : (rsL 4 (s.extract 2 s.size).data.toList).1.isEmpty = false) :
    Calls Tryd.prog 6 #[.string s] w fun e w' => e = .returned (.agg #[.int .i64 5, .int .i64 0, .int .i64 0]) ∧ Below w.heap.size w w' := by
  have g0 : (2 : Int) ≤ (s.size : Int) := by omega
  have b0 : ((s[0]'h0).toNat : Int) = 76 := by omega
  have b1 : (48 : Int) ≤ ((s[1]'h1).toNat : Int) := by omega
  have b2 : ((s[1]'h1).toNat : Int) ≤ 51 := by omega
  have hx : (s.extract 2 s.size).size ≤ 1048576 := by rw [ByteArray.size_extract]; omega
  have hq := rs_lt 4 (s.extract 2 s.size).data.toList
  have hq0 : 0 ≤ (rsL 4 (s.extract 2 s.size).data.toList).2 := hq.1
  have hq1 : (rsL 4 (s.extract 2 s.size).data.toList).2 ≤ 15 := by have : (rsL 4 (s.extract 2 s.size).data.toList).2 < 16 := hq.2; omega
  clear hq h2 h3 h4
  go_enter Tryd.func6, Tryd.ntmps6
  go_wp2_with fail
  have T' := T.keep (show Below w.heap.size w (w.alloc (.cells #[.int .i64 0, .int .i64 0, .int .i64 0] 28)) from by go_grown)
  refine Calls.mono (rp_any _ _ T' hx) ?_
  rw [hE]
  rintro e w1 ⟨rfl, k1⟩
  clear T T' hE
  generalize (rsL 4 (s.extract 2 s.size).data.toList).2 = q at *
  have hf1 := Kept.frozen k1
  have hz1 := k1.size
  simp only [World.size_alloc] at hz1
  have r0 : w1.cell? ⟨w.heap.size, 0, none⟩ = some (.int .i64 0) := by rw [Kept.cell k1 _ _ (by simp)]; simp
  have r1 : w1.cell? ⟨w.heap.size, 1, none⟩ = some (.int .i64 0) := by rw [Kept.cell k1 _ _ (by simp)]; simp
  have r2 : w1.cell? ⟨w.heap.size, 2, none⟩ = some (.int .i64 0) := by rw [Kept.cell k1 _ _ (by simp)]; simp
  have bs := sz1 hz1
  go_wp2
  refine bodyPost_ret (v := .agg #[.int .i64 5, .int .i64 0, .int .i64 0]) (by simp [results, Tryd.results6, go_sem, *]) rfl ⟨rfl, ?_⟩
  repeat' (first | (with_reducible exact Below.refl _ _) | (with_reducible refine kept_below ?_ (by assumption) ?_) | (with_reducible refine Below.alloc ?_ ?_ _) | (with_reducible refine Below.drew ?_) | (with_reducible refine Below.setCell ?_ ?_ _) | go_size)

set_option maxHeartbeats 2000000 in
theorem ip_3b (s : ByteArray) (w : World) (T : Tab w) (hs : s.size ≤ 1048576) (h0 : 0 < s.size) (h1 : 1 < s.size) (h2 : (s[0]'h0).toNat = 76) (h3 : 48 ≤ (s[1]'h1).toNat) (h4 : (s[1]'h1).toNat ≤ 51) (hE : (rsL 4 (s.extract 2 s.size).data.toList).1.isEmpty = true) :
    Calls Tryd.prog 6 #[.string s] w fun e w' => e = .returned (.agg #[.int .i64 0, .int .i64 (((s[1]'h1).toNat : Int) - 48), .int .i64 (rsL 4 (s.extract 2 s.size).data.toList).2]) ∧ Below w.heap.size w w' := by
  have g0 : (2 : Int) ≤ (s.size : Int) := by omega
  have b0 : ((s[0]'h0).toNat : Int) = 76 := by omega
  have b1 : (48 : Int) ≤ ((s[1]'h1).toNat : Int) := by omega
  have b2 : ((s[1]'h1).toNat : Int) ≤ 51 := by omega
  have hx : (s.extract 2 s.size).size ≤ 1048576 := by rw [ByteArray.size_extract]; omega
  have hq := rs_lt 4 (s.extract 2 s.size).data.toList
  have hq0 : 0 ≤ (rsL 4 (s.extract 2 s.size).data.toList).2 := hq.1
  have hq1 : (rsL 4 (s.extract 2 s.size).data.toList).2 ≤ 15 := by have : (rsL 4 (s.extract 2 s.size).data.toList).2 < 16 := hq.2; omega
  clear hq h2 h3 h4
  go_enter Tryd.func6, Tryd.ntmps6
  go_wp2_with fail
  have T' := T.keep (show Below w.heap.size w (w.alloc (.cells #[.int .i64 0, .int .i64 0, .int .i64 0] 28)) from by go_grown)
  refine Calls.mono (rp_any _ _ T' hx) ?_
  rw [hE]
  rintro e w1 ⟨rfl, k1⟩
  clear T T' hE
  generalize hqq : (rsL 4 (s.extract 2 s.size).data.toList).2 = q at *
  have HQ := hideP hqq
  clear hqq
  have hf1 := Kept.frozen k1
  have hz1 := k1.size
  simp only [World.size_alloc] at hz1
  have r0 : w1.cell? ⟨w.heap.size, 0, none⟩ = some (.int .i64 0) := by rw [Kept.cell k1 _ _ (by simp)]; simp
  have r1 : w1.cell? ⟨w.heap.size, 1, none⟩ = some (.int .i64 0) := by rw [Kept.cell k1 _ _ (by simp)]; simp
  have r2 : w1.cell? ⟨w.heap.size, 2, none⟩ = some (.int .i64 0) := by rw [Kept.cell k1 _ _ (by simp)]; simp
  have bs := sz1 hz1
  go_wp2_with fail
  refine Calls.mono (labelWith_any _ _ _ hq0 hq1) ?_
  rintro e w2 ⟨rfl, k2⟩
  have f2 := Kept.frozen k2
  have hz2 := k2.size
  have u0 : w2.cell? ⟨w.heap.size, 0, none⟩ = some (.int .i64 0) := by rw [Kept.cell k2 _ _ (by omega)]; exact r0
  have u1 : w2.cell? ⟨w.heap.size, 1, none⟩ = some (.int .i64 0) := by rw [Kept.cell k2 _ _ (by omega)]; exact r1
  have u2 : w2.cell? ⟨w.heap.size, 2, none⟩ = some (.int .i64 0) := by rw [Kept.cell k2 _ _ (by omega)]; exact r2
  go_wp2
  refine bodyPost_ret (v := .agg #[.int .i64 0, .int .i64 (((s[1]'h1).toNat : Int) - 48), .int .i64 q]) (by simp [results, Tryd.results6, go_sem, *]) rfl ⟨?_, ?_⟩
  · rw [← HQ.out]
  repeat' (first | (with_reducible exact Below.refl _ _) | (with_reducible refine kept_below ?_ (by assumption) ?_) | (with_reducible refine Below.alloc ?_ ?_ _) | (with_reducible refine Below.drew ?_) | (with_reducible refine Below.setCell ?_ ?_ _) | go_size)

theorem ip_any (s : ByteArray) (w : World) (T : Tab w) (hs : s.size ≤ 1048576) :
    Calls Tryd.prog 6 #[.string s] w fun e w' => e = .returned (.agg #[.int .i64 (ipL s.data.toList).1, .int .i64 (ipL s.data.toList).2.1, .int .i64 (ipL s.data.toList).2.2]) ∧ Below w.heap.size w w' := by
  by_cases h : (2 : Int) ≤ (s.size : Int)
  · have h0 : 0 < s.size := by omega
    have h1 : 1 < s.size := by omega
    by_cases hb : (s[0]'h0).toNat = 76 ∧ 48 ≤ (s[1]'h1).toNat ∧ (s[1]'h1).toNat ≤ 51
    · cases hE : (rsL 4 (s.extract 2 s.size).data.toList).1.isEmpty
      · rw [ip_left h0 h1 hE]; exact ip_3a s w T hs h0 h1 hb.1 hb.2.1 hb.2.2 hE
      · rw [ip_good h0 h1 hb.1 hb.2.1 hb.2.2 hE]; exact ip_3b s w T hs h0 h1 hb.1 hb.2.1 hb.2.2 hE
    · rw [ip_bad h0 h1 hb]; exact ip_2 s w hs h0 h1 hb
  · rw [ip_none h]; exact ip_1 s w h

end Go.Proofs.YtmnekheaggleaaaDoor
