/- What FnLabels calls beside the texts: LabelOf, CodeOf, of program and model; the mathematics of the round trips. -/
import Derived.Test.YtmnekheaggleaaaDoorDraw5
namespace Go.Proofs.YtmnekheaggleaaaDoor
open Go.RowKit
set_option linter.unusedVariables false

set_option maxHeartbeats 400000 in
theorem big_any (w : World) (a : Option Addr) (len cap : Nat) (hl : len ≤ maxLen) :
    Calls Tryd.prog 4 #[.slice a len cap] w fun e w' => e = .returned (.bool (decide ((1048576 : Int) < (len : Int)))) ∧ w = w' := by
  go_enter Tryd.func4, Tryd.ntmps4
  go_wp2
  go_returns
  exact ⟨rfl, rfl⟩

def loC (c : Int) : Int := if 0 ≤ c ∧ c ≤ 63 then 0 else 3
def loL (c : Int) : Int := if 0 ≤ c ∧ c ≤ 63 then c / 16 else 0
def loP (c : Int) : Int := if 0 ≤ c ∧ c ≤ 63 then c % 16 else 0

set_option maxHeartbeats 400000 in
theorem lo_lo (c : Int) (w : World) (h : c < 0 ∨ 63 < c) :
    Calls Tryd.prog 8 #[.int .i64 c] w fun e w' => e = .returned (.agg #[.int .i64 3, .int .i64 0, .int .i64 0]) ∧ Below w.heap.size w w' := by
  rcases h with h | h
  · go_enter Tryd.func8, Tryd.ntmps8
    go_wp2
    go_returns
    exact ⟨rfl, by go_grown⟩
  · have h0 : 0 ≤ c := by omega
    have b1 : decide (c ≤ 63) = false := by simp; omega
    go_enter Tryd.func8, Tryd.ntmps8
    go_wp2
    go_returns
    exact ⟨rfl, by go_grown⟩

set_option maxHeartbeats 400000 in
theorem lo_in (c : Int) (w : World) (h : 0 ≤ c) (h2 : c ≤ 63) :
    Calls Tryd.prog 8 #[.int .i64 c] w fun e w' => e = .returned (.agg #[.int .i64 0, .int .i64 (c / 16), .int .i64 (c % 16)]) ∧ Below w.heap.size w w' := by
  go_enter Tryd.func8, Tryd.ntmps8
  go_wp2
  go_returns
  exact ⟨rfl, by go_grown⟩

theorem lo_any (c : Int) (w : World) :
    Calls Tryd.prog 8 #[.int .i64 c] w fun e w' => e = .returned (.agg #[.int .i64 (loC c), .int .i64 (loL c), .int .i64 (loP c)]) ∧ Below w.heap.size w w' := by
  unfold loC loL loP
  by_cases h : 0 ≤ c ∧ c ≤ 63
  · simp only [if_pos h]; exact lo_in c w h.1 h.2
  · simp only [if_neg h]; exact lo_lo c w (by omega)

set_option maxHeartbeats 400000 in
theorem slo_hi (c : Int) (w : World) (h : 63 < c) :
    Calls Tryd.prog 11 #[.int .i64 c] w fun e w' => e = .returned (.agg #[.int .i64 3, .int .i64 0, .int .i64 0]) ∧ Below w.heap.size w w' := by
  have b1 : decide (c ≤ 63) = false := by simp; omega
  have b2 : 0 ≤ c := by omega
  go_enter Tryd.func11, Tryd.ntmps11
  go_wp2
  go_returns
  exact ⟨rfl, by go_grown⟩

set_option maxHeartbeats 400000 in
theorem slo_lo (c : Int) (w : World) (h : c < 0) :
    Calls Tryd.prog 11 #[.int .i64 c] w fun e w' => e = .returned (.agg #[.int .i64 3, .int .i64 0, .int .i64 0]) ∧ Below w.heap.size w w' := by
  go_enter Tryd.func11, Tryd.ntmps11
  go_wp2
  go_returns
  exact ⟨rfl, by go_grown⟩

set_option maxHeartbeats 400000 in
theorem slo_in (c : Int) (w : World) (h : 0 ≤ c) (h2 : c ≤ 63) :
    Calls Tryd.prog 11 #[.int .i64 c] w fun e w' => e = .returned (.agg #[.int .i64 0, .int .i64 (c / 16), .int .i64 (c % 16)]) ∧ Below w.heap.size w w' := by
  go_enter Tryd.func11, Tryd.ntmps11
  go_wp2
  go_returns
  exact ⟨rfl, by go_grown⟩

theorem slo_any (c : Int) (w : World) :
    Calls Tryd.prog 11 #[.int .i64 c] w fun e w' => e = .returned (.agg #[.int .i64 (loC c), .int .i64 (loL c), .int .i64 (loP c)]) ∧ Below w.heap.size w w' := by
  unfold loC loL loP
  by_cases h : 0 ≤ c ∧ c ≤ 63
  · simp only [if_pos h]; exact slo_in c w h.1 h.2
  · simp only [if_neg h]
    by_cases h1 : c < 0
    · exact slo_lo c w h1
    · exact slo_hi c w (by omega)

set_option maxHeartbeats 400000 in
theorem co_ok (l p : Int) (w : World) (h : fltB l p = false) :
    Calls Tryd.prog 12 #[.agg #[.int .i64 l, .int .i64 p]] w fun e w' => e = .returned (.agg #[.int .i64 0, .int .i64 (l * 16 + p)]) ∧ Below w.heap.size w w' := by
  obtain ⟨h1, h2, h3, h4⟩ := fltB_no h
  clear h
  go_enter Tryd.func12, Tryd.ntmps12
  go_wp2
  go_returns
  exact ⟨rfl, by go_grown⟩

/-- The text read back. -/
theorem back_label (l p : Int) (h : fltB l p = false) : ipL (strOfNums (tx l p 4)).data.toList = (0, l, p) := by
  obtain ⟨h1, h2, h3, h4⟩ := fltB_no h
  have hc := back_dec ⟨(l * 16 + p).toNat, by omega⟩
  simp only at hc
  have e0 : (((l * 16 + p).toNat : Nat) : Int) = l * 16 + p := by omega
  have e1 : ((l * 16 + p).toNat : Int) / 16 = l := by omega
  have e2 : ((l * 16 + p).toNat : Int) % 16 = p := by omega
  unfold txB at hc
  rw [e1, e2] at hc
  exact hc

/-- What was read, said again. -/
theorem back_text (s : ByteArray) (h : (ipL s.data.toList).1 = 0) : fltB (ipL s.data.toList).2.1 (ipL s.data.toList).2.2 = false ∧ strOfNums (tx (ipL s.data.toList).2.1 (ipL s.data.toList).2.2 4) = s := by
  obtain ⟨c, hc, ht⟩ := ip_forth (L := s.data.toList) (by intro h5; rw [h5] at h; cases h)
  have hb := back_dec ⟨c, hc⟩
  simp only at hb
  rw [ht] at hb
  rw [hb]
  refine ⟨by unfold fltB; simp; omega, ?_⟩
  have he : (strOfNums (tx ((c : Int) / 16) ((c : Int) % 16) 4)).data.toList = s.data.toList := ht
  generalize strOfNums (tx ((c : Int) / 16) ((c : Int) % 16) 4) = q at he
  cases q; cases s
  simp only at he
  congr 1
  exact Array.toList_inj.1 he

end Go.Proofs.YtmnekheaggleaaaDoor
