/- RequestText: the model's. -/
import Derived.Test.YtbceacnadkhdoabDoorRt2
import Derived.Test.YtbceacnadkhdoabDoorPck2
namespace Go.Proofs.YtbceacnadkhdoabDoor
open Go.RowKit
set_option linter.unusedVariables false

/-- A request's text; none, where it has a fault. -/
def tX (k : Int) (A D : List Int) : ByteArray := if rF k A D.length = 0 then tS (bod k A D) else ⟨#[]⟩
theorem tX_yes {k : Int} {A D : List Int} (h : rF k A D.length = 0) : tX k A D = tS (bod k A D) := by unfold tX; rw [if_pos h]
theorem tX_no {k : Int} {A D : List Int} (h : rF k A D.length ≠ 0) : tX k A D = ⟨#[]⟩ := by unfold tX; rw [if_neg h]

set_option maxHeartbeats 1000000 in
theorem sText_no (lo hi : Nat) (k : Int) (ao bo : Option Addr) (ca cb : Nat) (A D : List Int) (w : World) (hA : Row .i64 w lo hi ao A) (hs : hi ≤ w.heap.size) (h : rF k A D.length ≠ 0) :
    Calls Tryd.prog 5 #[.agg #[.int .i64 k, .slice ao A.length ca, .slice bo D.length cb]] w fun e w' => e = .returned (.agg #[.int .i64 (rF k A D.length), .string ⟨#[]⟩]) ∧ Below w.heap.size w w' := by
  have HA := hideP hA
  obtain ⟨c, hc⟩ : ∃ c, rF k A D.length = c := ⟨_, rfl⟩
  have HC := hideP hc
  have hne : (c != 0) = true := by rw [← hc]; simpa using h
  clear hA h hc
  go_enter Tryd.func5, Tryd.ntmps5
  go_wp2_with fail
  refine Calls.mono (l3F_any lo hi _ 0 k ao bo ca D.length cb A _ ⟨by simp, by simp, by simp⟩ (HA.out.keep (B := w.heap.size) (by go_grown) hs) (by simp; omega)) ?_
  rintro e w1 ⟨rfl, k1⟩
  rw [HC.out]
  have K1 : Hid (Below w.heap.size w w1) := hideP (Below.trans (by go_grown) (k1.mono (by simp; omega)))
  obtain ⟨r0, r1, r2, r3, r4⟩ : Rb w1 (w.heap.size + 1) (.int .i64 0) (.string ⟨#[]⟩) := Rb.keep ⟨by simp, by simp, by simp, by simp, by simp⟩ k1 (by simp)
  clear k1
  go_wp2
  refine bodyPost_ret (v := .agg #[.int .i64 c, .string ⟨#[]⟩]) (by simp [results, Tryd.results5, go_sem, *]) rfl ⟨by rw [HC.out], ?_⟩
  repeat' (first | exact K1.out | (with_reducible refine Below.setCell ?_ ?_ _) | go_size)

set_option maxHeartbeats 1000000 in
theorem sText_yes (lo hi : Nat) (k : Int) (ao bo : Option Addr) (ca cb : Nat) (A D : List Int) (w : World) (hA : Row .i64 w lo hi ao A) (hD : Row .u8 w lo hi bo D) (hs : hi ≤ w.heap.size) (hBD : D.all isB = true) (h : rF k A D.length = 0) :
    Calls Tryd.prog 5 #[.agg #[.int .i64 k, .slice ao A.length ca, .slice bo D.length cb]] w fun e w' => e = .returned (.agg #[.int .i64 0, .string (tS (k :: (A ++ D)))]) ∧ Below w.heap.size w w' := by
  have HA := hideP hA
  have HD := hideP hD
  have HC := hideP h
  obtain ⟨l1, l2, q1, q2, q3⟩ := rF_lens h
  have HB := hideP q3
  have HBD := hideP hBD
  clear hA hD h q3 hBD
  go_enter Tryd.func5, Tryd.ntmps5
  go_wp2_with fail
  refine Calls.mono (l3F_any lo hi _ 0 k ao bo ca D.length cb A _ ⟨by simp, by simp, by simp⟩ (HA.out.keep (B := w.heap.size) (by go_grown) hs) (by simp; omega)) ?_
  rintro e w1 ⟨rfl, k1⟩
  rw [HC.out]
  have K1 : Hid (Below w.heap.size w w1) := hideP (Below.trans (by go_grown) (k1.mono (by simp; omega)))
  have R1 : Hid (Rb w1 (w.heap.size + 1) (.int .i64 0) (.string ⟨#[]⟩)) := hideP (Rb.keep ⟨by simp, by simp, by simp, by simp, by simp⟩ k1 (by simp))
  have X1 : Hid (IsReq w1 w.heap.size 0 k (.slice ao A.length ca) (.slice bo D.length cb)) := hideP (IsReq.keep ⟨by simp, by simp, by simp⟩ k1 (by simp; omega))
  have n1 : w.heap.size + 1 < w1.heap.size := R1.out.lt
  clear k1
  go_wp2_with fail
  refine Calls.mono (l3Text_any lo hi w.heap.size 0 k ao bo ca cb A D w1 X1.out (HA.out.keep K1.out hs) (HD.out.keep K1.out hs) (by omega) (by omega) (by omega) (by omega) (by omega) (by omega) HB.out HBD.out) ?_
  rintro e w2 ⟨rfl, k2⟩
  have K2 := hideP (K1.out.trans (k2.mono (by omega)))
  obtain ⟨r0, r1, r2, r3, r4⟩ := R1.out.keep k2 n1
  clear k2 X1 R1
  go_wp2
  refine bodyPost_ret (v := .agg #[.int .i64 0, .string (tS (k :: (A ++ D)))]) (by simp [results, Tryd.results5, go_sem, *]) rfl ⟨rfl, ?_⟩
  repeat' (first | exact K2.out | (with_reducible refine Below.setCell ?_ ?_ _) | go_size)

/-- RequestText of the model at every request. -/
theorem sText_any (lo hi : Nat) (k : Int) (ao bo : Option Addr) (ca cb : Nat) (A D : List Int) (w : World) (hA : Row .i64 w lo hi ao A) (hD : Row .u8 w lo hi bo D) (hs : hi ≤ w.heap.size) (hBD : D.all isB = true) :
    Calls Tryd.prog 5 #[.agg #[.int .i64 k, .slice ao A.length ca, .slice bo D.length cb]] w fun e w' => e = .returned (.agg #[.int .i64 (rF k A D.length), .string (tX k A D)]) ∧ Below w.heap.size w w' := by
  by_cases h : rF k A D.length = 0
  · rw [h, tX_yes h]; exact sText_yes lo hi k ao bo ca cb A D w hA hD hs hBD h
  · rw [tX_no h]; exact sText_no lo hi k ao bo ca cb A D w hA hs h

end Go.Proofs.YtbceacnadkhdoabDoor
