/- RequestFault: the law's walk. -/
import Derived.Test.YtbceacnadkhdoabReq5
import Derived.Test.YtbceacnadkhdoabHeld0
namespace Go.Proofs.Ytbceacnadkhdoab
open Go.RowKit
set_option linter.unusedVariables false

set_option maxHeartbeats 400000 in
theorem fault_big (k : Int) (ao bo : Option Addr) (na ca nd cb : Nat) (w : World) (hn : na ≤ maxLen) (hd : nd ≤ maxLen) (h : (1048576 : Int) < (na : Int) + nd) :
    Calls Try.prog 6 #[.agg #[.int .i64 k, .slice ao na ca, .slice bo nd cb]] w fun e w' => e = .returned (.bool true) ∧ Below w.heap.size w w' := by
  go_enter Try.func6, Try.ntmps6
  go_wp2_with fail
  refine Calls.mono (szR_big k ao bo na ca nd cb 1048576 _ hn hd (by omega) (by omega) h) ?_
  rintro e w1 ⟨rfl, k1⟩
  go_wp2
  go_returns
  refine ⟨rfl, ?_⟩
  repeat' (first | (with_reducible exact Below.refl _ _) | (with_reducible refine kept_below ?_ (by assumption) ?_) | (with_reducible refine Below.alloc ?_ ?_ _) | (with_reducible refine Below.drew ?_) | (with_reducible refine Below.setCell ?_ ?_ _) | go_size)

/-- What is told of a fresh copy of a request. -/
def CopyR (w : World) (k : Int) (A D : List Int) (w2 : World) (v : Value) : Prop := ∃ ao' bo' mid, v = .agg #[.int .i64 k, .slice ao' A.length A.length, .slice bo' D.length D.length] ∧ Req w2 w.heap.size mid w2.heap.size ao' bo' A D
theorem toReq_made (lo hi : Nat) (k : Int) (ao bo : Option Addr) (ca cb : Nat) (A D : List Int) (w : World) (ha : Row .i64 w lo hi ao A) (hb : Row .u8 w lo hi bo D) (h1 : hi ≤ w.heap.size) (hA : A.length ≤ 1048576) (hD : D.length ≤ 1048576) :
    Calls Try.prog 24 #[.agg #[.int .i64 k, .slice ao A.length ca, .slice bo D.length cb]] w fun e w'' => ∃ v, e = .returned v ∧ Below w.heap.size w w'' ∧ CopyR w k A D w'' v :=
  (toReq_any lo hi k ao bo ca cb A D w ha hb h1 hA hD).mono fun e w'' ⟨ao', bo', mid, he, hb, hr⟩ => ⟨_, he, hb, ao', bo', mid, rfl, hr⟩
/-- It answered yes. -/
def SaidYes (w2 : World) (v : Value) : Prop := v = .bool true
theorem true_made {P : Program} {f : FuncId} {args : Array Value} {w : World} (h : Calls P f args w fun e w' => e = .returned (.bool true) ∧ Below w.heap.size w w') :
    Calls P f args w fun e w'' => ∃ v, e = .returned v ∧ Below w.heap.size w w'' ∧ SaidYes w'' v := h.mono fun e w' ⟨he, hb⟩ => ⟨_, he, hb, rfl⟩
theorem Req.rowA {w : World} {lo mid hi : Nat} {ao bo : Option Addr} {A D : List Int} (h : Req w lo mid hi ao bo A D) : Row .i64 w lo hi ao A := h.args.row.wide (Nat.le_refl _) h.mh
theorem Req.rowD {w : World} {lo mid hi : Nat} {ao bo : Option Addr} {A D : List Int} (h : Req w lo mid hi ao bo A D) : Row .u8 w lo hi bo D := h.data.row.wide h.lm (Nat.le_refl _)

set_option maxHeartbeats 2000000 in
theorem fault_small (lo hi : Nat) (k : Int) (ao bo : Option Addr) (ca cb : Nat) (A D : List Int) (w : World) (ha : Row .i64 w lo hi ao A) (hd : Row .u8 w lo hi bo D) (hs : hi ≤ w.heap.size) (h : (A.length : Int) + D.length ≤ 1048576) :
    Calls Try.prog 6 #[.agg #[.int .i64 k, .slice ao A.length ca, .slice bo D.length cb]] w fun e w' => e = .returned (.bool true) ∧ Below w.heap.size w w' := by
  have HA := hideP ha
  have HD := hideP hd
  have hA : A.length ≤ 1048576 := by omega
  have hDl : D.length ≤ 1048576 := by omega
  have hq0 : 0 ≤ 1048576 - (A.length : Int) - (D.length : Int) := by omega
  clear ha hd
  go_enter Try.func6, Try.ntmps6
  go_wp2_with fail
  refine Calls.mono (szR_small k ao bo A.length ca D.length cb 1048576 _ (by unfold maxLen; omega) (by unfold maxLen; omega) (by omega) (by omega) h) ?_
  rintro e w1 ⟨rfl, k1⟩
  have K1 : Hid (Below w.heap.size w w1) := hideP (Below.trans (by go_grown) (k1.mono (by simp)))
  have X1 : Hid (Bx w1 w.heap.size k (.slice ao A.length ca) (.slice bo D.length cb)) := hideP (Bx.keep ⟨by simp, by simp, by simp⟩ k1 (by simp))
  have n1 : w.heap.size < w1.heap.size := by have := k1.size; simp at this; omega
  clear k1
  obtain ⟨p0, p1, p2⟩ := X1.out
  go_wp2_with fail
  clear p0 p1 p2
  refine Calls.mono (toReq_any lo hi k ao bo ca cb A D _ (HA.out.keep K1.out hs) (HD.out.keep K1.out hs) (by omega) hA hDl) ?_
  rintro e w2 ⟨ao2, bo2, mid2, rfl, k2, R2⟩
  have R2' := hideP R2
  have K2 : Hid (Below w.heap.size w w2) := hideP (K1.out.trans (k2.mono (by omega)))
  have X2 := hideP (X1.out.keep k2 n1)
  have n2 := Nat.lt_of_lt_of_le n1 k2.size
  clear k2 R2 K1 X1 n1
  go_wp2_with fail
  refine Calls.mono (sFault_any _ _ k ao2 bo2 A.length D.length D.length A _ R2'.out.rowA (Nat.le_refl _)) ?_
  rintro e w3 ⟨rfl, k3⟩
  have K3 : Hid (Below w.heap.size w w3) := hideP (K2.out.trans (k3.mono (by omega)))
  have X3 := hideP (X2.out.keep k3 n2)
  have n3 := Nat.lt_of_lt_of_le n2 k3.size
  clear k3 K2 X2 n2 R2'
  obtain ⟨p0, p1, p2⟩ := X3.out
  go_wp2_with fail
  clear p0 p1 p2
  refine Calls.mono (toReq_any lo hi k ao bo ca cb A D _ (HA.out.keep K3.out hs) (HD.out.keep K3.out hs) (by omega) hA hDl) ?_
  rintro e w4 ⟨ao4, bo4, mid4, rfl, k4, R4⟩
  have R4' := hideP R4
  have K4 : Hid (Below w.heap.size w w4) := hideP (K3.out.trans (k4.mono (by omega)))
  have X4 := hideP (X3.out.keep k4 n3)
  have n4 := Nat.lt_of_lt_of_le n3 k4.size
  clear k4 R4 K3 X3 n3
  go_wp2_with fail
  refine Calls.mono (iFault_any _ _ k ao4 bo4 A.length D.length D.length A _ (R4'.out.rowA.keep (B := w4.heap.size) (by go_grown) (Nat.le_refl _)) (by simp)) ?_
  rintro e w5 ⟨rfl, k5⟩
  have K5 : Hid (Below w.heap.size w w5) := hideP ((K4.out.alloc (by omega) _).trans (k5.mono (by simp; omega)))
  have k45 : Hid (Below w4.heap.size w4 w5) := hideP (Below.trans (by go_grown) (k5.mono (by simp)))
  have X5 := hideP (X4.out.keep k45.out n4)
  have Y5 : Hid (Bx w5 w4.heap.size k (.slice ao4 A.length A.length) (.slice bo4 D.length D.length)) := hideP (Bx.keep ⟨by simp, by simp, by simp⟩ k5 (by simp))
  have R5 := hideP (R4'.out.keep k45.out (Nat.le_refl _))
  have n5 : w.heap.size < w5.heap.size ∧ w4.heap.size < w5.heap.size := by have := k5.size; simp at this; omega
  have hne : (rF k A D.length != rF k A D.length) = false := by simp
  clear k5 K4 X4 R4' k45
  obtain ⟨n5a, n5b⟩ := n5
  obtain ⟨p0, p1, p2⟩ := X5.out
  obtain ⟨q0, q1, q2⟩ := Y5.out
  go_wp2_with fail
  refine wp_region_held (S := Kept w5) (by kernel_rfl) ?_
  show wpAnyH _ _ _ _ _ 5 (Array.replicate 5 false) _ (w5).drew
  have hK0 : Kept (w5) (w5).drew := (Below.refl _ _).drew
  generalize hQQ : (Exit.then _ _ : Exit → Act → World → Prop) = QQ
  have hQ : ∀ c a d v w, QQ (.panic c) (Act.put a d v) w → QQ (.panic c) a w := by
    subst hQQ
    intro c a d v w h
    cases d <;> exact h
  refine held_take (i := 0) rfl (by kernel_rfl) (by kernel_rfl) (by kernel_rfl) hQ hK0 (by rfl) ?_
  apply Exists.intro
  refine ⟨fun w1 k1 => ?_, fun K hK => ?_⟩
  · have hc := Kept.cell k1
    go_simp
    first | done | rfl
  go_simp
  refine hK _ ?_
  clear hK K
  refine held_take (i := 1) rfl (by kernel_rfl) (by kernel_rfl) (by kernel_rfl) hQ hK0 (by rfl) ?_
  apply Exists.intro
  refine ⟨fun w1 k1 => ?_, fun K hK => ?_⟩
  · have hc := Kept.cell k1
    go_simp
    first | done | rfl
  go_simp
  refine hK _ ?_
  clear hK K
  have hAA := HA.out.keep K5.out hs
  have hDD := HD.out.keep K5.out hs
  refine held_one (i := 2) rfl (by kernel_rfl) (by rfl) ?_
  refine wp_of_made (L := CopyR w5.drew k A D) ?_ ?_
  · exact made_call (by go_simp; first | done | rfl) (toReq_made lo hi k ao bo ca cb A D _ (hAA.keep hK0 (by omega)) (hDD.keep hK0 (by omega)) (by simp; omega) hA hDl)
  rintro w6 v hb ⟨ao6, bo6, mid6, rfl, R6⟩
  have hK6 := Kept.trans hK0 hb
  refine ⟨hK6, ?_⟩
  refine norm_act fun K hK => ?_
  go_simp
  refine hK _ ?_
  clear hK K
  have n6 := hb.size
  simp only [World.size_drew] at n6
  refine held_one (i := 3) rfl (by kernel_rfl) (by rfl) ?_
  refine wp_of_made (L := SaidYes) ?_ ?_
  · exact made_call (by go_simp; first | done | rfl) (true_made (eqR_same _ _ _ _ k ao4 bo4 ao6 bo6 A.length D.length A.length D.length A D w6 (R5.out.rowA.keep hK6 (by omega)) (R5.out.rowD.keep hK6 (by omega)) R6.rowA R6.rowD (by omega) (Nat.le_refl _) hA hDl))
  rintro w7 v hb ⟨⟩
  have hK7 := Kept.trans hK6 hb
  refine ⟨hK7, ?_⟩
  refine norm_act fun K hK => ?_
  go_simp
  refine hK _ ?_
  clear hK K
  refine held_one (i := 4) rfl (by kernel_rfl) (by rfl) ?_
  refine wp_of_run (v := .bool false) (w' := _) (by go_simp; first | done | rfl) ?_
  refine ⟨hK7, ?_⟩
  refine norm_act fun K hK => ?_
  go_simp
  refine hK _ ?_
  clear hK K
  refine wpAnyH_done (by kernel_rfl) ?_ _
  subst hQQ
  have K7 : Hid (Below w.heap.size w w7) := hideP (K5.out.trans (hK7.mono (by omega)))
  clear hQ hK0 hK6 hK7 R5 R6 n6 hb p0 p1 p2 q0 q1 q2 X5 Y5
  go_wp2
  go_returns
  exact ⟨rfl, K7.out⟩

theorem fault_law (k : Int) (ao : Option Addr) (ca : Nat) (A : List Int) (bo : Option Addr) (cb : Nat) (D : List Int) (w : World) (hmA : A.length ≤ maxLen) (hA : Row .i64 w 0 w.heap.size ao A) (hwA : ∀ n ∈ A, (Lit.int .i64 n).wf = true) (hmD : D.length ≤ maxLen) (hD : Row .u8 w 0 w.heap.size bo D) (hwD : ∀ n ∈ D, (Lit.int .u8 n).wf = true) :
    Calls Try.prog 6 #[.agg #[.int .i64 k, .slice ao A.length ca, .slice bo D.length cb]] w fun e w' => e = .returned (.bool true) ∧ Below w.heap.size w w' := by
  by_cases h : (A.length : Int) + D.length ≤ 1048576
  · exact fault_small 0 w.heap.size k ao bo ca cb A D w hA hD (Nat.le_refl _) h
  · exact fault_big k ao bo A.length ca D.length cb w hmA hmD (by omega)

end Go.Proofs.Ytbceacnadkhdoab
