/- ArgsOf: the program's, the model's, and the law's walk. Messages and queues: whether one is a reply; faults, by the program and by the model. The fault of a queue, by the program and by the model. Regions in open order: one of two that come up; what leaves no value. -/
import Derived.Test.YtefkngpceeclhaaV4
import Derived.Test.YtefkngpceeclhaaV1
import Derived.Test.YtefkngpceeclhaaV18
import Derived.Test.YtefkngpceeclhaaV11
namespace Go.Proofs.Ytefkngpceeclhaa
open Go.RowKit
set_option linter.unusedVariables false

set_option maxHeartbeats 400000 in
theorem in_yes (n a b : Int) (w : World) (h : a ≤ n) (h2 : n ≤ b) :
    Calls Try.prog 58 #[.int .i64 n, .int .i64 a, .int .i64 b] w fun e w' => e = .returned (.bool true) ∧ w' = w := by
  go_enter Try.func58, Try.ntmps58
  go_wp2
  go_returns
  exact ⟨rfl, rfl⟩

set_option maxHeartbeats 400000 in
theorem in_no (n a b : Int) (w : World) (h : n < a ∨ b < n) :
    Calls Try.prog 58 #[.int .i64 n, .int .i64 a, .int .i64 b] w fun e w' => e = .returned (.bool false) ∧ w' = w := by
  by_cases h1 : a ≤ n
  · have h2 : ¬ n ≤ b := by omega
    clear h
    go_enter Try.func58, Try.ntmps58
    go_wp2
    go_returns
    exact ⟨congrArg (fun b => Ending.returned (.bool b)) (by first | rfl | (simp; omega)), rfl⟩
  · clear h
    go_enter Try.func58, Try.ntmps58
    go_wp2
    go_returns
    exact ⟨congrArg (fun b => Ending.returned (.bool b)) (by first | rfl | (simp; omega)), rfl⟩

end Go.Proofs.Ytefkngpceeclhaa

namespace Go.Proofs.Ytefkngpceeclhaa
open Go.RowKit
set_option linter.unusedVariables false

def isRep (k : Int) : Bool := decide (1 ≤ k ∧ k ≤ 3)
theorem isRep_yes {k : Int} (h : 1 ≤ k ∧ k ≤ 3) : isRep k = true := by simp [isRep, h]
theorem isRep_no {k : Int} (h : ¬ (1 ≤ k ∧ k ≤ 3)) : isRep k = false := by simp only [isRep, decide_eq_false_iff_not]; exact h

set_option maxHeartbeats 400000 in
theorem iRep_any (k : Int) (w : World) : Calls Try.prog 14 #[.int .i64 k] w fun e w' => e = .returned (.bool (isRep k)) ∧ Below w.heap.size w w' := by
  by_cases h : 1 ≤ k ∧ k ≤ 3
  · rw [isRep_yes h]
    by_cases h1 : k = 1
    · subst h1
      go_enter Try.func14, Try.ntmps14
      go_wp2
      go_returns
      exact ⟨rfl, Below.refl _ _⟩
    · have e1 : (k == 1) = false := by simpa using h1
      by_cases h2 : k = 2
      · subst h2
        go_enter Try.func14, Try.ntmps14
        go_wp2
        go_returns
        exact ⟨rfl, Below.refl _ _⟩
      · obtain rfl : k = 3 := by omega
        go_enter Try.func14, Try.ntmps14
        go_wp2
        go_returns
        exact ⟨rfl, Below.refl _ _⟩
  · rw [isRep_no h]
    have e1 : (k == 1) = false := by simp; omega
    have e2 : (k == 2) = false := by simp; omega
    have e3 : (k == 3) = false := by simp; omega
    clear h
    go_enter Try.func14, Try.ntmps14
    go_wp2
    go_returns
    exact ⟨rfl, Below.refl _ _⟩

set_option maxHeartbeats 400000 in
theorem l6Rep_any (k : Int) (w : World) : Calls Try.prog 48 #[.int .i64 k] w fun e w' => e = .returned (.bool (isRep k)) ∧ Below w.heap.size w w' := by
  by_cases h : 1 ≤ k ∧ k ≤ 3
  · rw [isRep_yes h]
    go_enter Try.func48, Try.ntmps48
    go_wp2_with fail
    refine Calls.mono (in_yes k 1 3 _ h.1 h.2) ?_
    rintro e w1 ⟨rfl, rfl⟩
    go_wp2
    go_returns
    exact ⟨rfl, Below.refl _ _⟩
  · rw [isRep_no h]
    go_enter Try.func48, Try.ntmps48
    go_wp2_with fail
    refine Calls.mono (in_no k 1 3 _ (by omega)) ?_
    rintro e w1 ⟨rfl, rfl⟩
    go_wp2
    go_returns
    exact ⟨rfl, Below.refl _ _⟩

set_option maxHeartbeats 400000 in
theorem sRep_any (k : Int) (w : World) : Calls Try.prog 15 #[.int .i64 k] w fun e w' => e = .returned (.bool (isRep k)) ∧ Below w.heap.size w w' := by
  go_enter Try.func15, Try.ntmps15
  go_wp2_with fail
  refine Calls.mono (l6Rep_any k _) ?_
  rintro e w1 ⟨rfl, k1⟩
  go_wp2
  go_returns
  exact ⟨rfl, k1⟩

set_option maxHeartbeats 400000 in
theorem iMF_any (k : Int) (ao : Option Addr) (ca : Nat) (D : List Int) (w : World) (hl : D.length ≤ 1048576) : Calls Try.prog 50 #[.agg #[.int .i64 k, .slice ao D.length ca]] w fun e w' => e = .returned (.int .i64 (mF (k, D))) ∧ Below w.heap.size w w' := by
  have hl' : (D.length : Int) ≤ 1048576 := by omega
  by_cases h1 : k < 1
  · have hv : mF (k, D) = 3 := by unfold mF; rw [if_pos (.inl h1)]
    rw [hv]
    go_enter Try.func50, Try.ntmps50
    go_wp2
    go_returns
    exact ⟨rfl, by go_grown⟩
  by_cases h2 : 7 < k
  · have hv : mF (k, D) = 3 := by unfold mF; rw [if_pos (.inr h2)]
    rw [hv]
    go_enter Try.func50, Try.ntmps50
    go_wp2
    go_returns
    exact ⟨rfl, by go_grown⟩
  by_cases h3 : 30 < (D.length : Int)
  · have hv : mF (k, D) = 2 := by unfold mF; rw [if_neg (by simp only; omega), if_pos (by simp only; omega)]
    rw [hv]
    go_enter Try.func50, Try.ntmps50
    go_wp2
    go_returns
    exact ⟨rfl, by go_grown⟩
  · have hv : mF (k, D) = 0 := by unfold mF; rw [if_neg (by simp only; omega), if_neg (by simp only; omega)]
    rw [hv]
    go_enter Try.func50, Try.ntmps50
    go_wp2
    go_returns
    exact ⟨rfl, by go_grown⟩

set_option maxHeartbeats 400000 in
theorem sMF_any (g o : Nat) (m : Mg) (w : World) (hc : m.cells w g o) (hl : m.b.L.length ≤ 1048576) : Calls Try.prog 56 #[.pointer (some ⟨g, o, none⟩)] w fun e w' => e = .returned (.int .i64 (mF m.ct)) ∧ Below w.heap.size w w' := by
  obtain ⟨k, ao, cap, gb, D⟩ := m
  simp only at hl
  obtain ⟨c0, c1⟩ := hc
  simp only at c0 c1
  have hg : g < w.heap.size := World.block_lt_of_cell? w _ c0
  have hl' : (D.length : Int) ≤ 1048576 := by omega
  show Calls _ _ _ _ fun e w' => e = .returned (.int .i64 (mF (k, D))) ∧ _
  by_cases h1 : k < 1 ∨ 7 < k
  · have hv : mF (k, D) = 3 := by unfold mF; rw [if_pos h1]
    rw [hv]
    go_enter Try.func56, Try.ntmps56
    go_wp2_with fail
    refine Calls.mono (in_no k 1 7 _ h1) ?_
    rintro e w1 ⟨rfl, rfl⟩
    go_wp2
    go_returns
    exact ⟨rfl, Below.refl _ _⟩
  · by_cases h3 : 30 < (D.length : Int)
    · have hv : mF (k, D) = 2 := by unfold mF; rw [if_neg h1, if_pos (by simp only; omega)]
      rw [hv]
      go_enter Try.func56, Try.ntmps56
      go_wp2_with fail
      refine Calls.mono (in_yes k 1 7 _ (by omega) (by omega)) ?_
      rintro e w1 ⟨rfl, rfl⟩
      go_wp2
      go_returns
      exact ⟨rfl, Below.refl _ _⟩
    · have hv : mF (k, D) = 0 := by unfold mF; rw [if_neg h1, if_neg (by simp only; omega)]
      rw [hv]
      go_enter Try.func56, Try.ntmps56
      go_wp2_with fail
      refine Calls.mono (in_yes k 1 7 _ (by omega) (by omega)) ?_
      rintro e w1 ⟨rfl, rfl⟩
      go_wp2
      go_returns
      exact ⟨rfl, Below.refl _ _⟩
end Go.Proofs.Ytefkngpceeclhaa

namespace Go.Proofs.Ytefkngpceeclhaa
open Go.RowKit
set_option linter.unusedVariables false

set_option maxHeartbeats 800000 in
theorem iQF_any (lo hi : Nat) (so : Option Addr) (sc : Nat) (L : List Mg) (v : Bool) (w : World) (hL : Ms w lo hi so L) (hs : hi ≤ w.heap.size) (hn : L.length + mzs L ≤ 1048576) :
    Calls Try.prog 18 #[.agg #[.slice so L.length sc, .bool v]] w fun e w' => e = .returned (.int .i64 (qF (L.map Mg.ct))) ∧ Below w.heap.size w w' := by
  have hn' : (L.length : Int) ≤ 1048576 := by omega
  by_cases hten : (10 : Int) < (L.length : Int)
  · rw [qF_many (by simp; omega)]
    clear hL
    go_enter Try.func18, Try.ntmps18
    go_wp2
    go_returns
    exact ⟨rfl, by go_grown⟩
  have HQ := hideP (qF_few (C := L.map Mg.ct) (by simp; omega))
  have HL := hideP hL
  clear hL
  go_enter Try.func18, Try.ntmps18
  go_wp2
  have K0 : Hid (Below w.heap.size w (w.alloc (.cells #[.slice so L.length sc, .bool v] 26))) := hideP ((Below.refl _ _).alloc (Nat.le_refl _) _)
  go_loopw [13] (fun i wr => ∃ X Y : List Mg, X ++ Y = L ∧ i = .int .i64 (X.length : Nat) ∧ msF (X.map Mg.ct) = 0 ∧ Below w.heap.size w wr) (fun i _ => L.length - (intOf i).toNat)
  case atStart => exact ⟨[], L, rfl, rfl, rfl, K0.out⟩
  case round =>
    obtain ⟨X, Y, hXY, rfl, hF, kb⟩ := hrel
    have hlen : X.length + Y.length = L.length := by rw [← hXY]; simp
    have hz := kb.size
    have HF := hideP hF
    have HB := hideP kb
    clear hF kb K0
    cases Y with
    | cons r Y =>
      have hlt : (X.length : Int) < (L.length : Int) := by simp at hlen; omega
      have hsz : r.b.L.length ≤ mzs L := mzs_mem (m := r) (by rw [← hXY]; simp)
      have h0 := HL.out
      rw [← hXY] at h0
      obtain ⟨g, o, rfl, hg, hc, _⟩ := Ms.at h0
      obtain ⟨a0, a1⟩ := hc.keep HB.out (by omega)
      have hgl : g < wr.heap.size := by omega
      have HXY := hideP hXY
      clear h0 hc hXY HL
      obtain ⟨k, ao, cap, gb, D⟩ := r
      simp only at a0 a1 hsz
      go_wp2_with fail
      clear a0 a1
      have ka : Below wr.heap.size wr (wr.alloc (.cells #[.int .i64 k, .slice ao D.length cap] 28)) := (Below.refl _ _).alloc (Nat.le_refl _) _
      have HB1 := hideP (HB.out.trans (ka.mono hz))
      have hz1 := ka.size
      clear ka HB
      generalize wr.alloc (.cells #[.int .i64 k, .slice ao D.length cap] 28) = w1 at *
      refine Calls.mono (iMF_any k ao cap D w1 (by omega)) ?_
      rintro e w2 ⟨rfl, k2⟩
      have HB2 := hideP (HB1.out.trans (k2.mono (by omega)))
      clear k2 HB1
      by_cases hc : mF (k, D) = 0
      · have HC := hideP hc
        rw [hc]
        clear hc
        go_wp2
        go_roundw
        case rel => exact ⟨X ++ [⟨k, ao, cap, gb, D⟩], Y, mid_in HXY.out, by simp, by rw [List.map_append]; exact msF_snoc HF.out HC.out, HB2.out⟩
        case measure => simp [intOf]; omega
      · obtain ⟨c, hcc⟩ : ∃ c, mF (k, D) = c := ⟨_, rfl⟩
        have hcn : (c != 0) = true := by rw [← hcc]; simpa using hc
        have HE : Hid (qF (L.map Mg.ct) = c) := hideP (by
          rw [HQ.out, ← HXY.out, List.map_append, List.map_cons]
          exact (msF_bad HF.out hc).trans hcc)
        rw [hcc]
        clear hc hcc
        go_wp2
        go_returns
        exact ⟨by rw [HE.out]; rfl, HB2.out⟩
    | nil =>
      have hX : X = L := by simpa using hXY
      subst hX
      have HE : Hid (qF (X.map Mg.ct) = 0) := hideP (HQ.out.trans HF.out)
      clear hXY HL HF HQ
      go_wp2
      go_returns
      exact ⟨by rw [HE.out]; rfl, HB.out⟩

set_option maxHeartbeats 800000 in
theorem l6F_any (lo hi b : Nat) (so : Option Addr) (sc : Nat) (L : List Mg) (w : World) (hb : w.cell? ⟨b, 0, none⟩ = some (.slice so L.length sc)) (hL : Ms w lo hi so L) (hs : hi ≤ w.heap.size) (hn : L.length + mzs L ≤ 1048576) :
    Calls Try.prog 51 #[.pointer (some ⟨b, 0, none⟩)] w fun e w' => e = .returned (.int .i64 (qF (L.map Mg.ct))) ∧ Below w.heap.size w w' := by
  have hn' : (L.length : Int) ≤ 1048576 := by omega
  have hbl : b < w.heap.size := World.block_lt_of_cell? w _ hb
  by_cases hten : (10 : Int) < (L.length : Int)
  · rw [qF_many (by simp; omega)]
    clear hL
    go_enter Try.func51, Try.ntmps51
    go_wp2
    go_returns
    exact ⟨rfl, Below.refl _ _⟩
  have HQ := hideP (qF_few (C := L.map Mg.ct) (by simp; omega))
  have HL := hideP hL
  have HBx := hideP hb
  clear hL
  go_enter Try.func51, Try.ntmps51
  go_wp2
  clear hb
  go_loopw [3] (fun i wr => ∃ X Y : List Mg, X ++ Y = L ∧ i = .int .i64 (X.length : Nat) ∧ msF (X.map Mg.ct) = 0 ∧ Below w.heap.size w wr) (fun i _ => L.length - (intOf i).toNat)
  case atStart => exact ⟨[], L, rfl, rfl, rfl, Below.refl _ _⟩
  case round =>
    obtain ⟨X, Y, hXY, rfl, hF, kb⟩ := hrel
    have hlen : X.length + Y.length = L.length := by rw [← hXY]; simp
    have hz := kb.size
    have hb1 := (kb.cell (p := ⟨b, 0, none⟩) hbl).trans HBx.out
    have hbl1 : b < wr.heap.size := by omega
    have HF := hideP hF
    have HB := hideP kb
    clear hF kb
    cases Y with
    | cons r Y =>
      have hlt : (X.length : Int) < (L.length : Int) := by simp at hlen; omega
      have hsz : r.b.L.length ≤ mzs L := mzs_mem (m := r) (by rw [← hXY]; simp)
      have h0 := HL.out
      rw [← hXY] at h0
      obtain ⟨g, o, rfl, hg, hc, _⟩ := Ms.at h0
      have HC := hideP (hc.keep HB.out (by omega))
      have a0 := HC.out.c0
      have hgl : g < wr.heap.size := by omega
      have HXY := hideP hXY
      clear h0 hc hXY HL
      go_wp2_with fail
      clear a0
      refine Calls.mono (sMF_any _ _ r wr HC.out (by omega)) ?_
      rintro e w2 ⟨rfl, k2⟩
      have HB2 := hideP (HB.out.trans (k2.mono (by omega)))
      clear k2 HB
      by_cases hc : mF r.ct = 0
      · have HC := hideP hc
        rw [hc]
        clear hc
        go_wp2
        go_roundw
        case rel => exact ⟨X ++ [r], Y, mid_in HXY.out, by simp, by rw [List.map_append]; exact msF_snoc HF.out HC.out, HB2.out⟩
        case measure => simp [intOf]; omega
      · obtain ⟨c, hcc⟩ : ∃ c, mF r.ct = c := ⟨_, rfl⟩
        have hcn : (c != 0) = true := by rw [← hcc]; simpa using hc
        have HE : Hid (qF (L.map Mg.ct) = c) := hideP (by
          rw [HQ.out, ← HXY.out, List.map_append, List.map_cons]
          exact (msF_bad HF.out hc).trans hcc)
        rw [hcc]
        clear hc hcc
        go_wp2
        go_returns
        exact ⟨by rw [HE.out]; rfl, HB2.out⟩
    | nil =>
      have hX : X = L := by simpa using hXY
      subst hX
      have HE : Hid (qF (X.map Mg.ct) = 0) := hideP (HQ.out.trans HF.out)
      clear hXY HL HF HQ
      go_wp2
      go_returns
      exact ⟨by rw [HE.out]; rfl, HB.out⟩

set_option maxHeartbeats 400000 in
theorem sQF_any (lo hi : Nat) (so : Option Addr) (sc : Nat) (L : List Mg) (v : Bool) (w : World) (hL : Ms w lo hi so L) (hs : hi ≤ w.heap.size) (hn : L.length + mzs L ≤ 1048576) :
    Calls Try.prog 19 #[.agg #[.slice so L.length sc, .bool v]] w fun e w' => e = .returned (.int .i64 (qF (L.map Mg.ct))) ∧ Below w.heap.size w w' := by
  have QF := hideP (l6F_any lo hi w.heap.size so sc L (w.alloc (.cells #[.slice so L.length sc, .bool v] 26)) (by simp) (hL.keep (B := w.heap.size) ((Below.refl _ _).alloc (Nat.le_refl _) _) hs) (by simp; omega) hn)
  clear hL
  go_enter Try.func19, Try.ntmps19
  go_wp2_with fail
  refine Calls.mono QF.out ?_
  rintro e w1 ⟨rfl, k1⟩
  have K1 : Hid (Below w.heap.size w w1) := hideP (Below.trans (by go_grown) (k1.mono (by simp)))
  clear k1
  go_wp2
  go_returns
  exact ⟨rfl, K1.out⟩
end Go.Proofs.Ytefkngpceeclhaa

namespace Go.Proofs.Ytefkngpceeclhaa
open Go.RowKit
set_option linter.unusedVariables false

section
variable {P : Program} {md : Region.Mode} {ops : Array Oper} {Q : Exit → Act → World → Prop} {S : World → Prop}
theorem held_two {i j : Nat} {oi oj : Oper} {fuel : Nat} {listed : Array Bool} {a : Act} {w : World} (hi : ops[i]? = some oi) (hj : ops[j]? = some oj) (hr : Region.ready md ops listed = [i, j]) (hw : Region.wanted oi (yielded ops a.tmps) = true) (hw' : Region.wanted oj (yielded ops a.tmps) = true)
    (h : oi.wp P a w (fun a' w' => S w' ∧ wpAnyH P md ops Q S fuel (listed.setIfInBounds i true) a' w') Q) (h' : oj.wp P a w (fun a' w' => S w' ∧ wpAnyH P md ops Q S fuel (listed.setIfInBounds j true) a' w') Q) : wpAnyH P md ops Q S (fuel + 1) listed a w :=
  wpAnyH_all hr (by simp) (fun k hk => by
    unfold wpOp
    simp only [List.mem_cons, List.not_mem_nil, or_false] at hk
    rcases hk with rfl | rfl
    · simp only [hi]; rw [if_pos hw]; exact .inl h
    · simp only [hj]; rw [if_pos hw']; exact .inl h')
end

theorem wp_of_skip {P : Program} {Q : Exit → Act → World → Prop} {o : Oper} {a : Act} {w w' : World} {K : Act → World → Prop} (h : (execOp a.eval o).run P w = .ok .skip w') (hk : K (a.put o.dst undef) w') : o.wp P a w K Q := by
  unfold Oper.wp
  rw [h]
  exact hk
end Go.Proofs.Ytefkngpceeclhaa
