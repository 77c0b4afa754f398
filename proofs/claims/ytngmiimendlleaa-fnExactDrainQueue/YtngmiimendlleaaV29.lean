/- The fault of a queue, by the program and by the model. -/
import Derived.Test.YtngmiimendlleaaV28
namespace Go.Proofs.Ytngmiimendlleaa
open Go.RowKit
set_option linter.unusedVariables false

set_option maxHeartbeats 800000 in
theorem iQF_any (lo hi : Nat) (so : Option Addr) (sc : Nat) (L : List Mg) (v : Bool) (w : World) (hL : Ms w lo hi so L) (hs : hi ≤ w.heap.size) (hn : L.length + mzs L ≤ 1048576) :
    Calls Try.prog 19 #[.agg #[.slice so L.length sc, .bool v]] w fun e w' => e = .returned (.int .i64 (qF (L.map Mg.ct))) ∧ Below w.heap.size w w' := by
  have hn' : (L.length : Int) ≤ 1048576 := by omega
  by_cases hten : (10 : Int) < (L.length : Int)
  · rw [qF_many (by simp; omega)]
    clear hL
    go_enter Try.func19, Try.ntmps19
    go_wp2
    go_returns
    exact ⟨rfl, by go_grown⟩
  have HQ := hideP (qF_few (C := L.map Mg.ct) (by simp; omega))
  have HL := hideP hL
  clear hL
  go_enter Try.func19, Try.ntmps19
  go_wp2
  have K0 : Hid (Below w.heap.size w (w.alloc (.cells #[.slice so L.length sc, .bool v] 28))) := hideP ((Below.refl _ _).alloc (Nat.le_refl _) _)
  go_loopw [13] (fun i wr => ∃ X Y : List Mg, X ++ Y = L ∧ i = .int .i64 (X.length : Nat) ∧ msF (X.map Mg.ct) = 0 ∧ Below w.heap.size w wr) (fun i _ => L.length - (intOf i).toNat)
  case atStart => exact ⟨[], L, rfl, rfl, rfl, K0.out⟩
  case round =>
    obtain ⟨X, Y, hXY, rfl, hF, kb⟩ := hrel
    have hlen : X.length + Y.length = L.length := by rw [← hXY]; simp
    have hz := kb.size
    have HF := hideP hF
    have HB := hideP kb
    clear hF kb K0
    cases Y with
    | cons r Y =>
      have hlt : (X.length : Int) < (L.length : Int) := by simp at hlen; omega
      have hsz : r.b.L.length ≤ mzs L := mzs_mem (m := r) (by rw [← hXY]; simp)
      have h0 := HL.out
      rw [← hXY] at h0
      obtain ⟨g, o, rfl, hg, hc, _⟩ := Ms.at h0
      obtain ⟨a0, a1⟩ := hc.keep HB.out (by omega)
      have hgl : g < wr.heap.size := by omega
      have HXY := hideP hXY
      clear h0 hc hXY HL
      obtain ⟨k, ao, cap, gb, D⟩ := r
      simp only at a0 a1 hsz
      go_wp2_with fail
      clear a0 a1
      have ka : Below wr.heap.size wr (wr.alloc (.cells #[.int .i64 k, .slice ao D.length cap] 52)) := (Below.refl _ _).alloc (Nat.le_refl _) _
      have HB1 := hideP (HB.out.trans (ka.mono hz))
      have hz1 := ka.size
      clear ka HB
      generalize wr.alloc (.cells #[.int .i64 k, .slice ao D.length cap] 52) = w1 at *
      refine Calls.mono (iMF_any k ao cap D w1 (by omega)) ?_
      rintro e w2 ⟨rfl, k2⟩
      have HB2 := hideP (HB1.out.trans (k2.mono (by omega)))
      clear k2 HB1
      by_cases hc : mF (k, D) = 0
      · have HC := hideP hc
        rw [hc]
        clear hc
        go_wp2
        go_roundw
        case rel => exact ⟨X ++ [⟨k, ao, cap, gb, D⟩], Y, mid_in HXY.out, by simp, by rw [List.map_append]; exact msF_snoc HF.out HC.out, HB2.out⟩
        case measure => simp [intOf]; omega
      · obtain ⟨c, hcc⟩ : ∃ c, mF (k, D) = c := ⟨_, rfl⟩
        have hcn : (c != 0) = true := by rw [← hcc]; simpa using hc
        have HE : Hid (qF (L.map Mg.ct) = c) := hideP (by
          rw [HQ.out, ← HXY.out, List.map_append, List.map_cons]
          exact (msF_bad HF.out hc).trans hcc)
        rw [hcc]
        clear hc hcc
        go_wp2
        go_returns
        exact ⟨by rw [HE.out]; rfl, HB2.out⟩
    | nil =>
      have hX : X = L := by simpa using hXY
      subst hX
      have HE : Hid (qF (X.map Mg.ct) = 0) := hideP (HQ.out.trans HF.out)
      clear hXY HL HF HQ
      go_wp2
      go_returns
      exact ⟨by rw [HE.out]; rfl, HB.out⟩

set_option maxHeartbeats 800000 in
theorem l6F_any (lo hi b : Nat) (so : Option Addr) (sc : Nat) (L : List Mg) (w : World) (hb : w.cell? ⟨b, 0, none⟩ = some (.slice so L.length sc)) (hL : Ms w lo hi so L) (hs : hi ≤ w.heap.size) (hn : L.length + mzs L ≤ 1048576) :
    Calls Try.prog 14 #[.pointer (some ⟨b, 0, none⟩)] w fun e w' => e = .returned (.int .i64 (qF (L.map Mg.ct))) ∧ Below w.heap.size w w' := by
  have hn' : (L.length : Int) ≤ 1048576 := by omega
  have hbl : b < w.heap.size := World.block_lt_of_cell? w _ hb
  by_cases hten : (10 : Int) < (L.length : Int)
  · rw [qF_many (by simp; omega)]
    clear hL
    go_enter Try.func14, Try.ntmps14
    go_wp2
    go_returns
    exact ⟨rfl, Below.refl _ _⟩
  have HQ := hideP (qF_few (C := L.map Mg.ct) (by simp; omega))
  have HL := hideP hL
  have HBx := hideP hb
  clear hL
  go_enter Try.func14, Try.ntmps14
  go_wp2
  clear hb
  go_loopw [3] (fun i wr => ∃ X Y : List Mg, X ++ Y = L ∧ i = .int .i64 (X.length : Nat) ∧ msF (X.map Mg.ct) = 0 ∧ Below w.heap.size w wr) (fun i _ => L.length - (intOf i).toNat)
  case atStart => exact ⟨[], L, rfl, rfl, rfl, Below.refl _ _⟩
  case round =>
    obtain ⟨X, Y, hXY, rfl, hF, kb⟩ := hrel
    have hlen : X.length + Y.length = L.length := by rw [← hXY]; simp
    have hz := kb.size
    have hb1 := (kb.cell (p := ⟨b, 0, none⟩) hbl).trans HBx.out
    have hbl1 : b < wr.heap.size := by omega
    have HF := hideP hF
    have HB := hideP kb
    clear hF kb
    cases Y with
    | cons r Y =>
      have hlt : (X.length : Int) < (L.length : Int) := by simp at hlen; omega
      have hsz : r.b.L.length ≤ mzs L := mzs_mem (m := r) (by rw [← hXY]; simp)
      have h0 := HL.out
      rw [← hXY] at h0
      obtain ⟨g, o, rfl, hg, hc, _⟩ := Ms.at h0
      have HC := hideP (hc.keep HB.out (by omega))
      have a0 := HC.out.c0
      have hgl : g < wr.heap.size := by omega
      have HXY := hideP hXY
      clear h0 hc hXY HL
      go_wp2_with fail
      clear a0
      refine Calls.mono (sMF_any _ _ r wr HC.out (by omega)) ?_
      rintro e w2 ⟨rfl, k2⟩
      have HB2 := hideP (HB.out.trans (k2.mono (by omega)))
      clear k2 HB
      by_cases hc : mF r.ct = 0
      · have HC := hideP hc
        rw [hc]
        clear hc
        go_wp2
        go_roundw
        case rel => exact ⟨X ++ [r], Y, mid_in HXY.out, by simp, by rw [List.map_append]; exact msF_snoc HF.out HC.out, HB2.out⟩
        case measure => simp [intOf]; omega
      · obtain ⟨c, hcc⟩ : ∃ c, mF r.ct = c := ⟨_, rfl⟩
        have hcn : (c != 0) = true := by rw [← hcc]; simpa using hc
        have HE : Hid (qF (L.map Mg.ct) = c) := hideP (by
          rw [HQ.out, ← HXY.out, List.map_append, List.map_cons]
          exact (msF_bad HF.out hc).trans hcc)
        rw [hcc]
        clear hc hcc
        go_wp2
        go_returns
        exact ⟨by rw [HE.out]; rfl, HB2.out⟩
    | nil =>
      have hX : X = L := by simpa using hXY
      subst hX
      have HE : Hid (qF (X.map Mg.ct) = 0) := hideP (HQ.out.trans HF.out)
      clear hXY HL HF HQ
      go_wp2
      go_returns
      exact ⟨by rw [HE.out]; rfl, HB.out⟩

end Go.Proofs.Ytngmiimendlleaa
