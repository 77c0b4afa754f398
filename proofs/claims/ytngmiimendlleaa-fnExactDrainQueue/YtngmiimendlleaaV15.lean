/- Messages: how great, copied, held against each other, by the laws' own functions. -/
import Derived.Test.YtngmiimendlleaaV12
import Derived.Test.YtngmiimendlleaaV14
namespace Go.Proofs.Ytngmiimendlleaa
open Go.RowKit
set_option linter.unusedVariables false

set_option maxHeartbeats 400000 in
theorem szM_any (k : Int) (ao : Option Addr) (n ca : Nat) (l : Int) (w : World) (hn : n ≤ maxLen) (h0 : 0 ≤ l) (h1 : l ≤ 1048576) :
    Calls Try.prog 27 #[.agg #[.int .i64 k, .slice ao n ca], .int .i64 l] w fun e w' => e = .returned (.int .i64 (szV l n)) ∧ Below w.heap.size w w' := by
  have SZ := fun w1 => szB_any ao n ca l w1 hn h0 h1
  by_cases h : (n : Int) ≤ l
  · have hv := szV_yes h
    have hp : ¬ l - (n : Int) < 0 := by omega
    rw [hv] at SZ ⊢
    go_enter Try.func27, Try.ntmps27
    go_wp2_with fail
    refine Calls.mono (SZ _) ?_
    rintro e w1 ⟨rfl, rfl⟩
    go_wp2
    go_returns
    exact ⟨rfl, by go_grown⟩
  · have hv := szV_no (l := l) (n := n) (by omega)
    rw [hv] at SZ ⊢
    go_enter Try.func27, Try.ntmps27
    go_wp2_with fail
    refine Calls.mono (SZ _) ?_
    rintro e w1 ⟨rfl, rfl⟩
    go_wp2
    go_returns
    exact ⟨rfl, by go_grown⟩

set_option maxHeartbeats 1000000 in
theorem szMS_any (lo hi : Nat) (so : Option Addr) (sc : Nat) (L : List Mg) (l : Int) (w : World) (hL : Ms w lo hi so L) (hs : hi ≤ w.heap.size) (hn : L.length ≤ maxLen) (hm : ∀ r ∈ L, r.b.L.length ≤ maxLen) (h0 : 0 ≤ l) (h1 : l ≤ 1048576) :
    Calls Try.prog 13 #[.slice so L.length sc, .int .i64 l] w fun e w' => e = .returned (.int .i64 (szV l (L.length + mzs L))) ∧ Below w.heap.size w w' := by
  unfold maxLen at hn
  by_cases hbig : l < (L.length : Int)
  · have h2 : (L.length : Int) ≤ 9223372036854775807 := by omega
    rw [szV_no (by omega)]
    go_enter Try.func13, Try.ntmps13
    go_wp2
    go_returns
    exact ⟨rfl, Below.refl _ _⟩
  have hb0 : 0 ≤ l - (L.length : Int) := by omega
  have HL := hideP hL
  have HM := hideP hm
  clear hL hm
  go_enter Try.func13, Try.ntmps13
  go_wp2
  go_loopw [1, 5] (fun q i wr => ∃ X Y : List Mg, X ++ Y = L ∧ i = .int .i64 (X.length : Nat) ∧ q = .int .i64 (l - (L.length : Int) - (mzs X : Int)) ∧ (mzs X : Int) ≤ l - (L.length : Int) ∧ Below w.heap.size w wr) (fun _ i _ => L.length - (intOf i).toNat)
  case atStart => exact ⟨[], L, rfl, rfl, by simp [mzs_nil], by simp [mzs_nil]; omega, Below.refl _ _⟩
  case round =>
    obtain ⟨X, Y, hXY, rfl, rfl, hx, kb⟩ := hrel
    have hlen : X.length + Y.length = L.length := by rw [← hXY]; simp
    have htot : mzs X + mzs Y = mzs L := by rw [← hXY, mzs_app]
    have hz := kb.size
    cases Y with
    | cons r Y =>
      have hlt : (X.length : Int) < (L.length : Int) := by simp at hlen; omega
      have h0' := HL.out
      rw [← hXY] at h0'
      obtain ⟨g, o, rfl, hg, hc, _⟩ := Ms.at h0'
      obtain ⟨a0, a1⟩ := hc.keep kb (by omega)
      have m1 := HM.out r (by rw [← hXY]; simp)
      have hgl : g < wr.heap.size := by omega
      have hsr : mzs (X ++ [r]) = mzs X + r.b.L.length := by rw [mzs_app, mzs_one]
      have hsL : mzs X + r.b.L.length ≤ mzs L := by rw [← htot, mzs_cons]; omega
      have HB := hideP kb
      have HXY := hideP hXY
      have HSR := hideP hsr
      clear h0' hc kb hXY hlen htot hsr
      obtain ⟨k, ao, cap, gb, D⟩ := r
      simp only at a0 a1 m1 hsL HSR
      have hp0 : 0 ≤ l - (L.length : Int) - (mzs X : Int) := by omega
      have hp1 : l - (L.length : Int) - (mzs X : Int) ≤ 1048576 := by omega
      by_cases hfit : (mzs X : Int) + D.length ≤ l - (L.length : Int)
      · have hq0 : ¬ l - (L.length : Int) - (mzs X : Int) - (D.length : Int) < 0 := by omega
        have SZ := fun w1 => szM_any k ao D.length cap (l - (L.length : Int) - (mzs X : Int)) w1 m1 hp0 hp1
        rw [szV_yes (by omega)] at SZ
        go_wp2_with fail
        refine Calls.mono (SZ wr) ?_
        rintro e w1 ⟨rfl, k1⟩
        have HB1 := hideP (HB.out.trans (k1.mono hz))
        clear k1
        go_wp2
        go_roundw
        case rel => exact ⟨X ++ [⟨k, ao, cap, gb, D⟩], Y, mid_in HXY.out, by simp, by rw [HSR.out]; go_num, by rw [HSR.out]; omega, HB1.out⟩
        case measure => simp [intOf]; omega
      · have hv := hideP (szV_no (l := l) (n := L.length + mzs L) (by omega))
        have SZ := fun w1 => szM_any k ao D.length cap (l - (L.length : Int) - (mzs X : Int)) w1 m1 hp0 hp1
        rw [szV_no (by omega)] at SZ
        go_wp2_with fail
        refine Calls.mono (SZ wr) ?_
        rintro e w1 ⟨rfl, k1⟩
        have HB1 := hideP (HB.out.trans (k1.mono hz))
        clear k1
        go_wp2
        go_returns
        exact ⟨by rw [hv.out]; rfl, HB1.out⟩
    | nil =>
      have hX : X = L := by simpa using hXY
      subst hX
      have hv := hideP (szV_yes (l := l) (n := X.length + mzs X) (by omega))
      have HB := hideP kb
      clear kb hXY
      go_wp2
      go_returns
      exact ⟨by rw [hv.out, show l - ((X.length + mzs X : Nat) : Int) = l - (X.length : Int) - (mzs X : Int) by omega]; rfl, HB.out⟩

set_option maxHeartbeats 400000 in
theorem szQ_any (lo hi : Nat) (so : Option Addr) (sc : Nat) (L : List Mg) (v : Bool) (l : Int) (w : World) (hL : Ms w lo hi so L) (hs : hi ≤ w.heap.size) (hn : L.length ≤ maxLen) (hm : ∀ r ∈ L, r.b.L.length ≤ maxLen) (h0 : 0 ≤ l) (h1 : l ≤ 1048576) :
    Calls Try.prog 4 #[.agg #[.slice so L.length sc, .bool v], .int .i64 l] w fun e w' => e = .returned (.int .i64 (szV l (L.length + mzs L))) ∧ Below w.heap.size w w' := by
  have SZ := hideP (fun w1 (k : Below w.heap.size w w1) => szMS_any lo hi so sc L l w1 (hL.keep k hs) (by have := k.size; omega) hn hm h0 h1)
  clear hL hm
  by_cases h : ((L.length + mzs L : Nat) : Int) ≤ l
  · have hp : ¬ l - ((L.length + mzs L : Nat) : Int) < 0 := by omega
    rw [szV_yes h] at SZ ⊢
    go_enter Try.func4, Try.ntmps4
    go_wp2_with fail
    refine Calls.mono (SZ.out _ (by go_grown)) ?_
    rintro e w1 ⟨rfl, k1⟩
    have K1 : Hid (Below w.heap.size w w1) := hideP (Below.trans (by go_grown) (k1.mono (by simp)))
    clear k1
    go_wp2
    go_returns
    exact ⟨rfl, K1.out⟩
  · rw [szV_no (by omega)] at SZ ⊢
    go_enter Try.func4, Try.ntmps4
    go_wp2_with fail
    refine Calls.mono (SZ.out _ (by go_grown)) ?_
    rintro e w1 ⟨rfl, k1⟩
    have K1 : Hid (Below w.heap.size w w1) := hideP (Below.trans (by go_grown) (k1.mono (by simp)))
    clear k1
    go_wp2
    go_returns
    exact ⟨rfl, K1.out⟩
end Go.Proofs.Ytngmiimendlleaa
