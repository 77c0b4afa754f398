/- Windows: how great, copied, by the laws' own functions. -/
import Derived.Test.YtoipcnpemmajaaaWi0
import Derived.Test.YtoipcnpemmajaaaSz
import Derived.Test.YtoipcnpemmajaaaRec1
namespace Go.Proofs.Ytoipcnpemmajaaa
open Go.RowKit
set_option linter.unusedVariables false

set_option maxHeartbeats 400000 in
theorem szW_any (i x y p h : Int) (m : Bool) (ao : Option Addr) (n ca : Nat) (l : Int) (w : World) (hn : n ≤ maxLen) (h0 : 0 ≤ l) (h1 : l ≤ 1048576) :
    Calls Try.prog 54 #[.agg #[.int .i64 i, .int .i64 x, .int .i64 y, .int .i64 p, .int .i64 h, .bool m, .slice ao n ca], .int .i64 l] w fun e w' => e = .returned (.int .i64 (szV l n)) ∧ Below w.heap.size w w' := by
  have SZ := fun w1 => szI_any ao n ca l w1 hn h0 h1
  by_cases h : (n : Int) ≤ l
  · have hv := szV_yes h
    have hp : ¬ l - (n : Int) < 0 := by omega
    rw [hv] at SZ ⊢
    go_enter Try.func54, Try.ntmps54
    go_wp2_with fail
    refine Calls.mono (SZ _) ?_
    rintro e w1 ⟨rfl, rfl⟩
    go_wp2
    go_returns
    exact ⟨rfl, by go_grown⟩
  · have hv := szV_no (l := l) (n := n) (by omega)
    rw [hv] at SZ ⊢
    go_enter Try.func54, Try.ntmps54
    go_wp2_with fail
    refine Calls.mono (SZ _) ?_
    rintro e w1 ⟨rfl, rfl⟩
    go_wp2
    go_returns
    exact ⟨rfl, by go_grown⟩

set_option maxHeartbeats 1000000 in
theorem szWS_any (lo hi : Nat) (so : Option Addr) (sc : Nat) (L : List Wn) (l : Int) (w : World) (hL : Ws w lo hi so L) (hs : hi ≤ w.heap.size) (hn : L.length ≤ maxLen) (hm : ∀ r ∈ L, r.b.L.length ≤ maxLen) (h0 : 0 ≤ l) (h1 : l ≤ 1048576) :
    Calls Try.prog 26 #[.slice so L.length sc, .int .i64 l] w fun e w' => e = .returned (.int .i64 (szV l (L.length + wzs L))) ∧ Below w.heap.size w w' := by
  unfold maxLen at hn
  by_cases hbig : l < (L.length : Int)
  · have h2 : (L.length : Int) ≤ 9223372036854775807 := by omega
    rw [szV_no (by omega)]
    go_enter Try.func26, Try.ntmps26
    go_wp2
    go_returns
    exact ⟨rfl, Below.refl _ _⟩
  have hb0 : 0 ≤ l - (L.length : Int) := by omega
  have HL := hideP hL
  have HM := hideP hm
  clear hL hm
  go_enter Try.func26, Try.ntmps26
  go_wp2
  go_loopw [1, 5] (fun q i wr => ∃ X Y : List Wn, X ++ Y = L ∧ i = .int .i64 (X.length : Nat) ∧ q = .int .i64 (l - (L.length : Int) - (wzs X : Int)) ∧ (wzs X : Int) ≤ l - (L.length : Int) ∧ Below w.heap.size w wr) (fun _ i _ => L.length - (intOf i).toNat)
  case atStart => exact ⟨[], L, rfl, rfl, by simp [wzs_nil], by simp [wzs_nil]; omega, Below.refl _ _⟩
  case round =>
    obtain ⟨X, Y, hXY, rfl, rfl, hx, kb⟩ := hrel
    have hlen : X.length + Y.length = L.length := by rw [← hXY]; simp
    have htot : wzs X + wzs Y = wzs L := by rw [← hXY, wzs_app]
    have hz := kb.size
    cases Y with
    | cons r Y =>
      have hlt : (X.length : Int) < (L.length : Int) := by simp at hlen; omega
      have h0' := HL.out
      rw [← hXY] at h0'
      obtain ⟨g, o, rfl, hg, hc, _⟩ := Ws.at h0'
      obtain ⟨a0, a1, a2, a3, a4, a5, a6⟩ := (hc.keep kb (by omega)).seven
      have m1 := HM.out r (by rw [← hXY]; simp)
      have hgl : g < wr.heap.size := by omega
      have hsr : wzs (X ++ [r]) = wzs X + r.b.L.length := by rw [wzs_app, wzs_one]
      have hsL : wzs X + r.b.L.length ≤ wzs L := by rw [← htot, wzs_cons]; omega
      have HB := hideP kb
      have HXY := hideP hXY
      have HSR := hideP hsr
      clear h0' hc kb hXY hlen htot hsr
      obtain ⟨ri, rx, ry, rw', rh, rm, ⟨ao, cap, gb, D⟩⟩ := r
      simp only at a0 a1 a2 a3 a4 a5 a6 m1 hsL HSR
      have hp0 : 0 ≤ l - (L.length : Int) - (wzs X : Int) := by omega
      have hp1 : l - (L.length : Int) - (wzs X : Int) ≤ 1048576 := by omega
      by_cases hfit : (wzs X : Int) + D.length ≤ l - (L.length : Int)
      · have hq0 : ¬ l - (L.length : Int) - (wzs X : Int) - (D.length : Int) < 0 := by omega
        have SZ := fun w1 => szW_any ri rx ry rw' rh rm ao D.length cap (l - (L.length : Int) - (wzs X : Int)) w1 m1 hp0 hp1
        rw [szV_yes (by omega)] at SZ
        go_wp2_with fail
        refine Calls.mono (SZ wr) ?_
        rintro e w1 ⟨rfl, k1⟩
        have HB1 := hideP (HB.out.trans (k1.mono hz))
        clear k1
        go_wp2
        go_roundw
        case rel => exact ⟨X ++ [⟨ri, rx, ry, rw', rh, rm, ⟨ao, cap, gb, D⟩⟩], Y, midW HXY.out, by simp, by rw [HSR.out]; go_num, by rw [HSR.out]; omega, HB1.out⟩
        case measure => simp [intOf]; omega
      · have hv := hideP (szV_no (l := l) (n := L.length + wzs L) (by omega))
        have SZ := fun w1 => szW_any ri rx ry rw' rh rm ao D.length cap (l - (L.length : Int) - (wzs X : Int)) w1 m1 hp0 hp1
        rw [szV_no (by omega)] at SZ
        go_wp2_with fail
        refine Calls.mono (SZ wr) ?_
        rintro e w1 ⟨rfl, k1⟩
        have HB1 := hideP (HB.out.trans (k1.mono hz))
        clear k1
        go_wp2
        go_returns
        exact ⟨by rw [hv.out]; rfl, HB1.out⟩
    | nil =>
      have hX : X = L := by simpa using hXY
      subst hX
      have hv := hideP (szV_yes (l := l) (n := X.length + wzs X) (by omega))
      have HB := hideP kb
      clear kb hXY
      go_wp2
      go_returns
      exact ⟨by rw [hv.out, show l - ((X.length + wzs X : Nat) : Int) = l - (X.length : Int) - (wzs X : Int) by omega]; rfl, HB.out⟩
end Go.Proofs.Ytoipcnpemmajaaa
