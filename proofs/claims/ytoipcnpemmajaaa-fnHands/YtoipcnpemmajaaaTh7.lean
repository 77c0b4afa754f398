/- Contracts of chapter 2's small functions: faults, ends, points. Windows: how great, copied, by the laws' own functions. -/
import Derived.Test.YtoipcnpemmajaaaTh2
import Derived.Test.YtoipcnpemmajaaaTh0
import Derived.Test.YtoipcnpemmajaaaTh1
import Derived.Test.YtoipcnpemmajaaaTh6
import Derived.WalkKit
import Derived.WalkSpells
import Derived.WalkLawsBesides
import Derived.Handy
import Derived.BigQuiet
import Derived.Test.YtoipcnpemmajaaaTh4
import Derived.Test.YtoipcnpemmajaaaTh5
namespace Go.Proofs.Ytoipcnpemmajaaa
open Go.RowKit
set_option linter.unusedVariables false

set_option maxHeartbeats 400000 in
theorem toRect_any (x y ww hh : Int) (w : World) :
    Calls Try.prog 86 #[.agg #[.int .i64 x, .int .i64 y, .int .i64 ww, .int .i64 hh]] w fun e w' => e = .returned (.agg #[.int .i64 x, .int .i64 y, .int .i64 ww, .int .i64 hh]) ∧ Below w.heap.size w w' := by
  go_enter Try.func86, Try.ntmps86
  go_wp2
  go_returns
  exact ⟨rfl, by go_grown⟩

set_option maxHeartbeats 400000 in
theorem reach_yes (x y : Int) (w : World) (h1 : -20 ≤ x) (h2 : x ≤ 20) (h3 : -20 ≤ y) (h4 : y ≤ 20) :
    Calls Try.prog 103 #[.int .i64 x, .int .i64 y] w fun e w' => e = .returned (.bool true) ∧ w' = w := by
  go_enter Try.func103, Try.ntmps103
  go_wp2
  go_returns
  exact ⟨congrArg (fun b => Ending.returned (.bool b)) (by first | rfl | (simp; omega)), rfl⟩

set_option maxHeartbeats 1000000 in
theorem reach_no (x y : Int) (w : World) (h : x < -20 ∨ 20 < x ∨ y < -20 ∨ 20 < y) :
    Calls Try.prog 103 #[.int .i64 x, .int .i64 y] w fun e w' => e = .returned (.bool false) ∧ w' = w := by
  by_cases h1 : -20 ≤ x
  · by_cases h2 : x ≤ 20
    · by_cases h3 : -20 ≤ y
      · have h4 : ¬ y ≤ 20 := by omega
        clear h
        go_enter Try.func103, Try.ntmps103
        go_wp2
        go_returns
        exact ⟨congrArg (fun b => Ending.returned (.bool b)) (by first | rfl | (simp; omega)), rfl⟩
      · clear h
        go_enter Try.func103, Try.ntmps103
        go_wp2
        go_returns
        exact ⟨congrArg (fun b => Ending.returned (.bool b)) (by first | rfl | (simp; omega)), rfl⟩
    · clear h
      go_enter Try.func103, Try.ntmps103
      go_wp2
      go_returns
      exact ⟨congrArg (fun b => Ending.returned (.bool b)) (by first | rfl | (simp; omega)), rfl⟩
  · clear h
    go_enter Try.func103, Try.ntmps103
    go_wp2
    go_returns
    exact ⟨congrArg (fun b => Ending.returned (.bool b)) (by first | rfl | (simp; omega)), rfl⟩

set_option maxHeartbeats 400000 in
theorem rf_ok (x y ww hh : Int) (w : World) (h : rfB x y ww hh = false) :
    Calls Try.prog 82 #[.agg #[.int .i64 x, .int .i64 y, .int .i64 ww, .int .i64 hh]] w fun e w' => e = .returned (.int .i64 0) ∧ Below w.heap.size w w' := by
  obtain ⟨⟨h1, h2⟩, ⟨h3, h4⟩, ⟨h5, h6⟩, h7, h8⟩ := rfB_no h
  clear h
  go_enter Try.func82, Try.ntmps82
  go_wp2_with (go_at_call 103; refine Calls.mono (reach_yes _ _ _ h1 h2 h3 h4) ?_; rintro e w1 ⟨rfl, rfl⟩)
  go_returns
  exact ⟨rfl, by go_grown⟩

set_option maxHeartbeats 2000000 in
theorem rf_no (x y ww hh : Int) (w : World) (h : rfB x y ww hh = true) :
    Calls Try.prog 82 #[.agg #[.int .i64 x, .int .i64 y, .int .i64 ww, .int .i64 hh]] w fun e w' => e = .returned (.int .i64 3) ∧ Below w.heap.size w w' := by
  by_cases hr : x < -20 ∨ 20 < x ∨ y < -20 ∨ 20 < y
  · clear h
    go_enter Try.func82, Try.ntmps82
    go_wp2_with (go_at_call 103; refine Calls.mono (reach_no _ _ _ hr) ?_; rintro e w1 ⟨rfl, rfl⟩)
    go_returns
    exact ⟨rfl, by go_grown⟩
  obtain ⟨h1, h2, h3, h4⟩ : -20 ≤ x ∧ x ≤ 20 ∧ -20 ≤ y ∧ y ≤ 20 := by omega
  have hw : ww < 1 ∨ (1 ≤ ww ∧ 20 < ww) ∨ ((1 ≤ ww ∧ ww ≤ 20) ∧ hh < 1) ∨ ((1 ≤ ww ∧ ww ≤ 20) ∧ 1 ≤ hh ∧ 20 < hh) := by
    unfold rfB at h; simp at h; omega
  clear h hr
  rcases hw with h5 | ⟨h5, h6⟩ | ⟨⟨h5, h6⟩, h7⟩ | ⟨⟨h5, h6⟩, h7, h8⟩
  all_goals
    go_enter Try.func82, Try.ntmps82
    go_wp2_with (go_at_call 103; refine Calls.mono (reach_yes _ _ _ h1 h2 h3 h4) ?_; rintro e w1 ⟨rfl, rfl⟩)
    go_returns
    exact ⟨rfl, by go_grown⟩

theorem rf_any (x y ww hh : Int) (w : World) :
    Calls Try.prog 82 #[.agg #[.int .i64 x, .int .i64 y, .int .i64 ww, .int .i64 hh]] w fun e w' => e = .returned (.int .i64 (rfOf (rfB x y ww hh))) ∧ Below w.heap.size w w' := by
  cases h : rfB x y ww hh
  · exact rf_ok x y ww hh w h
  · exact rf_no x y ww hh w h

/-- A rectangle's four cells. -/
structure IsRect (w : World) (b o : Nat) (x y ww hh : Int) : Prop where
  c0 : w.cell? ⟨b, o, none⟩ = some (.int .i64 x)
  c1 : w.cell? ⟨b, o + 1, none⟩ = some (.int .i64 y)
  c2 : w.cell? ⟨b, o + 2, none⟩ = some (.int .i64 ww)
  c3 : w.cell? ⟨b, o + 3, none⟩ = some (.int .i64 hh)

set_option maxHeartbeats 400000 in
theorem in_yes (n a b : Int) (w : World) (h : a ≤ n) (h2 : n ≤ b) :
    Calls Try.prog 79 #[.int .i64 n, .int .i64 a, .int .i64 b] w fun e w' => e = .returned (.bool true) ∧ w' = w := by
  go_enter Try.func79, Try.ntmps79
  go_wp2
  go_returns
  exact ⟨rfl, rfl⟩

set_option maxHeartbeats 400000 in
theorem in_no (n a b : Int) (w : World) (h : n < a ∨ b < n) :
    Calls Try.prog 79 #[.int .i64 n, .int .i64 a, .int .i64 b] w fun e w' => e = .returned (.bool false) ∧ w' = w := by
  by_cases h1 : a ≤ n
  · have h2 : ¬ n ≤ b := by omega
    clear h
    go_enter Try.func79, Try.ntmps79
    go_wp2
    go_returns
    exact ⟨congrArg (fun b => Ending.returned (.bool b)) (by first | rfl | (simp; omega)), rfl⟩
  · clear h
    go_enter Try.func79, Try.ntmps79
    go_wp2
    go_returns
    exact ⟨congrArg (fun b => Ending.returned (.bool b)) (by first | rfl | (simp; omega)), rfl⟩

set_option maxHeartbeats 400000 in
theorem l2F_ok (b o : Nat) (x y ww hh : Int) (w : World) (R : IsRect w b o x y ww hh) (h : rfB x y ww hh = false) :
    Calls Try.prog 99 #[.pointer (some ⟨b, o, none⟩)] w fun e w' => e = .returned (.int .i64 0) ∧ w' = w := by
  obtain ⟨⟨h1, h2⟩, ⟨h3, h4⟩, ⟨h5, h6⟩, h7, h8⟩ := rfB_no h
  obtain ⟨c0, c1, c2, c3⟩ := R
  clear h
  go_enter Try.func99, Try.ntmps99
  go_wp2
  go_returns
  exact ⟨rfl, rfl⟩

set_option maxHeartbeats 4000000 in
theorem l2F_no (b o : Nat) (x y ww hh : Int) (w : World) (R : IsRect w b o x y ww hh) (h : rfB x y ww hh = true) :
    Calls Try.prog 99 #[.pointer (some ⟨b, o, none⟩)] w fun e w' => e = .returned (.int .i64 3) ∧ w' = w := by
  obtain ⟨c0, c1, c2, c3⟩ := R
  rcases rfB_yes h with h1 | ⟨h1, h2⟩ | ⟨⟨h1, h2⟩, h3⟩ | ⟨⟨h1, h2⟩, h3, h4⟩ | ⟨⟨h1, h2⟩, ⟨h3, h4⟩, h5⟩ | ⟨⟨h1, h2⟩, ⟨h3, h4⟩, h5, h6⟩ | ⟨⟨h1, h2⟩, ⟨h3, h4⟩, ⟨h5, h6⟩, h7⟩ | ⟨⟨h1, h2⟩, ⟨h3, h4⟩, ⟨h5, h6⟩, h7, h8⟩
  all_goals
    clear h
    go_enter Try.func99, Try.ntmps99
    go_wp2_with (first | (go_at_call 79; refine Calls.mono (in_yes _ _ _ _ (by omega) (by omega)) ?_; rintro e w1 ⟨rfl, rfl⟩) | (go_at_call 79; refine Calls.mono (in_no _ _ _ _ (by omega)) ?_; rintro e w1 ⟨rfl, rfl⟩))
    go_returns
    exact ⟨rfl, rfl⟩

theorem l2F_any (b o : Nat) (x y ww hh : Int) (w : World) (R : IsRect w b o x y ww hh) :
    Calls Try.prog 99 #[.pointer (some ⟨b, o, none⟩)] w fun e w' => e = .returned (.int .i64 (rfOf (rfB x y ww hh))) ∧ w' = w := by
  cases h : rfB x y ww hh
  · exact l2F_ok b o x y ww hh w R h
  · exact l2F_no b o x y ww hh w R h

end Go.Proofs.Ytoipcnpemmajaaa

namespace Go.Proofs.Ytoipcnpemmajaaa
open Go.RowKit
set_option linter.unusedVariables false

set_option maxHeartbeats 400000 in
theorem szW_any (i x y p h : Int) (m : Bool) (ao : Option Addr) (n ca : Nat) (l : Int) (w : World) (hn : n ≤ maxLen) (h0 : 0 ≤ l) (h1 : l ≤ 1048576) :
    Calls Try.prog 54 #[.agg #[.int .i64 i, .int .i64 x, .int .i64 y, .int .i64 p, .int .i64 h, .bool m, .slice ao n ca], .int .i64 l] w fun e w' => e = .returned (.int .i64 (szV l n)) ∧ Below w.heap.size w w' := by
  have SZ := fun w1 => szI_any ao n ca l w1 hn h0 h1
  by_cases h : (n : Int) ≤ l
  · have hv := szV_yes h
    have hp : ¬ l - (n : Int) < 0 := by omega
    rw [hv] at SZ ⊢
    go_enter Try.func54, Try.ntmps54
    go_wp2_with fail
    refine Calls.mono (SZ _) ?_
    rintro e w1 ⟨rfl, rfl⟩
    go_wp2
    go_returns
    exact ⟨rfl, by go_grown⟩
  · have hv := szV_no (l := l) (n := n) (by omega)
    rw [hv] at SZ ⊢
    go_enter Try.func54, Try.ntmps54
    go_wp2_with fail
    refine Calls.mono (SZ _) ?_
    rintro e w1 ⟨rfl, rfl⟩
    go_wp2
    go_returns
    exact ⟨rfl, by go_grown⟩

set_option maxHeartbeats 1000000 in
theorem szWS_any (lo hi : Nat) (so : Option Addr) (sc : Nat) (L : List Wn) (l : Int) (w : World) (hL : Ws w lo hi so L) (hs : hi ≤ w.heap.size) (hn : L.length ≤ maxLen) (hm : ∀ r ∈ L, r.b.L.length ≤ maxLen) (h0 : 0 ≤ l) (h1 : l ≤ 1048576) :
    Calls Try.prog 26 #[.slice so L.length sc, .int .i64 l] w fun e w' => e = .returned (.int .i64 (szV l (L.length + wzs L))) ∧ Below w.heap.size w w' := by
  unfold maxLen at hn
  by_cases hbig : l < (L.length : Int)
  · have h2 : (L.length : Int) ≤ 9223372036854775807 := by omega
    rw [szV_no (by omega)]
    go_enter Try.func26, Try.ntmps26
    go_wp2
    go_returns
    exact ⟨rfl, Below.refl _ _⟩
  have hb0 : 0 ≤ l - (L.length : Int) := by omega
  have HL := hideP hL
  have HM := hideP hm
  clear hL hm
  go_enter Try.func26, Try.ntmps26
  go_wp2
  go_loopw [1, 5] (fun q i wr => ∃ X Y : List Wn, X ++ Y = L ∧ i = .int .i64 (X.length : Nat) ∧ q = .int .i64 (l - (L.length : Int) - (wzs X : Int)) ∧ (wzs X : Int) ≤ l - (L.length : Int) ∧ Below w.heap.size w wr) (fun _ i _ => L.length - (intOf i).toNat)
  case atStart => exact ⟨[], L, rfl, rfl, by simp [wzs_nil], by simp [wzs_nil]; omega, Below.refl _ _⟩
  case round =>
    obtain ⟨X, Y, hXY, rfl, rfl, hx, kb⟩ := hrel
    have hlen : X.length + Y.length = L.length := by rw [← hXY]; simp
    have htot : wzs X + wzs Y = wzs L := by rw [← hXY, wzs_app]
    have hz := kb.size
    cases Y with
    | cons r Y =>
      have hlt : (X.length : Int) < (L.length : Int) := by simp at hlen; omega
      have h0' := HL.out
      rw [← hXY] at h0'
      obtain ⟨g, o, rfl, hg, hc, _⟩ := Ws.at h0'
      obtain ⟨a0, a1, a2, a3, a4, a5, a6⟩ := (hc.keep kb (by omega)).seven
      have m1 := HM.out r (by rw [← hXY]; simp)
      have hgl : g < wr.heap.size := by omega
      have hsr : wzs (X ++ [r]) = wzs X + r.b.L.length := by rw [wzs_app, wzs_one]
      have hsL : wzs X + r.b.L.length ≤ wzs L := by rw [← htot, wzs_cons]; omega
      have HB := hideP kb
      have HXY := hideP hXY
      have HSR := hideP hsr
      clear h0' hc kb hXY hlen htot hsr
      obtain ⟨ri, rx, ry, rw', rh, rm, ⟨ao, cap, gb, D⟩⟩ := r
      simp only at a0 a1 a2 a3 a4 a5 a6 m1 hsL HSR
      have hp0 : 0 ≤ l - (L.length : Int) - (wzs X : Int) := by omega
      have hp1 : l - (L.length : Int) - (wzs X : Int) ≤ 1048576 := by omega
      by_cases hfit : (wzs X : Int) + D.length ≤ l - (L.length : Int)
      · have hq0 : ¬ l - (L.length : Int) - (wzs X : Int) - (D.length : Int) < 0 := by omega
        have SZ := fun w1 => szW_any ri rx ry rw' rh rm ao D.length cap (l - (L.length : Int) - (wzs X : Int)) w1 m1 hp0 hp1
        rw [szV_yes (by omega)] at SZ
        go_wp2_with fail
        refine Calls.mono (SZ wr) ?_
        rintro e w1 ⟨rfl, k1⟩
        have HB1 := hideP (HB.out.trans (k1.mono hz))
        clear k1
        go_wp2
        go_roundw
        case rel => exact ⟨X ++ [⟨ri, rx, ry, rw', rh, rm, ⟨ao, cap, gb, D⟩⟩], Y, midW HXY.out, by simp, by rw [HSR.out]; go_num, by rw [HSR.out]; omega, HB1.out⟩
        case measure => simp [intOf]; omega
      · have hv := hideP (szV_no (l := l) (n := L.length + wzs L) (by omega))
        have SZ := fun w1 => szW_any ri rx ry rw' rh rm ao D.length cap (l - (L.length : Int) - (wzs X : Int)) w1 m1 hp0 hp1
        rw [szV_no (by omega)] at SZ
        go_wp2_with fail
        refine Calls.mono (SZ wr) ?_
        rintro e w1 ⟨rfl, k1⟩
        have HB1 := hideP (HB.out.trans (k1.mono hz))
        clear k1
        go_wp2
        go_returns
        exact ⟨by rw [hv.out]; rfl, HB1.out⟩
    | nil =>
      have hX : X = L := by simpa using hXY
      subst hX
      have hv := hideP (szV_yes (l := l) (n := X.length + wzs X) (by omega))
      have HB := hideP kb
      clear kb hXY
      go_wp2
      go_returns
      exact ⟨by rw [hv.out, show l - ((X.length + wzs X : Nat) : Int) = l - (X.length : Int) - (wzs X : Int) by omega]; rfl, HB.out⟩
end Go.Proofs.Ytoipcnpemmajaaa
