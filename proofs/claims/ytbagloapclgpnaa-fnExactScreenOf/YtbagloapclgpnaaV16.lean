/- Painting: what the cells are when some of them are painted anew. Sizes of slices, told by the laws' own functions. Windows: how great, copied, by the laws' own functions. Places of points: whether a window has them, and where they lie. -/
import Derived.Test.YtbagloapclgpnaaV15
import Derived.Test.YtbagloapclgpnaaV3
import Derived.Test.YtbagloapclgpnaaV7
import Derived.Test.YtbagloapclgpnaaV12
namespace Go.Proofs.Ytbagloapclgpnaa
open Go.RowKit Go.Maps
set_option linter.unusedVariables false

/-- Cells of rows of p, those of P painted as f says. -/
def pntL (p : Int) (P : Int → Int → Bool) (f : Int → Int → Int) (C : List Int) : List Int := C.mapIdx fun j c => if P ((j : Int) % p) ((j : Int) / p) then f ((j : Int) % p) ((j : Int) / p) else c
section
variable {p h x y : Int} {P P' : Int → Int → Bool} {f : Int → Int → Int} {C : List Int}
theorem pntL_len : (pntL p P f C).length = C.length := by simp [pntL]
theorem at_mod (hx : 0 ≤ x) (hp : x < p) : (y * p + x) % p = x ∧ (y * p + x) / p = y := by
  have hp0 : p ≠ 0 := by omega
  constructor
  · rw [Int.add_comm, Int.add_mul_emod_self_right]; exact Int.emod_eq_of_lt hx hp
  · rw [Int.add_comm, Int.add_mul_ediv_right _ _ hp0, Int.ediv_eq_zero_of_lt hx hp]; omega
theorem in_rows (hp : 0 < p) {j : Nat} (hC : (C.length : Int) ≤ h * p) (hj : j < C.length) : 0 ≤ (j : Int) % p ∧ (j : Int) % p < p ∧ 0 ≤ (j : Int) / p ∧ (j : Int) / p < h := by
  have h1 := Int.emod_nonneg (j : Int) (show p ≠ 0 by omega)
  have h2 := Int.emod_lt_of_pos (j : Int) hp
  have h3 : 0 ≤ (j : Int) / p := Int.ediv_nonneg (by omega) (by omega)
  refine ⟨h1, h2, h3, ?_⟩
  apply Int.ediv_lt_of_lt_mul hp
  omega
theorem pntL_congr (hp : 0 < p) (hC : (C.length : Int) ≤ h * p) (he : ∀ a b, 0 ≤ a → a < p → 0 ≤ b → b < h → P a b = P' a b) : pntL p P f C = pntL p P' f C := by
  unfold pntL
  apply List.ext_getElem
  · simp
  · intro j h1 h2
    have hj : j < C.length := by simpa using h1
    obtain ⟨a1, a2, a3, a4⟩ := in_rows hp hC hj
    simp only [List.getElem_mapIdx]
    rw [he _ _ a1 a2 a3 a4]
theorem pntL_set (hx : 0 ≤ x) (hxp : x < p) (hC : (C.length : Int) ≤ h * p) (hP : P' x y = true) (he : ∀ a b, 0 ≤ a → a < p → 0 ≤ b → b < h → ¬ (a = x ∧ b = y) → P a b = P' a b) {n : Nat} (hn : (n : Int) = y * p + x) : (pntL p P f C).set n (f x y) = pntL p P' f C := by
  unfold pntL
  have hm := at_mod (y := y) hx hxp
  have hp : 0 < p := by omega
  apply List.ext_getElem
  · simp
  · intro j h1 h2
    have hj : j < C.length := by simpa using h1
    obtain ⟨a1, a2, a3, a4⟩ := in_rows hp hC hj
    rw [List.getElem_set]
    by_cases e : n = j
    · rw [if_pos e]
      have ej : (j : Int) = y * p + x := by rw [← e]; exact hn
      simp only [List.getElem_mapIdx]
      rw [ej, hm.1, hm.2, hP]
      rfl
    · rw [if_neg e]
      simp only [List.getElem_mapIdx]
      rw [he _ _ a1 a2 a3 a4]
      rintro ⟨b1, b2⟩
      have := Int.emod_add_mul_ediv (j : Int) p
      apply e
      have : (n : Int) = (j : Int) := by rw [hn, ← b1, ← b2, Int.mul_comm]; omega
      omega
theorem pntL_none (hn : ∀ a b, P a b = false) : pntL p P f C = C := by
  unfold pntL
  apply List.ext_getElem
  · simp
  · intro j h1 h2
    simp [hn]
theorem pntL_at {n : Nat} (hn : n < C.length) (hx : 0 ≤ x) (hxp : x < p) (e : (n : Int) = y * p + x) : (pntL p P f C)[n]'(by rw [pntL_len]; exact hn) = if P x y then f x y else C[n] := by
  have hm := at_mod (y := y) hx hxp
  unfold pntL
  simp only [List.getElem_mapIdx]
  rw [e, hm.1, hm.2]
theorem pntL_all {Q : Int → Bool} (hC : C.all Q = true) (hf : ∀ a b, P a b = true → Q (f a b) = true) : (pntL p P f C).all Q = true := by
  rw [List.all_eq_true]
  intro v hv
  obtain ⟨j, hj, rfl⟩ := List.getElem_of_mem hv
  have hj' : j < C.length := by rw [pntL_len] at hj; exact hj
  simp only [pntL, List.getElem_mapIdx]
  split
  · exact hf _ _ ‹_›
  · exact List.all_eq_true.1 hC _ (List.getElem_mem hj')
/-- Which points of a rectangle come ahead of this one, row by row. -/
def ahB (x y a b : Int) : Bool := decide (b < y ∨ (b = y ∧ a < x))
end
end Go.Proofs.Ytbagloapclgpnaa

namespace Go.Proofs.Ytbagloapclgpnaa
open Go.RowKit
set_option linter.unusedVariables false

/-- What is left of a size. -/
def szV (l : Int) (n : Nat) : Int := if (n : Int) ≤ l then l - n else -1
theorem szV_yes {l : Int} {n : Nat} (h : (n : Int) ≤ l) : szV l n = l - n := by unfold szV; rw [if_pos h]
theorem szV_no {l : Int} {n : Nat} (h : l < (n : Int)) : szV l n = -1 := by unfold szV; rw [if_neg (by omega)]

set_option maxHeartbeats 400000 in
theorem szI_any (ao : Option Addr) (n ca : Nat) (l : Int) (w : World) (hn : n ≤ maxLen) (h0 : 0 ≤ l) (h1 : l ≤ 1048576) :
    Calls Try.prog 101 #[.slice ao n ca, .int .i64 l] w fun e w' => e = .returned (.int .i64 (szV l n)) ∧ w' = w := by
  unfold maxLen at hn
  by_cases h : (n : Int) ≤ l
  · rw [szV_yes h]
    go_enter Try.func101, Try.ntmps101
    go_wp2
    go_returns
    exact ⟨rfl, rfl⟩
  · have h' : l < (n : Int) := by omega
    have h2 : (n : Int) ≤ 9223372036854775807 := by omega
    rw [szV_no h']
    go_enter Try.func101, Try.ntmps101
    go_wp2
    go_returns
    exact ⟨rfl, rfl⟩

end Go.Proofs.Ytbagloapclgpnaa

namespace Go.Proofs.Ytbagloapclgpnaa
open Go.RowKit
set_option linter.unusedVariables false

set_option maxHeartbeats 400000 in
theorem szW_any (i x y p h : Int) (m : Bool) (ao : Option Addr) (n ca : Nat) (l : Int) (w : World) (hn : n ≤ maxLen) (h0 : 0 ≤ l) (h1 : l ≤ 1048576) :
    Calls Try.prog 76 #[.agg #[.int .i64 i, .int .i64 x, .int .i64 y, .int .i64 p, .int .i64 h, .bool m, .slice ao n ca], .int .i64 l] w fun e w' => e = .returned (.int .i64 (szV l n)) ∧ Below w.heap.size w w' := by
  have SZ := fun w1 => szI_any ao n ca l w1 hn h0 h1
  by_cases h : (n : Int) ≤ l
  · have hv := szV_yes h
    have hp : ¬ l - (n : Int) < 0 := by omega
    rw [hv] at SZ ⊢
    go_enter Try.func76, Try.ntmps76
    go_wp2_with fail
    refine Calls.mono (SZ _) ?_
    rintro e w1 ⟨rfl, rfl⟩
    go_wp2
    go_returns
    exact ⟨rfl, by go_grown⟩
  · have hv := szV_no (l := l) (n := n) (by omega)
    rw [hv] at SZ ⊢
    go_enter Try.func76, Try.ntmps76
    go_wp2_with fail
    refine Calls.mono (SZ _) ?_
    rintro e w1 ⟨rfl, rfl⟩
    go_wp2
    go_returns
    exact ⟨rfl, by go_grown⟩

set_option maxHeartbeats 1000000 in
theorem szWS_any (lo hi : Nat) (so : Option Addr) (sc : Nat) (L : List Wn) (l : Int) (w : World) (hL : Ws w lo hi so L) (hs : hi ≤ w.heap.size) (hn : L.length ≤ maxLen) (hm : ∀ r ∈ L, r.b.L.length ≤ maxLen) (h0 : 0 ≤ l) (h1 : l ≤ 1048576) :
    Calls Try.prog 28 #[.slice so L.length sc, .int .i64 l] w fun e w' => e = .returned (.int .i64 (szV l (L.length + wzs L))) ∧ Below w.heap.size w w' := by
  unfold maxLen at hn
  by_cases hbig : l < (L.length : Int)
  · have h2 : (L.length : Int) ≤ 9223372036854775807 := by omega
    rw [szV_no (by omega)]
    go_enter Try.func28, Try.ntmps28
    go_wp2
    go_returns
    exact ⟨rfl, Below.refl _ _⟩
  have hb0 : 0 ≤ l - (L.length : Int) := by omega
  have HL := hideP hL
  have HM := hideP hm
  clear hL hm
  go_enter Try.func28, Try.ntmps28
  go_wp2
  go_loopw [1, 5] (fun q i wr => ∃ X Y : List Wn, X ++ Y = L ∧ i = .int .i64 (X.length : Nat) ∧ q = .int .i64 (l - (L.length : Int) - (wzs X : Int)) ∧ (wzs X : Int) ≤ l - (L.length : Int) ∧ Below w.heap.size w wr) (fun _ i _ => L.length - (intOf i).toNat)
  case atStart => exact ⟨[], L, rfl, rfl, by simp [wzs_nil], by simp [wzs_nil]; omega, Below.refl _ _⟩
  case round =>
    obtain ⟨X, Y, hXY, rfl, rfl, hx, kb⟩ := hrel
    have hlen : X.length + Y.length = L.length := by rw [← hXY]; simp
    have htot : wzs X + wzs Y = wzs L := by rw [← hXY, wzs_app]
    have hz := kb.size
    cases Y with
    | cons r Y =>
      have hlt : (X.length : Int) < (L.length : Int) := by simp at hlen; omega
      have h0' := HL.out
      rw [← hXY] at h0'
      obtain ⟨g, o, rfl, hg, hc, _⟩ := Ws.at h0'
      obtain ⟨a0, a1, a2, a3, a4, a5, a6⟩ := (hc.keep kb (by omega)).seven
      have m1 := HM.out r (by rw [← hXY]; simp)
      have hgl : g < wr.heap.size := by omega
      have hsr : wzs (X ++ [r]) = wzs X + r.b.L.length := by rw [wzs_app, wzs_one]
      have hsL : wzs X + r.b.L.length ≤ wzs L := by rw [← htot, wzs_cons]; omega
      have HB := hideP kb
      have HXY := hideP hXY
      have HSR := hideP hsr
      clear h0' hc kb hXY hlen htot hsr
      obtain ⟨ri, rx, ry, rw', rh, rm, ⟨ao, cap, gb, D⟩⟩ := r
      simp only at a0 a1 a2 a3 a4 a5 a6 m1 hsL HSR
      have hp0 : 0 ≤ l - (L.length : Int) - (wzs X : Int) := by omega
      have hp1 : l - (L.length : Int) - (wzs X : Int) ≤ 1048576 := by omega
      by_cases hfit : (wzs X : Int) + D.length ≤ l - (L.length : Int)
      · have hq0 : ¬ l - (L.length : Int) - (wzs X : Int) - (D.length : Int) < 0 := by omega
        have SZ := fun w1 => szW_any ri rx ry rw' rh rm ao D.length cap (l - (L.length : Int) - (wzs X : Int)) w1 m1 hp0 hp1
        rw [szV_yes (by omega)] at SZ
        go_wp2_with fail
        refine Calls.mono (SZ wr) ?_
        rintro e w1 ⟨rfl, k1⟩
        have HB1 := hideP (HB.out.trans (k1.mono hz))
        clear k1
        go_wp2
        go_roundw
        case rel => exact ⟨X ++ [⟨ri, rx, ry, rw', rh, rm, ⟨ao, cap, gb, D⟩⟩], Y, midW HXY.out, by simp, by rw [HSR.out]; go_num, by rw [HSR.out]; omega, HB1.out⟩
        case measure => simp [intOf]; omega
      · have hv := hideP (szV_no (l := l) (n := L.length + wzs L) (by omega))
        have SZ := fun w1 => szW_any ri rx ry rw' rh rm ao D.length cap (l - (L.length : Int) - (wzs X : Int)) w1 m1 hp0 hp1
        rw [szV_no (by omega)] at SZ
        go_wp2_with fail
        refine Calls.mono (SZ wr) ?_
        rintro e w1 ⟨rfl, k1⟩
        have HB1 := hideP (HB.out.trans (k1.mono hz))
        clear k1
        go_wp2
        go_returns
        exact ⟨by rw [hv.out]; rfl, HB1.out⟩
    | nil =>
      have hX : X = L := by simpa using hXY
      subst hX
      have hv := hideP (szV_yes (l := l) (n := X.length + wzs X) (by omega))
      have HB := hideP kb
      clear kb hXY
      go_wp2
      go_returns
      exact ⟨by rw [hv.out, show l - ((X.length + wzs X : Nat) : Int) = l - (X.length : Int) - (wzs X : Int) by omega]; rfl, HB.out⟩
end Go.Proofs.Ytbagloapclgpnaa

namespace Go.Proofs.Ytbagloapclgpnaa
open Go.RowKit Go.Maps
set_option linter.unusedVariables false

/-- Whether an area of p by h has a point, counted from its own corner. -/
def ownB (p h a b : Int) : Bool := decide ((0 ≤ a ∧ a < p) ∧ 0 ≤ b ∧ b < h)
theorem ownB_yes {p h a b : Int} (e : ownB p h a b = true) : 0 ≤ a ∧ a < p ∧ 0 ≤ b ∧ b < h := by unfold ownB at e; simp at e; omega
theorem ownB_no {p h a b : Int} (e : ownB p h a b = false) : ¬ (0 ≤ a ∧ a < p ∧ 0 ≤ b ∧ b < h) := by unfold ownB at e; simp at e; omega
theorem ownB_of {p h a b : Int} (e : 0 ≤ a ∧ a < p ∧ 0 ≤ b ∧ b < h) : ownB p h a b = true := decide_eq_true ⟨⟨e.1, e.2.1⟩, e.2.2⟩
theorem ownB_off {p h a b : Int} (e : ¬ (0 ≤ a ∧ a < p ∧ 0 ≤ b ∧ b < h)) : ownB p h a b = false := decide_eq_false (by omega)
theorem row_le {p h a b : Int} (h1 : 1 ≤ p ∧ p ≤ 8) (h2 : 1 ≤ h ∧ h ≤ 6) (e : ownB p h a b = true) : 0 ≤ b * p ∧ b * p ≤ 40 ∧ b * p + a < p * h := by
  obtain ⟨a1, a2, a3, a4⟩ := ownB_yes e
  have hb : b = 0 ∨ b = 1 ∨ b = 2 ∨ b = 3 ∨ b = 4 ∨ b = 5 := by omega
  have hh : h = 1 ∨ h = 2 ∨ h = 3 ∨ h = 4 ∨ h = 5 ∨ h = 6 := by omega
  rcases hb with rfl | rfl | rfl | rfl | rfl | rfl <;> rcases hh with rfl | rfl | rfl | rfl | rfl | rfl <;> omega

set_option maxHeartbeats 400000 in
theorem hasOwn_any (x y p h a b : Int) (w : World) :
    Calls Try.prog 69 #[.agg #[.int .i64 x, .int .i64 y, .int .i64 p, .int .i64 h], .int .i64 a, .int .i64 b] w fun e w' => e = .returned (.bool (ownB p h a b)) ∧ Below w.heap.size w w' := by
  by_cases g1 : 0 ≤ a
  · by_cases g2 : a < p
    · by_cases g3 : 0 ≤ b
      · by_cases g4 : b < h
        · have hr := hideP (ownB_of (p := p) (h := h) (a := a) (b := b) ⟨g1, g2, g3, g4⟩)
          go_enter Try.func69, Try.ntmps69
          go_wp2
          go_returns
          refine ⟨congrArg (fun b => Ending.returned (.bool b)) (by rw [hr.out]), ?_⟩
          go_grown
        · have hr := hideP (ownB_off (p := p) (h := h) (a := a) (b := b) (by omega))
          go_enter Try.func69, Try.ntmps69
          go_wp2
          go_returns
          refine ⟨congrArg (fun b => Ending.returned (.bool b)) (by rw [hr.out]), ?_⟩
          go_grown
      · have hr := hideP (ownB_off (p := p) (h := h) (a := a) (b := b) (by omega))
        go_enter Try.func69, Try.ntmps69
        go_wp2
        go_returns
        refine ⟨congrArg (fun b => Ending.returned (.bool b)) (by rw [hr.out]), ?_⟩
        go_grown
    · have hr := hideP (ownB_off (p := p) (h := h) (a := a) (b := b) (by omega))
      go_enter Try.func69, Try.ntmps69
      go_wp2
      go_returns
      refine ⟨congrArg (fun b => Ending.returned (.bool b)) (by rw [hr.out]), ?_⟩
      go_grown
  · have hr := hideP (ownB_off (p := p) (h := h) (a := a) (b := b) (by omega))
    go_enter Try.func69, Try.ntmps69
    go_wp2
    go_returns
    refine ⟨congrArg (fun b => Ending.returned (.bool b)) (by rw [hr.out]), ?_⟩
    go_grown

set_option maxHeartbeats 400000 in
theorem placeOf_any (x y p h a b : Int) (w : World) (h1 : 1 ≤ p ∧ p ≤ 8) (h2 : 1 ≤ h ∧ h ≤ 6) (ho : ownB p h a b = true) :
    Calls Try.prog 70 #[.agg #[.int .i64 x, .int .i64 y, .int .i64 p, .int .i64 h], .int .i64 a, .int .i64 b] w fun e w' => e = .returned (.int .i64 (b * p + a)) ∧ Below w.heap.size w w' := by
  obtain ⟨g1, g2, _⟩ := row_le h1 h2 ho
  obtain ⟨a1, a2, a3, a4⟩ := ownB_yes ho
  obtain ⟨q, hq⟩ : ∃ q, b * p = q := ⟨_, rfl⟩
  have hw : IntKind.i64.wrap (b * p) = q := by rw [hq]; exact IntWalk.i64_in _ (by omega)
  rw [hq] at g1 g2
  rw [hq]
  have HQ := hideP hq
  clear hq
  go_enter Try.func70, Try.ntmps70
  go_wp2
  go_returns
  exact ⟨rfl, by go_grown⟩

set_option maxRecDepth 100000 in
set_option maxHeartbeats 400000 in
theorem l8Place_no (g o : Nat) (p h a b : Int) (w : World) (h1 : 1 ≤ p ∧ p ≤ 8) (h2 : 1 ≤ h ∧ h ≤ 6) (a3 : w.cell? ⟨g, o + 3, none⟩ = some (.int .i64 p)) (a4 : w.cell? ⟨g, o + 4, none⟩ = some (.int .i64 h)) (ho : ownB p h a b = false) :
    Calls Try.prog 110 #[.pointer (some ⟨g, o, none⟩), .int .i64 a, .int .i64 b] w fun e w' => e = .returned (.int .i64 (-1)) ∧ w' = w := by
  have hn := ownB_no ho
  clear ho
  by_cases ha : a < 0 ∨ p - 1 < a
  · go_enter Try.func110, Try.ntmps110
    go_wp2_with (go_at_call 75; refine Calls.mono (in_no a 0 (p - 1) _ ha) ?_; rintro e w1 ⟨rfl, rfl⟩)
    go_returns
    exact ⟨rfl, rfl⟩
  · have hb : b < 0 ∨ h - 1 < b := by omega
    have ha1 : 0 ≤ a := by omega
    have ha2 : a ≤ p - 1 := by omega
    clear hn ha
    go_enter Try.func110, Try.ntmps110
    go_wp2_with fail
    refine Calls.mono (in_yes a 0 (p - 1) _ ha1 ha2) ?_
    rintro e w1 ⟨rfl, hw⟩
    subst hw
    go_wp2_with fail
    refine Calls.mono (in_no b 0 (h - 1) _ hb) ?_
    rintro e w2 ⟨rfl, hw⟩
    subst hw
    go_wp2
    go_returns
    exact ⟨rfl, rfl⟩
set_option maxRecDepth 100000 in
set_option maxHeartbeats 400000 in
theorem l8Place_yes (g o : Nat) (p h a b : Int) (w : World) (h1 : 1 ≤ p ∧ p ≤ 8) (h2 : 1 ≤ h ∧ h ≤ 6) (a3 : w.cell? ⟨g, o + 3, none⟩ = some (.int .i64 p)) (a4 : w.cell? ⟨g, o + 4, none⟩ = some (.int .i64 h)) (ho : ownB p h a b = true) :
    Calls Try.prog 110 #[.pointer (some ⟨g, o, none⟩), .int .i64 a, .int .i64 b] w fun e w' => e = .returned (.int .i64 (b * p + a)) ∧ w' = w := by
  obtain ⟨g1, g2, _⟩ := row_le h1 h2 ho
  obtain ⟨b1, b2, b3, b4⟩ := ownB_yes ho
  obtain ⟨q, hq⟩ : ∃ q, b * p = q := ⟨_, rfl⟩
  have hw : IntKind.i64.wrap (b * p) = q := by rw [hq]; exact IntWalk.i64_in _ (by omega)
  rw [hq] at g1 g2
  rw [hq]
  have HQ := hideP hq
  have ha2 : a ≤ p - 1 := by omega
  have hb2 : b ≤ h - 1 := by omega
  clear hq ho
  go_enter Try.func110, Try.ntmps110
  go_wp2_with fail
  refine Calls.mono (in_yes a 0 (p - 1) _ b1 ha2) ?_
  rintro e w1 ⟨rfl, hw⟩
  subst hw
  go_wp2_with fail
  refine Calls.mono (in_yes b 0 (h - 1) _ b3 hb2) ?_
  rintro e w2 ⟨rfl, hw⟩
  subst hw
  go_wp2
  go_returns
  exact ⟨rfl, rfl⟩
end Go.Proofs.Ytbagloapclgpnaa
