/- CoverOf: the numbers, and the model's function at every list and point. -/
import Derived.Test.YtbceacnadkhdoaaAr1
import Derived.Test.YtbceacnadkhdoaaRec2
import Derived.Deep.Cut
namespace Go.Proofs.Ytbceacnadkhdoaa
open Go.RowKit
set_option linter.unusedVariables false

/-- Has the rectangle at place k the point? -/
def hasAt (L : List Rc) (x y : Int) (k : Nat) : Bool :=
  match L[k]? with
  | some r => inB r.x r.y r.w r.h x y
  | none => false
theorem hasAt_eq {L : List Rc} {x y : Int} {k : Nat} (h : k < L.length) : hasAt L x y k = inB L[k].x L[k].y L[k].w L[k].h x y := by
  unfold hasAt; rw [List.getElem?_eq_getElem h]
/-- The last place ahead of k whose rectangle has the point; -1 where there is none. -/
def lastAt (L : List Rc) (x y : Int) : Nat → Int
  | 0 => -1
  | k + 1 => if hasAt L x y k then (k : Int) else lastAt L x y k
theorem lastAt_hit {L : List Rc} {x y : Int} {k : Nat} (h : hasAt L x y k = true) : lastAt L x y (k + 1) = k := by simp [lastAt, h]
theorem lastAt_miss {L : List Rc} {x y : Int} {k : Nat} (h : hasAt L x y k = false) : lastAt L x y (k + 1) = lastAt L x y k := by simp [lastAt, h]
theorem lastAt_bd (L : List Rc) (x y : Int) (k : Nat) : -1 ≤ lastAt L x y k ∧ lastAt L x y k < k := by
  induction k with
  | zero => simp [lastAt]
  | succ k ih => simp only [lastAt]; split <;> omega

def covC (L : List Rc) (x y : Int) : Int := if manyC L = 0 then (if lastAt L x y L.length < 0 then 4 else 0) else manyC L
def covV (L : List Rc) (x y : Int) : Int := if manyC L = 0 then (if lastAt L x y L.length < 0 then 0 else lastAt L x y L.length) else 0
theorem cov_hit {L : List Rc} {x y : Int} {k : Nat} (hm : manyC L = 0) (h : lastAt L x y L.length = k) : covC L x y = 0 ∧ covV L x y = k := by
  unfold covC covV
  rw [if_pos hm, if_pos hm, if_neg (by omega), if_neg (by omega)]
  exact ⟨rfl, h⟩
theorem cov_none {L : List Rc} {x y : Int} (hm : manyC L = 0) (h : lastAt L x y L.length = -1) : covC L x y = 4 ∧ covV L x y = 0 := by
  unfold covC covV
  rw [if_pos hm, if_pos hm, if_pos (by omega), if_pos (by omega)]
  exact ⟨rfl, rfl⟩
theorem cov_bad {L : List Rc} {x y : Int} (hm : manyC L ≠ 0) : covC L x y = manyC L ∧ covV L x y = 0 := by
  unfold covC covV
  rw [if_neg hm, if_neg hm]
  exact ⟨rfl, rfl⟩

set_option maxHeartbeats 2000000 in
theorem sCov_any (lo hi : Nat) (ao : Option Addr) (ca : Nat) (L : List Rc) (x y : Int) (w : World) (ha : Lst w lo hi ao L) (h1 : hi ≤ w.heap.size) (hl : L.length ≤ 1048576) :
    Calls Try.prog 14 #[.slice ao L.length ca, .int .i64 x, .int .i64 y] w fun e w' => e = .returned (.agg #[.int .i64 (covC L x y), .int .i64 (covV L x y)]) ∧ Below w.heap.size w w' := by
  have hl' : (L.length : Int) ≤ 1048576 := by omega
  have HA := hideP ha
  clear ha
  by_cases hm : manyC L = 0
  · obtain ⟨h40, hf⟩ := manyC_ok hm
    have h40' : (L.length : Int) ≤ 40 := by omega
    have HM := hideP hm
    have HF := hideP hf
    clear hm hf
    go_enter Try.func14, Try.ntmps14
    go_wp2_with fail
    refine Calls.mono (many_any lo hi ao ca L _ (HA.out.keep (B := w.heap.size) (by go_grown) h1) hl) ?_
    rintro e w1 ⟨rfl, rfl⟩
    rw [HM.out]
    go_wp2
    go_loopw [8] (fun i wr => ∃ k : Nat, k ≤ L.length ∧ i = .int .i64 ((k : Int) - 1) ∧ Hid (lastAt L x y L.length = lastAt L x y k) ∧ Below (w.heap.size + 1) (w.alloc (.cells #[.int .i64 0, .int .i64 0] 35)) wr) (fun i _ => (intOf i + 1).toNat)
    case atStart => exact ⟨L.length, Nat.le_refl _, rfl, rfl, Below.refl _ _⟩
    case round =>
      obtain ⟨k, hk, rfl, HT, hbel⟩ := hrel
      have HB := hideP hbel
      have hz := hbel.size
      simp only [World.size_alloc] at hz
      have r0 : wr.cell? ⟨w.heap.size, 0, none⟩ = some (.int .i64 0) := by rw [hbel.cell (p := ⟨w.heap.size, 0, none⟩) (by first | (simp; done) | (simp; omega) | omega)]; simp [go_sem]
      have r1 : wr.cell? ⟨w.heap.size, 1, none⟩ = some (.int .i64 0) := by rw [hbel.cell (p := ⟨w.heap.size, 1, none⟩) (by first | (simp; done) | (simp; omega) | omega)]; simp [go_sem]
      have z0 : wr.frozen? ⟨w.heap.size, 0, none⟩ = false := by rw [hbel.frozen (p := ⟨w.heap.size, 0, none⟩) (by first | (simp; done) | (simp; omega) | omega)]; simp [go_sem]
      have z1 : wr.frozen? ⟨w.heap.size, 1, none⟩ = false := by rw [hbel.frozen (p := ⟨w.heap.size, 1, none⟩) (by first | (simp; done) | (simp; omega) | omega)]; simp [go_sem]
      have hlt2 : w.heap.size < wr.heap.size := by omega
      cases k with
      | zero =>
        have HC := hideP (cov_none HM.out HT.out)
        clear hbel
        go_wp2
        refine bodyPost_ret (v := .agg #[.int .i64 4, .int .i64 0]) (by simp [results, Try.results14, go_sem, *]; done) rfl ⟨by rw [HC.out.1, HC.out.2], ?_⟩
        refine Below.setCell (Below.setCell ?_ (by first | (simp; done) | (simp; omega) | omega) _) (by first | (simp; done) | (simp; omega) | omega) _
        exact Below.trans (by go_grown) (HB.out.mono (by omega))
      | succ k =>
        have hlt : k < L.length := by omega
        have hlt' : (k : Int) < (L.length : Int) := by omega
        have ek : ((k + 1 : Nat) : Int) - 1 = (k : Int) := by omega
        rw [ek]
        have hne : L ≠ [] := fun e => by rw [e] at hlt; simp at hlt
        rcases HA.out with e | ⟨g, o, rfl, _, hg, hc⟩
        · exact absurd e hne
        have HR := hideP (((hc k hlt).keep (B := w.heap.size) (by go_grown) (by omega)).keep hbel (by omega))
        have HQ := hideP (fltL_at HF.out k hlt)
        have HE := hideP (hasAt_eq (x := x) (y := y) hlt)
        clear hc HA hbel ek
        cases hh : inB L[k].x L[k].y L[k].w L[k].h x y
        · have HT2 := hideP (HT.out.trans (lastAt_miss (HE.out.trans hh)))
          have HH := hideP hh
          clear hh HE HT
          go_wp2_with fail
          refine Calls.mono (l2H_any _ _ _ _ _ _ x y _ HR.out HQ.out) ?_
          rintro e w5 ⟨rfl, k5⟩
          rw [HH.out]
          have HB5 := hideP (HB.out.trans (k5.mono (by omega)))
          clear r0 r1 z0 z1
          go_wp2
          go_roundw
          case rel => exact ⟨k, by omega, by go_num, HT2.out, HB5.out⟩
          case measure => simp [intOf]
        · have HT2 := hideP (HT.out.trans (lastAt_hit (HE.out.trans hh)))
          have HC := hideP (cov_hit HM.out HT2.out)
          have HH := hideP hh
          clear hh HE HT
          go_wp2_with fail
          refine Calls.mono (l2H_any _ _ _ _ _ _ x y _ HR.out HQ.out) ?_
          rintro e w5 ⟨rfl, k5⟩
          rw [HH.out]
          have HB5 := hideP (HB.out.trans (k5.mono (by omega)))
          have s5 := k5.size
          have q0 := (k5.cell (p := ⟨w.heap.size, 0, none⟩) hlt2).trans r0
          have q1 := (k5.cell (p := ⟨w.heap.size, 1, none⟩) hlt2).trans r1
          have y0 := (k5.frozen (p := ⟨w.heap.size, 0, none⟩) hlt2).trans z0
          have y1 := (k5.frozen (p := ⟨w.heap.size, 1, none⟩) hlt2).trans z1
          have hlt5 : w.heap.size < w5.heap.size := by omega
          clear r0 r1 z0 z1 k5
          go_wp2
          refine bodyPost_ret (v := .agg #[.int .i64 0, .int .i64 k]) (by simp [results, Try.results14, go_sem, *]; done) rfl ⟨by rw [HC.out.1, HC.out.2], ?_⟩
          refine Below.setCell (Below.setCell ?_ (by first | (simp; done) | (simp; omega) | omega) _) (by first | (simp; done) | (simp; omega) | omega) _
          exact Below.trans (by go_grown) (HB5.out.mono (by omega))
  · have HV := hideP (cov_bad (x := x) (y := y) hm)
    obtain ⟨c, hc⟩ : ∃ c, manyC L = c := ⟨_, rfl⟩
    have hb : (c != 0) = true := by rw [← hc]; simpa using hm
    have HC := hideP hc
    clear hm hc
    go_enter Try.func14, Try.ntmps14
    go_wp2_with fail
    refine Calls.mono (many_any lo hi ao ca L _ (HA.out.keep (B := w.heap.size) (by go_grown) h1) hl) ?_
    rintro e w1 ⟨rfl, rfl⟩
    rw [HC.out]
    go_wp2
    refine bodyPost_ret (v := .agg #[.int .i64 c, .int .i64 0]) (by simp [results, Try.results14, go_sem, *]; done) rfl ⟨by rw [HV.out.1, HV.out.2, HC.out], by go_grown⟩

end Go.Proofs.Ytbceacnadkhdoaa
