/- Whether two stacks are the same: gone through window by window. -/
import Derived.Test.YtfklmpfjllonpabWs1
namespace Go.Proofs.Ytfklmpfjllonpab
open Go.RowKit
set_option linter.unusedVariables false

theorem ctW_not {X X' Y Y' : List Wn} {r s : Wn} (h : X.map Wn.ct = X'.map Wn.ct) (hn : r.ct ≠ s.ct) : (X ++ r :: Y).map Wn.ct ≠ (X' ++ s :: Y').map Wn.ct := fun e => by
  simp only [List.map_append, List.map_cons] at e
  rw [h] at e
  have := List.append_cancel_left e
  simp only [List.cons.injEq] at this
  exact hn this.1
theorem ctW_len_not {L M : List Wn} (h : L.length ≠ M.length) : L.map Wn.ct ≠ M.map Wn.ct := fun e => h (lenW e)

set_option maxRecDepth 100000 in
set_option maxHeartbeats 8000000 in
theorem eqFW_any (lo hi lo2 hi2 : Nat) (so so2 : Option Addr) (sc sc2 : Nat) (L M : List Wn) (w : World) (hL : Ws w lo hi so L) (hM : Ws w lo2 hi2 so2 M) (h1 : hi ≤ w.heap.size) (h2 : hi2 ≤ w.heap.size) (hn : L.length + wzs L ≤ 1048576) (hn2 : M.length + wzs M ≤ 1048576) :
    Calls Try.prog 47 #[.slice so L.length sc, .slice so2 M.length sc2, .func (.func 48) #[] #[]] w fun e w' => e = .returned (.bool (decide (L.map Wn.ct = M.map Wn.ct))) ∧ Below w.heap.size w w' := by
  have hl' : (L.length : Int) ≤ 1048576 := by omega
  have HL := hideP hL
  have HM := hideP hM
  clear hL hM
  by_cases hlen : L.length = M.length
  · have hne : ((L.length : Int) != (M.length : Int)) = false := by simp; omega
    have HLen := hideP hlen
    clear hlen
    go_enter Try.func47, Try.ntmps47
    go_wp2
    go_loopw [17] (fun i wr => ∃ X Y X' Y' : List Wn, X ++ Y = L ∧ X' ++ Y' = M ∧ X.length = X'.length ∧ X.map Wn.ct = X'.map Wn.ct ∧ i = .int .i64 (X.length : Nat) ∧ Below w.heap.size w wr) (fun i _ => L.length - (intOf i).toNat)
    case atStart => exact ⟨[], L, [], M, rfl, rfl, rfl, rfl, rfl, Below.refl _ _⟩
    case round =>
      obtain ⟨X, Y, X', Y', hXY, hXY', hXl, hct, rfl, kb⟩ := hrel
      have hlen : X.length + Y.length = L.length := by rw [← hXY]; simp
      have hlen' : X'.length + Y'.length = M.length := by rw [← hXY']; simp
      have hz := kb.size
      have HB := hideP kb
      have HC := hideP hct
      clear kb hct
      cases Y with
      | cons r Y =>
        cases Y' with
        | nil => have := HLen.out; simp at hlen hlen'; omega
        | cons s Y' =>
          have hlt : (X.length : Int) < (L.length : Int) := by simp at hlen; omega
          have hlt2 : (X.length : Int) < (M.length : Int) := by simp at hlen'; omega
          have hsz : r.b.L.length ≤ wzs L := wzs_mem (v := r) (by rw [← hXY]; simp)
          have hsz2 : s.b.L.length ≤ wzs M := wzs_mem (v := s) (by rw [← hXY']; simp)
          have h0 := HL.out
          rw [← hXY] at h0
          have h0' := HM.out
          rw [← hXY'] at h0'
          obtain ⟨g, o, rfl, hg, hc, hon⟩ := Ws.at h0
          obtain ⟨g', o', rfl, hg', hc', hon'⟩ := Ws.at h0'
          have hc2 := (hc.keep HB.out (by omega)).seven
          rw [← hXl] at hc'
          have hc2' := (hc'.keep HB.out (by omega)).seven
          have hgl : g < wr.heap.size := by omega
          have hgl' : g' < wr.heap.size := by omega
          have HXl := hideP hXl
          have HXY := hideP hXY
          have HXY' := hideP hXY'
          have HR := hideP (Row.keep hon HB.out h1)
          have HS := hideP (Row.keep hon' HB.out h2)
          have HN := hideP (fun e => ctW_not (Y := Y) (Y' := Y') HC.out (r := r) (s := s) e)
          clear h0 h0' hc hc' hXY hXY' hon hon' HL HM hXl
          obtain ⟨ri, rx, ry, rp, rh, rm, ⟨ao, cap, gb, D⟩⟩ := r
          obtain ⟨si, sx, sy, sp, sh, sm, ⟨ao', cap', gb', D'⟩⟩ := s
          simp only at hc2 hc2' hsz hsz2 HR HS HN
          obtain ⟨a0, a1, a2, a3, a4, a5, a6⟩ := hc2
          obtain ⟨b0, b1, b2, b3, b4, b5, b6⟩ := hc2'
          have hD : D.length ≤ 1048576 := by omega
          have hD' : D'.length ≤ 1048576 := by omega
          go_wp2_with fail
          clear a0 a1 a2 a3 a4 a5 a6 b0 b1 b2 b3 b4 b5 b6
          have k2 : Below wr.heap.size wr ((wr.alloc (.cells #[.int .i64 ri, .int .i64 rx, .int .i64 ry, .int .i64 rp, .int .i64 rh, .bool rm, .slice ao D.length cap] 56)).alloc (.cells #[.int .i64 si, .int .i64 sx, .int .i64 sy, .int .i64 sp, .int .i64 sh, .bool sm, .slice ao' D'.length cap'] 56)) := ((Below.refl _ _).alloc (Nat.le_refl _) _).alloc (by simp) _
          have HB2 := hideP (HB.out.trans (k2.mono hz))
          have HR2 := hideP (HR.out.keep k2 (by omega))
          have HS2 := hideP (HS.out.keep k2 (by omega))
          have hz2 := k2.size
          clear k2 HB HR HS
          generalize (wr.alloc (.cells #[.int .i64 ri, .int .i64 rx, .int .i64 ry, .int .i64 rp, .int .i64 rh, .bool rm, .slice ao D.length cap] 56)).alloc (.cells #[.int .i64 si, .int .i64 sx, .int .i64 sy, .int .i64 sp, .int .i64 sh, .bool sm, .slice ao' D'.length cap'] 56) = w2 at *
          refine Calls.mono (sameW_any lo hi lo2 hi2 ri rx ry rp rh si sx sy sp sh rm sm ao ao' cap cap' D D' w2 HR2.out HS2.out (by omega) (by omega) hD hD') ?_
          rintro e w3 ⟨rfl, k3⟩
          have HB3 := hideP (HB2.out.trans (k3.mono (by omega)))
          clear k3 HB2 HR2 HS2
          by_cases heq : (⟨ri, rx, ry, rp, rh, rm, D⟩ : Wc) = ⟨si, sx, sy, sp, sh, sm, D'⟩
          · rw [decide_eq_true heq]
            have HE := hideP heq
            clear heq
            go_wp2
            go_roundw
            case rel => exact ⟨X ++ [⟨ri, rx, ry, rp, rh, rm, ⟨ao, cap, gb, D⟩⟩], Y, X' ++ [⟨si, sx, sy, sp, sh, sm, ⟨ao', cap', gb', D'⟩⟩], Y', midW HXY.out, midW HXY'.out, by simp [HXl.out], by rw [List.map_append, List.map_append, HC.out]; simp only [List.map_cons, List.map_nil, Wn.ct, HE.out], by simp, HB3.out⟩
            case measure => simp [intOf]; omega
          · rw [decide_eq_false heq]
            have HE : Hid (decide (L.map Wn.ct = M.map Wn.ct) = false) := hideP (by
              have := HN.out heq
              rw [HXY.out, HXY'.out] at this
              exact decide_eq_false this)
            clear heq
            go_wp2
            go_returns
            exact ⟨by rw [HE.out]; rfl, HB3.out⟩
      | nil =>
        have hX : X = L := by simpa using hXY
        have hY' : Y' = [] := List.length_eq_zero_iff.1 (by have := HLen.out; simp at hlen; omega)
        subst hY'
        have hX' : X' = M := by simpa using hXY'
        have HE : Hid (decide (L.map Wn.ct = M.map Wn.ct) = true) := hideP (by rw [← hX, ← hX']; exact decide_eq_true HC.out)
        have e1 : X.length = L.length := by rw [hX]
        clear hX hX' hXY hXY' hXl HC HL HM
        rw [e1]
        go_wp2
        go_returns
        exact ⟨by rw [HE.out]; rfl, HB.out⟩
  · have hne : ((L.length : Int) != (M.length : Int)) = true := by simp; omega
    have HE : Hid (decide (L.map Wn.ct = M.map Wn.ct) = false) := hideP (decide_eq_false (ctW_len_not hlen))
    clear hlen HL HM
    go_enter Try.func47, Try.ntmps47
    go_wp2
    go_returns
    exact ⟨by rw [HE.out]; rfl, Below.refl _ _⟩

set_option maxHeartbeats 400000 in
theorem iSameS_any (lo hi lo2 hi2 : Nat) (so so2 : Option Addr) (sc sc2 : Nat) (L M : List Wn) (w : World) (hL : Ws w lo hi so L) (hM : Ws w lo2 hi2 so2 M) (h1 : hi ≤ w.heap.size) (h2 : hi2 ≤ w.heap.size) (hn : L.length + wzs L ≤ 1048576) (hn2 : M.length + wzs M ≤ 1048576) :
    Calls Try.prog 25 #[.slice so L.length sc, .slice so2 M.length sc2] w fun e w' => e = .returned (.bool (decide (L.map Wn.ct = M.map Wn.ct))) ∧ Below w.heap.size w w' := by
  have EF := hideP (eqFW_any lo hi lo2 hi2 so so2 sc sc2 L M w hL hM h1 h2 hn hn2)
  clear hL hM
  generalize decide (L.map Wn.ct = M.map Wn.ct) = q at *
  go_enter Try.func25, Try.ntmps25
  go_wp2_with fail
  refine Calls.mono EF.out ?_
  rintro e w1 ⟨rfl, k1⟩
  have K1 := hideP k1
  clear k1
  go_wp2
  go_returns
  exact ⟨rfl, K1.out⟩
end Go.Proofs.Ytfklmpfjllonpab
