/- Whether two stacks are the same: the program's, and the model's. Whether two stacks are the same: gone through window by window. Ids of a slot, in order: the program's, the model's; OwnOf. -/
import Derived.Test.YtejgcheddloffaaTr19
import Derived.Test.YtejgcheddloffaaTr28
import Derived.Test.YtejgcheddloffaaTr14
namespace Go.Proofs.Ytejgcheddloffaa
open Go.RowKit
set_option linter.unusedVariables false

instance wcDec : DecidableEq Wc := fun a b => decidable_of_iff (a.i = b.i ∧ a.x = b.x ∧ a.y = b.y ∧ a.w = b.w ∧ a.h = b.h ∧ a.m = b.m ∧ a.L = b.L)
  ⟨fun h => by
    obtain ⟨i, x, y, p, h', m, L⟩ := a
    obtain ⟨i2, x2, y2, p2, h2, m2, L2⟩ := b
    simp only at h
    obtain ⟨rfl, rfl, rfl, rfl, rfl, rfl, rfl⟩ := h
    rfl, fun h => by rw [h]; exact ⟨rfl, rfl, rfl, rfl, rfl, rfl, rfl⟩⟩

/-- Where two windows part. -/
theorem wc_parts {i x y p h i2 x2 y2 p2 h2 : Int} {m m2 : Bool} {L L2 : List Int} (hn : (⟨i, x, y, p, h, m, L⟩ : Wc) ≠ ⟨i2, x2, y2, p2, h2, m2, L2⟩) :
    i ≠ i2 ∨ (i = i2 ∧ x ≠ x2) ∨ (i = i2 ∧ x = x2 ∧ y ≠ y2) ∨ (i = i2 ∧ x = x2 ∧ y = y2 ∧ p ≠ p2) ∨ (i = i2 ∧ x = x2 ∧ y = y2 ∧ p = p2 ∧ h ≠ h2) ∨ (i = i2 ∧ x = x2 ∧ y = y2 ∧ p = p2 ∧ h = h2 ∧ m ≠ m2) ∨ (i = i2 ∧ x = x2 ∧ y = y2 ∧ p = p2 ∧ h = h2 ∧ m = m2 ∧ L ≠ L2) := by
  by_cases e0 : i = i2
  · by_cases e1 : x = x2
    · by_cases e2 : y = y2
      · by_cases e3 : p = p2
        · by_cases e4 : h = h2
          · by_cases e5 : m = m2
            · refine .inr (.inr (.inr (.inr (.inr (.inr ⟨e0, e1, e2, e3, e4, e5, fun e6 => hn ?_⟩)))))
              rw [e0, e1, e2, e3, e4, e5, e6]
            · exact .inr (.inr (.inr (.inr (.inr (.inl ⟨e0, e1, e2, e3, e4, e5⟩)))))
          · exact .inr (.inr (.inr (.inr (.inl ⟨e0, e1, e2, e3, e4⟩))))
        · exact .inr (.inr (.inr (.inl ⟨e0, e1, e2, e3⟩)))
      · exact .inr (.inr (.inl ⟨e0, e1, e2⟩))
    · exact .inr (.inl ⟨e0, e1⟩)
  · exact .inl e0

set_option maxRecDepth 100000 in
set_option maxHeartbeats 2000000 in
theorem sameW_any (lo hi lo2 hi2 : Nat) (i x y p h i2 x2 y2 p2 h2 : Int) (m m2 : Bool) (ao bo : Option Addr) (ca cb : Nat) (A B : List Int) (w : World) (ha : Row .i64 w lo hi ao A) (hb : Row .i64 w lo2 hi2 bo B) (h1 : hi ≤ w.heap.size) (hh2 : hi2 ≤ w.heap.size) (hl : A.length ≤ 1048576) (hl2 : B.length ≤ 1048576) :
    Calls Try.prog 46 #[.agg #[.int .i64 i, .int .i64 x, .int .i64 y, .int .i64 p, .int .i64 h, .bool m, .slice ao A.length ca], .agg #[.int .i64 i2, .int .i64 x2, .int .i64 y2, .int .i64 p2, .int .i64 h2, .bool m2, .slice bo B.length cb]] w fun e w' => e = .returned (.bool (decide ((⟨i, x, y, p, h, m, A⟩ : Wc) = ⟨i2, x2, y2, p2, h2, m2, B⟩))) ∧ Below w.heap.size w w' := by
  have CB := hideP (fun w1 (kk : Below w.heap.size w w1) => equalI_any lo hi lo2 hi2 ao bo ca cb A B w1 (ha.keep kk h1) (hb.keep kk hh2) (by have := kk.size; omega) (by have := kk.size; omega) hl hl2)
  clear ha hb h1 hh2 hl hl2
  by_cases heq : (⟨i, x, y, p, h, m, A⟩ : Wc) = ⟨i2, x2, y2, p2, h2, m2, B⟩
  · rw [decide_eq_true heq]
    simp only [Wc.mk.injEq] at heq
    obtain ⟨rfl, rfl, rfl, rfl, rfl, rfl, rfl⟩ := heq
    have hd : decide (A = A) = true := by simp
    rw [hd] at CB
    clear hd
    generalize A.length = an at *
    have hii : (i == i) = true := by simp
    have hmm : (m == m) = true := by simp
    go_enter Try.func46, Try.ntmps46
    go_wp2_with fail
    refine Calls.mono (CB.out _ (by go_grown)) ?_
    rintro e w1 ⟨rfl, k1⟩
    have K1 : Hid (Below w.heap.size w w1) := hideP (Below.trans (by go_grown) (k1.mono (by simp; omega)))
    clear k1
    go_wp2
    go_returns
    exact ⟨rfl, K1.out⟩
  · rw [decide_eq_false heq]
    rcases wc_parts heq with e | ⟨rfl, e⟩ | ⟨rfl, rfl, e⟩ | ⟨rfl, rfl, rfl, e⟩ | ⟨rfl, rfl, rfl, rfl, e⟩ | ⟨rfl, rfl, rfl, rfl, rfl, e⟩ | ⟨rfl, rfl, rfl, rfl, rfl, rfl, e⟩
    · have e' : (i == i2) = false := by simpa using e
      clear heq CB e
      generalize A.length = an at *
      generalize B.length = bn at *
      go_enter Try.func46, Try.ntmps46
      go_wp2
      go_returns
      exact ⟨rfl, by go_grown⟩
    · have e' : ¬ x = x2 := e
      have hii : (i == i) = true := by simp
      clear heq CB e
      generalize A.length = an at *
      generalize B.length = bn at *
      go_enter Try.func46, Try.ntmps46
      go_wp2
      all_goals
        go_returns
        exact ⟨rfl, by go_grown⟩
    · have e' : ¬ y = y2 := e
      have hii : (i == i) = true := by simp
      clear heq CB e
      generalize A.length = an at *
      generalize B.length = bn at *
      go_enter Try.func46, Try.ntmps46
      go_wp2
      all_goals
        go_returns
        exact ⟨rfl, by go_grown⟩
    · have e' : ¬ p = p2 := e
      have hii : (i == i) = true := by simp
      clear heq CB e
      generalize A.length = an at *
      generalize B.length = bn at *
      go_enter Try.func46, Try.ntmps46
      go_wp2
      all_goals
        go_returns
        exact ⟨rfl, by go_grown⟩
    · have e' : ¬ h = h2 := e
      have hii : (i == i) = true := by simp
      clear heq CB e
      generalize A.length = an at *
      generalize B.length = bn at *
      go_enter Try.func46, Try.ntmps46
      go_wp2
      all_goals
        go_returns
        exact ⟨rfl, by go_grown⟩
    · have e' : (m == m2) = false := by simpa using e
      have hii : (i == i) = true := by simp
      clear heq CB e
      generalize A.length = an at *
      generalize B.length = bn at *
      go_enter Try.func46, Try.ntmps46
      go_wp2
      go_returns
      exact ⟨rfl, by go_grown⟩
    · have hd : decide (A = B) = false := decide_eq_false e
      rw [hd] at CB
      have hii : (i == i) = true := by simp
      have hmm : (m == m) = true := by simp
      clear heq hd e
      generalize A.length = an at *
      generalize B.length = bn at *
      go_enter Try.func46, Try.ntmps46
      go_wp2_with fail
      refine Calls.mono (CB.out _ (by go_grown)) ?_
      rintro e w1 ⟨rfl, k1⟩
      have K1 : Hid (Below w.heap.size w w1) := hideP (Below.trans (by go_grown) (k1.mono (by simp; omega)))
      clear k1
      go_wp2
      go_returns
      exact ⟨rfl, K1.out⟩
end Go.Proofs.Ytejgcheddloffaa

namespace Go.Proofs.Ytejgcheddloffaa
open Go.RowKit
set_option linter.unusedVariables false

theorem ctW_not {X X' Y Y' : List Wn} {r s : Wn} (h : X.map Wn.ct = X'.map Wn.ct) (hn : r.ct ≠ s.ct) : (X ++ r :: Y).map Wn.ct ≠ (X' ++ s :: Y').map Wn.ct := fun e => by
  simp only [List.map_append, List.map_cons] at e
  rw [h] at e
  have := List.append_cancel_left e
  simp only [List.cons.injEq] at this
  exact hn this.1
theorem ctW_len_not {L M : List Wn} (h : L.length ≠ M.length) : L.map Wn.ct ≠ M.map Wn.ct := fun e => h (lenW e)

set_option maxRecDepth 100000 in
set_option maxHeartbeats 8000000 in
theorem eqFW_any (lo hi lo2 hi2 : Nat) (so so2 : Option Addr) (sc sc2 : Nat) (L M : List Wn) (w : World) (hL : Ws w lo hi so L) (hM : Ws w lo2 hi2 so2 M) (h1 : hi ≤ w.heap.size) (h2 : hi2 ≤ w.heap.size) (hn : L.length + wzs L ≤ 1048576) (hn2 : M.length + wzs M ≤ 1048576) :
    Calls Try.prog 45 #[.slice so L.length sc, .slice so2 M.length sc2, .func (.func 46) #[] #[]] w fun e w' => e = .returned (.bool (decide (L.map Wn.ct = M.map Wn.ct))) ∧ Below w.heap.size w w' := by
  have hl' : (L.length : Int) ≤ 1048576 := by omega
  have HL := hideP hL
  have HM := hideP hM
  clear hL hM
  by_cases hlen : L.length = M.length
  · have hne : ((L.length : Int) != (M.length : Int)) = false := by simp; omega
    have HLen := hideP hlen
    clear hlen
    go_enter Try.func45, Try.ntmps45
    go_wp2
    go_loopw [17] (fun i wr => ∃ X Y X' Y' : List Wn, X ++ Y = L ∧ X' ++ Y' = M ∧ X.length = X'.length ∧ X.map Wn.ct = X'.map Wn.ct ∧ i = .int .i64 (X.length : Nat) ∧ Below w.heap.size w wr) (fun i _ => L.length - (intOf i).toNat)
    case atStart => exact ⟨[], L, [], M, rfl, rfl, rfl, rfl, rfl, Below.refl _ _⟩
    case round =>
      obtain ⟨X, Y, X', Y', hXY, hXY', hXl, hct, rfl, kb⟩ := hrel
      have hlen : X.length + Y.length = L.length := by rw [← hXY]; simp
      have hlen' : X'.length + Y'.length = M.length := by rw [← hXY']; simp
      have hz := kb.size
      have HB := hideP kb
      have HC := hideP hct
      clear kb hct
      cases Y with
      | cons r Y =>
        cases Y' with
        | nil => have := HLen.out; simp at hlen hlen'; omega
        | cons s Y' =>
          have hlt : (X.length : Int) < (L.length : Int) := by simp at hlen; omega
          have hlt2 : (X.length : Int) < (M.length : Int) := by simp at hlen'; omega
          have hsz : r.b.L.length ≤ wzs L := wzs_mem (v := r) (by rw [← hXY]; simp)
          have hsz2 : s.b.L.length ≤ wzs M := wzs_mem (v := s) (by rw [← hXY']; simp)
          have h0 := HL.out
          rw [← hXY] at h0
          have h0' := HM.out
          rw [← hXY'] at h0'
          obtain ⟨g, o, rfl, hg, hc, hon⟩ := Ws.at h0
          obtain ⟨g', o', rfl, hg', hc', hon'⟩ := Ws.at h0'
          have hc2 := (hc.keep HB.out (by omega)).seven
          rw [← hXl] at hc'
          have hc2' := (hc'.keep HB.out (by omega)).seven
          have hgl : g < wr.heap.size := by omega
          have hgl' : g' < wr.heap.size := by omega
          have HXl := hideP hXl
          have HXY := hideP hXY
          have HXY' := hideP hXY'
          have HR := hideP (Row.keep hon HB.out h1)
          have HS := hideP (Row.keep hon' HB.out h2)
          have HN := hideP (fun e => ctW_not (Y := Y) (Y' := Y') HC.out (r := r) (s := s) e)
          clear h0 h0' hc hc' hXY hXY' hon hon' HL HM hXl
          obtain ⟨ri, rx, ry, rp, rh, rm, ⟨ao, cap, gb, D⟩⟩ := r
          obtain ⟨si, sx, sy, sp, sh, sm, ⟨ao', cap', gb', D'⟩⟩ := s
          simp only at hc2 hc2' hsz hsz2 HR HS HN
          obtain ⟨a0, a1, a2, a3, a4, a5, a6⟩ := hc2
          obtain ⟨b0, b1, b2, b3, b4, b5, b6⟩ := hc2'
          have hD : D.length ≤ 1048576 := by omega
          have hD' : D'.length ≤ 1048576 := by omega
          go_wp2_with fail
          clear a0 a1 a2 a3 a4 a5 a6 b0 b1 b2 b3 b4 b5 b6
          have k2 : Below wr.heap.size wr ((wr.alloc (.cells #[.int .i64 ri, .int .i64 rx, .int .i64 ry, .int .i64 rp, .int .i64 rh, .bool rm, .slice ao D.length cap] 38)).alloc (.cells #[.int .i64 si, .int .i64 sx, .int .i64 sy, .int .i64 sp, .int .i64 sh, .bool sm, .slice ao' D'.length cap'] 38)) := ((Below.refl _ _).alloc (Nat.le_refl _) _).alloc (by simp) _
          have HB2 := hideP (HB.out.trans (k2.mono hz))
          have HR2 := hideP (HR.out.keep k2 (by omega))
          have HS2 := hideP (HS.out.keep k2 (by omega))
          have hz2 := k2.size
          clear k2 HB HR HS
          generalize (wr.alloc (.cells #[.int .i64 ri, .int .i64 rx, .int .i64 ry, .int .i64 rp, .int .i64 rh, .bool rm, .slice ao D.length cap] 38)).alloc (.cells #[.int .i64 si, .int .i64 sx, .int .i64 sy, .int .i64 sp, .int .i64 sh, .bool sm, .slice ao' D'.length cap'] 38) = w2 at *
          refine Calls.mono (sameW_any lo hi lo2 hi2 ri rx ry rp rh si sx sy sp sh rm sm ao ao' cap cap' D D' w2 HR2.out HS2.out (by omega) (by omega) hD hD') ?_
          rintro e w3 ⟨rfl, k3⟩
          have HB3 := hideP (HB2.out.trans (k3.mono (by omega)))
          clear k3 HB2 HR2 HS2
          by_cases heq : (⟨ri, rx, ry, rp, rh, rm, D⟩ : Wc) = ⟨si, sx, sy, sp, sh, sm, D'⟩
          · rw [decide_eq_true heq]
            have HE := hideP heq
            clear heq
            go_wp2
            go_roundw
            case rel => exact ⟨X ++ [⟨ri, rx, ry, rp, rh, rm, ⟨ao, cap, gb, D⟩⟩], Y, X' ++ [⟨si, sx, sy, sp, sh, sm, ⟨ao', cap', gb', D'⟩⟩], Y', midW HXY.out, midW HXY'.out, by simp [HXl.out], by rw [List.map_append, List.map_append, HC.out]; simp only [List.map_cons, List.map_nil, Wn.ct, HE.out], by simp, HB3.out⟩
            case measure => simp [intOf]; omega
          · rw [decide_eq_false heq]
            have HE : Hid (decide (L.map Wn.ct = M.map Wn.ct) = false) := hideP (by
              have := HN.out heq
              rw [HXY.out, HXY'.out] at this
              exact decide_eq_false this)
            clear heq
            go_wp2
            go_returns
            exact ⟨by rw [HE.out]; rfl, HB3.out⟩
      | nil =>
        have hX : X = L := by simpa using hXY
        have hY' : Y' = [] := List.length_eq_zero_iff.1 (by have := HLen.out; simp at hlen; omega)
        subst hY'
        have hX' : X' = M := by simpa using hXY'
        have HE : Hid (decide (L.map Wn.ct = M.map Wn.ct) = true) := hideP (by rw [← hX, ← hX']; exact decide_eq_true HC.out)
        have e1 : X.length = L.length := by rw [hX]
        clear hX hX' hXY hXY' hXl HC HL HM
        rw [e1]
        go_wp2
        go_returns
        exact ⟨by rw [HE.out]; rfl, HB.out⟩
  · have hne : ((L.length : Int) != (M.length : Int)) = true := by simp; omega
    have HE : Hid (decide (L.map Wn.ct = M.map Wn.ct) = false) := hideP (decide_eq_false (ctW_len_not hlen))
    clear hlen HL HM
    go_enter Try.func45, Try.ntmps45
    go_wp2
    go_returns
    exact ⟨by rw [HE.out]; rfl, Below.refl _ _⟩

set_option maxHeartbeats 400000 in
theorem iSameS_any (lo hi lo2 hi2 : Nat) (so so2 : Option Addr) (sc sc2 : Nat) (L M : List Wn) (w : World) (hL : Ws w lo hi so L) (hM : Ws w lo2 hi2 so2 M) (h1 : hi ≤ w.heap.size) (h2 : hi2 ≤ w.heap.size) (hn : L.length + wzs L ≤ 1048576) (hn2 : M.length + wzs M ≤ 1048576) :
    Calls Try.prog 16 #[.slice so L.length sc, .slice so2 M.length sc2] w fun e w' => e = .returned (.bool (decide (L.map Wn.ct = M.map Wn.ct))) ∧ Below w.heap.size w w' := by
  have EF := hideP (eqFW_any lo hi lo2 hi2 so so2 sc sc2 L M w hL hM h1 h2 hn hn2)
  clear hL hM
  generalize decide (L.map Wn.ct = M.map Wn.ct) = q at *
  go_enter Try.func16, Try.ntmps16
  go_wp2_with fail
  refine Calls.mono EF.out ?_
  rintro e w1 ⟨rfl, k1⟩
  have K1 := hideP k1
  clear k1
  go_wp2
  go_returns
  exact ⟨rfl, K1.out⟩
end Go.Proofs.Ytejgcheddloffaa

namespace Go.Proofs.Ytejgcheddloffaa
open Go.RowKit Go.Maps
set_option linter.unusedVariables false
attribute [local go_sem high] fI0 fI1

theorem offL_yes {L : List Int} {s : Int} {k : Nat} (h : k < L.length) (h2 : (slV L[k] == s) = false) : offL (L.take (k + 1)) s = offL (L.take k) s ++ [L[k]] := by
  unfold offL; rw [take_snoc h, List.filter_append]; simp [h2]

theorem offL_no {L : List Int} {s : Int} {k : Nat} (h : k < L.length) (h2 : (slV L[k] == s) = true) : offL (L.take (k + 1)) s = offL (L.take k) s := by
  unfold offL; rw [take_snoc h, List.filter_append]; simp [h2]

theorem slV_at {L : List Int} (h : ∀ x ∈ L, okId x = true) {k : Nat} (hk : k < L.length) : 0 ≤ L[k] ∧ L[k] ≤ 255 ∧ L[k] / 64 = slV L[k] := by
  have h1 := h L[k] (List.getElem_mem hk)
  have h2 := okId_iff.1 h1
  exact ⟨h2.1, h2.2.1, (slV_yes h1).symm⟩

set_option maxHeartbeats 2000000 in
theorem iOwnIds_any (lo hi : Nat) (ao : Option Addr) (ca : Nat) (L : List Int) (s : Int) (w : World) (ha : Row .i64 w lo hi ao L) (hs : hi ≤ w.heap.size) (hl : L.length ≤ 1048576) :
    Calls Try.prog 32 #[.slice ao L.length ca, .int .i64 s] w fun e w' => ∃ ao' cap', e = .returned (.slice ao' (ownL L s).length cap') ∧ OwnR .i64 2 w' w.heap.size ao' cap' (ownL L s) ∧ Below w.heap.size w w' := by
  have hl' : (L.length : Int) ≤ 1048576 := by omega
  have HA := hideP ha
  clear ha
  go_enter Try.func32, Try.ntmps32
  go_wp2
  go_loopw [5, 10] (fun v i wr => ∃ k : Nat, k ≤ L.length ∧ i = .int .i64 k ∧ Below w.heap.size w wr ∧ ∃ ao' cap', v = .slice ao' (ownL (L.take k) s).length cap' ∧ OwnR .i64 2 wr w.heap.size ao' cap' (ownL (L.take k) s)) (fun _ i _ => L.length - (intOf i).toNat)
  case atStart => exact ⟨0, Nat.zero_le _, rfl, Below.refl _ _, none, 0, by simp [ownL], by simpa [ownL] using OwnR.nil _ _ _ _⟩
  case round =>
    obtain ⟨k, hk, rfl, hbel, ao', cap', rfl, hown⟩ := hrel
    have hbs := hbel.size
    have HO := hideP hown
    have HBel := hideP hbel
    by_cases hlt : k < L.length
    · have hlt' : (k : Int) < (L.length : Int) := by omega
      have hne : L ≠ [] := fun e => by rw [e] at hlt; simp at hlt
      rcases HA.out with e | ⟨g, o, rfl, hlo, hg, hc⟩
      · exact absurd e hne
      have a0 := (hbel.cell (p := ⟨g, o + k, none⟩) (by show g < _; omega)).trans (hc k hlt)
      have N1 := hideP (ownL_yes (s := s) hlt)
      have N2 := hideP (ownL_no (s := s) hlt)
      have hgl : g < wr.heap.size := by omega
      have hlen : (ownL (L.take k) s).length ≤ 1048576 := Nat.le_trans (ownL_len _ _) (by simp; omega)
      clear hc HA hbel hne hown
      obtain ⟨x, hx⟩ : ∃ x, L[k] = x := ⟨_, rfl⟩
      rw [hx] at a0 N1 N2
      clear hx
      generalize ownL (L.take k) s = O at *
      cases hsx : (slV x == s)
      · go_wp2_with (go_at_call 17; refine Calls.mono (iSlot_any _ _) ?_; rintro e w1 ⟨rfl, k1⟩; have K1 := hideP k1; have hz1 := k1.size; clear k1)
        go_roundw
        case rel => exact ⟨k + 1, by omega, by go_num, HBel.out.trans (K1.out.mono hbs), ao', cap', by rw [N2.out hsx], by rw [N2.out hsx]; exact HO.out.keep K1.out⟩
        case measure => simp [intOf]; omega
      · go_wp2_with (first | (go_at_call 17; refine Calls.mono (iSlot_any _ _) ?_; rintro e w1 ⟨rfl, k1⟩; have K1 := hideP k1; have hz1 := k1.size; clear k1) | (at_builtin; refine wpList_app (k := .i64) (T := 2) (S := 36) (bytes := 8) Try.underlying36 Try.infoI5 (by omega) rfl _ _ rfl w.heap.size ao' cap' O rfl ((HO.out.keep K1.out).alloc _) _ 1 [x] rfl (src_one .i64 w1 x 2) (by simp; omega) (by simp; omega) ?_; intro ao8 ca8 w8 O8 K8) | go_in)
        go_roundw
        case rel =>
          refine ⟨k + 1, by omega, by go_num, ?_, ao8, ca8, by rw [N1.out hsx]; simp, by rw [N1.out hsx]; exact O8⟩
          exact (HBel.out.trans (K1.out.mono hbs)).trans (Below.trans (by go_grown : Below w.heap.size w1 _) K8)
        case measure => simp [intOf]; omega
    · obtain rfl : k = L.length := by omega
      rw [List.take_length] at HO
      clear hbel hown
      rw [List.take_length]
      go_wp2
      go_returns
      exact ⟨ao', cap', rfl, HO.out, HBel.out⟩

end Go.Proofs.Ytejgcheddloffaa
