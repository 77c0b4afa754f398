/- Whether two queues are the same: the program's. -/
import Derived.Test.YtefkngpceeclhabMs2
import Derived.Test.YtefkngpceeclhabSame1
namespace Go.Proofs.Ytefkngpceeclhab
open Go.RowKit
set_option linter.unusedVariables false

/-- Whether two messages are the same. -/
def sameM (s t : Int × List Int) : Bool := decide (s.1 = t.1) && decide (s.2 = t.2)
theorem sameM_eq (s t : Int × List Int) : sameM s t = decide (s = t) := by
  unfold sameM
  rw [← Bool.decide_and]
  exact decide_eq_decide.2 ⟨fun h => Prod.ext h.1 h.2, fun h => by rw [h]; exact ⟨rfl, rfl⟩⟩

set_option maxHeartbeats 1000000 in
theorem sameM_any (lo hi lo2 hi2 : Nat) (k k2 : Int) (ao bo : Option Addr) (ca cb : Nat) (A B : List Int) (w : World) (ha : Row .u8 w lo hi ao A) (hb : Row .u8 w lo2 hi2 bo B) (h1 : hi ≤ w.heap.size) (h2 : hi2 ≤ w.heap.size) (hl : A.length ≤ 1048576) (hl2 : B.length ≤ 1048576) :
    Calls Try.prog 34 #[.agg #[.int .i64 k, .slice ao A.length ca], .agg #[.int .i64 k2, .slice bo B.length cb]] w fun e w' => e = .returned (.bool (sameM (k, A) (k2, B))) ∧ Below w.heap.size w w' := by
  have CB := hideP (fun w1 (kk : Below w.heap.size w w1) => equalB_any lo hi lo2 hi2 ao bo ca cb A B w1 (ha.keep kk h1) (hb.keep kk h2) (by have := kk.size; omega) (by have := kk.size; omega) hl hl2)
  have hs : sameM (k, A) (k2, B) = (decide (k = k2) && decide (A = B)) := rfl
  obtain ⟨q, hq⟩ : ∃ q, decide (A = B) = q := ⟨_, rfl⟩
  rw [hs]
  rw [hq] at CB ⊢
  clear ha hb hq hs hl hl2
  generalize A.length = an at *
  generalize B.length = bn at *
  by_cases hk : k = k2
  · have hk' : (k == k2) = true := by simpa using hk
    have hk2 : decide (k = k2) = true := by simpa using hk
    rw [hk2]
    clear hk hk2
    go_enter Try.func34, Try.ntmps34
    go_wp2_with fail
    refine Calls.mono (CB.out _ (by go_grown)) ?_
    rintro e w1 ⟨rfl, k1⟩
    have K1 : Hid (Below w.heap.size w w1) := hideP (Below.trans (by go_grown) (k1.mono (by simp; omega)))
    clear k1
    go_wp2
    go_returns
    exact ⟨by simp, K1.out⟩
  · have hk' : (k == k2) = false := by simpa using hk
    have hk2 : decide (k = k2) = false := by simpa using hk
    rw [hk2]
    clear hk hk2
    go_enter Try.func34, Try.ntmps34
    go_wp2
    go_returns
    exact ⟨by simp, by go_grown⟩

theorem ct_not {X X' Y Y' : List Mg} {r s : Mg} (h : X.map Mg.ct = X'.map Mg.ct) (hn : r.ct ≠ s.ct) : (X ++ r :: Y).map Mg.ct ≠ (X' ++ s :: Y').map Mg.ct := fun e => by
  simp only [List.map_append, List.map_cons] at e
  rw [h] at e
  have := List.append_cancel_left e
  simp only [List.cons.injEq] at this
  exact hn this.1
theorem ct_len_not {L M : List Mg} (h : L.length ≠ M.length) : L.map Mg.ct ≠ M.map Mg.ct := fun e => h (len_ct e)

set_option maxRecDepth 100000 in
set_option maxHeartbeats 2000000 in
theorem eqF_any (lo hi lo2 hi2 : Nat) (so so2 : Option Addr) (sc sc2 : Nat) (L M : List Mg) (w : World) (hL : Ms w lo hi so L) (hM : Ms w lo2 hi2 so2 M) (h1 : hi ≤ w.heap.size) (h2 : hi2 ≤ w.heap.size) (hn : L.length + mzs L ≤ 1048576) (hn2 : M.length + mzs M ≤ 1048576) :
    Calls Try.prog 33 #[.slice so L.length sc, .slice so2 M.length sc2, .func (.func 34) #[] #[]] w fun e w' => e = .returned (.bool (decide (L.map Mg.ct = M.map Mg.ct))) ∧ Below w.heap.size w w' := by
  have hl' : (L.length : Int) ≤ 1048576 := by omega
  have HL := hideP hL
  have HM := hideP hM
  clear hL hM
  by_cases hlen : L.length = M.length
  · have hne : ((L.length : Int) != (M.length : Int)) = false := by simp; omega
    have HLen := hideP hlen
    clear hlen
    go_enter Try.func33, Try.ntmps33
    go_wp2
    go_loopw [17] (fun i wr => ∃ X Y X' Y' : List Mg, X ++ Y = L ∧ X' ++ Y' = M ∧ X.length = X'.length ∧ X.map Mg.ct = X'.map Mg.ct ∧ i = .int .i64 (X.length : Nat) ∧ Below w.heap.size w wr) (fun i _ => L.length - (intOf i).toNat)
    case atStart => exact ⟨[], L, [], M, rfl, rfl, rfl, rfl, rfl, Below.refl _ _⟩
    case round =>
      obtain ⟨X, Y, X', Y', hXY, hXY', hXl, hct, rfl, kb⟩ := hrel
      have hlen : X.length + Y.length = L.length := by rw [← hXY]; simp
      have hlen' : X'.length + Y'.length = M.length := by rw [← hXY']; simp
      have hz := kb.size
      have HB := hideP kb
      have HC := hideP hct
      clear kb hct
      cases Y with
      | cons r Y =>
        cases Y' with
        | nil => have := HLen.out; simp at hlen hlen'; omega
        | cons s Y' =>
          have hlt : (X.length : Int) < (L.length : Int) := by simp at hlen; omega
          have hlt2 : (X.length : Int) < (M.length : Int) := by simp at hlen'; omega
          have hsz : r.b.L.length ≤ mzs L := mzs_mem (m := r) (by rw [← hXY]; simp)
          have hsz2 : s.b.L.length ≤ mzs M := mzs_mem (m := s) (by rw [← hXY']; simp)
          have h0 := HL.out
          rw [← hXY] at h0
          have h0' := HM.out
          rw [← hXY'] at h0'
          obtain ⟨g, o, rfl, hg, hc, hon⟩ := Ms.at h0
          obtain ⟨g', o', rfl, hg', hc', hon'⟩ := Ms.at h0'
          obtain ⟨a0, a1⟩ := hc.keep HB.out (by omega)
          rw [← hXl] at hc'
          obtain ⟨b0, b1⟩ := hc'.keep HB.out (by omega)
          have hgl : g < wr.heap.size := by omega
          have hgl' : g' < wr.heap.size := by omega
          have HXl := hideP hXl
          have HXY := hideP hXY
          have HXY' := hideP hXY'
          have HR := hideP (Row.keep hon HB.out h1)
          have HS := hideP (Row.keep hon' HB.out h2)
          have HN := hideP (fun e => ct_not (Y := Y) (Y' := Y') HC.out (r := r) (s := s) e)
          clear h0 h0' hc hc' hXY hXY' hon hon' HL HM hXl
          obtain ⟨k, ao, cap, gb, D⟩ := r
          obtain ⟨k', ao', cap', gb', D'⟩ := s
          simp only at a0 a1 b0 b1 hsz hsz2 HR HS HN
          have hD : D.length ≤ 1048576 := by omega
          have hD' : D'.length ≤ 1048576 := by omega
          go_wp2_with fail
          clear a0 a1 b0 b1
          have k2 : Below wr.heap.size wr ((wr.alloc (.cells #[.int .i64 k, .slice ao D.length cap] 49)).alloc (.cells #[.int .i64 k', .slice ao' D'.length cap'] 49)) := ((Below.refl _ _).alloc (Nat.le_refl _) _).alloc (by simp) _
          have HB2 := hideP (HB.out.trans (k2.mono hz))
          have HR2 := hideP (HR.out.keep k2 (by omega))
          have HS2 := hideP (HS.out.keep k2 (by omega))
          have hz2 := k2.size
          clear k2 HB HR HS
          generalize (wr.alloc (.cells #[.int .i64 k, .slice ao D.length cap] 49)).alloc (.cells #[.int .i64 k', .slice ao' D'.length cap'] 49) = w2 at *
          refine Calls.mono (sameM_any lo hi lo2 hi2 k k' ao ao' cap cap' D D' w2 HR2.out HS2.out (by omega) (by omega) hD hD') ?_
          rintro e w3 ⟨rfl, k3⟩
          have HB3 := hideP (HB2.out.trans (k3.mono (by omega)))
          clear k3 HB2 HR2 HS2
          rw [sameM_eq]
          by_cases heq : (k, D) = (k', D')
          · have hd : decide ((k, D) = (k', D')) = true := decide_eq_true heq
            have HE := hideP heq
            rw [hd]
            clear hd heq
            go_wp2
            go_roundw
            case rel => exact ⟨X ++ [⟨k, ⟨ao, cap, gb, D⟩⟩], Y, X' ++ [⟨k', ⟨ao', cap', gb', D'⟩⟩], Y', mid_in HXY.out, mid_in HXY'.out, by simp [HXl.out], by rw [List.map_append, List.map_append, HC.out]; simp only [List.map_cons, List.map_nil, Mg.ct, HE.out], by simp, HB3.out⟩
            case measure => simp [intOf]; omega
          · have hd : decide ((k, D) = (k', D')) = false := decide_eq_false heq
            have HE : Hid (decide (L.map Mg.ct = M.map Mg.ct) = false) := hideP (by
              have := HN.out heq
              rw [HXY.out, HXY'.out] at this
              exact decide_eq_false this)
            rw [hd]
            clear hd heq
            go_wp2
            go_returns
            exact ⟨by rw [HE.out]; rfl, HB3.out⟩
      | nil =>
        have hX : X = L := by simpa using hXY
        have hY' : Y' = [] := List.length_eq_zero_iff.1 (by have := HLen.out; simp at hlen; omega)
        subst hY'
        have hX' : X' = M := by simpa using hXY'
        have HE : Hid (decide (L.map Mg.ct = M.map Mg.ct) = true) := hideP (by rw [← hX, ← hX']; exact decide_eq_true HC.out)
        have HXn := hideP hX
        have e1 : X.length = L.length := by rw [hX]
        clear hX hX' hXY hXY' hXl HC HL HM
        rw [e1]
        go_wp2
        go_returns
        exact ⟨by rw [HE.out]; rfl, HB.out⟩
  · have hne : ((L.length : Int) != (M.length : Int)) = true := by simp; omega
    have HE : Hid (decide (L.map Mg.ct = M.map Mg.ct) = false) := hideP (decide_eq_false (ct_len_not hlen))
    clear hlen HL HM
    go_enter Try.func33, Try.ntmps33
    go_wp2
    go_returns
    exact ⟨by rw [HE.out]; rfl, Below.refl _ _⟩

/-- Whether two queues are the same. -/
def sameQs (v u : Bool) (C D : List (Int × List Int)) : Bool := (v == u) && decide (C = D)

set_option maxHeartbeats 1000000 in
theorem iSameQ_any (lo hi lo2 hi2 : Nat) (so so2 : Option Addr) (sc sc2 : Nat) (L M : List Mg) (v u : Bool) (w : World) (hL : Ms w lo hi so L) (hM : Ms w lo2 hi2 so2 M) (h1 : hi ≤ w.heap.size) (h2 : hi2 ≤ w.heap.size) (hn : L.length + mzs L ≤ 1048576) (hn2 : M.length + mzs M ≤ 1048576) :
    Calls Try.prog 18 #[.agg #[.slice so L.length sc, .bool v], .agg #[.slice so2 M.length sc2, .bool u]] w fun e w' => e = .returned (.bool (sameQs v u (L.map Mg.ct) (M.map Mg.ct))) ∧ Below w.heap.size w w' := by
  have EF := hideP (fun w1 (kk : Below w.heap.size w w1) => eqF_any lo hi lo2 hi2 so so2 sc sc2 L M w1 (hL.keep kk h1) (hM.keep kk h2) (by have := kk.size; omega) (by have := kk.size; omega) hn hn2)
  have hs : sameQs v u (L.map Mg.ct) (M.map Mg.ct) = ((v == u) && decide (L.map Mg.ct = M.map Mg.ct)) := rfl
  obtain ⟨q, hq⟩ : ∃ q, decide (L.map Mg.ct = M.map Mg.ct) = q := ⟨_, rfl⟩
  rw [hs]
  rw [hq] at EF ⊢
  clear hL hM hq hs hn hn2
  generalize L.length = n1 at *
  generalize M.length = n2 at *
  by_cases hk : v = u
  · have hk' : (v == u) = true := by simpa using hk
    rw [hk']
    clear hk
    go_enter Try.func18, Try.ntmps18
    go_wp2_with fail
    refine Calls.mono (EF.out _ (by go_grown)) ?_
    rintro e w1 ⟨rfl, k1⟩
    have K1 : Hid (Below w.heap.size w w1) := hideP (Below.trans (by go_grown) (k1.mono (by simp; omega)))
    clear k1
    go_wp2
    go_returns
    exact ⟨by simp, K1.out⟩
  · have hk' : (v == u) = false := by simpa using hk
    rw [hk']
    clear hk
    go_enter Try.func18, Try.ntmps18
    go_wp2
    go_returns
    exact ⟨by simp, by go_grown⟩
end Go.Proofs.Ytefkngpceeclhab
