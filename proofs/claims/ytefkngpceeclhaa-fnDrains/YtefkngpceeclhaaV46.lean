/- Rows of int64 numbers: copied, held against each other, marked. Whether two rows of numbers are the same: the model's, and the library's. Whether two queues are the same: the program's. -/
import Derived.Test.YtefkngpceeclhaaV4
import Derived.Test.YtefkngpceeclhaaV6
import Derived.Test.YtefkngpceeclhaaV13
namespace Go.Proofs.Ytefkngpceeclhaa
open Go.RowKit
set_option linter.unusedVariables false

theorem Try.infoI : (Try.prog.info? 2).map (fun i => (i.zero, i.size, i.bytes)) = some (some (.int .i64 0), 1, 8) := by kernel_rfl

/-- What number a place is marked with. -/
def mkI (k : Int) (i : Nat) : Int := k + i

end Go.Proofs.Ytefkngpceeclhaa

namespace Go.Proofs.Ytefkngpceeclhaa
open Go.RowKit
set_option linter.unusedVariables false

theorem same_all {A B : List Int} (hl : A.length = B.length) (h : ∀ i (h1 : i < A.length) (h2 : i < B.length), A[i] = B[i]) : decide (A = B) = true := decide_eq_true (List.ext_getElem hl h)
theorem same_not {A B : List Int} {i : Nat} (h1 : i < A.length) (h2 : i < B.length) (h : A[i] ≠ B[i]) : decide (A = B) = false := decide_eq_false fun e => h (by subst e; rfl)
theorem same_len {A B : List Int} (h : A.length ≠ B.length) : decide (A = B) = false := decide_eq_false fun e => h (by rw [e])

set_option maxHeartbeats 1000000 in
theorem equalB_any (lo hi lo2 hi2 : Nat) (ao bo : Option Addr) (ca cb : Nat) (A B : List Int) (w : World) (ha : Row .u8 w lo hi ao A) (hb : Row .u8 w lo2 hi2 bo B) (h1 : hi ≤ w.heap.size) (h2 : hi2 ≤ w.heap.size) (hl : A.length ≤ 1048576) (hl2 : B.length ≤ 1048576) :
    Calls Try.prog 81 #[.slice ao A.length ca, .slice bo B.length cb] w fun e w' => e = .returned (.bool (decide (A = B))) ∧ Below w.heap.size w w' := by
  have hl' : (A.length : Int) ≤ 1048576 := by omega
  have HA := hideP ha
  have HB := hideP hb
  clear ha hb
  by_cases hlen : A.length = B.length
  · have hne : ((A.length : Int) != (B.length : Int)) = false := by simp; omega
    have HLen := hideP hlen
    clear hlen
    go_enter Try.func81, Try.ntmps81
    go_wp2
    go_loopw [13] (fun i wr => ∃ k : Nat, k ≤ A.length ∧ i = .int .i64 k ∧ Below w.heap.size w wr ∧ Hid (∀ i (h1 : i < A.length) (h2 : i < B.length), i < k → A[i] = B[i])) (fun i _ => A.length - (intOf i).toNat)
    case atStart => exact ⟨0, Nat.zero_le _, rfl, Below.refl _ _, fun i _ _ hi => absurd hi (Nat.not_lt_zero _)⟩
    case round =>
      obtain ⟨k, hk, rfl, hbel, HF⟩ := hrel
      have hz := hbel.size
      by_cases hlt : k < A.length
      · have hltb : k < B.length := by have := HLen.out; omega
        have hlt' : (k : Int) < (A.length : Int) := by omega
        have hltb' : (k : Int) < (B.length : Int) := by omega
        rcases HA.out with e | ⟨g, o, rfl, _, hg, hc⟩
        · rw [e] at hlt; simp at hlt
        rcases HB.out with e | ⟨g', o', rfl, _, hg', hc'⟩
        · rw [e] at hltb; simp at hltb
        have a0 := (hbel.cell (p := ⟨g, o + k, none⟩) (by show g < _; omega)).trans (hc k hlt)
        have b0 := (hbel.cell (p := ⟨g', o' + k, none⟩) (by show g' < _; omega)).trans (hc' k hltb)
        have hgl : g < wr.heap.size := by omega
        have hgl' : g' < wr.heap.size := by omega
        have HBel := hideP hbel
        have hnot := hideP (same_not hlt hltb)
        have hon := hideP (show A[k] = B[k] → ∀ i (h1 : i < A.length) (h2 : i < B.length), i < k + 1 → A[i] = B[i] from fun e i h1 h2 hij => by
          by_cases h : i < k
          · exact HF.out i h1 h2 h
          · obtain rfl : i = k := by omega
            exact e)
        clear hc hc' hbel HF
        generalize A[k] = x at *
        generalize B[k] = y at *
        by_cases hxy : x = y
        · have hon' := hideP (hon.out hxy)
          subst hxy
          clear hon hnot
          have hb0 : (x != x) = false := by simp
          go_wp2
          refine wp_region_kept (by kernel_rfl) (by kernel_rfl) ?_
          repeat (refine kept_step (by rfl) ?_; apply Exists.intro; refine ⟨fun w1 k1 => ?_, fun K hK => ?_⟩; (focus (have hc := Kept.cell k1; go_simp; first | done | rfl)); (go_simp; refine hK _ ?_; clear hK K))
          refine wpQuiet_nil ?_
          intro w5 k5
          replace k5 := Kept.below k5
          have hc5 := Kept.cell k5
          have hf5 := Kept.frozen k5
          have hz5 := k5.size
          try simp only [World.size_alloc] at hz5
          try simp only [World.size_setCell] at hz5
          try simp only [World.size_drew] at hz5
          try (first | have hs5 := sz12 hz5 | have hs5 := sz11 hz5 | have hs5 := sz10 hz5 | have hs5 := sz9 hz5 | have hs5 := sz8 hz5 | have hs5 := sz7 hz5 | have hs5 := sz6 hz5 | have hs5 := sz5 hz5 | have hs5 := sz4 hz5 | have hs5 := sz3 hz5 | have hs5 := sz2 hz5 | have hs5 := sz1 hz5)
          go_wp2
          go_roundw
          case rel => exact ⟨k + 1, by omega, by go_num, HBel.out.trans (k5.mono HBel.out.size), hon'.out⟩
          case measure => simp [intOf]; omega
        · have hnot' := hideP (hnot.out hxy)
          have hb0 : (x != y) = true := by simpa using hxy
          clear hon hnot hxy
          go_wp2
          refine wp_region_kept (by kernel_rfl) (by kernel_rfl) ?_
          repeat (refine kept_step (by rfl) ?_; apply Exists.intro; refine ⟨fun w1 k1 => ?_, fun K hK => ?_⟩; (focus (have hc := Kept.cell k1; go_simp; first | done | rfl)); (go_simp; refine hK _ ?_; clear hK K))
          refine wpQuiet_nil ?_
          intro w5 k5
          replace k5 := Kept.below k5
          have hc5 := Kept.cell k5
          have hf5 := Kept.frozen k5
          have hz5 := k5.size
          try simp only [World.size_alloc] at hz5
          try simp only [World.size_setCell] at hz5
          try simp only [World.size_drew] at hz5
          try (first | have hs5 := sz12 hz5 | have hs5 := sz11 hz5 | have hs5 := sz10 hz5 | have hs5 := sz9 hz5 | have hs5 := sz8 hz5 | have hs5 := sz7 hz5 | have hs5 := sz6 hz5 | have hs5 := sz5 hz5 | have hs5 := sz4 hz5 | have hs5 := sz3 hz5 | have hs5 := sz2 hz5 | have hs5 := sz1 hz5)
          go_wp2
          go_returns
          exact ⟨by rw [hnot'.out]; rfl, HBel.out.trans (k5.mono HBel.out.size)⟩
      · have hall := hideP (same_all HLen.out fun i h1 h2 => HF.out i h1 h2 (by omega))
        have HBel := hideP hbel
        clear hbel HF
        go_wp2
        go_returns
        exact ⟨by rw [hall.out]; rfl, HBel.out⟩
  · have hne : ((A.length : Int) != (B.length : Int)) = true := by simp; omega
    have hnot := hideP (same_len hlen)
    clear hlen
    go_enter Try.func81, Try.ntmps81
    go_wp2
    go_returns
    exact ⟨by rw [hnot.out]; rfl, Below.refl _ _⟩

end Go.Proofs.Ytefkngpceeclhaa

namespace Go.Proofs.Ytefkngpceeclhaa
open Go.RowKit
set_option linter.unusedVariables false

/-- Whether two messages are the same. -/
def sameM (s t : Int × List Int) : Bool := decide (s.1 = t.1) && decide (s.2 = t.2)
theorem sameM_eq (s t : Int × List Int) : sameM s t = decide (s = t) := by
  unfold sameM
  rw [← Bool.decide_and]
  exact decide_eq_decide.2 ⟨fun h => Prod.ext h.1 h.2, fun h => by rw [h]; exact ⟨rfl, rfl⟩⟩

set_option maxHeartbeats 1000000 in
theorem sameM_any (lo hi lo2 hi2 : Nat) (k k2 : Int) (ao bo : Option Addr) (ca cb : Nat) (A B : List Int) (w : World) (ha : Row .u8 w lo hi ao A) (hb : Row .u8 w lo2 hi2 bo B) (h1 : hi ≤ w.heap.size) (h2 : hi2 ≤ w.heap.size) (hl : A.length ≤ 1048576) (hl2 : B.length ≤ 1048576) :
    Calls Try.prog 62 #[.agg #[.int .i64 k, .slice ao A.length ca], .agg #[.int .i64 k2, .slice bo B.length cb]] w fun e w' => e = .returned (.bool (sameM (k, A) (k2, B))) ∧ Below w.heap.size w w' := by
  have CB := hideP (fun w1 (kk : Below w.heap.size w w1) => equalB_any lo hi lo2 hi2 ao bo ca cb A B w1 (ha.keep kk h1) (hb.keep kk h2) (by have := kk.size; omega) (by have := kk.size; omega) hl hl2)
  have hs : sameM (k, A) (k2, B) = (decide (k = k2) && decide (A = B)) := rfl
  obtain ⟨q, hq⟩ : ∃ q, decide (A = B) = q := ⟨_, rfl⟩
  rw [hs]
  rw [hq] at CB ⊢
  clear ha hb hq hs hl hl2
  generalize A.length = an at *
  generalize B.length = bn at *
  by_cases hk : k = k2
  · have hk' : (k == k2) = true := by simpa using hk
    have hk2 : decide (k = k2) = true := by simpa using hk
    rw [hk2]
    clear hk hk2
    go_enter Try.func62, Try.ntmps62
    go_wp2_with fail
    refine Calls.mono (CB.out _ (by go_grown)) ?_
    rintro e w1 ⟨rfl, k1⟩
    have K1 : Hid (Below w.heap.size w w1) := hideP (Below.trans (by go_grown) (k1.mono (by simp; omega)))
    clear k1
    go_wp2
    go_returns
    exact ⟨by simp, K1.out⟩
  · have hk' : (k == k2) = false := by simpa using hk
    have hk2 : decide (k = k2) = false := by simpa using hk
    rw [hk2]
    clear hk hk2
    go_enter Try.func62, Try.ntmps62
    go_wp2
    go_returns
    exact ⟨by simp, by go_grown⟩

theorem ct_not {X X' Y Y' : List Mg} {r s : Mg} (h : X.map Mg.ct = X'.map Mg.ct) (hn : r.ct ≠ s.ct) : (X ++ r :: Y).map Mg.ct ≠ (X' ++ s :: Y').map Mg.ct := fun e => by
  simp only [List.map_append, List.map_cons] at e
  rw [h] at e
  have := List.append_cancel_left e
  simp only [List.cons.injEq] at this
  exact hn this.1
theorem ct_len_not {L M : List Mg} (h : L.length ≠ M.length) : L.map Mg.ct ≠ M.map Mg.ct := fun e => h (len_ct e)

set_option maxRecDepth 100000 in
set_option maxHeartbeats 2000000 in
theorem eqF_any (lo hi lo2 hi2 : Nat) (so so2 : Option Addr) (sc sc2 : Nat) (L M : List Mg) (w : World) (hL : Ms w lo hi so L) (hM : Ms w lo2 hi2 so2 M) (h1 : hi ≤ w.heap.size) (h2 : hi2 ≤ w.heap.size) (hn : L.length + mzs L ≤ 1048576) (hn2 : M.length + mzs M ≤ 1048576) :
    Calls Try.prog 61 #[.slice so L.length sc, .slice so2 M.length sc2, .func (.func 62) #[] #[]] w fun e w' => e = .returned (.bool (decide (L.map Mg.ct = M.map Mg.ct))) ∧ Below w.heap.size w w' := by
  have hl' : (L.length : Int) ≤ 1048576 := by omega
  have HL := hideP hL
  have HM := hideP hM
  clear hL hM
  by_cases hlen : L.length = M.length
  · have hne : ((L.length : Int) != (M.length : Int)) = false := by simp; omega
    have HLen := hideP hlen
    clear hlen
    go_enter Try.func61, Try.ntmps61
    go_wp2
    go_loopw [17] (fun i wr => ∃ X Y X' Y' : List Mg, X ++ Y = L ∧ X' ++ Y' = M ∧ X.length = X'.length ∧ X.map Mg.ct = X'.map Mg.ct ∧ i = .int .i64 (X.length : Nat) ∧ Below w.heap.size w wr) (fun i _ => L.length - (intOf i).toNat)
    case atStart => exact ⟨[], L, [], M, rfl, rfl, rfl, rfl, rfl, Below.refl _ _⟩
    case round =>
      obtain ⟨X, Y, X', Y', hXY, hXY', hXl, hct, rfl, kb⟩ := hrel
      have hlen : X.length + Y.length = L.length := by rw [← hXY]; simp
      have hlen' : X'.length + Y'.length = M.length := by rw [← hXY']; simp
      have hz := kb.size
      have HB := hideP kb
      have HC := hideP hct
      clear kb hct
      cases Y with
      | cons r Y =>
        cases Y' with
        | nil => have := HLen.out; simp at hlen hlen'; omega
        | cons s Y' =>
          have hlt : (X.length : Int) < (L.length : Int) := by simp at hlen; omega
          have hlt2 : (X.length : Int) < (M.length : Int) := by simp at hlen'; omega
          have hsz : r.b.L.length ≤ mzs L := mzs_mem (m := r) (by rw [← hXY]; simp)
          have hsz2 : s.b.L.length ≤ mzs M := mzs_mem (m := s) (by rw [← hXY']; simp)
          have h0 := HL.out
          rw [← hXY] at h0
          have h0' := HM.out
          rw [← hXY'] at h0'
          obtain ⟨g, o, rfl, hg, hc, hon⟩ := Ms.at h0
          obtain ⟨g', o', rfl, hg', hc', hon'⟩ := Ms.at h0'
          obtain ⟨a0, a1⟩ := hc.keep HB.out (by omega)
          rw [← hXl] at hc'
          obtain ⟨b0, b1⟩ := hc'.keep HB.out (by omega)
          have hgl : g < wr.heap.size := by omega
          have hgl' : g' < wr.heap.size := by omega
          have HXl := hideP hXl
          have HXY := hideP hXY
          have HXY' := hideP hXY'
          have HR := hideP (Row.keep hon HB.out h1)
          have HS := hideP (Row.keep hon' HB.out h2)
          have HN := hideP (fun e => ct_not (Y := Y) (Y' := Y') HC.out (r := r) (s := s) e)
          clear h0 h0' hc hc' hXY hXY' hon hon' HL HM hXl
          obtain ⟨k, ao, cap, gb, D⟩ := r
          obtain ⟨k', ao', cap', gb', D'⟩ := s
          simp only at a0 a1 b0 b1 hsz hsz2 HR HS HN
          have hD : D.length ≤ 1048576 := by omega
          have hD' : D'.length ≤ 1048576 := by omega
          go_wp2_with fail
          clear a0 a1 b0 b1
          have k2 : Below wr.heap.size wr ((wr.alloc (.cells #[.int .i64 k, .slice ao D.length cap] 28)).alloc (.cells #[.int .i64 k', .slice ao' D'.length cap'] 28)) := ((Below.refl _ _).alloc (Nat.le_refl _) _).alloc (by simp) _
          have HB2 := hideP (HB.out.trans (k2.mono hz))
          have HR2 := hideP (HR.out.keep k2 (by omega))
          have HS2 := hideP (HS.out.keep k2 (by omega))
          have hz2 := k2.size
          clear k2 HB HR HS
          generalize (wr.alloc (.cells #[.int .i64 k, .slice ao D.length cap] 28)).alloc (.cells #[.int .i64 k', .slice ao' D'.length cap'] 28) = w2 at *
          refine Calls.mono (sameM_any lo hi lo2 hi2 k k' ao ao' cap cap' D D' w2 HR2.out HS2.out (by omega) (by omega) hD hD') ?_
          rintro e w3 ⟨rfl, k3⟩
          have HB3 := hideP (HB2.out.trans (k3.mono (by omega)))
          clear k3 HB2 HR2 HS2
          rw [sameM_eq]
          by_cases heq : (k, D) = (k', D')
          · have hd : decide ((k, D) = (k', D')) = true := decide_eq_true heq
            have HE := hideP heq
            rw [hd]
            clear hd heq
            go_wp2
            go_roundw
            case rel => exact ⟨X ++ [⟨k, ⟨ao, cap, gb, D⟩⟩], Y, X' ++ [⟨k', ⟨ao', cap', gb', D'⟩⟩], Y', mid_in HXY.out, mid_in HXY'.out, by simp [HXl.out], by rw [List.map_append, List.map_append, HC.out]; simp only [List.map_cons, List.map_nil, Mg.ct, HE.out], by simp, HB3.out⟩
            case measure => simp [intOf]; omega
          · have hd : decide ((k, D) = (k', D')) = false := decide_eq_false heq
            have HE : Hid (decide (L.map Mg.ct = M.map Mg.ct) = false) := hideP (by
              have := HN.out heq
              rw [HXY.out, HXY'.out] at this
              exact decide_eq_false this)
            rw [hd]
            clear hd heq
            go_wp2
            go_returns
            exact ⟨by rw [HE.out]; rfl, HB3.out⟩
      | nil =>
        have hX : X = L := by simpa using hXY
        have hY' : Y' = [] := List.length_eq_zero_iff.1 (by have := HLen.out; simp at hlen; omega)
        subst hY'
        have hX' : X' = M := by simpa using hXY'
        have HE : Hid (decide (L.map Mg.ct = M.map Mg.ct) = true) := hideP (by rw [← hX, ← hX']; exact decide_eq_true HC.out)
        have HXn := hideP hX
        have e1 : X.length = L.length := by rw [hX]
        clear hX hX' hXY hXY' hXl HC HL HM
        rw [e1]
        go_wp2
        go_returns
        exact ⟨by rw [HE.out]; rfl, HB.out⟩
  · have hne : ((L.length : Int) != (M.length : Int)) = true := by simp; omega
    have HE : Hid (decide (L.map Mg.ct = M.map Mg.ct) = false) := hideP (decide_eq_false (ct_len_not hlen))
    clear hlen HL HM
    go_enter Try.func61, Try.ntmps61
    go_wp2
    go_returns
    exact ⟨by rw [HE.out]; rfl, Below.refl _ _⟩

/-- Whether two queues are the same. -/
def sameQs (v u : Bool) (C D : List (Int × List Int)) : Bool := (v == u) && decide (C = D)

set_option maxHeartbeats 1000000 in
theorem iSameQ_any (lo hi lo2 hi2 : Nat) (so so2 : Option Addr) (sc sc2 : Nat) (L M : List Mg) (v u : Bool) (w : World) (hL : Ms w lo hi so L) (hM : Ms w lo2 hi2 so2 M) (h1 : hi ≤ w.heap.size) (h2 : hi2 ≤ w.heap.size) (hn : L.length + mzs L ≤ 1048576) (hn2 : M.length + mzs M ≤ 1048576) :
    Calls Try.prog 28 #[.agg #[.slice so L.length sc, .bool v], .agg #[.slice so2 M.length sc2, .bool u]] w fun e w' => e = .returned (.bool (sameQs v u (L.map Mg.ct) (M.map Mg.ct))) ∧ Below w.heap.size w w' := by
  have EF := hideP (fun w1 (kk : Below w.heap.size w w1) => eqF_any lo hi lo2 hi2 so so2 sc sc2 L M w1 (hL.keep kk h1) (hM.keep kk h2) (by have := kk.size; omega) (by have := kk.size; omega) hn hn2)
  have hs : sameQs v u (L.map Mg.ct) (M.map Mg.ct) = ((v == u) && decide (L.map Mg.ct = M.map Mg.ct)) := rfl
  obtain ⟨q, hq⟩ : ∃ q, decide (L.map Mg.ct = M.map Mg.ct) = q := ⟨_, rfl⟩
  rw [hs]
  rw [hq] at EF ⊢
  clear hL hM hq hs hn hn2
  generalize L.length = n1 at *
  generalize M.length = n2 at *
  by_cases hk : v = u
  · have hk' : (v == u) = true := by simpa using hk
    rw [hk']
    clear hk
    go_enter Try.func28, Try.ntmps28
    go_wp2_with fail
    refine Calls.mono (EF.out _ (by go_grown)) ?_
    rintro e w1 ⟨rfl, k1⟩
    have K1 : Hid (Below w.heap.size w w1) := hideP (Below.trans (by go_grown) (k1.mono (by simp; omega)))
    clear k1
    go_wp2
    go_returns
    exact ⟨by simp, K1.out⟩
  · have hk' : (v == u) = false := by simpa using hk
    rw [hk']
    clear hk
    go_enter Try.func28, Try.ntmps28
    go_wp2
    go_returns
    exact ⟨by simp, by go_grown⟩
end Go.Proofs.Ytefkngpceeclhaa
