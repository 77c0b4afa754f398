/- Whether two stacks are the same: gone through window by window. Ids of a slot, in order: the program's, the model's; OwnOf. Windows of a slot dropped: the program. -/
import Derived.Test.YtflodklggkkmiaaTq32
import Derived.Test.YtflodklggkkmiaaTq12
import Derived.Test.YtflodklggkkmiaaTq21
namespace Go.Proofs.Ytflodklggkkmiaa
open Go.RowKit
set_option linter.unusedVariables false

theorem ctW_not {X X' Y Y' : List Wn} {r s : Wn} (h : X.map Wn.ct = X'.map Wn.ct) (hn : r.ct ≠ s.ct) : (X ++ r :: Y).map Wn.ct ≠ (X' ++ s :: Y').map Wn.ct := fun e => by
  simp only [List.map_append, List.map_cons] at e
  rw [h] at e
  have := List.append_cancel_left e
  simp only [List.cons.injEq] at this
  exact hn this.1
theorem ctW_len_not {L M : List Wn} (h : L.length ≠ M.length) : L.map Wn.ct ≠ M.map Wn.ct := fun e => h (lenW e)

set_option maxRecDepth 100000 in
set_option maxHeartbeats 8000000 in
theorem eqFW_any (lo hi lo2 hi2 : Nat) (so so2 : Option Addr) (sc sc2 : Nat) (L M : List Wn) (w : World) (hL : Ws w lo hi so L) (hM : Ws w lo2 hi2 so2 M) (h1 : hi ≤ w.heap.size) (h2 : hi2 ≤ w.heap.size) (hn : L.length + wzs L ≤ 1048576) (hn2 : M.length + wzs M ≤ 1048576) :
    Calls Try.prog 58 #[.slice so L.length sc, .slice so2 M.length sc2, .func (.func 59) #[] #[]] w fun e w' => e = .returned (.bool (decide (L.map Wn.ct = M.map Wn.ct))) ∧ Below w.heap.size w w' := by
  have hl' : (L.length : Int) ≤ 1048576 := by omega
  have HL := hideP hL
  have HM := hideP hM
  clear hL hM
  by_cases hlen : L.length = M.length
  · have hne : ((L.length : Int) != (M.length : Int)) = false := by simp; omega
    have HLen := hideP hlen
    clear hlen
    go_enter Try.func58, Try.ntmps58
    go_wp2
    go_loopw [17] (fun i wr => ∃ X Y X' Y' : List Wn, X ++ Y = L ∧ X' ++ Y' = M ∧ X.length = X'.length ∧ X.map Wn.ct = X'.map Wn.ct ∧ i = .int .i64 (X.length : Nat) ∧ Below w.heap.size w wr) (fun i _ => L.length - (intOf i).toNat)
    case atStart => exact ⟨[], L, [], M, rfl, rfl, rfl, rfl, rfl, Below.refl _ _⟩
    case round =>
      obtain ⟨X, Y, X', Y', hXY, hXY', hXl, hct, rfl, kb⟩ := hrel
      have hlen : X.length + Y.length = L.length := by rw [← hXY]; simp
      have hlen' : X'.length + Y'.length = M.length := by rw [← hXY']; simp
      have hz := kb.size
      have HB := hideP kb
      have HC := hideP hct
      clear kb hct
      cases Y with
      | cons r Y =>
        cases Y' with
        | nil => have := HLen.out; simp at hlen hlen'; omega
        | cons s Y' =>
          have hlt : (X.length : Int) < (L.length : Int) := by simp at hlen; omega
          have hlt2 : (X.length : Int) < (M.length : Int) := by simp at hlen'; omega
          have hsz : r.b.L.length ≤ wzs L := wzs_mem (v := r) (by rw [← hXY]; simp)
          have hsz2 : s.b.L.length ≤ wzs M := wzs_mem (v := s) (by rw [← hXY']; simp)
          have h0 := HL.out
          rw [← hXY] at h0
          have h0' := HM.out
          rw [← hXY'] at h0'
          obtain ⟨g, o, rfl, hg, hc, hon⟩ := Ws.at h0
          obtain ⟨g', o', rfl, hg', hc', hon'⟩ := Ws.at h0'
          have hc2 := (hc.keep HB.out (by omega)).seven
          rw [← hXl] at hc'
          have hc2' := (hc'.keep HB.out (by omega)).seven
          have hgl : g < wr.heap.size := by omega
          have hgl' : g' < wr.heap.size := by omega
          have HXl := hideP hXl
          have HXY := hideP hXY
          have HXY' := hideP hXY'
          have HR := hideP (Row.keep hon HB.out h1)
          have HS := hideP (Row.keep hon' HB.out h2)
          have HN := hideP (fun e => ctW_not (Y := Y) (Y' := Y') HC.out (r := r) (s := s) e)
          clear h0 h0' hc hc' hXY hXY' hon hon' HL HM hXl
          obtain ⟨ri, rx, ry, rp, rh, rm, ⟨ao, cap, gb, D⟩⟩ := r
          obtain ⟨si, sx, sy, sp, sh, sm, ⟨ao', cap', gb', D'⟩⟩ := s
          simp only at hc2 hc2' hsz hsz2 HR HS HN
          obtain ⟨a0, a1, a2, a3, a4, a5, a6⟩ := hc2
          obtain ⟨b0, b1, b2, b3, b4, b5, b6⟩ := hc2'
          have hD : D.length ≤ 1048576 := by omega
          have hD' : D'.length ≤ 1048576 := by omega
          go_wp2_with fail
          clear a0 a1 a2 a3 a4 a5 a6 b0 b1 b2 b3 b4 b5 b6
          have k2 : Below wr.heap.size wr ((wr.alloc (.cells #[.int .i64 ri, .int .i64 rx, .int .i64 ry, .int .i64 rp, .int .i64 rh, .bool rm, .slice ao D.length cap] 38)).alloc (.cells #[.int .i64 si, .int .i64 sx, .int .i64 sy, .int .i64 sp, .int .i64 sh, .bool sm, .slice ao' D'.length cap'] 38)) := ((Below.refl _ _).alloc (Nat.le_refl _) _).alloc (by simp) _
          have HB2 := hideP (HB.out.trans (k2.mono hz))
          have HR2 := hideP (HR.out.keep k2 (by omega))
          have HS2 := hideP (HS.out.keep k2 (by omega))
          have hz2 := k2.size
          clear k2 HB HR HS
          generalize (wr.alloc (.cells #[.int .i64 ri, .int .i64 rx, .int .i64 ry, .int .i64 rp, .int .i64 rh, .bool rm, .slice ao D.length cap] 38)).alloc (.cells #[.int .i64 si, .int .i64 sx, .int .i64 sy, .int .i64 sp, .int .i64 sh, .bool sm, .slice ao' D'.length cap'] 38) = w2 at *
          refine Calls.mono (sameW_any lo hi lo2 hi2 ri rx ry rp rh si sx sy sp sh rm sm ao ao' cap cap' D D' w2 HR2.out HS2.out (by omega) (by omega) hD hD') ?_
          rintro e w3 ⟨rfl, k3⟩
          have HB3 := hideP (HB2.out.trans (k3.mono (by omega)))
          clear k3 HB2 HR2 HS2
          by_cases heq : (⟨ri, rx, ry, rp, rh, rm, D⟩ : Wc) = ⟨si, sx, sy, sp, sh, sm, D'⟩
          · rw [decide_eq_true heq]
            have HE := hideP heq
            clear heq
            go_wp2
            go_roundw
            case rel => exact ⟨X ++ [⟨ri, rx, ry, rp, rh, rm, ⟨ao, cap, gb, D⟩⟩], Y, X' ++ [⟨si, sx, sy, sp, sh, sm, ⟨ao', cap', gb', D'⟩⟩], Y', midW HXY.out, midW HXY'.out, by simp [HXl.out], by rw [List.map_append, List.map_append, HC.out]; simp only [List.map_cons, List.map_nil, Wn.ct, HE.out], by simp, HB3.out⟩
            case measure => simp [intOf]; omega
          · rw [decide_eq_false heq]
            have HE : Hid (decide (L.map Wn.ct = M.map Wn.ct) = false) := hideP (by
              have := HN.out heq
              rw [HXY.out, HXY'.out] at this
              exact decide_eq_false this)
            clear heq
            go_wp2
            go_returns
            exact ⟨by rw [HE.out]; rfl, HB3.out⟩
      | nil =>
        have hX : X = L := by simpa using hXY
        have hY' : Y' = [] := List.length_eq_zero_iff.1 (by have := HLen.out; simp at hlen; omega)
        subst hY'
        have hX' : X' = M := by simpa using hXY'
        have HE : Hid (decide (L.map Wn.ct = M.map Wn.ct) = true) := hideP (by rw [← hX, ← hX']; exact decide_eq_true HC.out)
        have e1 : X.length = L.length := by rw [hX]
        clear hX hX' hXY hXY' hXl HC HL HM
        rw [e1]
        go_wp2
        go_returns
        exact ⟨by rw [HE.out]; rfl, HB.out⟩
  · have hne : ((L.length : Int) != (M.length : Int)) = true := by simp; omega
    have HE : Hid (decide (L.map Wn.ct = M.map Wn.ct) = false) := hideP (decide_eq_false (ctW_len_not hlen))
    clear hlen HL HM
    go_enter Try.func58, Try.ntmps58
    go_wp2
    go_returns
    exact ⟨by rw [HE.out]; rfl, Below.refl _ _⟩

set_option maxHeartbeats 400000 in
theorem iSameS_any (lo hi lo2 hi2 : Nat) (so so2 : Option Addr) (sc sc2 : Nat) (L M : List Wn) (w : World) (hL : Ws w lo hi so L) (hM : Ws w lo2 hi2 so2 M) (h1 : hi ≤ w.heap.size) (h2 : hi2 ≤ w.heap.size) (hn : L.length + wzs L ≤ 1048576) (hn2 : M.length + wzs M ≤ 1048576) :
    Calls Try.prog 17 #[.slice so L.length sc, .slice so2 M.length sc2] w fun e w' => e = .returned (.bool (decide (L.map Wn.ct = M.map Wn.ct))) ∧ Below w.heap.size w w' := by
  have EF := hideP (eqFW_any lo hi lo2 hi2 so so2 sc sc2 L M w hL hM h1 h2 hn hn2)
  clear hL hM
  generalize decide (L.map Wn.ct = M.map Wn.ct) = q at *
  go_enter Try.func17, Try.ntmps17
  go_wp2_with fail
  refine Calls.mono EF.out ?_
  rintro e w1 ⟨rfl, k1⟩
  have K1 := hideP k1
  clear k1
  go_wp2
  go_returns
  exact ⟨rfl, K1.out⟩
end Go.Proofs.Ytflodklggkkmiaa

namespace Go.Proofs.Ytflodklggkkmiaa
open Go.RowKit Go.Maps
set_option linter.unusedVariables false
attribute [local go_sem high] fI0 fI1

theorem offL_yes {L : List Int} {s : Int} {k : Nat} (h : k < L.length) (h2 : (slV L[k] == s) = false) : offL (L.take (k + 1)) s = offL (L.take k) s ++ [L[k]] := by
  unfold offL; rw [take_snoc h, List.filter_append]; simp [h2]

theorem offL_no {L : List Int} {s : Int} {k : Nat} (h : k < L.length) (h2 : (slV L[k] == s) = true) : offL (L.take (k + 1)) s = offL (L.take k) s := by
  unfold offL; rw [take_snoc h, List.filter_append]; simp [h2]

theorem slV_at {L : List Int} (h : ∀ x ∈ L, okId x = true) {k : Nat} (hk : k < L.length) : 0 ≤ L[k] ∧ L[k] ≤ 255 ∧ L[k] / 64 = slV L[k] := by
  have h1 := h L[k] (List.getElem_mem hk)
  have h2 := okId_iff.1 h1
  exact ⟨h2.1, h2.2.1, (slV_yes h1).symm⟩

set_option maxHeartbeats 2000000 in
theorem iOwnIds_any (lo hi : Nat) (ao : Option Addr) (ca : Nat) (L : List Int) (s : Int) (w : World) (ha : Row .i64 w lo hi ao L) (hs : hi ≤ w.heap.size) (hl : L.length ≤ 1048576) :
    Calls Try.prog 45 #[.slice ao L.length ca, .int .i64 s] w fun e w' => ∃ ao' cap', e = .returned (.slice ao' (ownL L s).length cap') ∧ OwnR .i64 2 w' w.heap.size ao' cap' (ownL L s) ∧ Below w.heap.size w w' := by
  have hl' : (L.length : Int) ≤ 1048576 := by omega
  have HA := hideP ha
  clear ha
  go_enter Try.func45, Try.ntmps45
  go_wp2
  go_loopw [5, 10] (fun v i wr => ∃ k : Nat, k ≤ L.length ∧ i = .int .i64 k ∧ Below w.heap.size w wr ∧ ∃ ao' cap', v = .slice ao' (ownL (L.take k) s).length cap' ∧ OwnR .i64 2 wr w.heap.size ao' cap' (ownL (L.take k) s)) (fun _ i _ => L.length - (intOf i).toNat)
  case atStart => exact ⟨0, Nat.zero_le _, rfl, Below.refl _ _, none, 0, by simp [ownL], by simpa [ownL] using OwnR.nil _ _ _ _⟩
  case round =>
    obtain ⟨k, hk, rfl, hbel, ao', cap', rfl, hown⟩ := hrel
    have hbs := hbel.size
    have HO := hideP hown
    have HBel := hideP hbel
    by_cases hlt : k < L.length
    · have hlt' : (k : Int) < (L.length : Int) := by omega
      have hne : L ≠ [] := fun e => by rw [e] at hlt; simp at hlt
      rcases HA.out with e | ⟨g, o, rfl, hlo, hg, hc⟩
      · exact absurd e hne
      have a0 := (hbel.cell (p := ⟨g, o + k, none⟩) (by show g < _; omega)).trans (hc k hlt)
      have N1 := hideP (ownL_yes (s := s) hlt)
      have N2 := hideP (ownL_no (s := s) hlt)
      have hgl : g < wr.heap.size := by omega
      have hlen : (ownL (L.take k) s).length ≤ 1048576 := Nat.le_trans (ownL_len _ _) (by simp; omega)
      clear hc HA hbel hne hown
      obtain ⟨x, hx⟩ : ∃ x, L[k] = x := ⟨_, rfl⟩
      rw [hx] at a0 N1 N2
      clear hx
      generalize ownL (L.take k) s = O at *
      cases hsx : (slV x == s)
      · go_wp2_with (go_at_call 18; refine Calls.mono (iSlot_any _ _) ?_; rintro e w1 ⟨rfl, k1⟩; have K1 := hideP k1; have hz1 := k1.size; clear k1)
        go_roundw
        case rel => exact ⟨k + 1, by omega, by go_num, HBel.out.trans (K1.out.mono hbs), ao', cap', by rw [N2.out hsx], by rw [N2.out hsx]; exact HO.out.keep K1.out⟩
        case measure => simp [intOf]; omega
      · go_wp2_with (first | (go_at_call 18; refine Calls.mono (iSlot_any _ _) ?_; rintro e w1 ⟨rfl, k1⟩; have K1 := hideP k1; have hz1 := k1.size; clear k1) | (at_builtin; refine wpList_app (k := .i64) (T := 2) (S := 36) (bytes := 8) Try.underlying36 Try.infoI5 (by omega) rfl _ _ rfl w.heap.size ao' cap' O rfl ((HO.out.keep K1.out).alloc _) _ 1 [x] rfl (src_one .i64 w1 x 2) (by simp; omega) (by simp; omega) ?_; intro ao8 ca8 w8 O8 K8) | go_in)
        go_roundw
        case rel =>
          refine ⟨k + 1, by omega, by go_num, ?_, ao8, ca8, by rw [N1.out hsx]; simp, by rw [N1.out hsx]; exact O8⟩
          exact (HBel.out.trans (K1.out.mono hbs)).trans (Below.trans (by go_grown : Below w.heap.size w1 _) K8)
        case measure => simp [intOf]; omega
    · obtain rfl : k = L.length := by omega
      rw [List.take_length] at HO
      clear hbel hown
      rw [List.take_length]
      go_wp2
      go_returns
      exact ⟨ao', cap', rfl, HO.out, HBel.out⟩

end Go.Proofs.Ytflodklggkkmiaa

namespace Go.Proofs.Ytflodklggkkmiaa
open Go.RowKit Go.Maps
set_option linter.unusedVariables false

/-- What both ask of a stack and a slot. -/
def askS (C : List Wc) (s : Int) : Int := if stF C = 0 then (if 0 ≤ s ∧ s ≤ 3 then 0 else 3) else stF C
def offW (s : Int) (C : List Wc) : List Wc := C.filter fun c => !(slV c.i == s)
def slotP (C : List Wc) (s : Int) : List Wc := if askS C s = 0 then offW s C else []
def slotV (C : List Wc) (s : Int) : Int := if askS C s = 0 then (C.length : Int) - ((offW s C).length : Int) else 0
theorem askS_bad {C : List Wc} {s : Int} (h : ¬ stF C = 0) : askS C s = stF C := by unfold askS; rw [if_neg h]
theorem askS_out {C : List Wc} {s : Int} (h : stF C = 0) (hs : ¬ (0 ≤ s ∧ s ≤ 3)) : askS C s = 3 := by unfold askS; rw [if_pos h, if_neg hs]
theorem askS_yes {C : List Wc} {s : Int} (h : stF C = 0) (hs : 0 ≤ s ∧ s ≤ 3) : askS C s = 0 := by unfold askS; rw [if_pos h, if_pos hs]
theorem askS_ok {C : List Wc} {s : Int} (h : askS C s = 0) : stF C = 0 ∧ 0 ≤ s ∧ s ≤ 3 := by
  by_cases h1 : stF C = 0
  · by_cases h2 : 0 ≤ s ∧ s ≤ 3
    · exact ⟨h1, h2⟩
    · rw [askS_out h1 h2] at h; exact absurd h (by decide)
  · rw [askS_bad h1] at h; exact absurd h h1
theorem slotP_no {C : List Wc} {s : Int} (h : askS C s ≠ 0) : slotP C s = [] := by unfold slotP; rw [if_neg h]
theorem slotV_no {C : List Wc} {s : Int} (h : askS C s ≠ 0) : slotV C s = 0 := by unfold slotV; rw [if_neg h]
theorem slotP_yes {C : List Wc} {s : Int} (h : askS C s = 0) : slotP C s = offW s C := by unfold slotP; rw [if_pos h]
theorem slotV_yes {C : List Wc} {s : Int} (h : askS C s = 0) : slotV C s = (C.length : Int) - ((offW s C).length : Int) := by unfold slotV; rw [if_pos h]
theorem offW_small (s : Int) (C : List Wc) : (offW s C).length ≤ C.length ∧ cz (offW s C) ≤ cz C := by
  induction C with
  | nil => exact ⟨Nat.le_refl _, Nat.le_refl _⟩
  | cons c C ih =>
    unfold offW at ih ⊢
    rw [List.filter_cons]
    split
    · simp only [List.length_cons, cz]; omega
    · simp only [List.length_cons, cz]; omega
theorem small_slot {L : List Wn} (s : Int) (h : L.length + wzs L ≤ 1048576) : ∀ N : List Wn, N.map Wn.ct = slotP (L.map Wn.ct) s → N.length + wzs N ≤ 1048576 :=
  small_of (L := L) (by
    have := offW_small s (L.map Wn.ct)
    rw [cz_wzs, List.length_map] at this
    unfold slotP
    split
    · omega
    · simp [cz])
def offN (s : Int) (L : List Wn) : List Wn := L.filter fun v => !(slV v.i == s)
theorem offN_ct (s : Int) (L : List Wn) : (offN s L).map Wn.ct = offW s (L.map Wn.ct) := by
  unfold offN offW
  rw [List.filter_map]
  rfl
theorem keep_slot (s : Int) (L : List Wn) : L.filter (keepI (ownL (L.map Wn.i) s)) = offN s L := by
  unfold offN
  apply List.filter_congr
  intro v hv
  have hm : v.i ∈ L.map Wn.i := List.mem_map_of_mem hv
  unfold keepI hasI ownL
  cases e : (slV v.i == s)
  · have : ¬ v.i ∈ (L.map Wn.i).filter fun x => slV x == s := fun h => by
      have := (List.mem_filter.1 h).2
      rw [e] at this
      exact absurd this (by decide)
    rw [List.contains_eq_mem, decide_eq_false this]
  · have : v.i ∈ (L.map Wn.i).filter fun x => slV x == s := List.mem_filter.2 ⟨hm, e⟩
    rw [List.contains_eq_mem, decide_eq_true this]
theorem own_count (s : Int) (L : List Wn) : (ownL (L.map Wn.i) s).length + (offN s L).length = L.length := by
  induction L with
  | nil => rfl
  | cons v L ih =>
    unfold ownL offN at ih ⊢
    rw [List.map_cons, List.filter_cons, List.filter_cons]
    cases (slV v.i == s)
    · simp only [Bool.not_false, if_true, List.length_cons, Bool.false_eq_true, if_false]; omega
    · simp only [Bool.not_true, if_true, List.length_cons, Bool.false_eq_true, if_false]; omega

set_option maxHeartbeats 400000 in
theorem fos_any (lo hi : Nat) (so : Option Addr) (sc : Nat) (L : List Wn) (s : Int) (w : World) (hL : Ws w lo hi so L) (hs : hi ≤ w.heap.size) (hn : L.length + wzs L ≤ 1048576) :
    Calls Try.prog 35 #[.slice so L.length sc, .int .i64 s] w fun e w' => e = .returned (.int .i64 (askS (L.map Wn.ct) s)) ∧ Below w.heap.size w w' := by
  have SF := iStack_any lo hi so sc L w hL hs hn
  by_cases h : stF (L.map Wn.ct) = 0
  · rw [h] at SF
    have SF' := hideP SF
    by_cases h2 : 0 ≤ s ∧ s ≤ 3
    · rw [askS_yes h h2]
      have hd : decide (0 ≤ s ∧ s ≤ 3) = true := decide_eq_true h2
      clear SF hL h h2
      go_enter Try.func35, Try.ntmps35
      go_wp2_with fail
      refine Calls.mono SF'.out ?_
      rintro e w1 ⟨rfl, k1⟩
      have K1 := hideP k1
      clear k1
      go_wp2_with fail
      refine Calls.mono (isSlot_any s w1) ?_
      rintro e w2 ⟨rfl, hw⟩
      subst hw
      rw [hd]
      go_wp2
      go_returns
      exact ⟨rfl, K1.out⟩
    · rw [askS_out h h2]
      have hd : decide (0 ≤ s ∧ s ≤ 3) = false := decide_eq_false h2
      clear SF hL h h2
      go_enter Try.func35, Try.ntmps35
      go_wp2_with fail
      refine Calls.mono SF'.out ?_
      rintro e w1 ⟨rfl, k1⟩
      have K1 := hideP k1
      clear k1
      go_wp2_with fail
      refine Calls.mono (isSlot_any s w1) ?_
      rintro e w2 ⟨rfl, hw⟩
      subst hw
      rw [hd]
      go_wp2
      go_returns
      exact ⟨rfl, K1.out⟩
  · rw [askS_bad h]
    obtain ⟨F, hF⟩ : ∃ F, stF (L.map Wn.ct) = F := ⟨_, rfl⟩
    rw [hF] at SF h ⊢
    have hne : (F != 0) = true := by simpa using h
    have SF' := hideP SF
    clear SF hL h hF
    go_enter Try.func35, Try.ntmps35
    go_wp2_with fail
    refine Calls.mono SF'.out ?_
    rintro e w1 ⟨rfl, k1⟩
    have K1 := hideP k1
    clear k1
    go_wp2
    go_returns
    exact ⟨rfl, K1.out⟩

set_option maxHeartbeats 400000 in
theorem without_none (lo2 hi2 : Nat) (io : Option Addr) (ic : Nat) (I : List Int) (w : World) (hR : Row .i64 w lo2 hi2 io I) (hR2 : hi2 ≤ w.heap.size) (hI : I.length ≤ 1048576) :
    Calls Try.prog 44 #[.slice none 0 0, .slice io I.length ic] w fun e w' => e = .returned (.slice none 0 0) ∧ Below w.heap.size w w' := by
  have ka := kalC w (.cells #[.slice io I.length ic] 36)
  have B0 : Box1 (w.alloc (.cells #[.slice io I.length ic] 36)) w.heap.size lo2 hi2 io ic I := ⟨by simp, hR.keep ka hR2, by simp; omega⟩
  have DEL := del_none w.heap.size 0 0 lo2 hi2 io ic I none 0 [] _ B0 hI (.inl rfl) (Nat.zero_le _) (Nat.zero_le _) (fun v h => by simp at h)
  simp only [List.length_nil] at DEL
  have HD := hideP DEL
  have KA := hideP ka
  clear hR B0 ka DEL
  go_enter Try.func44, Try.ntmps44
  go_wp2_with fail
  refine Calls.mono HD.out ?_
  rintro e w1 ⟨rfl, k1⟩
  have K1 := hideP (KA.out.trans (k1.mono KA.out.size))
  clear k1 HD KA
  go_wp2
  go_returns
  exact ⟨rfl, K1.out⟩
/-- .. of panes of one's own. -/
theorem without_lin (base lo2 hi2 : Nat) (io : Option Addr) (ic : Nat) (I : List Int) (so : Option Addr) (sc : Nat) (M : List Wn) (w : World) (LN : LinV Wn.pals 60 w base so sc M) (hb : base ≤ w.heap.size) (hR : Row .i64 w lo2 hi2 io I) (h2 : hi2 ≤ base) (hI : I.length ≤ 1048576) (hn : M.length ≤ 1048576) :
    Calls Try.prog 44 #[.slice so M.length sc, .slice io I.length ic] w fun e w' => e = .returned (.slice so (M.filter (keepI I)).length sc) ∧ Pan w' base w'.heap.size so (M.filter (keepI I)) ∧ Below base w w' := by
  rcases LN.own.2 with ⟨hv, h0⟩ | ⟨g, cap, cur, hv, hg, _⟩
  · injection hv with hv1 hv2 hv3
    subst hv1 hv3
    have hM : M = [] := List.length_eq_zero_iff.1 h0
    subst hM
    refine (without_none lo2 hi2 io ic I w hR (by omega) hI).mono ?_
    rintro e w' ⟨rfl, k⟩
    exact ⟨rfl, ⟨(wq_none k).wide hb (Nat.le_refl _) (Nat.le_refl _), fun b h => by simp at h⟩, k.mono hb⟩
  · injection hv with hv1 hv2 hv3
    subst hv1 hv3
    obtain ⟨hbl, hlc, hcm, _⟩ := LN.own.blk
    have PN := LN.pan hb
    have hgl : g < w.heap.size := hbl.lt
    refine (without_any base w.heap.size lo2 hi2 g io ic I sc M M.length w hR (by omega) hI (.inl (by omega)) PN.q.sp hbl hlc (Nat.le_refl _) hgl rfl hn).mono ?_
    rintro e w' ⟨rfl, C⟩
    exact ⟨rfl, PN.cut hg C List.filter_sublist, C.far.below hg hb⟩
end Go.Proofs.Ytflodklggkkmiaa
