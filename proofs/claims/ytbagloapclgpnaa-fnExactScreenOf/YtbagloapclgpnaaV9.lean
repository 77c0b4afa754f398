/- A list of windows that came in, read as data: its windows. LabelsFault of both sides, and the law. -/
import Derived.Test.YtbagloapclgpnaaV7
import Derived.Test.YtbagloapclgpnaaV8
import Derived.Deep.Strs
import Derived.Lib.SmallJoins
import Derived.Test.YtbagloapclgpnaaV4
namespace Go.Proofs.Ytbagloapclgpnaa
open Go.ChangeShapes Go.WideShapes Go.ChangeAt Go.RowKit Go.Joins
set_option linter.unusedVariables false

theorem cellsLW : Try.prog.cellsOf 114 = 7 := by kernel_rfl
theorem cellsLRW : Try.prog.cellsOf 112 = 4 := by kernel_rfl
theorem cellsIW : Try.prog.cellsOf 2 = 1 := by kernel_rfl
theorem cellsBW : Try.prog.cellsOf 4 = 1 := by kernel_rfl
theorem cellsSW : Try.prog.cellsOf 26 = 1 := by kernel_rfl

instance wnInh : Inhabited Wn := ⟨⟨0, 0, 0, 0, 0, false, ⟨none, 0, 0, []⟩⟩⟩

set_option maxHeartbeats 1000000 in
theorem open_wins {H : Type} {enc : TypeId × Value → H} {w : World} {base : Nat} {spare : Nat → Bool} {held : Bool} {fuel : Nat} {cs : List Value} {x : DataW H × List MemPlace} (h : DataW.trod enc Try.prog w base spare held fuel 54 cs = some x) :
    ∃ (ao : Option Addr) (len cap : Nat) (L : List Wn), cs = [.slice ao len cap] ∧ L.length = len ∧ len ≤ maxLen ∧ Ws w 0 w.heap.size ao L ∧ ∀ r ∈ L, r.b.L.length ≤ maxLen := by
  rcases Go.Deep.open_slice Try.underlying54 h with ⟨rfl, _⟩ | ⟨a, len, cap, m, n, D, Pl, rfl, hb, hl, hm, hmm, rfl, hx⟩
  · exact ⟨none, 0, 0, [], rfl, rfl, Nat.zero_le _, .inl rfl, fun r hr => by simp at hr⟩
  · have hlm : len ≤ m := by rw [hmm]; split <;> omega
    have each : ∀ i, i < len → ∃ r : Wn, (∀ j, j < 7 → w.cell? (a.add (i * 7 + j)) = (Wn.vals r)[j]?) ∧ Row .i64 w 0 w.heap.size r.b.ao r.b.L ∧ r.b.L.length ≤ maxLen := by
      intro i hi
      obtain ⟨cs', h1, h2⟩ := hx i (by omega)
      rw [cellsLW] at h1
      obtain ⟨_, hlen, hcell⟩ := World.cells?_some h1
      obtain ⟨y0, y1, y2, y3, n', _, _, g0, g1, g2, g3⟩ := trod_struct4 Try.underlying114 h2
      simp only [cellsIW, cellsLRW, cellsBW, cellsSW] at g0 g1 g2 g3
      match cs', hlen with
      | [v0, v1, v2, v3, v4, v5, v6], _ =>
        simp at g0 g1 g2 g3
        obtain ⟨b0, e0, _, _⟩ := DataW.trod_int Try.underlying2 g0
        obtain ⟨z0, z1, z2, z3, n'', _, _, q0, q1, q2, q3⟩ := trod_struct4 Try.underlying112 g1
        simp only [cellsIW] at q0 q1 q2 q3
        simp at q0 q1 q2 q3
        obtain ⟨b1, e1, _, _⟩ := DataW.trod_int Try.underlying2 q0
        obtain ⟨b2, e2, _, _⟩ := DataW.trod_int Try.underlying2 q1
        obtain ⟨b3, e3, _, _⟩ := DataW.trod_int Try.underlying2 q2
        obtain ⟨b4, e4, _, _⟩ := DataW.trod_int Try.underlying2 q3
        obtain ⟨b5, e5, _⟩ := DataW.trod_bool Try.underlying4 g2
        obtain ⟨ao, al, ac, A, e6, la, ma, ra, _⟩ := open_nums Try.underlying26 Try.underlying2 (by kernel_rfl) g3
        simp at e0 e1 e2 e3 e4 e5 e6
        subst e0 e1 e2 e3 e4 e5 e6 la
        refine ⟨⟨b0, b1, b2, b3, b4, b5, ⟨ao, ac, 0, A⟩⟩, fun j hj => ?_, ra, ma⟩
        have kj := hcell j (by omega)
        rw [Go.Deep.add_add] at kj
        rw [kj]
        match j, hj with
        | 0, _ | 1, _ | 2, _ | 3, _ | 4, _ | 5, _ | 6, _ => rfl
    obtain ⟨f, hf⟩ := Go.Deep.choose_lt each
    refine ⟨some a, len, cap, (List.range len).map f, rfl, by simp, by omega, ?_, fun r hr => ?_⟩
    · by_cases h0 : len = 0
      · subst h0; exact .inl rfl
      · obtain ⟨g, o, sp⟩ := a
        have hc := (hf 0 (by omega)).1 0 (by omega)
        have hs : sp = none := by simpa [Addr.add] using World.cell?_spot hc
        subst hs
        have hadd : ∀ j, (⟨g, o, none⟩ : Addr).add j = ⟨g, o + j, none⟩ := fun j => by unfold Addr.add; split <;> simp_all
        refine .inr ⟨g, o, rfl, Nat.zero_le _, ?_, fun i hi => ?_⟩
        · rw [hadd] at hc; exact World.block_lt_of_cell? w _ hc
        · have hi' : i < len := by simpa using hi
          obtain ⟨q0, q3, _⟩ := hf i hi'
          simp only [List.getElem_map, List.getElem_range]
          refine ⟨fun j hj => ?_, q3⟩
          have := q0 j hj
          rw [hadd, ← Nat.add_assoc] at this
          exact this
    · obtain ⟨i, hi, rfl⟩ := List.mem_map.1 hr
      have := hf i (by simpa using hi)
      exact this.2.2
end Go.Proofs.Ytbagloapclgpnaa

namespace Go.Proofs.Ytbagloapclgpnaa
open Go.RowKit
set_option linter.unusedVariables false

def laF (L : List La) : Int := if L.length = 4 then fltOf (L.any La.flt) else 2
theorem laF_four {L : List La} (h : L.length = 4) : laF L = fltOf (L.any La.flt) := by unfold laF; rw [if_pos h]
theorem laF_other {L : List La} (h : ¬ L.length = 4) : laF L = 2 := by unfold laF; rw [if_neg h]
theorem laA_hit {L : List La} {k : Nat} (h : k < L.length) (hf : fltB L[k].l L[k].p = true) : L.any La.flt = true := List.any_eq_true.2 ⟨L[k], List.getElem_mem _, hf⟩
theorem laA_none {L : List La} (h : ∀ k (hk : k < L.length), fltB L[k].l L[k].p = false) : L.any La.flt = false := by
  refine List.any_eq_false.2 fun r hr => ?_
  obtain ⟨k, hk, rfl⟩ := List.mem_iff_getElem.1 hr
  simpa [La.flt] using h k hk
theorem laF_ok {L : List La} (h : laF L = 0) : L.length = 4 ∧ ∀ k (hk : k < L.length), fltB L[k].l L[k].p = false := by
  unfold laF at h
  split at h
  case isTrue h4 =>
    refine ⟨h4, fun k hk => ?_⟩
    cases e : L.any La.flt
    · have := List.any_eq_false.1 e L[k] (List.getElem_mem _)
      simpa [La.flt] using this
    · rw [e] at h; simp [fltOf] at h
  case isFalse => omega

set_option maxHeartbeats 1000000 in
theorem sLabels_any (lo hi : Nat) (ao : Option Addr) (ca : Nat) (L : List La) (w : World) (ha : Las w lo hi ao L) (h1 : hi ≤ w.heap.size) (hl : L.length ≤ 1048576) :
    Calls Try.prog 61 #[.slice ao L.length ca] w fun e w' => e = .returned (.int .i64 (laF L)) ∧ Below w.heap.size w w' := by
  have hl' : (L.length : Int) ≤ 1048576 := by omega
  have HA := hideP ha
  clear ha
  by_cases h4 : L.length = 4
  · have HM := hideP (laF_four h4)
    have h4' : ((L.length : Int) != 4) = false := by simp; omega
    clear h4
    go_enter Try.func61, Try.ntmps61
    go_wp2
    go_loopw [3] (fun i wr => ∃ k : Nat, k ≤ L.length ∧ i = .int .i64 k ∧ Below w.heap.size w wr ∧ Hid (∀ j (hj : j < L.length), j < k → fltB L[j].l L[j].p = false)) (fun i _ => L.length - (intOf i).toNat)
    case atStart => exact ⟨0, Nat.zero_le _, rfl, Below.refl _ _, fun j _ hj => absurd hj (Nat.not_lt_zero _)⟩
    case round =>
      obtain ⟨k, hk, rfl, hbel, HF⟩ := hrel
      have hz := hbel.size
      by_cases hlt : k < L.length
      · have hlt' : (k : Int) < (L.length : Int) := by omega
        have hne : L ≠ [] := fun e => by rw [e] at hlt; simp at hlt
        rcases HA.out with e | ⟨g, o, rfl, _, hg, hc⟩
        · exact absurd e hne
        obtain ⟨a0, a1⟩ := (hc k hlt).keep hbel (by omega)
        have hgl : g < wr.heap.size := by omega
        have HBel := hideP hbel
        have hhit := hideP (laA_hit hlt)
        have hon := hideP (show ∀ e : fltB L[k].l L[k].p = false, ∀ j (hj : j < L.length), j < k + 1 → fltB L[j].l L[j].p = false from fun e j hj hjk => by
          by_cases h : j < k
          · exact HF.out j hj h
          · obtain rfl : j = k := by omega
            exact e)
        clear hc hbel HA HF
        generalize L[k].l = x at *
        generalize L[k].p = y at *
        cases hf : fltB x y
        · have hon' := hideP (hon.out hf)
          clear hon hhit
          go_wp2_with (go_at_call 63; refine Calls.mono (sf_ok _ _ _ hf) ?_; rintro e w1 ⟨rfl, k1⟩; have hz1 := k1.size)
          go_roundw
          case rel => exact ⟨k + 1, by omega, by go_num, HBel.out.trans (k1.mono HBel.out.size), hon'.out⟩
          case measure => simp [intOf]; omega
        · have hh' := hideP (hhit.out hf)
          clear hon hhit
          go_wp2_with (go_at_call 63; refine Calls.mono (sf_no _ _ _ hf) ?_; rintro e w1 ⟨rfl, k1⟩; have hz1 := k1.size)
          go_returns
          exact ⟨by rw [HM.out, hh'.out]; rfl, HBel.out.trans (k1.mono HBel.out.size)⟩
      · have hf := hideP (laA_none fun j hj => HF.out j hj (by omega))
        have HBel := hideP hbel
        clear hbel HF
        go_wp2
        go_returns
        exact ⟨by rw [HM.out, hf.out]; rfl, HBel.out⟩
  · have HM := hideP (laF_other h4)
    have h4' : ¬ (L.length : Int) = 4 := by omega
    go_enter Try.func61, Try.ntmps61
    go_wp2
    go_returns
    exact ⟨by rw [HM.out]; rfl, Below.refl _ _⟩

set_option maxHeartbeats 1000000 in
theorem iLabels_any (lo hi : Nat) (ao : Option Addr) (ca : Nat) (L : List La) (w : World) (ha : Las w lo hi ao L) (h1 : hi ≤ w.heap.size) (hl : L.length ≤ 1048576) :
    Calls Try.prog 14 #[.slice ao L.length ca] w fun e w' => e = .returned (.int .i64 (laF L)) ∧ Below w.heap.size w w' := by
  have hl' : (L.length : Int) ≤ 1048576 := by omega
  have HA := hideP ha
  clear ha
  by_cases h4 : L.length = 4
  · have HM := hideP (laF_four h4)
    have h4' : ((L.length : Int) != 4) = false := by simp; omega
    clear h4
    go_enter Try.func14, Try.ntmps14
    go_wp2
    go_loopw [11] (fun i wr => ∃ k : Nat, k ≤ L.length ∧ i = .int .i64 k ∧ Below w.heap.size w wr ∧ Hid (∀ j (hj : j < L.length), j < k → fltB L[j].l L[j].p = false)) (fun i _ => L.length - (intOf i).toNat)
    case atStart => exact ⟨0, Nat.zero_le _, rfl, Below.refl _ _, fun j _ hj => absurd hj (Nat.not_lt_zero _)⟩
    case round =>
      obtain ⟨k, hk, rfl, hbel, HF⟩ := hrel
      have hz := hbel.size
      by_cases hlt : k < L.length
      · have hlt' : (k : Int) < (L.length : Int) := by omega
        have hne : L ≠ [] := fun e => by rw [e] at hlt; simp at hlt
        rcases HA.out with e | ⟨g, o, rfl, _, hg, hc⟩
        · exact absurd e hne
        obtain ⟨a0, a1⟩ := (hc k hlt).keep hbel (by omega)
        have hgl : g < wr.heap.size := by omega
        have HBel := hideP hbel
        have hhit := hideP (laA_hit hlt)
        have hon := hideP (show ∀ e : fltB L[k].l L[k].p = false, ∀ j (hj : j < L.length), j < k + 1 → fltB L[j].l L[j].p = false from fun e j hj hjk => by
          by_cases h : j < k
          · exact HF.out j hj h
          · obtain rfl : j = k := by omega
            exact e)
        clear hc hbel HA HF
        generalize L[k].l = x at *
        generalize L[k].p = y at *
        cases hf : fltB x y
        · have hon' := hideP (hon.out hf)
          clear hon hhit
          go_wp2_with (first | (go_at_call 60; refine Calls.mono (lf_ok _ _ _ hf) ?_; (all_goals try (first | (with_reducible assumption) | omega)); rintro e w1 ⟨rfl, k1⟩; (try replace k1 := kept_join (by assumption) k1); have hc1 := Kept.cell k1; have hf1 := Kept.frozen k1; have hz1 := k1.size; (try simp only [World.size_alloc] at hz1); (try simp only [World.size_setCell] at hz1); (try simp only [World.size_drew] at hz1); (try (first | have hs1 := sz12 hz1 | have hs1 := sz11 hz1 | have hs1 := sz10 hz1 | have hs1 := sz9 hz1 | have hs1 := sz8 hz1 | have hs1 := sz7 hz1 | have hs1 := sz6 hz1 | have hs1 := sz5 hz1 | have hs1 := sz4 hz1 | have hs1 := sz3 hz1 | have hs1 := sz2 hz1 | have hs1 := sz1 hz1))))
          go_roundw
          case rel => exact ⟨k + 1, by omega, by go_num, by refine HBel.out.trans ?_; repeat' (first | (with_reducible exact Below.refl _ _) | (with_reducible refine kept_below ?_ (by assumption) ?_) | (with_reducible refine Below.alloc ?_ ?_ _) | (with_reducible refine Below.drew ?_) | (with_reducible refine Below.setCell ?_ ?_ _) | go_size), hon'.out⟩
          case measure => simp [intOf]; omega
        · have hh' := hideP (hhit.out hf)
          clear hon hhit
          go_wp2_with (first | (go_at_call 60; refine Calls.mono (lf_no _ _ _ hf) ?_; (all_goals try (first | (with_reducible assumption) | omega)); rintro e w1 ⟨rfl, k1⟩; (try replace k1 := kept_join (by assumption) k1); have hc1 := Kept.cell k1; have hf1 := Kept.frozen k1; have hz1 := k1.size; (try simp only [World.size_alloc] at hz1); (try simp only [World.size_setCell] at hz1); (try simp only [World.size_drew] at hz1); (try (first | have hs1 := sz12 hz1 | have hs1 := sz11 hz1 | have hs1 := sz10 hz1 | have hs1 := sz9 hz1 | have hs1 := sz8 hz1 | have hs1 := sz7 hz1 | have hs1 := sz6 hz1 | have hs1 := sz5 hz1 | have hs1 := sz4 hz1 | have hs1 := sz3 hz1 | have hs1 := sz2 hz1 | have hs1 := sz1 hz1))))
          go_returns
          refine ⟨by rw [HM.out, hh'.out]; rfl, HBel.out.trans ?_⟩
          repeat' (first | (with_reducible exact Below.refl _ _) | (with_reducible refine kept_below ?_ (by assumption) ?_) | (with_reducible refine Below.alloc ?_ ?_ _) | (with_reducible refine Below.drew ?_) | (with_reducible refine Below.setCell ?_ ?_ _) | go_size)
      · have hf := hideP (laA_none fun j hj => HF.out j hj (by omega))
        have HBel := hideP hbel
        clear hbel HF
        go_wp2
        go_returns
        exact ⟨by rw [HM.out, hf.out]; rfl, HBel.out⟩
  · have HM := hideP (laF_other h4)
    have h4' : ¬ (L.length : Int) = 4 := by omega
    go_enter Try.func14, Try.ntmps14
    go_wp2
    go_returns
    exact ⟨by rw [HM.out]; rfl, Below.refl _ _⟩

set_option maxHeartbeats 400000 in
theorem sLF_any (lo hi : Nat) (ao : Option Addr) (ca : Nat) (L : List La) (w : World) (ha : Las w lo hi ao L) (h1 : hi ≤ w.heap.size) (hl : L.length ≤ 1048576) :
    Calls Try.prog 15 #[.slice ao L.length ca] w fun e w' => e = .returned (.int .i64 (laF L)) ∧ Below w.heap.size w w' := by
  have HA := hideP ha
  clear ha
  go_enter Try.func15, Try.ntmps15
  go_wp2_with fail
  refine Calls.mono (sLabels_any lo hi ao ca L w HA.out h1 hl) ?_
  rintro e w1 ⟨rfl, k1⟩
  go_wp2
  go_returns
  exact ⟨rfl, k1⟩
end Go.Proofs.Ytbagloapclgpnaa
