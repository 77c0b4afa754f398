/- Lists of rectangles: faults of lists; marks into a list, and whether they are held. -/
import Derived.Test.YtbagloapclgpnaaLst2
namespace Go.Proofs.Ytbagloapclgpnaa
open Go.RowKit
set_option linter.unusedVariables false

def fltL (L : List Rc) : Bool := L.any Rc.flt
theorem fltL_hit {L : List Rc} {k : Nat} (h : k < L.length) (hf : rfB L[k].x L[k].y L[k].w L[k].h = true) : fltL L = true := by
  unfold fltL
  exact List.any_eq_true.2 ⟨L[k], List.getElem_mem _, hf⟩
theorem fltL_none {L : List Rc} (h : ∀ k (hk : k < L.length), rfB L[k].x L[k].y L[k].w L[k].h = false) : fltL L = false := by
  unfold fltL
  refine List.any_eq_false.2 fun r hr => ?_
  obtain ⟨k, hk, rfl⟩ := List.mem_iff_getElem.1 hr
  simpa [Rc.flt] using h k hk
theorem fltL_at {L : List Rc} (h : fltL L = false) (k : Nat) (hk : k < L.length) : rfB L[k].x L[k].y L[k].w L[k].h = false := by
  have := (List.any_eq_false.1 h) L[k] (List.getElem_mem _)
  simpa [Rc.flt] using this

set_option maxHeartbeats 1000000 in
theorem fo_any (lo hi : Nat) (ao : Option Addr) (ca : Nat) (L : List Rc) (w : World) (ha : Lst w lo hi ao L) (h1 : hi ≤ w.heap.size) (hl : L.length ≤ 1048576) :
    Calls Try.prog 105 #[.slice ao L.length ca] w fun e w' => e = .returned (.int .i64 (rfOf (fltL L))) ∧ Below w.heap.size w w' := by
  have hl' : (L.length : Int) ≤ 1048576 := by omega
  have HA := hideP ha
  clear ha
  go_enter Try.func105, Try.ntmps105
  go_wp2
  go_loopw [8] (fun i wr => ∃ k : Nat, k ≤ L.length ∧ i = .int .i64 k ∧ Below w.heap.size w wr ∧ Hid (∀ j (hj : j < L.length), j < k → rfB L[j].x L[j].y L[j].w L[j].h = false)) (fun i _ => L.length - (intOf i).toNat)
  case atStart => exact ⟨0, Nat.zero_le _, rfl, Below.refl _ _, fun j _ hj => absurd hj (Nat.not_lt_zero _)⟩
  case round =>
    obtain ⟨k, hk, rfl, hbel, HF⟩ := hrel
    have hz := hbel.size
    by_cases hlt : k < L.length
    · have hlt' : (k : Int) < (L.length : Int) := by omega
      have hne : L ≠ [] := fun e => by rw [e] at hlt; simp at hlt
      rcases HA.out with e | ⟨g, o, rfl, _, hg, hc⟩
      · exact absurd e hne
      obtain ⟨a0, a1, a2, a3⟩ := (hc k hlt).keep hbel (by omega)
      have hgl : g < wr.heap.size := by omega
      have HBel := hideP hbel
      have hhit := hideP (fltL_hit hlt)
      have hon := hideP (show ∀ e : rfB L[k].x L[k].y L[k].w L[k].h = false, ∀ j (hj : j < L.length), j < k + 1 → rfB L[j].x L[j].y L[j].w L[j].h = false from fun e j hj hjk => by
        by_cases h : j < k
        · exact HF.out j hj h
        · obtain rfl : j = k := by omega
          exact e)
      clear hc hbel HA HF
      generalize L[k].x = x at *
      generalize L[k].y = y at *
      generalize L[k].w = ww at *
      generalize L[k].h = hh at *
      cases hf : rfB x y ww hh
      · have hon' := hideP (hon.out hf)
        clear hon hhit
        go_wp2_with (first | (go_at_call 99; refine Calls.mono (rf_ok _ _ _ _ _ ?_) ?_; (all_goals try (first | (with_reducible assumption) | omega)); rintro e w1 ⟨rfl, k1⟩; (try replace k1 := kept_join (by assumption) k1); have hc1 := Kept.cell k1; have hf1 := Kept.frozen k1; have hz1 := k1.size; (try simp only [World.size_alloc] at hz1); (try simp only [World.size_setCell] at hz1); (try simp only [World.size_drew] at hz1); (try (first | have hs1 := sz12 hz1 | have hs1 := sz11 hz1 | have hs1 := sz10 hz1 | have hs1 := sz9 hz1 | have hs1 := sz8 hz1 | have hs1 := sz7 hz1 | have hs1 := sz6 hz1 | have hs1 := sz5 hz1 | have hs1 := sz4 hz1 | have hs1 := sz3 hz1 | have hs1 := sz2 hz1 | have hs1 := sz1 hz1))))
        go_roundw
        case rel => exact ⟨k + 1, by omega, by go_num, by refine HBel.out.trans ?_; repeat' (first | (with_reducible exact Below.refl _ _) | (with_reducible refine kept_below ?_ (by assumption) ?_) | (with_reducible refine Below.alloc ?_ ?_ _) | (with_reducible refine Below.drew ?_) | (with_reducible refine Below.setCell ?_ ?_ _) | go_size), hon'.out⟩
        case measure => simp [intOf]; omega
      · have hh' := hideP (hhit.out hf)
        clear hon hhit
        go_wp2_with (first | (go_at_call 99; refine Calls.mono (rf_no _ _ _ _ _ ?_) ?_; (all_goals try (first | (with_reducible assumption) | omega)); rintro e w1 ⟨rfl, k1⟩; (try replace k1 := kept_join (by assumption) k1); have hc1 := Kept.cell k1; have hf1 := Kept.frozen k1; have hz1 := k1.size; (try simp only [World.size_alloc] at hz1); (try simp only [World.size_setCell] at hz1); (try simp only [World.size_drew] at hz1); (try (first | have hs1 := sz12 hz1 | have hs1 := sz11 hz1 | have hs1 := sz10 hz1 | have hs1 := sz9 hz1 | have hs1 := sz8 hz1 | have hs1 := sz7 hz1 | have hs1 := sz6 hz1 | have hs1 := sz5 hz1 | have hs1 := sz4 hz1 | have hs1 := sz3 hz1 | have hs1 := sz2 hz1 | have hs1 := sz1 hz1))))
        go_returns
        refine ⟨by rw [hh'.out]; rfl, HBel.out.trans ?_⟩
        repeat' (first | (with_reducible exact Below.refl _ _) | (with_reducible refine kept_below ?_ (by assumption) ?_) | (with_reducible refine Below.alloc ?_ ?_ _) | (with_reducible refine Below.drew ?_) | (with_reducible refine Below.setCell ?_ ?_ _) | go_size)
    · have hf := hideP (fltL_none fun j hj => HF.out j hj (by omega))
      have HBel := hideP hbel
      clear hbel HF
      go_wp2
      go_returns
      exact ⟨by rw [hf.out]; rfl, HBel.out⟩

end Go.Proofs.Ytbagloapclgpnaa
