/- TopAt by the specification. Lists of rectangles: whether two are the same; faults of lists; marks. Lists of rectangles: faults of lists; marks into a list, and whether they are held. -/
import Derived.Test.YtbagloapclgpnaaU30
import Derived.Test.YtbagloapclgpnaaU13
import Derived.Test.YtbagloapclgpnaaU2
namespace Go.Proofs.Ytbagloapclgpnaa
open Go.RowKit Go.Maps
set_option linter.unusedVariables false

def hitC (p q : Int) (c : Wc) : Bool := c.m && inB c.x c.y c.w c.h p q
/-- The id of the topmost one that is hit. -/
def topR (p q : Int) : List Wc → Option Int
  | [] => none
  | c :: C => match topR p q C with
    | some i => some i
    | none => if hitC p q c then some c.i else none
theorem topR_none {p q : Int} {L : List Wn} (h : ∀ v ∈ L, hitW p q v = false) : topR p q (L.map Wn.ct) = none := by
  induction L with
  | nil => rfl
  | cons v L ih =>
    have h1 : hitC p q v.ct = false := h v (by simp)
    simp only [List.map_cons, topR, ih fun u hu => h u (by simp [hu]), h1]
    rfl
theorem topR_some {p q : Int} {L A B : List Wn} {r : Wn} (h : Top p q L A r B) : topR p q (L.map Wn.ct) = some r.i := by
  rw [h.eq]
  have hy := h.yes
  have hn := topR_none h.no
  clear h
  induction A with
  | nil =>
    have h1 : hitC p q r.ct = true := hy
    simp only [List.nil_append, List.map_cons, topR, hn, h1, if_true]
    rfl
  | cons v A ih => simp only [List.cons_append, List.map_cons, topR, ih]
def topZ (C : List Wc) (p q : Int) : Int := if stF C = 0 then (if (topR p q C).isSome then 0 else 4) else stF C
def topV (C : List Wc) (p q : Int) : Int := if stF C = 0 then (topR p q C).getD 0 else 0
theorem top_bad {C : List Wc} {p q : Int} (h : ¬ stF C = 0) : topZ C p q = stF C ∧ topV C p q = 0 := by unfold topZ topV; rw [if_neg h, if_neg h]; exact ⟨rfl, rfl⟩
theorem top_none {L : List Wn} {p q : Int} (h : stF (L.map Wn.ct) = 0) (hn : ∀ v ∈ L, hitW p q v = false) : topZ (L.map Wn.ct) p q = 4 ∧ topV (L.map Wn.ct) p q = 0 := by
  unfold topZ topV; rw [if_pos h, if_pos h, topR_none hn]; exact ⟨rfl, rfl⟩
theorem top_some {L A B : List Wn} {r : Wn} {p q : Int} (h : stF (L.map Wn.ct) = 0) (ht : Top p q L A r B) : topZ (L.map Wn.ct) p q = 0 ∧ topV (L.map Wn.ct) p q = r.i := by
  unfold topZ topV; rw [if_pos h, if_pos h, topR_some ht]; exact ⟨rfl, rfl⟩
/-- No window of a right stack has a wrong rectangle. -/
theorem st_rect {L : List Wn} (h : stF (L.map Wn.ct) = 0) : ∀ v ∈ L, rfB v.x v.y v.w v.h = false := by
  intro v hv
  have h1 := wsF_mem (stF_ok h).2 v.ct (List.mem_map_of_mem hv)
  exact (wrB_no (winF_no h1).1).2.2.2.2

end Go.Proofs.Ytbagloapclgpnaa

namespace Go.Proofs.Ytbagloapclgpnaa
open Go.RowKit
set_option linter.unusedVariables false

set_option maxHeartbeats 400000 in
theorem eqRect_same (x y ww hh : Int) (w : World) :
    Calls Try.prog 103 #[.agg #[.int .i64 x, .int .i64 y, .int .i64 ww, .int .i64 hh], .agg #[.int .i64 x, .int .i64 y, .int .i64 ww, .int .i64 hh]] w fun e w' => e = .returned (.bool true) ∧ Below w.heap.size w w' := by
  go_enter Try.func103, Try.ntmps103
  go_wp2
  go_returns
  exact ⟨rfl, by go_grown⟩

end Go.Proofs.Ytbagloapclgpnaa

namespace Go.Proofs.Ytbagloapclgpnaa
open Go.RowKit
set_option linter.unusedVariables false

def fltL (L : List Rc) : Bool := L.any Rc.flt
theorem fltL_hit {L : List Rc} {k : Nat} (h : k < L.length) (hf : rfB L[k].x L[k].y L[k].w L[k].h = true) : fltL L = true := by
  unfold fltL
  exact List.any_eq_true.2 ⟨L[k], List.getElem_mem _, hf⟩
theorem fltL_none {L : List Rc} (h : ∀ k (hk : k < L.length), rfB L[k].x L[k].y L[k].w L[k].h = false) : fltL L = false := by
  unfold fltL
  refine List.any_eq_false.2 fun r hr => ?_
  obtain ⟨k, hk, rfl⟩ := List.mem_iff_getElem.1 hr
  simpa [Rc.flt] using h k hk
theorem fltL_at {L : List Rc} (h : fltL L = false) (k : Nat) (hk : k < L.length) : rfB L[k].x L[k].y L[k].w L[k].h = false := by
  have := (List.any_eq_false.1 h) L[k] (List.getElem_mem _)
  simpa [Rc.flt] using this

set_option maxHeartbeats 1000000 in
theorem fo_any (lo hi : Nat) (ao : Option Addr) (ca : Nat) (L : List Rc) (w : World) (ha : Lst w lo hi ao L) (h1 : hi ≤ w.heap.size) (hl : L.length ≤ 1048576) :
    Calls Try.prog 105 #[.slice ao L.length ca] w fun e w' => e = .returned (.int .i64 (rfOf (fltL L))) ∧ Below w.heap.size w w' := by
  have hl' : (L.length : Int) ≤ 1048576 := by omega
  have HA := hideP ha
  clear ha
  go_enter Try.func105, Try.ntmps105
  go_wp2
  go_loopw [8] (fun i wr => ∃ k : Nat, k ≤ L.length ∧ i = .int .i64 k ∧ Below w.heap.size w wr ∧ Hid (∀ j (hj : j < L.length), j < k → rfB L[j].x L[j].y L[j].w L[j].h = false)) (fun i _ => L.length - (intOf i).toNat)
  case atStart => exact ⟨0, Nat.zero_le _, rfl, Below.refl _ _, fun j _ hj => absurd hj (Nat.not_lt_zero _)⟩
  case round =>
    obtain ⟨k, hk, rfl, hbel, HF⟩ := hrel
    have hz := hbel.size
    by_cases hlt : k < L.length
    · have hlt' : (k : Int) < (L.length : Int) := by omega
      have hne : L ≠ [] := fun e => by rw [e] at hlt; simp at hlt
      rcases HA.out with e | ⟨g, o, rfl, _, hg, hc⟩
      · exact absurd e hne
      obtain ⟨a0, a1, a2, a3⟩ := (hc k hlt).keep hbel (by omega)
      have hgl : g < wr.heap.size := by omega
      have HBel := hideP hbel
      have hhit := hideP (fltL_hit hlt)
      have hon := hideP (show ∀ e : rfB L[k].x L[k].y L[k].w L[k].h = false, ∀ j (hj : j < L.length), j < k + 1 → rfB L[j].x L[j].y L[j].w L[j].h = false from fun e j hj hjk => by
        by_cases h : j < k
        · exact HF.out j hj h
        · obtain rfl : j = k := by omega
          exact e)
      clear hc hbel HA HF
      generalize L[k].x = x at *
      generalize L[k].y = y at *
      generalize L[k].w = ww at *
      generalize L[k].h = hh at *
      cases hf : rfB x y ww hh
      · have hon' := hideP (hon.out hf)
        clear hon hhit
        go_wp2_with (first | (go_at_call 99; refine Calls.mono (rf_ok _ _ _ _ _ ?_) ?_; (all_goals try (first | (with_reducible assumption) | omega)); rintro e w1 ⟨rfl, k1⟩; (try replace k1 := kept_join (by assumption) k1); have hc1 := Kept.cell k1; have hf1 := Kept.frozen k1; have hz1 := k1.size; (try simp only [World.size_alloc] at hz1); (try simp only [World.size_setCell] at hz1); (try simp only [World.size_drew] at hz1); (try (first | have hs1 := sz12 hz1 | have hs1 := sz11 hz1 | have hs1 := sz10 hz1 | have hs1 := sz9 hz1 | have hs1 := sz8 hz1 | have hs1 := sz7 hz1 | have hs1 := sz6 hz1 | have hs1 := sz5 hz1 | have hs1 := sz4 hz1 | have hs1 := sz3 hz1 | have hs1 := sz2 hz1 | have hs1 := sz1 hz1))))
        go_roundw
        case rel => exact ⟨k + 1, by omega, by go_num, by refine HBel.out.trans ?_; repeat' (first | (with_reducible exact Below.refl _ _) | (with_reducible refine kept_below ?_ (by assumption) ?_) | (with_reducible refine Below.alloc ?_ ?_ _) | (with_reducible refine Below.drew ?_) | (with_reducible refine Below.setCell ?_ ?_ _) | go_size), hon'.out⟩
        case measure => simp [intOf]; omega
      · have hh' := hideP (hhit.out hf)
        clear hon hhit
        go_wp2_with (first | (go_at_call 99; refine Calls.mono (rf_no _ _ _ _ _ ?_) ?_; (all_goals try (first | (with_reducible assumption) | omega)); rintro e w1 ⟨rfl, k1⟩; (try replace k1 := kept_join (by assumption) k1); have hc1 := Kept.cell k1; have hf1 := Kept.frozen k1; have hz1 := k1.size; (try simp only [World.size_alloc] at hz1); (try simp only [World.size_setCell] at hz1); (try simp only [World.size_drew] at hz1); (try (first | have hs1 := sz12 hz1 | have hs1 := sz11 hz1 | have hs1 := sz10 hz1 | have hs1 := sz9 hz1 | have hs1 := sz8 hz1 | have hs1 := sz7 hz1 | have hs1 := sz6 hz1 | have hs1 := sz5 hz1 | have hs1 := sz4 hz1 | have hs1 := sz3 hz1 | have hs1 := sz2 hz1 | have hs1 := sz1 hz1))))
        go_returns
        refine ⟨by rw [hh'.out]; rfl, HBel.out.trans ?_⟩
        repeat' (first | (with_reducible exact Below.refl _ _) | (with_reducible refine kept_below ?_ (by assumption) ?_) | (with_reducible refine Below.alloc ?_ ?_ _) | (with_reducible refine Below.drew ?_) | (with_reducible refine Below.setCell ?_ ?_ _) | go_size)
    · have hf := hideP (fltL_none fun j hj => HF.out j hj (by omega))
      have HBel := hideP hbel
      clear hbel HF
      go_wp2
      go_returns
      exact ⟨by rw [hf.out]; rfl, HBel.out⟩

end Go.Proofs.Ytbagloapclgpnaa
