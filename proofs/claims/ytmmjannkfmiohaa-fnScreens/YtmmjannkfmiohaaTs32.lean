/- LabelsFault of both sides, and the law. BannerOf of both sides, and the law. Painting: what the cells are when some of them are painted anew. Places of points: whether a window has them, and where they lie. -/
import Derived.Test.YtmmjannkfmiohaaTs3
import Derived.Test.YtmmjannkfmiohaaTs2
import Derived.Test.YtmmjannkfmiohaaTs14
import Derived.Test.YtmmjannkfmiohaaTs9
namespace Go.Proofs.Ytmmjannkfmiohaa
open Go.RowKit
set_option linter.unusedVariables false

def laF (L : List La) : Int := if L.length = 4 then fltOf (L.any La.flt) else 2
theorem laF_four {L : List La} (h : L.length = 4) : laF L = fltOf (L.any La.flt) := by unfold laF; rw [if_pos h]
theorem laF_other {L : List La} (h : ¬ L.length = 4) : laF L = 2 := by unfold laF; rw [if_neg h]
theorem laA_hit {L : List La} {k : Nat} (h : k < L.length) (hf : fltB L[k].l L[k].p = true) : L.any La.flt = true := List.any_eq_true.2 ⟨L[k], List.getElem_mem _, hf⟩
theorem laA_none {L : List La} (h : ∀ k (hk : k < L.length), fltB L[k].l L[k].p = false) : L.any La.flt = false := by
  refine List.any_eq_false.2 fun r hr => ?_
  obtain ⟨k, hk, rfl⟩ := List.mem_iff_getElem.1 hr
  simpa [La.flt] using h k hk
theorem laF_ok {L : List La} (h : laF L = 0) : L.length = 4 ∧ ∀ k (hk : k < L.length), fltB L[k].l L[k].p = false := by
  unfold laF at h
  split at h
  case isTrue h4 =>
    refine ⟨h4, fun k hk => ?_⟩
    cases e : L.any La.flt
    · have := List.any_eq_false.1 e L[k] (List.getElem_mem _)
      simpa [La.flt] using this
    · rw [e] at h; simp [fltOf] at h
  case isFalse => omega

set_option maxHeartbeats 1000000 in
theorem sLabels_any (lo hi : Nat) (ao : Option Addr) (ca : Nat) (L : List La) (w : World) (ha : Las w lo hi ao L) (h1 : hi ≤ w.heap.size) (hl : L.length ≤ 1048576) :
    Calls Try.prog 32 #[.slice ao L.length ca] w fun e w' => e = .returned (.int .i64 (laF L)) ∧ Below w.heap.size w w' := by
  have hl' : (L.length : Int) ≤ 1048576 := by omega
  have HA := hideP ha
  clear ha
  by_cases h4 : L.length = 4
  · have HM := hideP (laF_four h4)
    have h4' : ((L.length : Int) != 4) = false := by simp; omega
    clear h4
    go_enter Try.func32, Try.ntmps32
    go_wp2
    go_loopw [3] (fun i wr => ∃ k : Nat, k ≤ L.length ∧ i = .int .i64 k ∧ Below w.heap.size w wr ∧ Hid (∀ j (hj : j < L.length), j < k → fltB L[j].l L[j].p = false)) (fun i _ => L.length - (intOf i).toNat)
    case atStart => exact ⟨0, Nat.zero_le _, rfl, Below.refl _ _, fun j _ hj => absurd hj (Nat.not_lt_zero _)⟩
    case round =>
      obtain ⟨k, hk, rfl, hbel, HF⟩ := hrel
      have hz := hbel.size
      by_cases hlt : k < L.length
      · have hlt' : (k : Int) < (L.length : Int) := by omega
        have hne : L ≠ [] := fun e => by rw [e] at hlt; simp at hlt
        rcases HA.out with e | ⟨g, o, rfl, _, hg, hc⟩
        · exact absurd e hne
        obtain ⟨a0, a1⟩ := (hc k hlt).keep hbel (by omega)
        have hgl : g < wr.heap.size := by omega
        have HBel := hideP hbel
        have hhit := hideP (laA_hit hlt)
        have hon := hideP (show ∀ e : fltB L[k].l L[k].p = false, ∀ j (hj : j < L.length), j < k + 1 → fltB L[j].l L[j].p = false from fun e j hj hjk => by
          by_cases h : j < k
          · exact HF.out j hj h
          · obtain rfl : j = k := by omega
            exact e)
        clear hc hbel HA HF
        generalize L[k].l = x at *
        generalize L[k].p = y at *
        cases hf : fltB x y
        · have hon' := hideP (hon.out hf)
          clear hon hhit
          go_wp2_with (go_at_call 34; refine Calls.mono (sf_ok _ _ _ hf) ?_; rintro e w1 ⟨rfl, k1⟩; have hz1 := k1.size)
          go_roundw
          case rel => exact ⟨k + 1, by omega, by go_num, HBel.out.trans (k1.mono HBel.out.size), hon'.out⟩
          case measure => simp [intOf]; omega
        · have hh' := hideP (hhit.out hf)
          clear hon hhit
          go_wp2_with (go_at_call 34; refine Calls.mono (sf_no _ _ _ hf) ?_; rintro e w1 ⟨rfl, k1⟩; have hz1 := k1.size)
          go_returns
          exact ⟨by rw [HM.out, hh'.out]; rfl, HBel.out.trans (k1.mono HBel.out.size)⟩
      · have hf := hideP (laA_none fun j hj => HF.out j hj (by omega))
        have HBel := hideP hbel
        clear hbel HF
        go_wp2
        go_returns
        exact ⟨by rw [HM.out, hf.out]; rfl, HBel.out⟩
  · have HM := hideP (laF_other h4)
    have h4' : ¬ (L.length : Int) = 4 := by omega
    go_enter Try.func32, Try.ntmps32
    go_wp2
    go_returns
    exact ⟨by rw [HM.out]; rfl, Below.refl _ _⟩

set_option maxHeartbeats 1000000 in
theorem iLabels_any (lo hi : Nat) (ao : Option Addr) (ca : Nat) (L : List La) (w : World) (ha : Las w lo hi ao L) (h1 : hi ≤ w.heap.size) (hl : L.length ≤ 1048576) :
    Calls Try.prog 9 #[.slice ao L.length ca] w fun e w' => e = .returned (.int .i64 (laF L)) ∧ Below w.heap.size w w' := by
  have hl' : (L.length : Int) ≤ 1048576 := by omega
  have HA := hideP ha
  clear ha
  by_cases h4 : L.length = 4
  · have HM := hideP (laF_four h4)
    have h4' : ((L.length : Int) != 4) = false := by simp; omega
    clear h4
    go_enter Try.func9, Try.ntmps9
    go_wp2
    go_loopw [11] (fun i wr => ∃ k : Nat, k ≤ L.length ∧ i = .int .i64 k ∧ Below w.heap.size w wr ∧ Hid (∀ j (hj : j < L.length), j < k → fltB L[j].l L[j].p = false)) (fun i _ => L.length - (intOf i).toNat)
    case atStart => exact ⟨0, Nat.zero_le _, rfl, Below.refl _ _, fun j _ hj => absurd hj (Nat.not_lt_zero _)⟩
    case round =>
      obtain ⟨k, hk, rfl, hbel, HF⟩ := hrel
      have hz := hbel.size
      by_cases hlt : k < L.length
      · have hlt' : (k : Int) < (L.length : Int) := by omega
        have hne : L ≠ [] := fun e => by rw [e] at hlt; simp at hlt
        rcases HA.out with e | ⟨g, o, rfl, _, hg, hc⟩
        · exact absurd e hne
        obtain ⟨a0, a1⟩ := (hc k hlt).keep hbel (by omega)
        have hgl : g < wr.heap.size := by omega
        have HBel := hideP hbel
        have hhit := hideP (laA_hit hlt)
        have hon := hideP (show ∀ e : fltB L[k].l L[k].p = false, ∀ j (hj : j < L.length), j < k + 1 → fltB L[j].l L[j].p = false from fun e j hj hjk => by
          by_cases h : j < k
          · exact HF.out j hj h
          · obtain rfl : j = k := by omega
            exact e)
        clear hc hbel HA HF
        generalize L[k].l = x at *
        generalize L[k].p = y at *
        cases hf : fltB x y
        · have hon' := hideP (hon.out hf)
          clear hon hhit
          go_wp2_with (first | (go_at_call 31; refine Calls.mono (lf_ok _ _ _ hf) ?_; (all_goals try (first | (with_reducible assumption) | omega)); rintro e w1 ⟨rfl, k1⟩; (try replace k1 := kept_join (by assumption) k1); have hc1 := Kept.cell k1; have hf1 := Kept.frozen k1; have hz1 := k1.size; (try simp only [World.size_alloc] at hz1); (try simp only [World.size_setCell] at hz1); (try simp only [World.size_drew] at hz1); (try (first | have hs1 := sz12 hz1 | have hs1 := sz11 hz1 | have hs1 := sz10 hz1 | have hs1 := sz9 hz1 | have hs1 := sz8 hz1 | have hs1 := sz7 hz1 | have hs1 := sz6 hz1 | have hs1 := sz5 hz1 | have hs1 := sz4 hz1 | have hs1 := sz3 hz1 | have hs1 := sz2 hz1 | have hs1 := sz1 hz1))))
          go_roundw
          case rel => exact ⟨k + 1, by omega, by go_num, by refine HBel.out.trans ?_; repeat' (first | (with_reducible exact Below.refl _ _) | (with_reducible refine kept_below ?_ (by assumption) ?_) | (with_reducible refine Below.alloc ?_ ?_ _) | (with_reducible refine Below.drew ?_) | (with_reducible refine Below.setCell ?_ ?_ _) | go_size), hon'.out⟩
          case measure => simp [intOf]; omega
        · have hh' := hideP (hhit.out hf)
          clear hon hhit
          go_wp2_with (first | (go_at_call 31; refine Calls.mono (lf_no _ _ _ hf) ?_; (all_goals try (first | (with_reducible assumption) | omega)); rintro e w1 ⟨rfl, k1⟩; (try replace k1 := kept_join (by assumption) k1); have hc1 := Kept.cell k1; have hf1 := Kept.frozen k1; have hz1 := k1.size; (try simp only [World.size_alloc] at hz1); (try simp only [World.size_setCell] at hz1); (try simp only [World.size_drew] at hz1); (try (first | have hs1 := sz12 hz1 | have hs1 := sz11 hz1 | have hs1 := sz10 hz1 | have hs1 := sz9 hz1 | have hs1 := sz8 hz1 | have hs1 := sz7 hz1 | have hs1 := sz6 hz1 | have hs1 := sz5 hz1 | have hs1 := sz4 hz1 | have hs1 := sz3 hz1 | have hs1 := sz2 hz1 | have hs1 := sz1 hz1))))
          go_returns
          refine ⟨by rw [HM.out, hh'.out]; rfl, HBel.out.trans ?_⟩
          repeat' (first | (with_reducible exact Below.refl _ _) | (with_reducible refine kept_below ?_ (by assumption) ?_) | (with_reducible refine Below.alloc ?_ ?_ _) | (with_reducible refine Below.drew ?_) | (with_reducible refine Below.setCell ?_ ?_ _) | go_size)
      · have hf := hideP (laA_none fun j hj => HF.out j hj (by omega))
        have HBel := hideP hbel
        clear hbel HF
        go_wp2
        go_returns
        exact ⟨by rw [HM.out, hf.out]; rfl, HBel.out⟩
  · have HM := hideP (laF_other h4)
    have h4' : ¬ (L.length : Int) = 4 := by omega
    go_enter Try.func9, Try.ntmps9
    go_wp2
    go_returns
    exact ⟨by rw [HM.out]; rfl, Below.refl _ _⟩

set_option maxHeartbeats 400000 in
theorem sLF_any (lo hi : Nat) (ao : Option Addr) (ca : Nat) (L : List La) (w : World) (ha : Las w lo hi ao L) (h1 : hi ≤ w.heap.size) (hl : L.length ≤ 1048576) :
    Calls Try.prog 10 #[.slice ao L.length ca] w fun e w' => e = .returned (.int .i64 (laF L)) ∧ Below w.heap.size w w' := by
  have HA := hideP ha
  clear ha
  go_enter Try.func10, Try.ntmps10
  go_wp2_with fail
  refine Calls.mono (sLabels_any lo hi ao ca L w HA.out h1 hl) ?_
  rintro e w1 ⟨rfl, k1⟩
  go_wp2
  go_returns
  exact ⟨rfl, k1⟩
end Go.Proofs.Ytmmjannkfmiohaa

namespace Go.Proofs.Ytmmjannkfmiohaa
open Go.RowKit
set_option linter.unusedVariables false

def banZ (l p : Int) : Int := fltOf (fltB l p)
def banV (l p : Int) : Int := if fltB l p then 0 else 256 + (l * 16 + p)

set_option maxHeartbeats 400000 in
theorem code_ok (l p : Int) (w : World) (h : fltB l p = false) :
    Calls Try.prog 35 #[.agg #[.int .i64 l, .int .i64 p]] w fun e w' => e = .returned (.int .i64 (l * 16 + p)) ∧ Below w.heap.size w w' := by
  obtain ⟨h1, h2, h3, h4⟩ := fltB_no h
  clear h
  go_enter Try.func35, Try.ntmps35
  go_wp2
  go_returns
  exact ⟨congrArg (fun n => Ending.returned (.int .i64 n)) (show 16 * l + p = l * 16 + p by omega), by go_grown⟩

set_option maxHeartbeats 400000 in
theorem codeOf_yes (l p : Int) (w : World) (h : fltB l p = false) :
    Calls Try.prog 33 #[.agg #[.int .i64 l, .int .i64 p]] w fun e w' => e = .returned (.agg #[.int .i64 0, .int .i64 (l * 16 + p)]) ∧ Below w.heap.size w w' := by
  obtain ⟨h1, h2, h3, h4⟩ := fltB_no h
  clear h
  go_enter Try.func33, Try.ntmps33
  go_wp2
  go_returns
  exact ⟨rfl, by go_grown⟩

set_option maxHeartbeats 400000 in
theorem codeOf_not (l p : Int) (w : World) (h : fltB l p = true) :
    Calls Try.prog 33 #[.agg #[.int .i64 l, .int .i64 p]] w fun e w' => e = .returned (.agg #[.int .i64 3, .int .i64 0]) ∧ Below w.heap.size w w' := by
  rcases fltB_yes h with h | ⟨h1, h2⟩ | ⟨h1, h2, h3⟩ | ⟨h1, h2, h3, h4⟩
  all_goals
    go_enter Try.func33, Try.ntmps33
    go_wp2
    go_returns
    exact ⟨rfl, by go_grown⟩

set_option maxHeartbeats 1000000 in
theorem iBan_any (l p : Int) (w : World) :
    Calls Try.prog 11 #[.agg #[.int .i64 l, .int .i64 p]] w fun e w' => e = .returned (.agg #[.int .i64 (banZ l p), .int .i64 (banV l p)]) ∧ Below w.heap.size w w' := by
  unfold banZ banV
  cases h : fltB l p
  · obtain ⟨h1, h2, h3, h4⟩ := fltB_no h
    have HC := hideP (fun w => codeOf_yes l p w h)
    clear h
    go_enter Try.func11, Try.ntmps11
    go_wp2_with (first | (go_at_call 33; refine Calls.mono (HC.out _) ?_; (all_goals try (first | (with_reducible assumption) | omega)); rintro e w1 ⟨rfl, k1⟩; (try replace k1 := kept_join (by assumption) k1); have hc1 := Kept.cell k1; have hf1 := Kept.frozen k1; have hz1 := k1.size; (try simp only [World.size_alloc] at hz1); (try simp only [World.size_setCell] at hz1); (try simp only [World.size_drew] at hz1); (have hb1_0 : w.heap.size + 1 < w1.heap.size ∧ w.heap.size + 1 ≤ w1.heap.size ∧ w.heap.size + 1 ≤ w1.heap.size + 1 ∧ ¬ w.heap.size + 1 = w1.heap.size ∧ ¬ w.heap.size + 1 = w1.heap.size + 1 := by omega)))
    refine bodyPost_ret (v := (.agg #[.int .i64 0, .int .i64 (256 + (l * 16 + p))])) (by simp [results, Try.results11, go_sem, *]; done) rfl ⟨rfl, ?_⟩
    repeat' (first | (with_reducible exact Below.refl _ _) | (with_reducible refine kept_below ?_ (by assumption) ?_) | (with_reducible refine Below.alloc ?_ ?_ _) | (with_reducible refine Below.drew ?_) | (with_reducible refine Below.setCell ?_ ?_ _) | go_size)
  · have HC := hideP (fun w => codeOf_not l p w h)
    clear h
    go_enter Try.func11, Try.ntmps11
    go_wp2_with (first | (go_at_call 33; refine Calls.mono (HC.out _) ?_; (all_goals try (first | (with_reducible assumption) | omega)); rintro e w1 ⟨rfl, k1⟩; (try replace k1 := kept_join (by assumption) k1); have hc1 := Kept.cell k1; have hf1 := Kept.frozen k1; have hz1 := k1.size; (try simp only [World.size_alloc] at hz1); (try simp only [World.size_setCell] at hz1); (try simp only [World.size_drew] at hz1); (have hb1_0 : w.heap.size + 1 < w1.heap.size ∧ w.heap.size + 1 ≤ w1.heap.size ∧ w.heap.size + 1 ≤ w1.heap.size + 1 ∧ ¬ w.heap.size + 1 = w1.heap.size ∧ ¬ w.heap.size + 1 = w1.heap.size + 1 := by omega)))
    refine bodyPost_ret (v := (.agg #[.int .i64 3, .int .i64 0])) (by simp [results, Try.results11, go_sem, *]; done) rfl ⟨rfl, ?_⟩
    repeat' (first | (with_reducible exact Below.refl _ _) | (with_reducible refine kept_below ?_ (by assumption) ?_) | (with_reducible refine Below.alloc ?_ ?_ _) | (with_reducible refine Below.drew ?_) | (with_reducible refine Below.setCell ?_ ?_ _) | go_size)

set_option maxHeartbeats 1000000 in
theorem sBan_any (l p : Int) (w : World) :
    Calls Try.prog 12 #[.agg #[.int .i64 l, .int .i64 p]] w fun e w' => e = .returned (.agg #[.int .i64 (banZ l p), .int .i64 (banV l p)]) ∧ Below w.heap.size w w' := by
  unfold banZ banV
  cases h : fltB l p
  · obtain ⟨h1, h2, h3, h4⟩ := fltB_no h
    have HF := hideP (fun w => sf_ok l p w h)
    have HC := hideP (fun w => code_ok l p w h)
    clear h
    go_enter Try.func12, Try.ntmps12
    go_wp2_with (first | (go_at_call 34; refine Calls.mono (HF.out _) ?_; (all_goals try (first | (with_reducible assumption) | omega)); rintro e w1 ⟨rfl, k1⟩; (try replace k1 := kept_join (by assumption) k1); have hc1 := Kept.cell k1; have hf1 := Kept.frozen k1; have hz1 := k1.size; (try simp only [World.size_alloc] at hz1); (try simp only [World.size_setCell] at hz1); (try simp only [World.size_drew] at hz1); (have hb1_0 : w.heap.size + 1 < w1.heap.size ∧ w.heap.size + 1 ≤ w1.heap.size ∧ w.heap.size + 1 ≤ w1.heap.size + 1 ∧ ¬ w.heap.size + 1 = w1.heap.size ∧ ¬ w.heap.size + 1 = w1.heap.size + 1 := by omega)) | (go_at_call 35; refine Calls.mono (HC.out _) ?_; (all_goals try (first | (with_reducible assumption) | omega)); rintro e w1 ⟨rfl, k1⟩; (try replace k1 := kept_join (by assumption) k1); have hc1 := Kept.cell k1; have hf1 := Kept.frozen k1; have hz1 := k1.size; (try simp only [World.size_alloc] at hz1); (try simp only [World.size_setCell] at hz1); (try simp only [World.size_drew] at hz1); (have hb1_0 : w.heap.size + 1 < w1.heap.size ∧ w.heap.size + 1 ≤ w1.heap.size ∧ w.heap.size + 1 ≤ w1.heap.size + 1 ∧ ¬ w.heap.size + 1 = w1.heap.size ∧ ¬ w.heap.size + 1 = w1.heap.size + 1 := by omega)))
    refine bodyPost_ret (v := (.agg #[.int .i64 0, .int .i64 (256 + (l * 16 + p))])) (by simp [results, Try.results12, go_sem, *]; done) rfl ⟨rfl, ?_⟩
    repeat' (first | (with_reducible exact Below.refl _ _) | (with_reducible refine kept_below ?_ (by assumption) ?_) | (with_reducible refine Below.alloc ?_ ?_ _) | (with_reducible refine Below.drew ?_) | (with_reducible refine Below.setCell ?_ ?_ _) | go_size)
  · have HF := hideP (fun w => sf_no l p w h)
    clear h
    go_enter Try.func12, Try.ntmps12
    go_wp2_with (first | (go_at_call 34; refine Calls.mono (HF.out _) ?_; (all_goals try (first | (with_reducible assumption) | omega)); rintro e w1 ⟨rfl, k1⟩; (try replace k1 := kept_join (by assumption) k1); have hc1 := Kept.cell k1; have hf1 := Kept.frozen k1; have hz1 := k1.size; (try simp only [World.size_alloc] at hz1); (try simp only [World.size_setCell] at hz1); (try simp only [World.size_drew] at hz1); (have hb1_0 : w.heap.size + 1 < w1.heap.size ∧ w.heap.size + 1 ≤ w1.heap.size ∧ w.heap.size + 1 ≤ w1.heap.size + 1 ∧ ¬ w.heap.size + 1 = w1.heap.size ∧ ¬ w.heap.size + 1 = w1.heap.size + 1 := by omega)))
    refine bodyPost_ret (v := (.agg #[.int .i64 3, .int .i64 0])) (by simp [results, Try.results12, go_sem, *]; done) rfl ⟨rfl, ?_⟩
    repeat' (first | (with_reducible exact Below.refl _ _) | (with_reducible refine kept_below ?_ (by assumption) ?_) | (with_reducible refine Below.alloc ?_ ?_ _) | (with_reducible refine Below.drew ?_) | (with_reducible refine Below.setCell ?_ ?_ _) | go_size)

end Go.Proofs.Ytmmjannkfmiohaa

namespace Go.Proofs.Ytmmjannkfmiohaa
open Go.RowKit Go.Maps
set_option linter.unusedVariables false

/-- Cells of rows of p, those of P painted as f says. -/
def pntL (p : Int) (P : Int → Int → Bool) (f : Int → Int → Int) (C : List Int) : List Int := C.mapIdx fun j c => if P ((j : Int) % p) ((j : Int) / p) then f ((j : Int) % p) ((j : Int) / p) else c
section
variable {p h x y : Int} {P P' : Int → Int → Bool} {f : Int → Int → Int} {C : List Int}
theorem pntL_len : (pntL p P f C).length = C.length := by simp [pntL]
theorem at_mod (hx : 0 ≤ x) (hp : x < p) : (y * p + x) % p = x ∧ (y * p + x) / p = y := by
  have hp0 : p ≠ 0 := by omega
  constructor
  · rw [Int.add_comm, Int.add_mul_emod_self_right]; exact Int.emod_eq_of_lt hx hp
  · rw [Int.add_comm, Int.add_mul_ediv_right _ _ hp0, Int.ediv_eq_zero_of_lt hx hp]; omega
theorem in_rows (hp : 0 < p) {j : Nat} (hC : (C.length : Int) ≤ h * p) (hj : j < C.length) : 0 ≤ (j : Int) % p ∧ (j : Int) % p < p ∧ 0 ≤ (j : Int) / p ∧ (j : Int) / p < h := by
  have h1 := Int.emod_nonneg (j : Int) (show p ≠ 0 by omega)
  have h2 := Int.emod_lt_of_pos (j : Int) hp
  have h3 : 0 ≤ (j : Int) / p := Int.ediv_nonneg (by omega) (by omega)
  refine ⟨h1, h2, h3, ?_⟩
  apply Int.ediv_lt_of_lt_mul hp
  omega
theorem pntL_congr (hp : 0 < p) (hC : (C.length : Int) ≤ h * p) (he : ∀ a b, 0 ≤ a → a < p → 0 ≤ b → b < h → P a b = P' a b) : pntL p P f C = pntL p P' f C := by
  unfold pntL
  apply List.ext_getElem
  · simp
  · intro j h1 h2
    have hj : j < C.length := by simpa using h1
    obtain ⟨a1, a2, a3, a4⟩ := in_rows hp hC hj
    simp only [List.getElem_mapIdx]
    rw [he _ _ a1 a2 a3 a4]
theorem pntL_set (hx : 0 ≤ x) (hxp : x < p) (hC : (C.length : Int) ≤ h * p) (hP : P' x y = true) (he : ∀ a b, 0 ≤ a → a < p → 0 ≤ b → b < h → ¬ (a = x ∧ b = y) → P a b = P' a b) {n : Nat} (hn : (n : Int) = y * p + x) : (pntL p P f C).set n (f x y) = pntL p P' f C := by
  unfold pntL
  have hm := at_mod (y := y) hx hxp
  have hp : 0 < p := by omega
  apply List.ext_getElem
  · simp
  · intro j h1 h2
    have hj : j < C.length := by simpa using h1
    obtain ⟨a1, a2, a3, a4⟩ := in_rows hp hC hj
    rw [List.getElem_set]
    by_cases e : n = j
    · rw [if_pos e]
      have ej : (j : Int) = y * p + x := by rw [← e]; exact hn
      simp only [List.getElem_mapIdx]
      rw [ej, hm.1, hm.2, hP]
      rfl
    · rw [if_neg e]
      simp only [List.getElem_mapIdx]
      rw [he _ _ a1 a2 a3 a4]
      rintro ⟨b1, b2⟩
      have := Int.emod_add_mul_ediv (j : Int) p
      apply e
      have : (n : Int) = (j : Int) := by rw [hn, ← b1, ← b2, Int.mul_comm]; omega
      omega
theorem pntL_none (hn : ∀ a b, P a b = false) : pntL p P f C = C := by
  unfold pntL
  apply List.ext_getElem
  · simp
  · intro j h1 h2
    simp [hn]
theorem pntL_at {n : Nat} (hn : n < C.length) (hx : 0 ≤ x) (hxp : x < p) (e : (n : Int) = y * p + x) : (pntL p P f C)[n]'(by rw [pntL_len]; exact hn) = if P x y then f x y else C[n] := by
  have hm := at_mod (y := y) hx hxp
  unfold pntL
  simp only [List.getElem_mapIdx]
  rw [e, hm.1, hm.2]
theorem pntL_all {Q : Int → Bool} (hC : C.all Q = true) (hf : ∀ a b, P a b = true → Q (f a b) = true) : (pntL p P f C).all Q = true := by
  rw [List.all_eq_true]
  intro v hv
  obtain ⟨j, hj, rfl⟩ := List.getElem_of_mem hv
  have hj' : j < C.length := by rw [pntL_len] at hj; exact hj
  simp only [pntL, List.getElem_mapIdx]
  split
  · exact hf _ _ ‹_›
  · exact List.all_eq_true.1 hC _ (List.getElem_mem hj')
/-- Which points of a rectangle come ahead of this one, row by row. -/
def ahB (x y a b : Int) : Bool := decide (b < y ∨ (b = y ∧ a < x))
end
end Go.Proofs.Ytmmjannkfmiohaa

namespace Go.Proofs.Ytmmjannkfmiohaa
open Go.RowKit Go.Maps
set_option linter.unusedVariables false

/-- Whether an area of p by h has a point, counted from its own corner. -/
def ownB (p h a b : Int) : Bool := decide ((0 ≤ a ∧ a < p) ∧ 0 ≤ b ∧ b < h)
theorem ownB_yes {p h a b : Int} (e : ownB p h a b = true) : 0 ≤ a ∧ a < p ∧ 0 ≤ b ∧ b < h := by unfold ownB at e; simp at e; omega
theorem ownB_no {p h a b : Int} (e : ownB p h a b = false) : ¬ (0 ≤ a ∧ a < p ∧ 0 ≤ b ∧ b < h) := by unfold ownB at e; simp at e; omega
theorem ownB_of {p h a b : Int} (e : 0 ≤ a ∧ a < p ∧ 0 ≤ b ∧ b < h) : ownB p h a b = true := decide_eq_true ⟨⟨e.1, e.2.1⟩, e.2.2⟩
theorem ownB_off {p h a b : Int} (e : ¬ (0 ≤ a ∧ a < p ∧ 0 ≤ b ∧ b < h)) : ownB p h a b = false := decide_eq_false (by omega)
theorem row_le {p h a b : Int} (h1 : 1 ≤ p ∧ p ≤ 8) (h2 : 1 ≤ h ∧ h ≤ 6) (e : ownB p h a b = true) : 0 ≤ b * p ∧ b * p ≤ 40 ∧ b * p + a < p * h := by
  obtain ⟨a1, a2, a3, a4⟩ := ownB_yes e
  have hb : b = 0 ∨ b = 1 ∨ b = 2 ∨ b = 3 ∨ b = 4 ∨ b = 5 := by omega
  have hh : h = 1 ∨ h = 2 ∨ h = 3 ∨ h = 4 ∨ h = 5 ∨ h = 6 := by omega
  rcases hb with rfl | rfl | rfl | rfl | rfl | rfl <;> rcases hh with rfl | rfl | rfl | rfl | rfl | rfl <;> omega

set_option maxHeartbeats 400000 in
theorem hasOwn_any (x y p h a b : Int) (w : World) :
    Calls Try.prog 40 #[.agg #[.int .i64 x, .int .i64 y, .int .i64 p, .int .i64 h], .int .i64 a, .int .i64 b] w fun e w' => e = .returned (.bool (ownB p h a b)) ∧ Below w.heap.size w w' := by
  by_cases g1 : 0 ≤ a
  · by_cases g2 : a < p
    · by_cases g3 : 0 ≤ b
      · by_cases g4 : b < h
        · have hr := hideP (ownB_of (p := p) (h := h) (a := a) (b := b) ⟨g1, g2, g3, g4⟩)
          go_enter Try.func40, Try.ntmps40
          go_wp2
          go_returns
          refine ⟨congrArg (fun b => Ending.returned (.bool b)) (by rw [hr.out]), ?_⟩
          go_grown
        · have hr := hideP (ownB_off (p := p) (h := h) (a := a) (b := b) (by omega))
          go_enter Try.func40, Try.ntmps40
          go_wp2
          go_returns
          refine ⟨congrArg (fun b => Ending.returned (.bool b)) (by rw [hr.out]), ?_⟩
          go_grown
      · have hr := hideP (ownB_off (p := p) (h := h) (a := a) (b := b) (by omega))
        go_enter Try.func40, Try.ntmps40
        go_wp2
        go_returns
        refine ⟨congrArg (fun b => Ending.returned (.bool b)) (by rw [hr.out]), ?_⟩
        go_grown
    · have hr := hideP (ownB_off (p := p) (h := h) (a := a) (b := b) (by omega))
      go_enter Try.func40, Try.ntmps40
      go_wp2
      go_returns
      refine ⟨congrArg (fun b => Ending.returned (.bool b)) (by rw [hr.out]), ?_⟩
      go_grown
  · have hr := hideP (ownB_off (p := p) (h := h) (a := a) (b := b) (by omega))
    go_enter Try.func40, Try.ntmps40
    go_wp2
    go_returns
    refine ⟨congrArg (fun b => Ending.returned (.bool b)) (by rw [hr.out]), ?_⟩
    go_grown

set_option maxHeartbeats 400000 in
theorem placeOf_any (x y p h a b : Int) (w : World) (h1 : 1 ≤ p ∧ p ≤ 8) (h2 : 1 ≤ h ∧ h ≤ 6) (ho : ownB p h a b = true) :
    Calls Try.prog 41 #[.agg #[.int .i64 x, .int .i64 y, .int .i64 p, .int .i64 h], .int .i64 a, .int .i64 b] w fun e w' => e = .returned (.int .i64 (b * p + a)) ∧ Below w.heap.size w w' := by
  obtain ⟨g1, g2, _⟩ := row_le h1 h2 ho
  obtain ⟨a1, a2, a3, a4⟩ := ownB_yes ho
  obtain ⟨q, hq⟩ : ∃ q, b * p = q := ⟨_, rfl⟩
  have hw : IntKind.i64.wrap (b * p) = q := by rw [hq]; exact IntWalk.i64_in _ (by omega)
  rw [hq] at g1 g2
  rw [hq]
  have HQ := hideP hq
  clear hq
  go_enter Try.func41, Try.ntmps41
  go_wp2
  go_returns
  exact ⟨rfl, by go_grown⟩

set_option maxRecDepth 100000 in
set_option maxHeartbeats 400000 in
theorem l8Place_no (g o : Nat) (p h a b : Int) (w : World) (h1 : 1 ≤ p ∧ p ≤ 8) (h2 : 1 ≤ h ∧ h ≤ 6) (a3 : w.cell? ⟨g, o + 3, none⟩ = some (.int .i64 p)) (a4 : w.cell? ⟨g, o + 4, none⟩ = some (.int .i64 h)) (ho : ownB p h a b = false) :
    Calls Try.prog 71 #[.pointer (some ⟨g, o, none⟩), .int .i64 a, .int .i64 b] w fun e w' => e = .returned (.int .i64 (-1)) ∧ w' = w := by
  have hn := ownB_no ho
  clear ho
  by_cases ha : a < 0 ∨ p - 1 < a
  · go_enter Try.func71, Try.ntmps71
    go_wp2_with (go_at_call 53; refine Calls.mono (in_no a 0 (p - 1) _ ha) ?_; rintro e w1 ⟨rfl, rfl⟩)
    go_returns
    exact ⟨rfl, rfl⟩
  · have hb : b < 0 ∨ h - 1 < b := by omega
    have ha1 : 0 ≤ a := by omega
    have ha2 : a ≤ p - 1 := by omega
    clear hn ha
    go_enter Try.func71, Try.ntmps71
    go_wp2_with fail
    refine Calls.mono (in_yes a 0 (p - 1) _ ha1 ha2) ?_
    rintro e w1 ⟨rfl, hw⟩
    subst hw
    go_wp2_with fail
    refine Calls.mono (in_no b 0 (h - 1) _ hb) ?_
    rintro e w2 ⟨rfl, hw⟩
    subst hw
    go_wp2
    go_returns
    exact ⟨rfl, rfl⟩
set_option maxRecDepth 100000 in
set_option maxHeartbeats 400000 in
theorem l8Place_yes (g o : Nat) (p h a b : Int) (w : World) (h1 : 1 ≤ p ∧ p ≤ 8) (h2 : 1 ≤ h ∧ h ≤ 6) (a3 : w.cell? ⟨g, o + 3, none⟩ = some (.int .i64 p)) (a4 : w.cell? ⟨g, o + 4, none⟩ = some (.int .i64 h)) (ho : ownB p h a b = true) :
    Calls Try.prog 71 #[.pointer (some ⟨g, o, none⟩), .int .i64 a, .int .i64 b] w fun e w' => e = .returned (.int .i64 (b * p + a)) ∧ w' = w := by
  obtain ⟨g1, g2, _⟩ := row_le h1 h2 ho
  obtain ⟨b1, b2, b3, b4⟩ := ownB_yes ho
  obtain ⟨q, hq⟩ : ∃ q, b * p = q := ⟨_, rfl⟩
  have hw : IntKind.i64.wrap (b * p) = q := by rw [hq]; exact IntWalk.i64_in _ (by omega)
  rw [hq] at g1 g2
  rw [hq]
  have HQ := hideP hq
  have ha2 : a ≤ p - 1 := by omega
  have hb2 : b ≤ h - 1 := by omega
  clear hq ho
  go_enter Try.func71, Try.ntmps71
  go_wp2_with fail
  refine Calls.mono (in_yes a 0 (p - 1) _ b1 ha2) ?_
  rintro e w1 ⟨rfl, hw⟩
  subst hw
  go_wp2_with fail
  refine Calls.mono (in_yes b 0 (h - 1) _ b3 hb2) ?_
  rintro e w2 ⟨rfl, hw⟩
  subst hw
  go_wp2
  go_returns
  exact ⟨rfl, rfl⟩
end Go.Proofs.Ytmmjannkfmiohaa
