/- Lists of rectangles: faults of whole lists, areas by the model, copies of lists. -/
import Derived.Test.YtbceacnadkhdoaaLst3
import Derived.Test.YtbceacnadkhdoaaLst4
namespace Go.Proofs.Ytbceacnadkhdoaa
open Go.RowKit
set_option linter.unusedVariables false

def manyC (L : List Rc) : Int := if 40 < L.length then 2 else rfOf (fltL L)
theorem manyC_big {L : List Rc} (h : 40 < L.length) : manyC L = 2 := by unfold manyC; rw [if_pos h]
theorem manyC_of {L : List Rc} (h : L.length ≤ 40) : manyC L = rfOf (fltL L) := by unfold manyC; rw [if_neg (by omega)]
theorem manyC_ok {L : List Rc} (h : manyC L = 0) : L.length ≤ 40 ∧ fltL L = false := by
  unfold manyC at h
  split at h
  · omega
  · refine ⟨by omega, ?_⟩
    cases e : fltL L
    · rfl
    · rw [e] at h; simp [rfOf] at h

set_option maxHeartbeats 1000000 in
theorem many_any (lo hi : Nat) (ao : Option Addr) (ca : Nat) (L : List Rc) (w : World) (ha : Lst w lo hi ao L) (hl : L.length ≤ 1048576) :
    Calls Try.prog 46 #[.slice ao L.length ca] w fun e w' => e = .returned (.int .i64 (manyC L)) ∧ w' = w := by
  have hl' : (L.length : Int) ≤ 1048576 := by omega
  have HA := hideP ha
  clear ha
  by_cases hbig : 40 < L.length
  · have hb' : (40 : Int) < (L.length : Int) := by omega
    have HM := hideP (manyC_big hbig)
    go_enter Try.func46, Try.ntmps46
    go_wp2
    go_returns
    exact ⟨by rw [HM.out]; rfl, rfl⟩
  · have hb' : (L.length : Int) ≤ 40 := by omega
    have HM := hideP (manyC_of (L := L) (by omega))
    go_enter Try.func46, Try.ntmps46
    go_wp2
    go_loop [3] (fun i => ∃ k : Nat, k ≤ L.length ∧ i = .int .i64 k ∧ Hid (∀ j (hj : j < L.length), j < k → rfB L[j].x L[j].y L[j].w L[j].h = false)) (fun i => L.length - (intOf i).toNat)
    case atStart => exact ⟨0, Nat.zero_le _, rfl, fun j _ hj => absurd hj (Nat.not_lt_zero _)⟩
    case round =>
      obtain ⟨k, hk, rfl, HF⟩ := hrel
      by_cases hlt : k < L.length
      · have hlt' : (k : Int) < (L.length : Int) := by omega
        have hne : L ≠ [] := fun e => by rw [e] at hlt; simp at hlt
        rcases HA.out with e | ⟨g, o, rfl, _, hg, hc⟩
        · exact absurd e hne
        have HR := hideP (hc k hlt)
        have hhit := hideP (fltL_hit hlt)
        have hon := hideP (show ∀ e : rfB L[k].x L[k].y L[k].w L[k].h = false, ∀ j (hj : j < L.length), j < k + 1 → rfB L[j].x L[j].y L[j].w L[j].h = false from fun e j hj hjk => by
          by_cases h : j < k
          · exact HF.out j hj h
          · obtain rfl : j = k := by omega
            exact e)
        clear hc HA HF
        cases hf : rfB L[k].x L[k].y L[k].w L[k].h
        · have hon' := hideP (hon.out hf)
          have Hf := hideP hf
          clear hon hhit hf
          go_wp2_with (go_at_call 67; refine Calls.mono (l2F_ok _ _ _ _ _ _ _ HR.out Hf.out) ?_; rintro e w1 ⟨rfl, rfl⟩)
          go_round
          case rel => exact ⟨k + 1, by omega, by go_num, hon'.out⟩
          case measure => simp [intOf]; omega
        · have hh' := hideP (hhit.out hf)
          have Hf := hideP hf
          clear hon hhit hf
          go_wp2_with (go_at_call 67; refine Calls.mono (l2F_no _ _ _ _ _ _ _ HR.out Hf.out) ?_; rintro e w1 ⟨rfl, rfl⟩)
          go_returns
          exact ⟨by rw [HM.out, hh'.out]; rfl, rfl⟩
      · have hf := hideP (fltL_none fun j hj => HF.out j hj (by omega))
        clear HF
        go_wp2
        go_returns
        exact ⟨by rw [HM.out, hf.out]; rfl, rfl⟩

set_option maxHeartbeats 1000000 in
theorem fol_any (lo hi : Nat) (ao : Option Addr) (ca : Nat) (L : List Rc) (w : World) (ha : Lst w lo hi ao L) (h1 : hi ≤ w.heap.size) (hl : L.length ≤ 1048576) :
    Calls Try.prog 44 #[.slice ao L.length ca] w fun e w' => e = .returned (.int .i64 (manyC L)) ∧ Below w.heap.size w w' := by
  have hl' : (L.length : Int) ≤ 1048576 := by omega
  have HA := hideP ha
  clear ha
  by_cases hbig : 40 < L.length
  · have hb' : (40 : Int) < (L.length : Int) := by omega
    have HM := hideP (manyC_big hbig)
    go_enter Try.func44, Try.ntmps44
    go_wp2
    go_returns
    exact ⟨by rw [HM.out]; rfl, Below.refl _ _⟩
  · have hb' : (L.length : Int) ≤ 40 := by omega
    have HM := hideP (manyC_of (L := L) (by omega))
    go_enter Try.func44, Try.ntmps44
    go_wp2_with fail
    refine Calls.mono (fo_any lo hi ao ca L w HA.out h1 hl) ?_
    rintro e w1 ⟨rfl, k1⟩
    go_wp2
    go_returns
    exact ⟨by rw [HM.out]; rfl, k1⟩

/-- A copy of a list, its first k rectangles there. -/
structure Fill (w wr : World) (g n k : Nat) (L : List Rc) : Prop where
  below : Below w.heap.size w wr
  lt : g < wr.heap.size
  done : ∀ j (hj : j < L.length), j < k → IsRect wr g (0 + j * 4) L[j].x L[j].y L[j].w L[j].h
  there : ∀ c, c < n * 4 → ∃ u, wr.cell? ⟨g, 0 + c, none⟩ = some u
  free : ∀ c, wr.frozen? ⟨g, c, none⟩ = false
  le : w.heap.size ≤ g

theorem Fill.keep {w wr wr' : World} {g n k : Nat} {L : List Rc} (h : Fill w wr g n k L) (kk : Below wr.heap.size wr wr') : Fill w wr' g n k L :=
  ⟨h.below.trans (kk.mono h.below.size), Nat.lt_of_lt_of_le h.lt kk.size, fun j hj hk => (h.done j hj hk).keep kk h.lt, fun c hc => by obtain ⟨u, hu⟩ := h.there c hc; exact ⟨u, (kk.cell (p := ⟨g, 0 + c, none⟩) h.lt).trans hu⟩,
    fun c => (kk.frozen (p := ⟨g, c, none⟩) h.lt).trans (h.free c), h.le⟩

theorem Fill.step {w wr : World} {g n i : Nat} {L : List Rc} (h : Fill w wr g n i L) (hi : i < n) (hl : i < L.length) :
    Fill w ((((wr.setCell ⟨g, i * 4, none⟩ (.int .i64 L[i].x)).setCell ⟨g, i * 4 + 1, none⟩ (.int .i64 L[i].y)).setCell ⟨g, i * 4 + 2, none⟩ (.int .i64 L[i].w)).setCell ⟨g, i * 4 + 3, none⟩ (.int .i64 L[i].h)) g n (i + 1) L := by
  have t : ∀ c, c < 4 → ∃ u, wr.cell? ⟨g, i * 4 + c, none⟩ = some u := fun c hc => by
    obtain ⟨u, hu⟩ := h.there (i * 4 + c) (by omega)
    rw [Nat.zero_add] at hu
    exact ⟨u, hu⟩
  obtain ⟨u0, t0⟩ := t 0 (by omega)
  obtain ⟨u1, t1⟩ := t 1 (by omega)
  obtain ⟨u2, t2⟩ := t 2 (by omega)
  obtain ⟨u3, t3⟩ := t 3 (by omega)
  have hg := h.le
  refine ⟨(((h.below.setCell (p := ⟨g, _, none⟩) hg _).setCell (p := ⟨g, _, none⟩) hg _).setCell (p := ⟨g, _, none⟩) hg _).setCell (p := ⟨g, _, none⟩) hg _, by simpa using h.lt, fun j hj hk => ?_, fun c hc => ?_, fun c => by simpa using h.free c, hg⟩
  · by_cases hji : j < i
    · obtain ⟨c0, c1, c2, c3⟩ := h.done j hj hji
      refine ⟨?_, ?_, ?_, ?_⟩ <;> (repeat rw [cell_set_other (by omega)]) <;> assumption
    · obtain rfl : j = i := by omega
      rw [Nat.zero_add]
      refine ⟨?_, ?_, ?_, ?_⟩
      · rw [cell_set_other (by omega), cell_set_other (by omega), cell_set_other (by omega)]; exact cell_set_same t0
      · rw [cell_set_other (by omega), cell_set_other (by omega)]; exact cell_set_same ((cell_set_other (by omega)).trans t1)
      · rw [cell_set_other (by omega)]; exact cell_set_same ((cell_set_other (by omega)).trans ((cell_set_other (by omega)).trans t2))
      · exact cell_set_same ((cell_set_other (by omega)).trans ((cell_set_other (by omega)).trans ((cell_set_other (by omega)).trans t3)))
  · obtain ⟨u, hu⟩ := h.there c hc
    have key : ∀ (W : World) (d : Nat) (v : Value), (∃ u, W.cell? ⟨g, 0 + c, none⟩ = some u) → ∃ u, (W.setCell ⟨g, d, none⟩ v).cell? ⟨g, 0 + c, none⟩ = some u := fun W d v ⟨u, hu⟩ => by
      by_cases e : 0 + c = d
      · subst e; exact ⟨v, cell_set_same hu⟩
      · exact ⟨u, (cell_set_other e).trans hu⟩
    exact key _ _ _ (key _ _ _ (key _ _ _ (key _ _ _ ⟨u, hu⟩)))

theorem fill_new {w w1 : World} {n : Nat} {L : List Rc} {xs : List Value} (ho : w1.ownsRow w.heap.size 25 4 (.slice (some ⟨w.heap.size, 0, none⟩) n n) n xs) (hg : w.grownBy w1 none) : Fill w w1 w.heap.size n 0 L := by
  refine ⟨⟨hg.os, hg.tape, hg.output, hg.size, fun k hk => hg.block k hk (by simp)⟩, ?_, fun j _ hj => absurd hj (Nat.not_lt_zero _), fun c hc => ?_, fun c => World.ownsRow.frozenAt ho c, Nat.le_refl _⟩
  · exact (World.ownsRow.lt ho w.heap.size rfl).2
  · rw [Nat.zero_add, World.ownsRow.cellAt ho c hc]
    exact ⟨xs[c]'(by rw [ho.1]; exact hc), by simp⟩
theorem Fill.lst {w wr : World} {g n : Nat} {L : List Rc} (h : Fill w wr g n L.length L) : Lst wr w.heap.size wr.heap.size (some ⟨g, 0, none⟩) L :=
  .inr ⟨g, 0, rfl, h.le, h.lt, fun i hi => h.done i hi hi⟩

end Go.Proofs.Ytbceacnadkhdoaa
