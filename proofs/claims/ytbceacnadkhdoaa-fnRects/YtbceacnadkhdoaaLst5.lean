/- Results with a list of rectangles: held against each other, marked, held. -/
import Derived.Test.YtbceacnadkhdoaaLst4
namespace Go.Proofs.Ytbceacnadkhdoaa
open Go.RowKit
set_option linter.unusedVariables false

set_option maxHeartbeats 400000 in
theorem eqRR_same (lo hi lo2 hi2 : Nat) (c : Int) (ao bo : Option Addr) (ca cb : Nat) (L : List Rc) (w : World) (ha : Lst w lo hi ao L) (hb : Lst w lo2 hi2 bo L) (h1 : hi ≤ w.heap.size) (h2 : hi2 ≤ w.heap.size) (hl : L.length ≤ 1048576) :
    Calls Try.prog 33 #[.agg #[.int .i64 c, .slice ao L.length ca], .agg #[.int .i64 c, .slice bo L.length cb]] w fun e w' => e = .returned (.bool true) ∧ Below w.heap.size w w' := by
  have HA := hideP ha
  have HB := hideP hb
  clear ha hb
  go_enter Try.func33, Try.ntmps33
  go_wp2_with fail
  refine Calls.mono (eqS_same lo hi lo2 hi2 ao bo ca cb L _ (HA.out.keep (B := w.heap.size) (by go_grown) h1) (HB.out.keep (B := w.heap.size) (by go_grown) h2) (by simp; omega) (by simp; omega) hl) ?_
  rintro e w1 ⟨rfl, k1⟩
  go_wp2
  go_returns
  refine ⟨rfl, ?_⟩
  repeat' (first | (with_reducible exact Below.refl _ _) | (with_reducible refine kept_below ?_ (by assumption) ?_) | (with_reducible refine Below.alloc ?_ ?_ _) | (with_reducible refine Below.drew ?_) | (with_reducible refine Below.setCell ?_ ?_ _) | go_size)

theorem Mk.lst {w wr : World} {g o n : Nat} {k : Int} (h : Mk w wr g o n n k) (lo hi : Nat) (h1 : lo ≤ g) (h2 : g < hi) : Lst wr lo hi (some ⟨g, o, none⟩) (mrk n k) :=
  .inr ⟨g, o, rfl, h1, h2, fun i hi => by rw [mrk_at]; exact h.done i (by rw [mrk_len] at hi; exact hi)⟩

theorem Own.mk {w w' : World} {base : Nat} {ao : Option Addr} {cap : Nat} {L : List Rc} (h : Own w base ao cap L) (hn : 0 < L.length) (k : Int) (kw : Below w.heap.size w w') : ∃ g, ao = some ⟨g, 0, none⟩ ∧ base ≤ g ∧ g < w.heap.size ∧ Mk w' w' g 0 L.length 0 k := by
  obtain ⟨g, cap', hv, hb, hlt⟩ := World.ownsRow.form h hn
  cases hv
  have hs := kw.size
  refine ⟨g, rfl, hb, hlt, ⟨TurnO.refl _ _, by omega, fun j hj => absurd hj (Nat.not_lt_zero _), fun c hc => ?_, fun c => ?_⟩⟩
  · rw [kw.cell (p := ⟨g, 0 + c, none⟩) hlt, Nat.zero_add, World.ownsRow.cellAt h c hc]
    exact ⟨(rcs L)[c]'(by rw [rcs_len]; exact hc), by simp⟩
  · rw [kw.frozen (p := ⟨g, c, none⟩) hlt]
    exact World.ownsRow.frozenAt h c

/-- What marking a result leaves: its list marked from k on; all other old memory as it was. -/
structure Marked (w w' : World) (base hi : Nat) (ao : Option Addr) (n : Nat) (k : Int) : Prop where
  lst : Lst w' base hi ao (mrk n k)
  size : w.heap.size ≤ w'.heap.size
  turn : ∀ B, B ≤ base → B ≤ w.heap.size → Below B w w'
  far : ∀ b, b < w.heap.size → (n = 0 ∨ b < base ∨ hi ≤ b) → w'.heap[b]? = w.heap[b]?

set_option maxHeartbeats 800000 in
theorem markRR_any (w0 : World) (base hi : Nat) (c : Int) (ao : Option Addr) (ca : Nat) (L : List Rc) (k : Int) (w : World) (ho : Own w0 base ao ca L) (hbl : ∀ g, Value.ownBlock (.slice ao L.length ca) = some g → g < hi) (kw : Below w0.heap.size w0 w) (hn : L.length ≤ 100) (k0 : 0 ≤ k) (k1 : k ≤ 1000) :
    Calls Try.prog 34 #[.agg #[.int .i64 c, .slice ao L.length ca], .int .i64 k] w fun e w' => e = .returned (.int .i64 (k + 4 * L.length)) ∧ Marked w w' base hi ao L.length k := by
  have HO := hideP ho
  have HI := hideP hbl
  have HK := hideP kw
  clear ho kw hbl
  have hn' : (L.length : Int) ≤ 100 := by omega
  by_cases hz : L.length = 0
  · have hL : L = [] := List.length_eq_zero_iff.1 hz
    subst hL
    go_enter Try.func34, Try.ntmps34
    go_wp2_with fail
    refine Calls.mono (markNil_any ao ca k _ k0 k1) ?_
    rintro e w1 ⟨rfl, rfl⟩
    go_wp2
    go_returns
    refine ⟨by simp, ⟨.inl rfl, by simp, fun B _ hB => ?_, fun b hb _ => ?_⟩⟩
    · exact (Below.refl _ _).alloc hB _
    · exact heap_alloc_old w _ hb
  · have hpos : 0 < L.length := by omega
    have HM := hideP (fun W (kW : Below w0.heap.size w0 W) => HO.out.mk hpos k kW)
    go_enter Try.func34, Try.ntmps34
    go_wp2_with fail
    obtain ⟨g, rfl, hg1, hg2, M⟩ := HM.out (w.alloc (.cells #[.int .i64 c, .slice ao L.length ca] 30)) (HK.out.alloc HK.out.size _)
    refine Calls.mono (mark_any g 0 L.length ca k _ M hn k0 k1) ?_
    rintro e w1 ⟨rfl, M1⟩
    have hs := HK.out.size
    have hs1 := M1.turn.size
    simp at hs1
    have hg3 : g < hi := HI.out g rfl
    have R : Hid (Marked w w1 base hi (some ⟨g, 0, none⟩) L.length k) := ⟨M1.lst _ _ hg1 hg3, by omega, fun B h1 h2 => ((Below.refl B w).alloc h2 _).trans (M1.turn.below (by simp; omega) (fun a e => by cases e; show B ≤ g; omega)),
      fun b hb h => (M1.turn.block b (by simp; omega) (fun a e => by cases e; show b ≠ g; omega)).trans (heap_alloc_old w _ hb)⟩
    clear M1 HM
    go_wp2
    go_returns
    exact ⟨rfl, R.out⟩

set_option maxHeartbeats 400000 in
theorem heldRR_any (lo hi : Nat) (c : Int) (ao : Option Addr) (ca n : Nat) (k : Int) (w : World) (ha : Lst w lo hi ao (mrk n k)) (h1 : hi ≤ w.heap.size) (hn : n ≤ 100) (k0 : 0 ≤ k) (k1 : k ≤ 1000) :
    Calls Try.prog 35 #[.agg #[.int .i64 c, .slice ao n ca], .int .i64 k] w fun e w' => e = .returned (.int .i64 (k + 4 * n)) ∧ Below w.heap.size w w' := by
  have HA := hideP ha
  clear ha
  have hn' : (n : Int) ≤ 100 := by omega
  go_enter Try.func35, Try.ntmps35
  go_wp2_with fail
  refine Calls.mono (held_any lo hi ao ca n k _ (HA.out.keep (B := w.heap.size) (by go_grown) h1) hn k0 k1) ?_
  rintro e w1 ⟨rfl, rfl⟩
  go_wp2
  go_returns
  exact ⟨rfl, by go_grown⟩

end Go.Proofs.Ytbceacnadkhdoaa
