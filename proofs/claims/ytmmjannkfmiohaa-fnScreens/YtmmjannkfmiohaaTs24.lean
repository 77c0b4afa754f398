/- Lists of rectangles in memory: their cells, who owns them, what one more at their end makes of them. Lists of rectangles: whether two are the same; faults of lists; marks. Lists of rectangles: faults of lists; marks into a list, and whether they are held. Marks into a list of rectangles, and whether they are held. -/
import Derived.Test.YtmmjannkfmiohaaTs9
import Derived.OwnWalk
import Derived.Laws.OwnMore
import Derived.Deep.AppendLies
import Derived.Test.YtmmjannkfmiohaaTs1
namespace Go.Proofs.Ytmmjannkfmiohaa
open Go.RowKit
set_option linter.unusedVariables false

structure Rc where
  x : Int
  y : Int
  w : Int
  h : Int

def Rc.flt (r : Rc) : Bool := rfB r.x r.y r.w r.h
def Rc.val (r : Rc) : Value := .agg #[.int .i64 r.x, .int .i64 r.y, .int .i64 r.w, .int .i64 r.h]
def Rc.cells (r : Rc) : List Value := [.int .i64 r.x, .int .i64 r.y, .int .i64 r.w, .int .i64 r.h]
def rcs : List Rc → List Value
  | [] => []
  | r :: L => r.cells ++ rcs L

theorem rcs_len (L : List Rc) : (rcs L).length = L.length * 4 := by
  induction L with
  | nil => rfl
  | cons r L ih => simp only [rcs, List.length_append, ih, List.length_cons, Rc.cells, List.length_nil]; omega
theorem rcs_app (L M : List Rc) : rcs (L ++ M) = rcs L ++ rcs M := by
  induction L with
  | nil => rfl
  | cons r L ih => simp only [List.cons_append, rcs, ih, List.append_assoc]
theorem rcs_at (L : List Rc) : ∀ (i : Nat) (h : i < L.length) (j : Nat), j < 4 → (rcs L)[i * 4 + j]? = L[i].cells[j]? := by
  induction L with
  | nil => intro i h; simp at h
  | cons r L ih =>
    intro i h j hj
    have hl : r.cells.length = 4 := rfl
    cases i with
    | zero => simp only [rcs, Nat.zero_mul, Nat.zero_add]; rw [List.getElem?_append_left (by omega)]; rfl
    | succ i =>
      simp only [rcs]
      rw [List.getElem?_append_right (by omega)]
      have e : (i + 1) * 4 + j - r.cells.length = i * 4 + j := by omega
      rw [e, ih i (by simpa using h) j hj]
      rfl

/-- The slice owns a list of rectangles, in a block from base on. -/
def Own (w : World) (base : Nat) (ao : Option Addr) (cap : Nat) (L : List Rc) : Prop := w.ownsRow base 45 4 (.slice ao L.length cap) L.length (rcs L)

theorem own_form {w : World} {base : Nat} {v : Value} {L : List Rc} (h : w.ownsRow base 45 4 v L.length (rcs L)) : ∃ ao cap, v = .slice ao L.length cap ∧ Own w base ao cap L := by
  have h' := h
  rcases h.2 with ⟨rfl, h0⟩ | ⟨g, cap, cur, rfl, _⟩
  · exact ⟨none, 0, by rw [h0], by unfold Own; rw [h0]; rw [h0] at h'; exact h'⟩
  · exact ⟨_, cap, rfl, h'⟩

/-- The slice reads as a list of rectangles; its block lies from lo on and ahead of hi. -/
def Lst (w : World) (lo hi : Nat) (ao : Option Addr) (L : List Rc) : Prop :=
  L = [] ∨ ∃ g o, ao = some ⟨g, o, none⟩ ∧ lo ≤ g ∧ g < hi ∧ ∀ i (h : i < L.length), IsRect w g (o + i * 4) L[i].x L[i].y L[i].w L[i].h

theorem Own.lst {w : World} {base : Nat} {ao : Option Addr} {cap : Nat} {L : List Rc} (h : Own w base ao cap L) : Lst w base w.heap.size ao L := by
  by_cases hn : L = []
  · exact .inl hn
  · have hpos : 0 < L.length := List.length_pos_iff.2 hn
    obtain ⟨g, cap', hv, hb, hlt⟩ := World.ownsRow.form h hpos
    cases hv
    refine .inr ⟨g, 0, rfl, hb, hlt, fun i hi => ?_⟩
    have c : ∀ j, j < 4 → w.cell? ⟨g, 0 + i * 4 + j, none⟩ = L[i].cells[j]? := fun j hj => by
      rw [Nat.zero_add, World.ownsRow.cellAt h (i * 4 + j) (by omega), rcs_at L i hi j hj]
    exact ⟨c 0 (by omega), c 1 (by omega), c 2 (by omega), c 3 (by omega)⟩

theorem IsRect.keep {w w' : World} {b o B : Nat} {x y ww hh : Int} (h : IsRect w b o x y ww hh) (k : Below B w w') (hb : b < B) : IsRect w' b o x y ww hh :=
  ⟨(k.cell (p := ⟨b, o, none⟩) hb).trans h.c0, (k.cell (p := ⟨b, o + 1, none⟩) hb).trans h.c1, (k.cell (p := ⟨b, o + 2, none⟩) hb).trans h.c2, (k.cell (p := ⟨b, o + 3, none⟩) hb).trans h.c3⟩
theorem Lst.keep {w w' : World} {lo hi B : Nat} {ao : Option Addr} {L : List Rc} (h : Lst w lo hi ao L) (k : Below B w w') (hb : hi ≤ B) : Lst w' lo hi ao L := by
  rcases h with h | ⟨g, o, ha, h1, h2, hc⟩
  · exact .inl h
  · exact .inr ⟨g, o, ha, h1, h2, fun i hi => (hc i hi).keep k (by omega)⟩
theorem Lst.wide {w : World} {lo hi lo' hi' : Nat} {ao : Option Addr} {L : List Rc} (h : Lst w lo hi ao L) (h1 : lo' ≤ lo) (h2 : hi ≤ hi') : Lst w lo' hi' ao L := by
  rcases h with h | ⟨g, o, ha, g1, g2, hc⟩
  · exact .inl h
  · exact .inr ⟨g, o, ha, by omega, by omega, hc⟩

/-- One more at the end, if it has a point. -/
def putR (L : List Rc) (x y r b : Int) : List Rc := if r ≤ x ∨ b ≤ y then L else L ++ [⟨x, y, r - x, b - y⟩]
theorem putR_no {L : List Rc} {x y r b : Int} (h : r ≤ x ∨ b ≤ y) : putR L x y r b = L := by unfold putR; rw [if_pos h]
theorem putR_yes {L : List Rc} {x y r b : Int} (h : x < r) (h2 : y < b) : putR L x y r b = L ++ [⟨x, y, r - x, b - y⟩] := by unfold putR; rw [if_neg (by omega)]
theorem putR_len (L : List Rc) (x y r b : Int) : (putR L x y r b).length ≤ L.length + 1 := by unfold putR; split <;> simp

theorem Try.infoRect : (Try.prog.info? 45).map (fun i => (i.zero, i.size, i.bytes)) = some (some (.agg #[.int .i64 0, .int .i64 0, .int .i64 0, .int .i64 0]), 4, 32) := by kernel_rfl

theorem put_step {w1 w2 : World} {base : Nat} {v2 : Value} {L : List Rc} {x y r b : Int} (h : x < r) (h2 : y < b)
    (ho : w2.ownsRow base 45 4 v2 (L.length + 1) (rcs L ++ [.int .i64 x, .int .i64 y, .int .i64 (r - x), .int .i64 (b - y)])) :
    ∃ ao cap, v2 = .slice ao (putR L x y r b).length cap ∧ Own w2 base ao cap (putR L x y r b) := by
  refine own_form ?_
  rw [putR_yes h h2, rcs_app, List.length_append]
  exact ho

theorem below_grown {base : Nat} {w w2 : World} {o : Obj} {v : Value} {e : TypeId} {n : Nat} {xs : List Value} (hb : base ≤ w.heap.size) (ho : w.ownsRow base e 4 v n xs) (hg : (w.alloc o).grownBy w2 v.ownBlock) : Below base w w2 :=
  ((Below.refl base w).alloc hb o).grown hg (by simp; omega) fun k hk => (ho.lt k hk).1

set_option maxHeartbeats 1000000 in
theorem iPut_any (base : Nat) (ao : Option Addr) (cap : Nat) (L M : List Rc) (x y r b : Int) (w : World) (hM : M = putR L x y r b) (ho : Own w base ao cap L) (hb : base ≤ w.heap.size) (hl : L.length ≤ 100)
    (hx : -1000 ≤ x ∧ x ≤ 1000) (hy : -1000 ≤ y ∧ y ≤ 1000) (hr : -1000 ≤ r ∧ r ≤ 1000) (hbb : -1000 ≤ b ∧ b ≤ 1000) :
    Calls Try.prog 66 #[.slice ao L.length cap, .int .i64 x, .int .i64 y, .int .i64 r, .int .i64 b] w fun e w' => ∃ ao' cap', e = .returned (.slice ao' M.length cap') ∧ Own w' base ao' cap' M ∧ Below base w w' := by
  subst hM
  obtain ⟨hx1, hx2⟩ := hx
  obtain ⟨hy1, hy2⟩ := hy
  obtain ⟨hr1, hr2⟩ := hr
  obtain ⟨hb1, hb2⟩ := hbb
  have HO := hideP ho
  have HB := hideP hb
  have HL := hideP hl
  obtain ⟨i0, hi, hz0, hz1, hz2⟩ := info_parts Try.infoRect
  clear ho hb hl
  by_cases g1 : r ≤ x
  · have hp := hideP (putR_no (L := L) (y := y) (b := b) (.inl g1))
    go_enter Try.func66, Try.ntmps66
    go_wp2
    go_returns
    exact ⟨ao, cap, by rw [hp.out]; rfl, by rw [hp.out]; exact HO.out, Below.refl _ _⟩
  · by_cases g2 : b ≤ y
    · have hp := hideP (putR_no (L := L) (x := x) (r := r) (.inr g2))
      go_enter Try.func66, Try.ntmps66
      go_wp2
      go_returns
      exact ⟨ao, cap, by rw [hp.out]; rfl, by rw [hp.out]; exact HO.out, Below.refl _ _⟩
    · have g3 := hideP (show x < r ∧ y < b by omega)
      go_enter Try.func66, Try.ntmps66
      go_wp2_with (first | (at_builtin; refine wpList_append_own _ rfl _ _ 85 rfl base 45 i0 (.agg #[.int .i64 0, .int .i64 0, .int .i64 0, .int .i64 0]) 4 32 Try.underlying85 hi hz0 hz1 hz2 rfl (by decide) _ _ _ rfl (HO.out.alloc _) ⟨w.heap.size, 0, none⟩ 1 1 [.int .i64 x, .int .i64 y, .int .i64 (r - x), .int .i64 (b - y)] rfl rfl (World.news_of_block (heap_alloc_new w _)) (by intro u hu; simp at hu; rcases hu with rfl | rfl | rfl | rfl <;> rfl) (by have := HL.out; unfold maxLen; omega) (by have := HL.out; omega) (by have := HB.out; simp; omega) ?_; intro v2 w2 hown2 hgrow2 _) | go_in)
      have R1 := hideP (put_step (w1 := w) g3.out.1 g3.out.2 hown2)
      have R2 := hideP (below_grown HB.out HO.out hgrow2)
      clear hown2 hgrow2
      go_wp2
      go_returns
      obtain ⟨ao', cap', rfl, h1⟩ := R1.out
      exact ⟨ao', cap', rfl, h1, R2.out⟩

end Go.Proofs.Ytmmjannkfmiohaa

namespace Go.Proofs.Ytmmjannkfmiohaa
open Go.RowKit
set_option linter.unusedVariables false

end Go.Proofs.Ytmmjannkfmiohaa

namespace Go.Proofs.Ytmmjannkfmiohaa
open Go.RowKit
set_option linter.unusedVariables false

def fltL (L : List Rc) : Bool := L.any Rc.flt
theorem fltL_hit {L : List Rc} {k : Nat} (h : k < L.length) (hf : rfB L[k].x L[k].y L[k].w L[k].h = true) : fltL L = true := by
  unfold fltL
  exact List.any_eq_true.2 ⟨L[k], List.getElem_mem _, hf⟩
theorem fltL_none {L : List Rc} (h : ∀ k (hk : k < L.length), rfB L[k].x L[k].y L[k].w L[k].h = false) : fltL L = false := by
  unfold fltL
  refine List.any_eq_false.2 fun r hr => ?_
  obtain ⟨k, hk, rfl⟩ := List.mem_iff_getElem.1 hr
  simpa [Rc.flt] using h k hk
theorem fltL_at {L : List Rc} (h : fltL L = false) (k : Nat) (hk : k < L.length) : rfB L[k].x L[k].y L[k].w L[k].h = false := by
  have := (List.any_eq_false.1 h) L[k] (List.getElem_mem _)
  simpa [Rc.flt] using this

set_option maxHeartbeats 1000000 in
theorem fo_any (lo hi : Nat) (ao : Option Addr) (ca : Nat) (L : List Rc) (w : World) (ha : Lst w lo hi ao L) (h1 : hi ≤ w.heap.size) (hl : L.length ≤ 1048576) :
    Calls Try.prog 65 #[.slice ao L.length ca] w fun e w' => e = .returned (.int .i64 (rfOf (fltL L))) ∧ Below w.heap.size w w' := by
  have hl' : (L.length : Int) ≤ 1048576 := by omega
  have HA := hideP ha
  clear ha
  go_enter Try.func65, Try.ntmps65
  go_wp2
  go_loopw [8] (fun i wr => ∃ k : Nat, k ≤ L.length ∧ i = .int .i64 k ∧ Below w.heap.size w wr ∧ Hid (∀ j (hj : j < L.length), j < k → rfB L[j].x L[j].y L[j].w L[j].h = false)) (fun i _ => L.length - (intOf i).toNat)
  case atStart => exact ⟨0, Nat.zero_le _, rfl, Below.refl _ _, fun j _ hj => absurd hj (Nat.not_lt_zero _)⟩
  case round =>
    obtain ⟨k, hk, rfl, hbel, HF⟩ := hrel
    have hz := hbel.size
    by_cases hlt : k < L.length
    · have hlt' : (k : Int) < (L.length : Int) := by omega
      have hne : L ≠ [] := fun e => by rw [e] at hlt; simp at hlt
      rcases HA.out with e | ⟨g, o, rfl, _, hg, hc⟩
      · exact absurd e hne
      obtain ⟨a0, a1, a2, a3⟩ := (hc k hlt).keep hbel (by omega)
      have hgl : g < wr.heap.size := by omega
      have HBel := hideP hbel
      have hhit := hideP (fltL_hit hlt)
      have hon := hideP (show ∀ e : rfB L[k].x L[k].y L[k].w L[k].h = false, ∀ j (hj : j < L.length), j < k + 1 → rfB L[j].x L[j].y L[j].w L[j].h = false from fun e j hj hjk => by
        by_cases h : j < k
        · exact HF.out j hj h
        · obtain rfl : j = k := by omega
          exact e)
      clear hc hbel HA HF
      generalize L[k].x = x at *
      generalize L[k].y = y at *
      generalize L[k].w = ww at *
      generalize L[k].h = hh at *
      cases hf : rfB x y ww hh
      · have hon' := hideP (hon.out hf)
        clear hon hhit
        go_wp2_with (first | (go_at_call 63; refine Calls.mono (rf_ok _ _ _ _ _ ?_) ?_; (all_goals try (first | (with_reducible assumption) | omega)); rintro e w1 ⟨rfl, k1⟩; (try replace k1 := kept_join (by assumption) k1); have hc1 := Kept.cell k1; have hf1 := Kept.frozen k1; have hz1 := k1.size; (try simp only [World.size_alloc] at hz1); (try simp only [World.size_setCell] at hz1); (try simp only [World.size_drew] at hz1); (try (first | have hs1 := sz12 hz1 | have hs1 := sz11 hz1 | have hs1 := sz10 hz1 | have hs1 := sz9 hz1 | have hs1 := sz8 hz1 | have hs1 := sz7 hz1 | have hs1 := sz6 hz1 | have hs1 := sz5 hz1 | have hs1 := sz4 hz1 | have hs1 := sz3 hz1 | have hs1 := sz2 hz1 | have hs1 := sz1 hz1))))
        go_roundw
        case rel => exact ⟨k + 1, by omega, by go_num, by refine HBel.out.trans ?_; repeat' (first | (with_reducible exact Below.refl _ _) | (with_reducible refine kept_below ?_ (by assumption) ?_) | (with_reducible refine Below.alloc ?_ ?_ _) | (with_reducible refine Below.drew ?_) | (with_reducible refine Below.setCell ?_ ?_ _) | go_size), hon'.out⟩
        case measure => simp [intOf]; omega
      · have hh' := hideP (hhit.out hf)
        clear hon hhit
        go_wp2_with (first | (go_at_call 63; refine Calls.mono (rf_no _ _ _ _ _ ?_) ?_; (all_goals try (first | (with_reducible assumption) | omega)); rintro e w1 ⟨rfl, k1⟩; (try replace k1 := kept_join (by assumption) k1); have hc1 := Kept.cell k1; have hf1 := Kept.frozen k1; have hz1 := k1.size; (try simp only [World.size_alloc] at hz1); (try simp only [World.size_setCell] at hz1); (try simp only [World.size_drew] at hz1); (try (first | have hs1 := sz12 hz1 | have hs1 := sz11 hz1 | have hs1 := sz10 hz1 | have hs1 := sz9 hz1 | have hs1 := sz8 hz1 | have hs1 := sz7 hz1 | have hs1 := sz6 hz1 | have hs1 := sz5 hz1 | have hs1 := sz4 hz1 | have hs1 := sz3 hz1 | have hs1 := sz2 hz1 | have hs1 := sz1 hz1))))
        go_returns
        refine ⟨by rw [hh'.out]; rfl, HBel.out.trans ?_⟩
        repeat' (first | (with_reducible exact Below.refl _ _) | (with_reducible refine kept_below ?_ (by assumption) ?_) | (with_reducible refine Below.alloc ?_ ?_ _) | (with_reducible refine Below.drew ?_) | (with_reducible refine Below.setCell ?_ ?_ _) | go_size)
    · have hf := hideP (fltL_none fun j hj => HF.out j hj (by omega))
      have HBel := hideP hbel
      clear hbel HF
      go_wp2
      go_returns
      exact ⟨by rw [hf.out]; rfl, HBel.out⟩

end Go.Proofs.Ytmmjannkfmiohaa

namespace Go.Proofs.Ytmmjannkfmiohaa
open Go.RowKit
set_option linter.unusedVariables false

/-- All old memory but the block of ao is as it was. -/
structure TurnO (ao : Option Addr) (w w' : World) : Prop where
  os : w'.os = w.os
  tape : w'.tape = w.tape
  output : w'.output = w.output
  size : w.heap.size ≤ w'.heap.size
  block : ∀ k, k < w.heap.size → (∀ a, ao = some a → k ≠ a.block) → w'.heap[k]? = w.heap[k]?

theorem TurnO.refl (ao : Option Addr) (w : World) : TurnO ao w w := ⟨rfl, rfl, rfl, Nat.le_refl _, fun _ _ _ => rfl⟩
theorem TurnO.setCell {w w' : World} {g o : Nat} (h : TurnO (some ⟨g, o, none⟩) w w') (j : Nat) (v : Value) : TurnO (some ⟨g, o, none⟩) w (w'.setCell ⟨g, j, none⟩ v) :=
  ⟨h.os, h.tape, h.output, by simpa using h.size, fun k hk hb => (Below.heap_setCell w' ⟨g, j, none⟩ v k (hb ⟨g, o, none⟩ rfl)).trans (h.block k hk hb)⟩
theorem TurnO.below {ao : Option Addr} {w w' : World} {B : Nat} (h : TurnO ao w w') (hB : B ≤ w.heap.size) (ha : ∀ a, ao = some a → B ≤ a.block) : Below B w w' :=
  ⟨h.os, h.tape, h.output, h.size, fun k hk => h.block k (by omega) (fun a e => by have := ha a e; omega)⟩

def mrkAt (k : Int) (i : Nat) : Rc := ⟨k + 4 * i, k + 4 * i + 1, k + 4 * i + 2, k + 4 * i + 3⟩
def mrk (n : Nat) (k : Int) : List Rc := (List.range n).map (mrkAt k)
theorem mrk_len (n : Nat) (k : Int) : (mrk n k).length = n := by simp [mrk]
theorem mrk_at (n : Nat) (k : Int) (i : Nat) (h : i < (mrk n k).length) : (mrk n k)[i] = mrkAt k i := by simp [mrk]

/-- n places of rectangles from ⟨g, o⟩ on, the first i of them marked from k on; w was ahead of it. -/
structure Mk (w wr : World) (g o n i : Nat) (k : Int) : Prop where
  turn : TurnO (some ⟨g, o, none⟩) w wr
  lt : g < wr.heap.size
  done : ∀ j, j < i → IsRect wr g (o + j * 4) (mrkAt k j).x (mrkAt k j).y (mrkAt k j).w (mrkAt k j).h
  there : ∀ c, c < n * 4 → ∃ u, wr.cell? ⟨g, o + c, none⟩ = some u
  free : ∀ c, wr.frozen? ⟨g, c, none⟩ = false


theorem Mk.step {w wr : World} {g o n i : Nat} {k : Int} (h : Mk w wr g o n i k) (hi : i < n) {a b c d : Int} (ea : a = k + 4 * i) (eb : b = k + 4 * i + 1) (ec : c = k + 4 * i + 2) (ed : d = k + 4 * i + 3) :
    Mk w ((((wr.setCell ⟨g, o + i * 4, none⟩ (.int .i64 a)).setCell ⟨g, o + i * 4 + 1, none⟩ (.int .i64 b)).setCell ⟨g, o + i * 4 + 2, none⟩ (.int .i64 c)).setCell ⟨g, o + i * 4 + 3, none⟩ (.int .i64 d)) g o n (i + 1) k := by
  subst ea eb ec ed
  have t0 : ∃ u, wr.cell? ⟨g, o + i * 4, none⟩ = some u := h.there (i * 4) (by omega)
  have t1 : ∃ u, wr.cell? ⟨g, o + i * 4 + 1, none⟩ = some u := h.there (i * 4 + 1) (by omega)
  have t2 : ∃ u, wr.cell? ⟨g, o + i * 4 + 2, none⟩ = some u := h.there (i * 4 + 2) (by omega)
  have t3 : ∃ u, wr.cell? ⟨g, o + i * 4 + 3, none⟩ = some u := h.there (i * 4 + 3) (by omega)
  obtain ⟨u0, t0⟩ := t0
  obtain ⟨u1, t1⟩ := t1
  obtain ⟨u2, t2⟩ := t2
  obtain ⟨u3, t3⟩ := t3
  refine ⟨(((h.turn.setCell _ _).setCell _ _).setCell _ _).setCell _ _, by simpa using h.lt, fun j hj => ?_, fun c hc => ?_, fun c => by simpa using h.free c⟩
  · by_cases hji : j < i
    · obtain ⟨c0, c1, c2, c3⟩ := h.done j hji
      refine ⟨?_, ?_, ?_, ?_⟩ <;> (repeat rw [cell_set_other (by omega)]) <;> assumption
    · obtain rfl : j = i := by omega
      refine ⟨?_, ?_, ?_, ?_⟩
      · rw [cell_set_other (by omega), cell_set_other (by omega), cell_set_other (by omega)]; exact cell_set_same t0
      · rw [cell_set_other (by omega), cell_set_other (by omega)]; exact cell_set_same ((cell_set_other (by omega)).trans t1)
      · rw [cell_set_other (by omega)]; exact cell_set_same ((cell_set_other (by omega)).trans ((cell_set_other (by omega)).trans t2))
      · exact cell_set_same ((cell_set_other (by omega)).trans ((cell_set_other (by omega)).trans ((cell_set_other (by omega)).trans t3)))
  · obtain ⟨u, hu⟩ := h.there c hc
    have key : ∀ (W : World) (d : Nat) (v : Value), (∃ u, W.cell? ⟨g, o + c, none⟩ = some u) → ∃ u, (W.setCell ⟨g, d, none⟩ v).cell? ⟨g, o + c, none⟩ = some u := fun W d v ⟨u, hu⟩ => by
      by_cases e : o + c = d
      · subst e; exact ⟨v, cell_set_same hu⟩
      · exact ⟨u, (cell_set_other e).trans hu⟩
    exact key _ _ _ (key _ _ _ (key _ _ _ (key _ _ _ ⟨u, hu⟩)))

end Go.Proofs.Ytmmjannkfmiohaa
