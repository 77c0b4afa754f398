/- Lists of hands in memory: read; how great one is; copied; whether two are the same; marked. -/
import Derived.Test.YtdigknenijmjcaaRr3
import Derived.OwnWalk
import Derived.Laws.OwnMore
import Derived.Deep.AppendLies
import Derived.Deep.Strs
import Derived.Test.YtdigknenijmjcaaRr2
import Derived.Test.YtdigknenijmjcaaRr21
import Derived.Test.YtdigknenijmjcaaRr24
import Derived.Test.YtdigknenijmjcaaRr5
import Derived.Test.YtdigknenijmjcaaRr26
import Derived.ProofKit
import Derived.Lib.SmallJoins
import Derived.Deep.Slices
namespace Go.Proofs.Ytdigknenijmjcaa
open Go.RowKit Go.ChangeShapes Go.WideShapes Go.ChangeAt Go.Joins
set_option linter.unusedVariables false

structure Hd where
  k : Int
  a : Int
  b : Int
instance hdInh : Inhabited Hd := ⟨⟨0, 0, 0⟩⟩
def Hd.val (r : Hd) : Value := .agg #[.int .i64 r.k, .int .i64 r.a, .int .i64 r.b]
def Hd.cells (r : Hd) : List Value := [.int .i64 r.k, .int .i64 r.a, .int .i64 r.b]
def hds : List Hd → List Value
  | [] => []
  | r :: L => r.cells ++ hds L
theorem hds_len (L : List Hd) : (hds L).length = L.length * 3 := by
  induction L with
  | nil => rfl
  | cons r L ih => simp only [hds, List.length_append, ih, List.length_cons, Hd.cells, List.length_nil]; omega
theorem hds_app (L M : List Hd) : hds (L ++ M) = hds L ++ hds M := by
  induction L with
  | nil => rfl
  | cons r L ih => simp only [List.cons_append, hds, ih, List.append_assoc]
theorem hds_at (L : List Hd) : ∀ (i : Nat) (h : i < L.length) (j : Nat), j < 3 → (hds L)[i * 3 + j]? = L[i].cells[j]? := by
  induction L with
  | nil => intro i h; simp at h
  | cons r L ih =>
    intro i h j hj
    have hl : r.cells.length = 3 := rfl
    cases i with
    | zero => simp only [hds, Nat.zero_mul, Nat.zero_add]; rw [List.getElem?_append_left (by omega)]; rfl
    | succ i =>
      simp only [hds]
      rw [List.getElem?_append_right (by omega)]
      have e : (i + 1) * 3 + j - r.cells.length = i * 3 + j := by omega
      rw [e, ih i (by simpa using h) j hj]
      rfl

structure IsHd (w : World) (b o : Nat) (x y z : Int) : Prop where
  c0 : w.cell? ⟨b, o, none⟩ = some (.int .i64 x)
  c1 : w.cell? ⟨b, o + 1, none⟩ = some (.int .i64 y)
  c2 : w.cell? ⟨b, o + 2, none⟩ = some (.int .i64 z)
theorem IsHd.keep {w w' : World} {b o B : Nat} {x y z : Int} (h : IsHd w b o x y z) (k : Below B w w') (hb : b < B) : IsHd w' b o x y z :=
  ⟨(k.cell (p := ⟨b, o, none⟩) hb).trans h.c0, (k.cell (p := ⟨b, o + 1, none⟩) hb).trans h.c1, (k.cell (p := ⟨b, o + 2, none⟩) hb).trans h.c2⟩

/-- The slice reads as a list of hands; its block lies from lo on and ahead of hi. -/
def Hds (w : World) (lo hi : Nat) (ao : Option Addr) (L : List Hd) : Prop :=
  L = [] ∨ ∃ g o, ao = some ⟨g, o, none⟩ ∧ lo ≤ g ∧ g < hi ∧ ∀ i (h : i < L.length), IsHd w g (o + i * 3) L[i].k L[i].a L[i].b
theorem Hds.keep {w w' : World} {lo hi B : Nat} {ao : Option Addr} {L : List Hd} (h : Hds w lo hi ao L) (k : Below B w w') (hb : hi ≤ B) : Hds w' lo hi ao L := by
  rcases h with h | ⟨g, o, ha, h1, h2, hc⟩
  · exact .inl h
  · exact .inr ⟨g, o, ha, h1, h2, fun i hi => (hc i hi).keep k (by omega)⟩
theorem Hds.wide {w : World} {lo hi lo' hi' : Nat} {ao : Option Addr} {L : List Hd} (h : Hds w lo hi ao L) (h1 : lo' ≤ lo) (h2 : hi ≤ hi') : Hds w lo' hi' ao L := by
  rcases h with h | ⟨g, o, ha, g1, g2, hc⟩
  · exact .inl h
  · exact .inr ⟨g, o, ha, by omega, by omega, hc⟩

/-- The slice owns a list of hands, in a block from base on. -/
def OwnH (w : World) (base : Nat) (ao : Option Addr) (cap : Nat) (L : List Hd) : Prop := w.ownsRow base 59 3 (.slice ao L.length cap) L.length (hds L)
theorem OwnH.hds {w : World} {base : Nat} {ao : Option Addr} {cap : Nat} {L : List Hd} (h : OwnH w base ao cap L) : Hds w base w.heap.size ao L := by
  by_cases hn : L = []
  · exact .inl hn
  · have hpos : 0 < L.length := List.length_pos_iff.2 hn
    obtain ⟨g, cap', hv, hb, hlt⟩ := World.ownsRow.form h hpos
    cases hv
    refine .inr ⟨g, 0, rfl, hb, hlt, fun i hi => ?_⟩
    have c : ∀ j, j < 3 → w.cell? ⟨g, 0 + i * 3 + j, none⟩ = L[i].cells[j]? := fun j hj => by
      rw [Nat.zero_add, World.ownsRow.cellAt h (i * 3 + j) (by omega), hds_at L i hi j hj]
    exact ⟨c 0 (by omega), c 1 (by omega), c 2 (by omega)⟩

theorem Try.infoHd : (Try.prog.info? 59).map (fun i => (i.zero, i.size, i.bytes)) = some (some (.agg #[.int .i64 0, .int .i64 0, .int .i64 0]), 3, 24) := by kernel_rfl
theorem cellsHL : Try.prog.cellsOf 65 = 3 := by kernel_rfl
theorem cellsH6 : Try.prog.cellsOf 2 = 1 := by kernel_rfl

theorem open_hands {H : Type} {enc : TypeId × Value → H} {w : World} {base : Nat} {spare : Nat → Bool} {held : Bool} {fuel : Nat} {cs : List Value} {x : DataW H × List MemPlace} (h : DataW.trod enc Try.prog w base spare held fuel 25 cs = some x) :
    ∃ (ao : Option Addr) (len cap : Nat) (L : List Hd), cs = [.slice ao len cap] ∧ L.length = len ∧ len ≤ maxLen ∧ Hds w 0 w.heap.size ao L := by
  rcases Go.Deep.open_slice Try.underlying25 h with ⟨rfl, _⟩ | ⟨a, len, cap, m, n, D, Pl, rfl, hb, hl, hm, hmm, rfl, hx⟩
  · exact ⟨none, 0, 0, [], rfl, rfl, Nat.zero_le _, .inl rfl⟩
  · have hlm : len ≤ m := by rw [hmm]; split <;> omega
    have each : ∀ i, i < len → ∃ r : Hd, w.cell? (a.add (i * 3)) = some (.int .i64 r.k) ∧ w.cell? (a.add (i * 3 + 1)) = some (.int .i64 r.a) ∧ w.cell? (a.add (i * 3 + 2)) = some (.int .i64 r.b) := by
      intro i hi
      obtain ⟨cs', h1, h2⟩ := hx i (by omega)
      rw [cellsHL] at h1
      obtain ⟨_, hlen, hcell⟩ := World.cells?_some h1
      obtain ⟨y0, y1, y2, n', _, _, g0, g1, g2⟩ := Go.Deep.trod_struct3 Try.underlying65 h2
      simp only [cellsH6] at g0 g1 g2
      match cs', hlen with
      | [v0, v1, v2], _ =>
        simp at g0 g1 g2
        obtain ⟨b0, e0, _, _⟩ := DataW.trod_int Try.underlying2 g0
        obtain ⟨b1, e1, _, _⟩ := DataW.trod_int Try.underlying2 g1
        obtain ⟨b2, e2, _, _⟩ := DataW.trod_int Try.underlying2 g2
        simp at e0 e1 e2
        subst e0 e1 e2
        have k0 := hcell 0 (by omega)
        have k1 := hcell 1 (by omega)
        have k2 := hcell 2 (by omega)
        rw [Go.Deep.add_add] at k0 k1 k2
        exact ⟨⟨b0, b1, b2⟩, by simpa using k0, by simpa using k1, by simpa using k2⟩
    obtain ⟨f, hf⟩ := Go.Deep.choose_lt each
    refine ⟨some a, len, cap, (List.range len).map f, rfl, by simp, by omega, ?_⟩
    by_cases h0 : len = 0
    · subst h0; exact .inl rfl
    · obtain ⟨g, o, sp⟩ := a
      have hc := (hf 0 (by omega)).1
      have hs : sp = none := by simpa [Addr.add] using World.cell?_spot hc
      subst hs
      have hadd : ∀ j, (⟨g, o, none⟩ : Addr).add j = ⟨g, o + j, none⟩ := fun j => by unfold Addr.add; split <;> simp_all
      refine .inr ⟨g, o, rfl, Nat.zero_le _, ?_, fun i hi => ?_⟩
      · rw [hadd] at hc; exact World.block_lt_of_cell? w _ hc
      · have hi' : i < len := by simpa using hi
        obtain ⟨q0, q1, q2⟩ := hf i hi'
        rw [hadd] at q0 q1 q2
        simp only [List.getElem_map, List.getElem_range]
        exact ⟨q0, q1, q2⟩

set_option maxHeartbeats 400000 in
theorem szHds_any (ao : Option Addr) (n ca : Nat) (t : Int) (w : World) (hn : n ≤ maxLen) (ht : 0 ≤ t ∧ t ≤ 1048576) :
    Calls Try.prog 5 #[.slice ao n ca, .int .i64 t] w fun e w' => e = .returned (.int .i64 (if (n : Int) ≤ t then t - (n : Int) else -1)) ∧ w' = w := by
  unfold maxLen at hn
  by_cases h : (n : Int) ≤ t
  · rw [if_pos h]
    go_enter Try.func5, Try.ntmps5
    go_wp2
    go_returns
    exact ⟨rfl, rfl⟩
  · have h2 : (n : Int) ≤ 9223372036854775807 := by omega
    have h3 : t - (n : Int) < 0 := by omega
    rw [if_neg h]
    go_enter Try.func5, Try.ntmps5
    go_wp2
    go_returns
    exact ⟨rfl, rfl⟩

set_option maxHeartbeats 400000 in
theorem eqHd_same (k a b : Int) (w : World) :
    Calls Try.prog 27 #[.agg #[.int .i64 k, .int .i64 a, .int .i64 b], .agg #[.int .i64 k, .int .i64 a, .int .i64 b]] w fun e w' => e = .returned (.bool true) ∧ Below w.heap.size w w' := by
  go_enter Try.func27, Try.ntmps27
  go_wp2
  go_returns
  exact ⟨rfl, by go_grown⟩

set_option maxHeartbeats 1000000 in
theorem eqHds_same (lo hi lo2 hi2 : Nat) (ao bo : Option Addr) (ca cb : Nat) (L : List Hd) (w : World) (ha : Hds w lo hi ao L) (hb : Hds w lo2 hi2 bo L) (h1 : hi ≤ w.heap.size) (h2 : hi2 ≤ w.heap.size) (hl : L.length ≤ 1048576) :
    Calls Try.prog 13 #[.slice ao L.length ca, .slice bo L.length cb] w fun e w' => e = .returned (.bool true) ∧ Below w.heap.size w w' := by
  have hl' : (L.length : Int) ≤ 1048576 := by omega
  have HA := hideP ha
  have HB := hideP hb
  clear ha hb
  go_enter Try.func13, Try.ntmps13
  go_wp2
  go_loopw [5] (fun i wr => ∃ k : Nat, k ≤ L.length ∧ i = .int .i64 k ∧ Below w.heap.size w wr) (fun i _ => L.length - (intOf i).toNat)
  case atStart => exact ⟨0, Nat.zero_le _, rfl, Below.refl _ _⟩
  case round =>
    obtain ⟨k, hk, rfl, hbel⟩ := hrel
    have hz := hbel.size
    by_cases hlt : k < L.length
    · have hlt' : (k : Int) < (L.length : Int) := by omega
      have hne : L ≠ [] := fun e => by rw [e] at hlt; simp at hlt
      rcases HA.out with e | ⟨g, o, rfl, _, hg, hc⟩
      · exact absurd e hne
      rcases HB.out with e | ⟨g', o', rfl, _, hg', hc'⟩
      · exact absurd e hne
      obtain ⟨a0, a1, a2⟩ := (hc k hlt).keep hbel (by omega)
      obtain ⟨b0, b1, b2⟩ := (hc' k hlt).keep hbel (by omega)
      have hgl : g < wr.heap.size := by omega
      have hgl' : g' < wr.heap.size := by omega
      have HBel := hideP hbel
      clear hc hc' hbel HA HB
      generalize L[k].k = x at *
      generalize L[k].a = y at *
      generalize L[k].b = z at *
      go_wp2
      refine wp_region_kept (by kernel_rfl) (by kernel_rfl) ?_
      repeat (refine kept_step (by rfl) ?_; apply Exists.intro; refine ⟨fun w1 k1 => ?_, fun K hK => ?_⟩; (focus (have hc := Kept.cell k1; go_simp; first | done | rfl | (go_at_call 27; exact kept_call k1 (eqHd_same _ _ _ _)))); (go_simp; refine hK _ ?_; clear hK K))
      refine wpQuiet_nil ?_
      intro w5 k5
      replace k5 := Kept.below k5
      have hc5 := Kept.cell k5
      have hf5 := Kept.frozen k5
      have hz5 := k5.size
      try simp only [World.size_alloc] at hz5
      try simp only [World.size_setCell] at hz5
      try simp only [World.size_drew] at hz5
      try (first | have hs5 := sz12 hz5 | have hs5 := sz11 hz5 | have hs5 := sz10 hz5 | have hs5 := sz9 hz5 | have hs5 := sz8 hz5 | have hs5 := sz7 hz5 | have hs5 := sz6 hz5 | have hs5 := sz5 hz5 | have hs5 := sz4 hz5 | have hs5 := sz3 hz5 | have hs5 := sz2 hz5 | have hs5 := sz1 hz5)
      go_wp2
      go_roundw
      case rel => exact ⟨k + 1, by omega, by go_num, HBel.out.trans (k5.mono HBel.out.size)⟩
      case measure => simp [intOf]; omega
    · have HBel := hideP hbel
      clear hbel
      go_wp2
      go_returns
      exact ⟨rfl, HBel.out⟩

/-- A copy of a list, its first k hands there. -/
structure FillH (w wr : World) (g n k : Nat) (L : List Hd) : Prop where
  below : Below w.heap.size w wr
  lt : g < wr.heap.size
  done : ∀ j (hj : j < L.length), j < k → IsHd wr g (0 + j * 3) L[j].k L[j].a L[j].b
  there : ∀ c, c < n * 3 → ∃ u, wr.cell? ⟨g, 0 + c, none⟩ = some u
  free : ∀ c, wr.frozen? ⟨g, c, none⟩ = false
  le : w.heap.size ≤ g

theorem FillH.keep {w wr wr' : World} {g n k : Nat} {L : List Hd} (h : FillH w wr g n k L) (kk : Below wr.heap.size wr wr') : FillH w wr' g n k L :=
  ⟨h.below.trans (kk.mono h.below.size), Nat.lt_of_lt_of_le h.lt kk.size, fun j hj hk => (h.done j hj hk).keep kk h.lt, fun c hc => by obtain ⟨u, hu⟩ := h.there c hc; exact ⟨u, (kk.cell (p := ⟨g, 0 + c, none⟩) h.lt).trans hu⟩,
    fun c => (kk.frozen (p := ⟨g, c, none⟩) h.lt).trans (h.free c), h.le⟩

theorem FillH.step {w wr : World} {g n i : Nat} {L : List Hd} (h : FillH w wr g n i L) (hi : i < n) (hl : i < L.length) :
    FillH w (((wr.setCell ⟨g, i * 3, none⟩ (.int .i64 L[i].k)).setCell ⟨g, i * 3 + 1, none⟩ (.int .i64 L[i].a)).setCell ⟨g, i * 3 + 2, none⟩ (.int .i64 L[i].b)) g n (i + 1) L := by
  have t : ∀ c, c < 3 → ∃ u, wr.cell? ⟨g, i * 3 + c, none⟩ = some u := fun c hc => by
    obtain ⟨u, hu⟩ := h.there (i * 3 + c) (by omega)
    rw [Nat.zero_add] at hu
    exact ⟨u, hu⟩
  obtain ⟨u0, t0⟩ := t 0 (by omega)
  obtain ⟨u1, t1⟩ := t 1 (by omega)
  obtain ⟨u2, t2⟩ := t 2 (by omega)
  have hg := h.le
  refine ⟨((h.below.setCell (p := ⟨g, _, none⟩) hg _).setCell (p := ⟨g, _, none⟩) hg _).setCell (p := ⟨g, _, none⟩) hg _, by simpa using h.lt, fun j hj hk => ?_, fun c hc => ?_, fun c => by simpa using h.free c, hg⟩
  · by_cases hji : j < i
    · obtain ⟨c0, c1, c2⟩ := h.done j hj hji
      refine ⟨?_, ?_, ?_⟩ <;> (repeat rw [cell_set_other (by omega)]) <;> assumption
    · obtain rfl : j = i := by omega
      rw [Nat.zero_add]
      refine ⟨?_, ?_, ?_⟩
      · rw [cell_set_other (by omega), cell_set_other (by omega)]; exact cell_set_same t0
      · rw [cell_set_other (by omega)]; exact cell_set_same ((cell_set_other (by omega)).trans t1)
      · exact cell_set_same ((cell_set_other (by omega)).trans ((cell_set_other (by omega)).trans t2))
  · obtain ⟨u, hu⟩ := h.there c hc
    have key : ∀ (W : World) (d : Nat) (v : Value), (∃ u, W.cell? ⟨g, 0 + c, none⟩ = some u) → ∃ u, (W.setCell ⟨g, d, none⟩ v).cell? ⟨g, 0 + c, none⟩ = some u := fun W d v ⟨u, hu⟩ => by
      by_cases e : 0 + c = d
      · subst e; exact ⟨v, cell_set_same hu⟩
      · exact ⟨u, (cell_set_other e).trans hu⟩
    exact key _ _ _ (key _ _ _ (key _ _ _ ⟨u, hu⟩))

theorem fillH_new {w w1 : World} {n : Nat} {L : List Hd} {xs : List Value} (ho : w1.ownsRow w.heap.size 59 3 (.slice (some ⟨w.heap.size, 0, none⟩) n n) n xs) (hg : w.grownBy w1 none) : FillH w w1 w.heap.size n 0 L := by
  refine ⟨⟨hg.os, hg.tape, hg.output, hg.size, fun k hk => hg.block k hk (by simp)⟩, ?_, fun j _ hj => absurd hj (Nat.not_lt_zero _), fun c hc => ?_, fun c => World.ownsRow.frozenAt ho c, Nat.le_refl _⟩
  · exact (World.ownsRow.lt ho w.heap.size rfl).2
  · rw [Nat.zero_add, World.ownsRow.cellAt ho c hc]
    exact ⟨xs[c]'(by rw [ho.1]; exact hc), by simp⟩
theorem FillH.hds {w wr : World} {g n : Nat} {L : List Hd} (h : FillH w wr g n L.length L) : Hds wr w.heap.size wr.heap.size (some ⟨g, 0, none⟩) L :=
  .inr ⟨g, 0, rfl, h.le, h.lt, fun i hi => h.done i hi hi⟩

set_option maxHeartbeats 2000000 in
/-- The copy; its cells are free for marks. -/
theorem toHds_any (lo hi : Nat) (ao : Option Addr) (ca : Nat) (L : List Hd) (w : World) (ha : Hds w lo hi ao L) (h1 : hi ≤ w.heap.size) (hl : L.length ≤ 1048576) :
    Calls Try.prog 9 #[.slice ao L.length ca] w fun e w' => ∃ g, e = .returned (.slice (some ⟨g, 0, none⟩) L.length L.length) ∧ w.heap.size ≤ g ∧ FillH w w' g L.length L.length L := by
  have hl' : (L.length : Int) ≤ 1048576 := by omega
  have HA := hideP ha
  clear ha
  obtain ⟨i0, hi0, hz0, hz1, hz2⟩ := info_parts Try.infoHd
  go_enter Try.func9, Try.ntmps9
  go_wp2_with (first | (at_make; refine wpList_make_full _ rfl _ _ 36 rfl w.heap.size 59 i0 (.agg #[.int .i64 0, .int .i64 0, .int .i64 0]) 3 Try.underlying36 hi0 hz0 hz1 .i64 .i64 _ _ L.length rfl rfl rfl rfl (by rw [hz2]; omega) (by unfold maxLen; omega) (Nat.le_refl _) ?_; intro w1 hown1 hgrow1) | go_in)
  have F1 : Hid (FillH w w1 w.heap.size L.length 0 L) := fillH_new hown1 hgrow1
  clear hown1 hgrow1
  go_wp2
  go_loopw [4] (fun i wr => ∃ k : Nat, k ≤ L.length ∧ i = .int .i64 k ∧ FillH w wr w.heap.size L.length k L) (fun i _ => L.length - (intOf i).toNat)
  case atStart => exact ⟨0, Nat.zero_le _, rfl, F1.out⟩
  case round =>
    obtain ⟨k, hk, rfl, F⟩ := hrel
    by_cases hlt : k < L.length
    · have hlt' : (k : Int) < (L.length : Int) := by omega
      have hne : L ≠ [] := fun e => by rw [e] at hlt; simp at hlt
      rcases HA.out with e | ⟨g, o, rfl, _, hg, hc⟩
      · exact absurd e hne
      obtain ⟨a0, a1, a2⟩ := (hc k hlt).keep F.below (by omega)
      have hgl : g < wr.heap.size := by have := F.below.size; omega
      have HF := hideP F
      have HS := hideP (fun W (kk : Below wr.heap.size wr W) => (F.keep kk).step hlt hlt)
      clear hc HA F1 F
      generalize hx : L[k].k = x at *
      generalize hy : L[k].a = y at *
      generalize hz : L[k].b = z at *
      clear hx hy hz
      go_wp2_with fail
      refine Calls.mono (toHand_any _ _ _ _) ?_
      rintro e w2 ⟨rfl, k2⟩
      have F2 := HF.out.keep k2
      obtain ⟨u0, t0⟩ := F2.there (k * 3) (by omega)
      obtain ⟨u1, t1⟩ := F2.there (k * 3 + 1) (by omega)
      obtain ⟨u2, t2⟩ := F2.there (k * 3 + 2) (by omega)
      have f := F2.free
      have hgl2 := F2.lt
      have HS2 := hideP (HS.out w2 k2)
      rw [Nat.zero_add] at t0 t1 t2
      clear F2 HF HS k2 a0 a1 a2
      go_wp2
      go_roundw
      case rel => exact ⟨k + 1, by omega, by go_num, HS2.out⟩
      case measure => simp [intOf]; omega
    · obtain rfl : k = L.length := by omega
      have HF := hideP F
      clear F F1
      go_wp2
      go_returns
      exact ⟨w.heap.size, rfl, Nat.le_refl _, HF.out⟩

/-- A copy of hands, whose cells may be turned. -/
structure HQ (W : World) (lo hi g : Nat) (L : List Hd) : Prop where
  le : lo ≤ g
  lt : g < hi
  hs : hi ≤ W.heap.size
  hnds : ∀ j (hj : j < L.length), IsHd W g (0 + j * 3) L[j].k L[j].a L[j].b
  there : ∀ c, c < L.length * 3 → ∃ u, W.cell? ⟨g, c, none⟩ = some u
  free : ∀ c, W.frozen? ⟨g, c, none⟩ = false
theorem HQ.of {w w' : World} {g : Nat} {L : List Hd} (h : FillH w w' g L.length L.length L) : HQ w' w.heap.size w'.heap.size g L :=
  ⟨h.le, h.lt, Nat.le_refl _, fun j hj => h.done j hj hj, fun c hc => by obtain ⟨u, hu⟩ := h.there c hc; rw [Nat.zero_add] at hu; exact ⟨u, hu⟩, h.free⟩
theorem HQ.keep {W W' : World} {lo hi g B : Nat} {L : List Hd} (h : HQ W lo hi g L) (k : Below B W W') (hb : hi ≤ B) : HQ W' lo hi g L :=
  have hg := h.lt
  ⟨h.le, h.lt, Nat.le_trans h.hs k.size, fun j hj => (h.hnds j hj).keep k (by omega), fun c hc => by obtain ⟨u, hu⟩ := h.there c hc; exact ⟨u, (k.cell (p := ⟨g, c, none⟩) (by show g < B; omega)).trans hu⟩, fun c => (k.frozen (p := ⟨g, c, none⟩) (by show g < B; omega)).trans (h.free c)⟩
theorem HQ.far {W W' : World} {lo hi lo' hi' g : Nat} {L : List Hd} (h : HQ W lo hi g L) (f : Far lo' hi' W W') (hd : hi ≤ lo' ∨ hi' ≤ lo) : HQ W' lo hi g L :=
  have hg := h.lt
  have hl := h.le
  have hs := h.hs
  ⟨h.le, h.lt, Nat.le_trans h.hs f.size, fun j hj => ⟨(f.cell g _ (by omega) (by omega)).trans (h.hnds j hj).c0, (f.cell g _ (by omega) (by omega)).trans (h.hnds j hj).c1, (f.cell g _ (by omega) (by omega)).trans (h.hnds j hj).c2⟩, fun c hc => by obtain ⟨u, hu⟩ := h.there c hc; exact ⟨u, (f.cell g c (by omega) (by omega)).trans hu⟩, fun c => (f.frozen g c (by omega) (by omega)).trans (h.free c)⟩
theorem HQ.hds {W : World} {lo hi g : Nat} {L : List Hd} (h : HQ W lo hi g L) : Hds W lo hi (some ⟨g, 0, none⟩) L := .inr ⟨g, 0, rfl, h.le, h.lt, h.hnds⟩

structure MkH (w wr : World) (g n : Nat) : Prop where
  far : Far g (g + 1) w wr
  lt : g < wr.heap.size
  there : ∀ c, c < n * 3 → ∃ u, wr.cell? ⟨g, c, none⟩ = some u
  free : ∀ c, wr.frozen? ⟨g, c, none⟩ = false
theorem MkH.step {w wr : World} {g n c : Nat} (h : MkH w wr g n) (v : Value) : MkH w (wr.setCell ⟨g, c, none⟩ v) g n := by
  refine ⟨h.far.setCell (Nat.le_refl _) (Nat.lt_succ_self _) v, by simpa using h.lt, fun d hd => ?_, fun d => by simpa using h.free d⟩
  obtain ⟨u, hu⟩ := h.there d hd
  by_cases e : d = c
  · subst e; exact ⟨v, cell_set_same hu⟩
  · exact ⟨u, (cell_set_other e).trans hu⟩

set_option maxHeartbeats 2000000 in
theorem markHds_any (g n ca : Nat) (k : Int) (w : World) (M : MkH w w g n) (hn : n ≤ 1048576) (k0 : 0 ≤ k) (k1 : k ≤ 16777216) :
    Calls Try.prog 15 #[.slice (some ⟨g, 0, none⟩) n ca, .int .i64 k] w fun e w' => e = .returned (.int .i64 (k + 3 * n)) ∧ Far g (g + 1) w w' := by
  have HM := hideP M
  clear M
  have hn' : (n : Int) ≤ 1048576 := by omega
  go_enter Try.func15, Try.ntmps15
  go_wp2
  go_loopw [1, 5] (fun q i wr => ∃ j : Nat, j ≤ n ∧ i = .int .i64 j ∧ q = .int .i64 (k + 3 * j) ∧ MkH w wr g n) (fun _ i _ => n - (intOf i).toNat)
  case atStart => exact ⟨0, Nat.zero_le _, rfl, by simp, HM.out⟩
  case round =>
    obtain ⟨j, hj, rfl, rfl, M⟩ := hrel
    have hj' : (j : Int) ≤ 1048576 := by omega
    by_cases hlt : j < n
    · have hlt' : (j : Int) < (n : Int) := by omega
      obtain ⟨u0, t0⟩ : ∃ u, wr.cell? ⟨g, j * 3, none⟩ = some u := M.there (j * 3) (by omega)
      obtain ⟨u1, t1⟩ : ∃ u, wr.cell? ⟨g, j * 3 + 1, none⟩ = some u := M.there (j * 3 + 1) (by omega)
      obtain ⟨u2, t2⟩ : ∃ u, wr.cell? ⟨g, j * 3 + 2, none⟩ = some u := M.there (j * 3 + 2) (by omega)
      have f := M.free
      have hgl := M.lt
      have M1 := hideP (((M.step (c := j * 3) (.int .i64 (k + 3 * j))).step (c := j * 3 + 1) (.int .i64 (k + 3 * j + 1))).step (c := j * 3 + 2) (.int .i64 (k + 3 * j + 1 + 1)))
      clear M HM
      go_wp2
      go_roundw
      case rel => exact ⟨j + 1, by omega, by go_num, by go_num, M1.out⟩
      case measure => simp [intOf]; omega
    · obtain rfl : j = n := by omega
      have hF := hideP M.far
      clear M HM
      go_wp2
      go_returns
      exact ⟨rfl, hF.out⟩
theorem HQ.mkh {W : World} {lo hi g : Nat} {L : List Hd} (h : HQ W lo hi g L) : MkH W W g L.length := ⟨Far.refl _ _ _, Nat.lt_of_lt_of_le h.lt h.hs, h.there, h.free⟩
end Go.Proofs.Ytdigknenijmjcaa
