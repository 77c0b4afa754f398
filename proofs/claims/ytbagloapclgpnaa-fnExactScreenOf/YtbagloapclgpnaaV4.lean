/- Lists of labels in memory: read; how great one is; copied; whether two are the same. -/
import Derived.Test.YtbagloapclgpnaaV3
import Derived.OwnWalk
import Derived.Laws.OwnMore
import Derived.Deep.AppendLies
import Derived.Test.YtbagloapclgpnaaV2
import Derived.ProofKit
import Derived.Lib.SmallJoins
import Derived.Deep.Slices
namespace Go.Proofs.Ytbagloapclgpnaa
open Go.RowKit Go.ChangeShapes Go.WideShapes Go.ChangeAt Go.Joins
set_option linter.unusedVariables false

structure La where
  l : Int
  p : Int
instance laInh : Inhabited La := ⟨⟨0, 0⟩⟩
def La.flt (r : La) : Bool := fltB r.l r.p
def La.cells (r : La) : List Value := [.int .i64 r.l, .int .i64 r.p]
def las : List La → List Value
  | [] => []
  | r :: L => r.cells ++ las L
theorem las_len (L : List La) : (las L).length = L.length * 2 := by
  induction L with
  | nil => rfl
  | cons r L ih => simp only [las, List.length_append, ih, List.length_cons, La.cells, List.length_nil]; omega
theorem las_app (L M : List La) : las (L ++ M) = las L ++ las M := by
  induction L with
  | nil => rfl
  | cons r L ih => simp only [List.cons_append, las, ih, List.append_assoc]
theorem las_at (L : List La) : ∀ (i : Nat) (h : i < L.length) (j : Nat), j < 2 → (las L)[i * 2 + j]? = L[i].cells[j]? := by
  induction L with
  | nil => intro i h; simp at h
  | cons r L ih =>
    intro i h j hj
    have hl : r.cells.length = 2 := rfl
    cases i with
    | zero => simp only [las, Nat.zero_mul, Nat.zero_add]; rw [List.getElem?_append_left (by omega)]; rfl
    | succ i =>
      simp only [las]
      rw [List.getElem?_append_right (by omega)]
      have e : (i + 1) * 2 + j - r.cells.length = i * 2 + j := by omega
      rw [e, ih i (by simpa using h) j hj]
      rfl

structure IsLab (w : World) (b o : Nat) (l p : Int) : Prop where
  c0 : w.cell? ⟨b, o, none⟩ = some (.int .i64 l)
  c1 : w.cell? ⟨b, o + 1, none⟩ = some (.int .i64 p)
theorem IsLab.keep {w w' : World} {b o B : Nat} {l p : Int} (h : IsLab w b o l p) (k : Below B w w') (hb : b < B) : IsLab w' b o l p :=
  ⟨(k.cell (p := ⟨b, o, none⟩) hb).trans h.c0, (k.cell (p := ⟨b, o + 1, none⟩) hb).trans h.c1⟩

/-- The slice reads as a list of labels; its block lies from lo on and ahead of hi. -/
def Las (w : World) (lo hi : Nat) (ao : Option Addr) (L : List La) : Prop :=
  L = [] ∨ ∃ g o, ao = some ⟨g, o, none⟩ ∧ lo ≤ g ∧ g < hi ∧ ∀ i (h : i < L.length), IsLab w g (o + i * 2) L[i].l L[i].p
theorem Las.keep {w w' : World} {lo hi B : Nat} {ao : Option Addr} {L : List La} (h : Las w lo hi ao L) (k : Below B w w') (hb : hi ≤ B) : Las w' lo hi ao L := by
  rcases h with h | ⟨g, o, ha, h1, h2, hc⟩
  · exact .inl h
  · exact .inr ⟨g, o, ha, h1, h2, fun i hi => (hc i hi).keep k (by omega)⟩
theorem Las.wide {w : World} {lo hi lo' hi' : Nat} {ao : Option Addr} {L : List La} (h : Las w lo hi ao L) (h1 : lo' ≤ lo) (h2 : hi ≤ hi') : Las w lo' hi' ao L := by
  rcases h with h | ⟨g, o, ha, g1, g2, hc⟩
  · exact .inl h
  · exact .inr ⟨g, o, ha, by omega, by omega, hc⟩

/-- The slice owns a list of labels, in a block from base on. -/
def OwnL (w : World) (base : Nat) (ao : Option Addr) (cap : Nat) (L : List La) : Prop := w.ownsRow base 34 2 (.slice ao L.length cap) L.length (las L)
theorem OwnL.las {w : World} {base : Nat} {ao : Option Addr} {cap : Nat} {L : List La} (h : OwnL w base ao cap L) : Las w base w.heap.size ao L := by
  by_cases hn : L = []
  · exact .inl hn
  · have hpos : 0 < L.length := List.length_pos_iff.2 hn
    obtain ⟨g, cap', hv, hb, hlt⟩ := World.ownsRow.form h hpos
    cases hv
    refine .inr ⟨g, 0, rfl, hb, hlt, fun i hi => ?_⟩
    have c : ∀ j, j < 2 → w.cell? ⟨g, 0 + i * 2 + j, none⟩ = L[i].cells[j]? := fun j hj => by
      rw [Nat.zero_add, World.ownsRow.cellAt h (i * 2 + j) (by omega), las_at L i hi j hj]
    exact ⟨c 0 (by omega), c 1 (by omega)⟩

theorem Try.infoLab : (Try.prog.info? 34).map (fun i => (i.zero, i.size, i.bytes)) = some (some (.agg #[.int .i64 0, .int .i64 0]), 2, 16) := by kernel_rfl
theorem cellsLL : Try.prog.cellsOf 72 = 2 := by kernel_rfl
theorem cellsL6 : Try.prog.cellsOf 2 = 1 := by kernel_rfl

theorem open_labels {H : Type} {enc : TypeId × Value → H} {w : World} {base : Nat} {spare : Nat → Bool} {held : Bool} {fuel : Nat} {cs : List Value} {x : DataW H × List MemPlace} (h : DataW.trod enc Try.prog w base spare held fuel 55 cs = some x) :
    ∃ (ao : Option Addr) (len cap : Nat) (L : List La), cs = [.slice ao len cap] ∧ L.length = len ∧ len ≤ maxLen ∧ Las w 0 w.heap.size ao L := by
  rcases Go.Deep.open_slice Try.underlying55 h with ⟨rfl, _⟩ | ⟨a, len, cap, m, n, D, Pl, rfl, hb, hl, hm, hmm, rfl, hx⟩
  · exact ⟨none, 0, 0, [], rfl, rfl, Nat.zero_le _, .inl rfl⟩
  · have hlm : len ≤ m := by rw [hmm]; split <;> omega
    have each : ∀ i, i < len → ∃ r : La, w.cell? (a.add (i * 2)) = some (.int .i64 r.l) ∧ w.cell? (a.add (i * 2 + 1)) = some (.int .i64 r.p) := by
      intro i hi
      obtain ⟨cs', h1, h2⟩ := hx i (by omega)
      rw [cellsLL] at h1
      obtain ⟨_, hlen, hcell⟩ := World.cells?_some h1
      obtain ⟨y0, y1, n', _, _, g0, g1⟩ := trod_struct2 Try.underlying72 h2
      simp only [cellsL6] at g0 g1
      match cs', hlen with
      | [v0, v1], _ =>
        simp at g0 g1
        obtain ⟨b0, e0, _, _⟩ := DataW.trod_int Try.underlying2 g0
        obtain ⟨b1, e1, _, _⟩ := DataW.trod_int Try.underlying2 g1
        simp at e0 e1
        subst e0 e1
        have k0 := hcell 0 (by omega)
        have k1 := hcell 1 (by omega)
        rw [Go.Deep.add_add] at k0 k1
        exact ⟨⟨b0, b1⟩, by simpa using k0, by simpa using k1⟩
    obtain ⟨f, hf⟩ := Go.Deep.choose_lt each
    refine ⟨some a, len, cap, (List.range len).map f, rfl, by simp, by omega, ?_⟩
    by_cases h0 : len = 0
    · subst h0; exact .inl rfl
    · obtain ⟨g, o, sp⟩ := a
      have hc := (hf 0 (by omega)).1
      have hs : sp = none := by simpa [Addr.add] using World.cell?_spot hc
      subst hs
      have hadd : ∀ j, (⟨g, o, none⟩ : Addr).add j = ⟨g, o + j, none⟩ := fun j => by unfold Addr.add; split <;> simp_all
      refine .inr ⟨g, o, rfl, Nat.zero_le _, ?_, fun i hi => ?_⟩
      · rw [hadd] at hc; exact World.block_lt_of_cell? w _ hc
      · have hi' : i < len := by simpa using hi
        obtain ⟨q0, q1⟩ := hf i hi'
        rw [hadd] at q0 q1
        simp only [List.getElem_map, List.getElem_range]
        exact ⟨q0, q1⟩

set_option maxHeartbeats 400000 in
theorem szL_any (ao : Option Addr) (n ca : Nat) (t : Int) (w : World) (hn : n ≤ maxLen) (ht : 0 ≤ t ∧ t ≤ 1048576) :
    Calls Try.prog 29 #[.slice ao n ca, .int .i64 t] w fun e w' => e = .returned (.int .i64 (if (n : Int) ≤ t then t - (n : Int) else -1)) ∧ w' = w := by
  unfold maxLen at hn
  by_cases h : (n : Int) ≤ t
  · rw [if_pos h]
    go_enter Try.func29, Try.ntmps29
    go_wp2
    go_returns
    exact ⟨rfl, rfl⟩
  · have h2 : (n : Int) ≤ 9223372036854775807 := by omega
    have h3 : t - (n : Int) < 0 := by omega
    rw [if_neg h]
    go_enter Try.func29, Try.ntmps29
    go_wp2
    go_returns
    exact ⟨rfl, rfl⟩

set_option maxHeartbeats 400000 in
theorem eqLab_same (l p : Int) (w : World) :
    Calls Try.prog 79 #[.agg #[.int .i64 l, .int .i64 p], .agg #[.int .i64 l, .int .i64 p]] w fun e w' => e = .returned (.bool true) ∧ Below w.heap.size w w' := by
  go_enter Try.func79, Try.ntmps79
  go_wp2
  go_returns
  exact ⟨rfl, by go_grown⟩

set_option maxHeartbeats 1000000 in
theorem eqLS_same (lo hi lo2 hi2 : Nat) (ao bo : Option Addr) (ca cb : Nat) (L : List La) (w : World) (ha : Las w lo hi ao L) (hb : Las w lo2 hi2 bo L) (h1 : hi ≤ w.heap.size) (h2 : hi2 ≤ w.heap.size) (hl : L.length ≤ 1048576) :
    Calls Try.prog 35 #[.slice ao L.length ca, .slice bo L.length cb] w fun e w' => e = .returned (.bool true) ∧ Below w.heap.size w w' := by
  have hl' : (L.length : Int) ≤ 1048576 := by omega
  have HA := hideP ha
  have HB := hideP hb
  clear ha hb
  go_enter Try.func35, Try.ntmps35
  go_wp2
  go_loopw [5] (fun i wr => ∃ k : Nat, k ≤ L.length ∧ i = .int .i64 k ∧ Below w.heap.size w wr) (fun i _ => L.length - (intOf i).toNat)
  case atStart => exact ⟨0, Nat.zero_le _, rfl, Below.refl _ _⟩
  case round =>
    obtain ⟨k, hk, rfl, hbel⟩ := hrel
    have hz := hbel.size
    by_cases hlt : k < L.length
    · have hlt' : (k : Int) < (L.length : Int) := by omega
      have hne : L ≠ [] := fun e => by rw [e] at hlt; simp at hlt
      rcases HA.out with e | ⟨g, o, rfl, _, hg, hc⟩
      · exact absurd e hne
      rcases HB.out with e | ⟨g', o', rfl, _, hg', hc'⟩
      · exact absurd e hne
      obtain ⟨a0, a1⟩ := (hc k hlt).keep hbel (by omega)
      obtain ⟨b0, b1⟩ := (hc' k hlt).keep hbel (by omega)
      have hgl : g < wr.heap.size := by omega
      have hgl' : g' < wr.heap.size := by omega
      have HBel := hideP hbel
      clear hc hc' hbel HA HB
      generalize L[k].l = x at *
      generalize L[k].p = y at *
      go_wp2
      refine wp_region_kept (by kernel_rfl) (by kernel_rfl) ?_
      repeat (refine kept_step (by rfl) ?_; apply Exists.intro; refine ⟨fun w1 k1 => ?_, fun K hK => ?_⟩; (focus (have hc := Kept.cell k1; go_simp; first | done | rfl | (go_at_call 79; exact kept_call k1 (eqLab_same _ _ _)))); (go_simp; refine hK _ ?_; clear hK K))
      refine wpQuiet_nil ?_
      intro w5 k5
      replace k5 := Kept.below k5
      have hc5 := Kept.cell k5
      have hf5 := Kept.frozen k5
      have hz5 := k5.size
      try simp only [World.size_alloc] at hz5
      try simp only [World.size_setCell] at hz5
      try simp only [World.size_drew] at hz5
      try (first | have hs5 := sz12 hz5 | have hs5 := sz11 hz5 | have hs5 := sz10 hz5 | have hs5 := sz9 hz5 | have hs5 := sz8 hz5 | have hs5 := sz7 hz5 | have hs5 := sz6 hz5 | have hs5 := sz5 hz5 | have hs5 := sz4 hz5 | have hs5 := sz3 hz5 | have hs5 := sz2 hz5 | have hs5 := sz1 hz5)
      go_wp2
      go_roundw
      case rel => exact ⟨k + 1, by omega, by go_num, HBel.out.trans (k5.mono HBel.out.size)⟩
      case measure => simp [intOf]; omega
    · have HBel := hideP hbel
      clear hbel
      go_wp2
      go_returns
      exact ⟨rfl, HBel.out⟩

/-- A copy of a list, its first k labels there. -/
structure FillL (w wr : World) (g n k : Nat) (L : List La) : Prop where
  below : Below w.heap.size w wr
  lt : g < wr.heap.size
  done : ∀ j (hj : j < L.length), j < k → IsLab wr g (0 + j * 2) L[j].l L[j].p
  there : ∀ c, c < n * 2 → ∃ u, wr.cell? ⟨g, 0 + c, none⟩ = some u
  free : ∀ c, wr.frozen? ⟨g, c, none⟩ = false
  le : w.heap.size ≤ g

theorem FillL.keep {w wr wr' : World} {g n k : Nat} {L : List La} (h : FillL w wr g n k L) (kk : Below wr.heap.size wr wr') : FillL w wr' g n k L :=
  ⟨h.below.trans (kk.mono h.below.size), Nat.lt_of_lt_of_le h.lt kk.size, fun j hj hk => (h.done j hj hk).keep kk h.lt, fun c hc => by obtain ⟨u, hu⟩ := h.there c hc; exact ⟨u, (kk.cell (p := ⟨g, 0 + c, none⟩) h.lt).trans hu⟩,
    fun c => (kk.frozen (p := ⟨g, c, none⟩) h.lt).trans (h.free c), h.le⟩

theorem FillL.step {w wr : World} {g n i : Nat} {L : List La} (h : FillL w wr g n i L) (hi : i < n) (hl : i < L.length) :
    FillL w ((wr.setCell ⟨g, i * 2, none⟩ (.int .i64 L[i].l)).setCell ⟨g, i * 2 + 1, none⟩ (.int .i64 L[i].p)) g n (i + 1) L := by
  have t : ∀ c, c < 2 → ∃ u, wr.cell? ⟨g, i * 2 + c, none⟩ = some u := fun c hc => by
    obtain ⟨u, hu⟩ := h.there (i * 2 + c) (by omega)
    rw [Nat.zero_add] at hu
    exact ⟨u, hu⟩
  obtain ⟨u0, t0⟩ := t 0 (by omega)
  obtain ⟨u1, t1⟩ := t 1 (by omega)
  have hg := h.le
  refine ⟨(h.below.setCell (p := ⟨g, _, none⟩) hg _).setCell (p := ⟨g, _, none⟩) hg _, by simpa using h.lt, fun j hj hk => ?_, fun c hc => ?_, fun c => by simpa using h.free c, hg⟩
  · by_cases hji : j < i
    · obtain ⟨c0, c1⟩ := h.done j hj hji
      refine ⟨?_, ?_⟩ <;> (repeat rw [cell_set_other (by omega)]) <;> assumption
    · obtain rfl : j = i := by omega
      rw [Nat.zero_add]
      refine ⟨?_, ?_⟩
      · rw [cell_set_other (by omega)]; exact cell_set_same t0
      · exact cell_set_same ((cell_set_other (by omega)).trans t1)
  · obtain ⟨u, hu⟩ := h.there c hc
    have key : ∀ (W : World) (d : Nat) (v : Value), (∃ u, W.cell? ⟨g, 0 + c, none⟩ = some u) → ∃ u, (W.setCell ⟨g, d, none⟩ v).cell? ⟨g, 0 + c, none⟩ = some u := fun W d v ⟨u, hu⟩ => by
      by_cases e : 0 + c = d
      · subst e; exact ⟨v, cell_set_same hu⟩
      · exact ⟨u, (cell_set_other e).trans hu⟩
    exact key _ _ _ (key _ _ _ ⟨u, hu⟩)

theorem fillL_new {w w1 : World} {n : Nat} {L : List La} {xs : List Value} (ho : w1.ownsRow w.heap.size 34 2 (.slice (some ⟨w.heap.size, 0, none⟩) n n) n xs) (hg : w.grownBy w1 none) : FillL w w1 w.heap.size n 0 L := by
  refine ⟨⟨hg.os, hg.tape, hg.output, hg.size, fun k hk => hg.block k hk (by simp)⟩, ?_, fun j _ hj => absurd hj (Nat.not_lt_zero _), fun c hc => ?_, fun c => World.ownsRow.frozenAt ho c, Nat.le_refl _⟩
  · exact (World.ownsRow.lt ho w.heap.size rfl).2
  · rw [Nat.zero_add, World.ownsRow.cellAt ho c hc]
    exact ⟨xs[c]'(by rw [ho.1]; exact hc), by simp⟩
theorem FillL.las {w wr : World} {g n : Nat} {L : List La} (h : FillL w wr g n L.length L) : Las wr w.heap.size wr.heap.size (some ⟨g, 0, none⟩) L :=
  .inr ⟨g, 0, rfl, h.le, h.lt, fun i hi => h.done i hi hi⟩

set_option maxHeartbeats 2000000 in
/-- The copy; its cells are free for marks. -/
theorem toLS_any (lo hi : Nat) (ao : Option Addr) (ca : Nat) (L : List La) (w : World) (ha : Las w lo hi ao L) (h1 : hi ≤ w.heap.size) (hl : L.length ≤ 1048576) :
    Calls Try.prog 31 #[.slice ao L.length ca] w fun e w' => ∃ g, e = .returned (.slice (some ⟨g, 0, none⟩) L.length L.length) ∧ w.heap.size ≤ g ∧ FillL w w' g L.length L.length L := by
  have hl' : (L.length : Int) ≤ 1048576 := by omega
  have HA := hideP ha
  clear ha
  obtain ⟨i0, hi0, hz0, hz1, hz2⟩ := info_parts Try.infoLab
  go_enter Try.func31, Try.ntmps31
  go_wp2_with (first | (at_make; refine wpList_make_full _ rfl _ _ 25 rfl w.heap.size 34 i0 (.agg #[.int .i64 0, .int .i64 0]) 2 Try.underlying25 hi0 hz0 hz1 .i64 .i64 _ _ L.length rfl rfl rfl rfl (by rw [hz2]; omega) (by unfold maxLen; omega) (Nat.le_refl _) ?_; intro w1 hown1 hgrow1) | go_in)
  have F1 : Hid (FillL w w1 w.heap.size L.length 0 L) := fillL_new hown1 hgrow1
  clear hown1 hgrow1
  go_wp2
  go_loopw [4] (fun i wr => ∃ k : Nat, k ≤ L.length ∧ i = .int .i64 k ∧ FillL w wr w.heap.size L.length k L) (fun i _ => L.length - (intOf i).toNat)
  case atStart => exact ⟨0, Nat.zero_le _, rfl, F1.out⟩
  case round =>
    obtain ⟨k, hk, rfl, F⟩ := hrel
    by_cases hlt : k < L.length
    · have hlt' : (k : Int) < (L.length : Int) := by omega
      have hne : L ≠ [] := fun e => by rw [e] at hlt; simp at hlt
      rcases HA.out with e | ⟨g, o, rfl, _, hg, hc⟩
      · exact absurd e hne
      obtain ⟨a0, a1⟩ := (hc k hlt).keep F.below (by omega)
      have hgl : g < wr.heap.size := by have := F.below.size; omega
      have HF := hideP F
      have HS := hideP (fun W (kk : Below wr.heap.size wr W) => (F.keep kk).step hlt hlt)
      clear hc HA F1 F
      generalize hx : L[k].l = x at *
      generalize hy : L[k].p = y at *
      clear hx hy
      go_wp2_with fail
      refine Calls.mono (toLabel_any _ _ _) ?_
      rintro e w2 ⟨rfl, k2⟩
      have F2 := HF.out.keep k2
      obtain ⟨u0, t0⟩ := F2.there (k * 2) (by omega)
      obtain ⟨u1, t1⟩ := F2.there (k * 2 + 1) (by omega)
      have f := F2.free
      have hgl2 := F2.lt
      have HS2 := hideP (HS.out w2 k2)
      rw [Nat.zero_add] at t0 t1
      clear F2 HF HS k2 a0 a1
      go_wp2
      go_roundw
      case rel => exact ⟨k + 1, by omega, by go_num, HS2.out⟩
      case measure => simp [intOf]; omega
    · obtain rfl : k = L.length := by omega
      have HF := hideP F
      clear F F1
      go_wp2
      go_returns
      exact ⟨w.heap.size, rfl, Nat.le_refl _, HF.out⟩
end Go.Proofs.Ytbagloapclgpnaa
