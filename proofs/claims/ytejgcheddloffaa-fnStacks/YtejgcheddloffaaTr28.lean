/- Marks among the deferred calls: what a range over a function leaves there, and how a frame goes out over them. TopAt by the program. Rows of bytes: copied, held against each other, marked. Whether two rows of numbers are the same: the model's, and the library's. -/
import Derived.Test.YtejgcheddloffaaTr26
import Derived.Test.YtejgcheddloffaaTr27
import Derived.Test.YtejgcheddloffaaTr9
import Derived.Test.YtejgcheddloffaaTr3
namespace Go.Proofs.Ytejgcheddloffaa
open Go.RowKit Go.Shelf
set_option linter.unusedVariables false

def marks (Ds : List Nat) : List Deferred := Ds.map fun D => { target := .collected D, args := #[] }

/-- Ds are blocks from lo on that hold marks; none twice. -/
structure Mks (w : World) (lo : Nat) (Ds : List Nat) : Prop where
  at_ : ∀ D ∈ Ds, lo ≤ D ∧ D < w.heap.size ∧ w.heap[D]? = some (.deferred (some []))
  once : Ds.Nodup

theorem Mks.nil (w : World) (lo : Nat) : Mks w lo [] := ⟨fun D h => (by cases h), List.nodup_nil⟩
theorem Mks.cons {w : World} {lo D : Nat} {Ds : List Nat} (h : Mks w lo Ds) (hD : w.heap[D]? = some (.deferred (some []))) (hlo : lo ≤ D) (hn : ∀ E ∈ Ds, E < D) : Mks w lo (D :: Ds) := by
  refine ⟨fun E hE => ?_, List.nodup_cons.2 ⟨fun hm => Nat.lt_irrefl _ (hn D hm), h.once⟩⟩
  rcases List.mem_cons.1 hE with rfl | hE
  · exact ⟨hlo, (Array.getElem?_eq_some_iff.1 hD).1, hD⟩
  · exact h.at_ E hE
theorem Mks.turn {w w' : World} {lo b : Nat} {Ds : List Nat} (h : Mks w lo Ds) (t : Turn b w w') (hb : b < lo) : Mks w' lo Ds :=
  ⟨fun D hD => by obtain ⟨h1, h2, h3⟩ := h.at_ D hD; exact ⟨h1, Nat.lt_of_lt_of_le h2 t.size, (t.block D h2 (by omega)).trans h3⟩, h.once⟩

/-- A frame on its way out over marks alone. -/
theorem leave_marks {F : Fence} {n : Nat} {P : Program} {fn : Func} {tmps : Array Value} {R : Ending → World → Prop} (lo : Nat) (Ds : List Nat) : ∀ (w : World), Mks w lo Ds → lo ≤ w.heap.size →
    (∀ w', Below lo w w' → LeavesInM F n P fn tmps R [] .returning w') → LeavesInM F n P fn tmps R (marks Ds) .returning w := by
  induction Ds with
  | nil => intro w _ _ h; exact h w (Below.refl _ _)
  | cons D Ds ih =>
    intro w hM hlo h
    obtain ⟨h1, h2, h3⟩ := hM.at_ D (by simp)
    have hb : Below lo w (w.putObj D (.deferred none)) := ⟨rfl, rfl, rfl, by simp, fun k hk => World.putObj_heap_other (by omega)⟩
    refine ⟨by simp, .inl ⟨D, w.putObj D (.deferred none), rfl, run_takeDeferred h3, ih _ ⟨fun E hE => ?_, (List.nodup_cons.1 hM.once).2⟩ (by simpa using hlo) fun w' k => h w' (hb.trans k)⟩⟩
    obtain ⟨g1, g2, g3⟩ := hM.at_ E (by simp [hE])
    have hne : E ≠ D := fun e => (List.nodup_cons.1 hM.once).1 (e ▸ hE)
    exact ⟨g1, by simpa using g2, (World.putObj_heap_other hne).trans g3⟩

/-- Which points the iterator tells. -/
theorem mem_rowPts {x y p q : Int} {n : Nat} : (p, q) ∈ rowPts x y n ↔ x ≤ p ∧ p < x + n ∧ q = y := by
  unfold rowPts
  simp only [List.mem_map, List.mem_range, Prod.mk.injEq]
  constructor
  · rintro ⟨i, hi, rfl, rfl⟩; omega
  · rintro ⟨h1, h2, rfl⟩; exact ⟨(p - x).toNat, by omega, by omega, rfl⟩
theorem mem_rowsPts {x y p q : Int} {n m : Nat} : (p, q) ∈ rowsPts x y n m ↔ x ≤ p ∧ p < x + n ∧ y ≤ q ∧ q < y + m := by
  unfold rowsPts
  simp only [List.mem_flatMap, List.mem_range, mem_rowPts]
  constructor
  · rintro ⟨j, hj, h1, h2, rfl⟩; omega
  · rintro ⟨h1, h2, h3, h4⟩; exact ⟨(q - y).toNat, by omega, h1, h2, by omega⟩
theorem mem_pts {r : Rc} (hf : rfB r.x r.y r.w r.h = false) (p q : Int) : (p, q) ∈ ptsOf r ↔ inB r.x r.y r.w r.h p q = true := by
  obtain ⟨_, _, h3, h4⟩ := rfB_no hf
  unfold ptsOf inB
  rw [mem_rowsPts, decide_eq_true_iff]
  omega

end Go.Proofs.Ytejgcheddloffaa

namespace Go.Proofs.Ytejgcheddloffaa
open Go.RowKit Go.Shelf Go.Maps
set_option linter.unusedVariables false
attribute [local go_sem] Oper.semAt_some

/-- What the program asks of a window. -/
def hitP (p q : Int) (v : Wn) : Bool := v.m && hpB v.x v.y v.w v.h p q
theorem hitP_eq {p q : Int} {v : Wn} (h : rfB v.x v.y v.w v.h = false) : hitP p q v = hitW p q v := by unfold hitP hitW hpB; rw [h]; rfl
theorem keepsFrom_below {B : Nat} {W W' : World} (k : Below W.heap.size W W') : KeepsFrom B W W' := ⟨k.size, fun i o _ hi _ => (k.block i (Array.getElem?_eq_some_iff.1 hi).1).trans hi⟩
theorem keepsFrom_turn {B b : Nat} {W W' : World} (t : Turn b W W') (hb : b < B) : KeepsFrom B W W' := ⟨t.size, fun i o hB hi _ => (t.block i (Array.getElem?_eq_some_iff.1 hi).1 (by omega)).trans hi⟩
theorem dz_last {o : Nat} {r : Wn} {B : List Wn} {pre0 : List (Nat × Wn)} {x : Nat × Wn} (h : pre0 ++ [x] = dz o (r :: B)) : pre0 = dz (o + 1) B ∧ x = (o, r) := by
  simp only [dz] at h
  have := List.append_inj' h rfl
  exact ⟨this.1, by simpa using this.2⟩
theorem top_own (b B : Nat) (w0 : World) (hB : w0.heap.size ≤ B) (hb : b < w0.heap.size) (F : List (Nat × Wn) → Obj → Prop) : OwnFrom B (fun (pre : List (Nat × Wn)) W => ∃ o, F pre o ∧ W.heap[b]? = some o ∧ Turn b w0 W) := fun s A W' row hs hg hr => by
  obtain ⟨o, hf, ho, ht⟩ := hs
  refine ⟨o, hf, (hg.block b (Nat.lt_of_lt_of_le hb ht.size) (fun e => by have := (hr b e.symm).1; omega)).trans ho, ?_⟩
  exact ⟨hg.os.trans ht.os, hg.tape.trans ht.tape, hg.output.trans ht.output, Nat.le_trans ht.size hg.size, fun k hk hb' => (hg.block k (Nat.lt_of_lt_of_le hk ht.size) (fun e => by have := (hr k e.symm).1; omega)).trans (ht.block k hk hb')⟩

end Go.Proofs.Ytejgcheddloffaa

namespace Go.Proofs.Ytejgcheddloffaa
open Go.RowKit
set_option linter.unusedVariables false

theorem Try.infoB : (Try.prog.info? 5).map (fun i => (i.zero, i.size, i.bytes)) = some (some (.int .u8 0), 1, 1) := by kernel_rfl

/-- What number a place is marked with. -/
def mkB (k : Int) (i : Nat) : Int := (k + i) % 256

end Go.Proofs.Ytejgcheddloffaa

namespace Go.Proofs.Ytejgcheddloffaa
open Go.RowKit
set_option linter.unusedVariables false

theorem same_all {A B : List Int} (hl : A.length = B.length) (h : ∀ i (h1 : i < A.length) (h2 : i < B.length), A[i] = B[i]) : decide (A = B) = true := decide_eq_true (List.ext_getElem hl h)
theorem same_not {A B : List Int} {i : Nat} (h1 : i < A.length) (h2 : i < B.length) (h : A[i] ≠ B[i]) : decide (A = B) = false := decide_eq_false fun e => h (by subst e; rfl)
theorem same_len {A B : List Int} (h : A.length ≠ B.length) : decide (A = B) = false := decide_eq_false fun e => h (by rw [e])

set_option maxHeartbeats 1000000 in
theorem equalI_any (lo hi lo2 hi2 : Nat) (ao bo : Option Addr) (ca cb : Nat) (A B : List Int) (w : World) (ha : Row .i64 w lo hi ao A) (hb : Row .i64 w lo2 hi2 bo B) (h1 : hi ≤ w.heap.size) (h2 : hi2 ≤ w.heap.size) (hl : A.length ≤ 1048576) (hl2 : B.length ≤ 1048576) :
    Calls Try.prog 69 #[.slice ao A.length ca, .slice bo B.length cb] w fun e w' => e = .returned (.bool (decide (A = B))) ∧ Below w.heap.size w w' := by
  have hl' : (A.length : Int) ≤ 1048576 := by omega
  have HA := hideP ha
  have HB := hideP hb
  clear ha hb
  by_cases hlen : A.length = B.length
  · have hne : ((A.length : Int) != (B.length : Int)) = false := by simp; omega
    have HLen := hideP hlen
    clear hlen
    go_enter Try.func69, Try.ntmps69
    go_wp2
    go_loopw [13] (fun i wr => ∃ k : Nat, k ≤ A.length ∧ i = .int .i64 k ∧ Below w.heap.size w wr ∧ Hid (∀ i (h1 : i < A.length) (h2 : i < B.length), i < k → A[i] = B[i])) (fun i _ => A.length - (intOf i).toNat)
    case atStart => exact ⟨0, Nat.zero_le _, rfl, Below.refl _ _, fun i _ _ hi => absurd hi (Nat.not_lt_zero _)⟩
    case round =>
      obtain ⟨k, hk, rfl, hbel, HF⟩ := hrel
      have hz := hbel.size
      by_cases hlt : k < A.length
      · have hltb : k < B.length := by have := HLen.out; omega
        have hlt' : (k : Int) < (A.length : Int) := by omega
        have hltb' : (k : Int) < (B.length : Int) := by omega
        rcases HA.out with e | ⟨g, o, rfl, _, hg, hc⟩
        · rw [e] at hlt; simp at hlt
        rcases HB.out with e | ⟨g', o', rfl, _, hg', hc'⟩
        · rw [e] at hltb; simp at hltb
        have a0 := (hbel.cell (p := ⟨g, o + k, none⟩) (by show g < _; omega)).trans (hc k hlt)
        have b0 := (hbel.cell (p := ⟨g', o' + k, none⟩) (by show g' < _; omega)).trans (hc' k hltb)
        have hgl : g < wr.heap.size := by omega
        have hgl' : g' < wr.heap.size := by omega
        have HBel := hideP hbel
        have hnot := hideP (same_not hlt hltb)
        have hon := hideP (show A[k] = B[k] → ∀ i (h1 : i < A.length) (h2 : i < B.length), i < k + 1 → A[i] = B[i] from fun e i h1 h2 hij => by
          by_cases h : i < k
          · exact HF.out i h1 h2 h
          · obtain rfl : i = k := by omega
            exact e)
        clear hc hc' hbel HF
        generalize A[k] = x at *
        generalize B[k] = y at *
        by_cases hxy : x = y
        · have hon' := hideP (hon.out hxy)
          subst hxy
          clear hon hnot
          have hb0 : (x != x) = false := by simp
          go_wp2
          refine wp_region_kept (by kernel_rfl) (by kernel_rfl) ?_
          repeat (refine kept_step (by rfl) ?_; apply Exists.intro; refine ⟨fun w1 k1 => ?_, fun K hK => ?_⟩; (focus (have hc := Kept.cell k1; go_simp; first | done | rfl)); (go_simp; refine hK _ ?_; clear hK K))
          refine wpQuiet_nil ?_
          intro w5 k5
          replace k5 := Kept.below k5
          have hc5 := Kept.cell k5
          have hf5 := Kept.frozen k5
          have hz5 := k5.size
          try simp only [World.size_alloc] at hz5
          try simp only [World.size_setCell] at hz5
          try simp only [World.size_drew] at hz5
          try (first | have hs5 := sz12 hz5 | have hs5 := sz11 hz5 | have hs5 := sz10 hz5 | have hs5 := sz9 hz5 | have hs5 := sz8 hz5 | have hs5 := sz7 hz5 | have hs5 := sz6 hz5 | have hs5 := sz5 hz5 | have hs5 := sz4 hz5 | have hs5 := sz3 hz5 | have hs5 := sz2 hz5 | have hs5 := sz1 hz5)
          go_wp2
          go_roundw
          case rel => exact ⟨k + 1, by omega, by go_num, HBel.out.trans (k5.mono HBel.out.size), hon'.out⟩
          case measure => simp [intOf]; omega
        · have hnot' := hideP (hnot.out hxy)
          have hb0 : (x != y) = true := by simpa using hxy
          clear hon hnot hxy
          go_wp2
          refine wp_region_kept (by kernel_rfl) (by kernel_rfl) ?_
          repeat (refine kept_step (by rfl) ?_; apply Exists.intro; refine ⟨fun w1 k1 => ?_, fun K hK => ?_⟩; (focus (have hc := Kept.cell k1; go_simp; first | done | rfl)); (go_simp; refine hK _ ?_; clear hK K))
          refine wpQuiet_nil ?_
          intro w5 k5
          replace k5 := Kept.below k5
          have hc5 := Kept.cell k5
          have hf5 := Kept.frozen k5
          have hz5 := k5.size
          try simp only [World.size_alloc] at hz5
          try simp only [World.size_setCell] at hz5
          try simp only [World.size_drew] at hz5
          try (first | have hs5 := sz12 hz5 | have hs5 := sz11 hz5 | have hs5 := sz10 hz5 | have hs5 := sz9 hz5 | have hs5 := sz8 hz5 | have hs5 := sz7 hz5 | have hs5 := sz6 hz5 | have hs5 := sz5 hz5 | have hs5 := sz4 hz5 | have hs5 := sz3 hz5 | have hs5 := sz2 hz5 | have hs5 := sz1 hz5)
          go_wp2
          go_returns
          exact ⟨by rw [hnot'.out]; rfl, HBel.out.trans (k5.mono HBel.out.size)⟩
      · have hall := hideP (same_all HLen.out fun i h1 h2 => HF.out i h1 h2 (by omega))
        have HBel := hideP hbel
        clear hbel HF
        go_wp2
        go_returns
        exact ⟨by rw [hall.out]; rfl, HBel.out⟩
  · have hne : ((A.length : Int) != (B.length : Int)) = true := by simp; omega
    have hnot := hideP (same_len hlen)
    clear hlen
    go_enter Try.func69, Try.ntmps69
    go_wp2
    go_returns
    exact ⟨by rw [hnot.out]; rfl, Below.refl _ _⟩

end Go.Proofs.Ytejgcheddloffaa
