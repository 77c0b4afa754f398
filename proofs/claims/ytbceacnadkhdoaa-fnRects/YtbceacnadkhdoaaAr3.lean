/- AreaOf of the program: a range over a function in a loop, so that one mark a round is left among the deferred calls. -/
import Derived.Test.YtbceacnadkhdoaaAr2
import Derived.Test.YtbceacnadkhdoaaMrk
namespace Go.Proofs.Ytbceacnadkhdoaa
open Go.RowKit Go.Shelf
set_option linter.unusedVariables false
attribute [local go_sem] Oper.semAt_some

/-- What stands between two rounds of the program's loop: k rectangles are counted; X was ahead of the loop; block b holds the count. -/
structure Mid (X wr : World) (b : Nat) (c : Int) (Ds : List Nat) : Prop where
  cnt : wr.cell? ⟨b, 0, none⟩ = some (.int .i64 c)
  free : wr.frozen? ⟨b, 0, none⟩ = false
  turn : Turn b X wr
  mks : Mks wr X.heap.size Ds

def AInv (X : World) (ao : Option Addr) (ca rb b : Nat) (L : List Rc) (a' : Act) (wr : World) : Prop :=
  ∃ (k : Nat) (Ds : List Nat) (v6 v16 v17 v18 v19 v20 v25 : Value), k ≤ L.length ∧ Mid X wr b (areaL (L.take k)) Ds ∧
    a' = { tmps := #[.slice ao L.length ca, undef, .pointer (some ⟨rb, 0, none⟩), .int .i64 0, .pointer (some ⟨b, 0, none⟩), undef, v6, .slice ao L.length ca, .int .i64 0, .int .i64 0, .bool false, undef, undef, .slice ao L.length ca, .int .i64 L.length, .int .i64 k,
      v16, v17, v18, v19, v20, undef, undef, undef, undef, v25, undef, undef], defers := marks Ds }

theorem ptsOf_len (r : Rc) (hf : rfB r.x r.y r.w r.h = false) : ((ptsOf r).length : Int) = r.w * r.h ∧ r.h.toNat * r.w.toNat ≤ 400 ∧ (ptsOf r).length = r.h.toNat * r.w.toNat := by
  obtain ⟨_, _, h3, h4⟩ := rfB_no hf
  have hb := mul_bd h3.1 h3.2 h4.1 h4.2
  have e1 : (ptsOf r).length = r.h.toNat * r.w.toNat := rowsPts_len _ _ _ _
  have e2 : ((r.h.toNat * r.w.toNat : Nat) : Int) = r.w * r.h := by
    rw [Int.natCast_mul, Int.toNat_of_nonneg (by omega), Int.toNat_of_nonneg (by omega), Int.mul_comm]
  refine ⟨by rw [e1]; exact e2, by omega, e1⟩

theorem turn_own (b B : Nat) (w0 : World) (hB : w0.heap.size ≤ B) : OwnFrom B (fun (_ : List (Int × Int)) W => Turn b w0 W) := fun s A W' row hs hg hr =>
  ⟨hg.os.trans hs.os, hg.tape.trans hs.tape, hg.output.trans hs.output, Nat.le_trans hs.size hg.size, fun k hk hb => (hg.block k (Nat.lt_of_lt_of_le hk hs.size) (fun e => by have := (hr k e.symm).1; omega)).trans (hs.block k hk hb)⟩

set_option maxRecDepth 100000 in
set_option maxHeartbeats 4000000 in
theorem iArea_ok (lo hi : Nat) (ao : Option Addr) (ca : Nat) (L : List Rc) (w : World) (ha : Lst w lo hi ao L) (h1 : hi ≤ w.heap.size) (hl : L.length ≤ 1048576) (hm : manyC L = 0) :
    Calls Try.prog 19 #[.slice ao L.length ca] w fun e w' => e = .returned (.agg #[.int .i64 0, .int .i64 (areaL L)]) ∧ Below w.heap.size w w' := by
  obtain ⟨h40, hf⟩ := manyC_ok hm
  have h40' : (L.length : Int) ≤ 40 := by omega
  have HA := hideP ha
  have HM := hideP hm
  have HF := hideP hf
  clear ha hm hf
  refine callsIn_wide.1 (callsIn_of_wp_marks (n := 3) Try.func19 rfl trivial ?_ rfl)
  simp only [Try.ntmps19, List.size_toArray, List.length_cons, List.length_nil, Nat.reduceAdd, Nat.reduceSub, Array.replicate_succ, Array.replicate_zero, List.push_toArray, List.append_toArray, List.nil_append, List.cons_append]
  refine wpIn_wide.2 ?_
  go_wp2_with fail
  refine Calls.mono (fol_any lo hi ao ca L _ (HA.out.keep (B := w.heap.size) (by go_grown) h1) (by first | (simp; done) | (simp; omega) | omega) hl) ?_
  rintro e w1 ⟨rfl, k1⟩
  rw [HM.out]
  have hz1 := k1.size
  simp only [World.size_alloc] at hz1
  have K1 : Hid (Below w.heap.size w (w1.alloc (.cells #[.int .i64 0] 2))) := (Below.trans (by go_grown) (k1.mono (by simp))).alloc (by omega) _
  have R0 : Hid ((w1.alloc (.cells #[.int .i64 0] 2)).heap[w.heap.size]? = some (.cells #[.int .i64 0, .int .i64 0] 35 (0, 0))) := by
    show _ = _
    rw [heap_alloc_old w1 _ (by omega), k1.block w.heap.size (by simp)]
    exact heap_alloc_new w _
  clear k1
  go_wp2
  refine wp_loop (AInv (w1.alloc (.cells #[.int .i64 0] 2)) ao ca w.heap.size w1.heap.size L) (fun a' _ => L.length - (intOf (a'.tmps.getD 15 undef)).toNat) ?_ ?_
  · exact ⟨0, [], undef, undef, undef, undef, undef, undef, undef, Nat.zero_le _, ⟨by simp [go_sem, areaL], by simp [go_sem], Turn.refl _ _, Mks.nil _ _⟩, rfl⟩
  · rintro _ wr ⟨k, Ds, v6, v16, v17, v18, v19, v20, v25, hk, M, rfl⟩
    have HMid := hideP M
    have hbd := areaL_bd L HF.out k hk
    have hsX := M.turn.size
    simp only [World.size_alloc] at hsX
    by_cases hlt : k < L.length
    · have hlt' : (k : Int) < (L.length : Int) := by omega
      have hne : L ≠ [] := fun e => by rw [e] at hlt; simp at hlt
      rcases HA.out with e | ⟨g, o, rfl, _, hg, hc⟩
      · exact absurd e hne
      have hR := (hc k hlt).keep K1.out (by omega)
      have hR2 : IsRect wr g (o + k * 4) L[k].x L[k].y L[k].w L[k].h := ⟨by rw [M.turn.cell g _ (by simp; omega) (by omega)]; exact hR.c0, by rw [M.turn.cell g _ (by simp; omega) (by omega)]; exact hR.c1, by rw [M.turn.cell g _ (by simp; omega) (by omega)]; exact hR.c2, by rw [M.turn.cell g _ (by simp; omega) (by omega)]; exact hR.c3⟩
      have HQ := hideP (fltL_at HF.out k hlt)
      have HS := hideP (areaL_take L k hlt)
      obtain ⟨a0, a1, a2, a3⟩ := hR2
      have hgl : g < wr.heap.size := by omega
      clear hc HA hR M
      go_wp2_with (go_at_call 45; refine Calls.mono (ptsOf_any _ _ _ _ _) ?_; rintro e w2 ⟨rfl, rfl⟩)
      obtain ⟨hpl, hpn, hpe⟩ := ptsOf_len L[k] HQ.out
      have KW : Hid (Below wr.heap.size wr ((wr.alloc (.cells #[.int .i64 L[k].x, .int .i64 L[k].y, .int .i64 L[k].w, .int .i64 L[k].h] 25)).alloc (.cells #[.int .i64 L[k].x, .int .i64 L[k].y, .int .i64 L[k].w, .int .i64 L[k].h] 25))) := ((Below.refl _ _).alloc (Nat.le_refl _) _).alloc (by simp) _
      have BX : Hid (((wr.alloc (.cells #[.int .i64 L[k].x, .int .i64 L[k].y, .int .i64 L[k].w, .int .i64 L[k].h] 25)).alloc (.cells #[.int .i64 L[k].x, .int .i64 L[k].y, .int .i64 L[k].w, .int .i64 L[k].h] 25)).heap[wr.heap.size + 1]? = some (.cells #[.int .i64 L[k].x, .int .i64 L[k].y, .int .i64 L[k].w, .int .i64 L[k].h] 25 (0, 0))) := by
        have := heap_alloc_new (wr.alloc (.cells #[.int .i64 L[k].x, .int .i64 L[k].y, .int .i64 L[k].w, .int .i64 L[k].h] 25)) (.cells #[.int .i64 L[k].x, .int .i64 L[k].y, .int .i64 L[k].w, .int .i64 L[k].h] 25)
        rw [World.size_alloc] at this
        exact this
      have SW : ((wr.alloc (.cells #[.int .i64 L[k].x, .int .i64 L[k].y, .int .i64 L[k].w, .int .i64 L[k].h] 25)).alloc (.cells #[.int .i64 L[k].x, .int .i64 L[k].y, .int .i64 L[k].w, .int .i64 L[k].h] 25)).heap.size = wr.heap.size + 2 := by simp
      generalize (wr.alloc (.cells #[.int .i64 L[k].x, .int .i64 L[k].y, .int .i64 L[k].w, .int .i64 L[k].h] 25)).alloc (.cells #[.int .i64 L[k].x, .int .i64 L[k].y, .int .i64 L[k].w, .int .i64 L[k].h] 25) = Wk at *
      clear a0 a1 a2 a3
      have hbW : w1.heap.size < wr.heap.size := by omega
      refine (wpIn_wide (n := 3)).1 ?_
      refine wpIn_rangeFunc_ownF rfl (by omega) (gf := 73) (lb := #[.pointer (some ⟨wr.heap.size + 1, 0, none⟩)]) rfl trivial (enters_of Try.func73 (by kernel_rfl) rfl)
        (pts_stops 2 (wr.heap.size + 1) L[k] HQ.out Wk (by omega) BX.out) (fun h k => k.trans h) (fun W l o o' hl _ _ _ => World.putObj_heap_other (by omega)) (Below.refl _ _) (fun _ => rfl)
        (fun pre W => (W.cell? ⟨w1.heap.size, 0, none⟩ = some (.int .i64 (areaL (L.take k) + (pre.length : Int))) ∧ W.frozen? ⟨w1.heap.size, 0, none⟩ = false) ∧ Turn w1.heap.size Wk W)
        (fun _ _ _ => False)
        (OwnFrom.and (Own.from (fun s A B row hs hg hr => ⟨cell_kept hs.1 hg hr, (frozen_kept hs.1 hg hr).trans hs.2⟩) _) (turn_own _ _ _ (Nat.le_refl _)))
        (fun _ _ _ _ _ hs _ _ => hs)
        ⟨⟨by simpa using (KW.out.cell (p := ⟨w1.heap.size, 0, none⟩) hbW).trans HMid.out.cnt, (KW.out.frozen (p := ⟨w1.heap.size, 0, none⟩) hbW).trans HMid.out.free⟩, Turn.refl _ _⟩
        (fun x => { tmps := #[.slice (some ⟨g, o, none⟩) L.length ca, undef, .pointer (some ⟨w.heap.size, 0, none⟩), .int .i64 0, .pointer (some ⟨w1.heap.size, 0, none⟩), undef, .pointer (some ⟨wr.heap.size, 0, none⟩), .slice (some ⟨g, o, none⟩) L.length ca, .int .i64 0, .int .i64 0, .bool false, undef, undef, .slice (some ⟨g, o, none⟩) L.length ca, .int .i64 L.length, .int .i64 k, .bool true, .pointer (some ⟨g, o + k * 4, none⟩),
          .agg #[.int .i64 L[k].x, .int .i64 L[k].y, .int .i64 L[k].w, .int .i64 L[k].h], .agg #[.int .i64 L[k].x, .int .i64 L[k].y, .int .i64 L[k].w, .int .i64 L[k].h], .func (.func 73) #[] #[.pointer (some ⟨wr.heap.size + 1, 0, none⟩)], .int .i64 x.1, .int .i64 x.2, undef, undef, v25, undef, undef], defers := [] }) ?assign ?body ?done ?stop
      case assign =>
        intro l x W K hK
        refine wpIn_skip ?_
        show K _ W
        simpa [encP] using hK
      case body =>
        rintro l pre x W ⟨⟨hc, hf⟩, ht⟩ hlen
        have hlen' : (pre.length : Int) < 400 := by omega
        have HT := hideP ht
        clear ht
        gi_wp2
        have hbp : (areaL (L.take k) + ((pre ++ [x]).length : Int)) = areaL (L.take k) + (pre.length : Int) + 1 := by simp; omega
        refine ⟨KeepsOthers.setCell _ _ _, Below.heap_setCell W ⟨w1.heap.size, 0, none⟩ _ _ (show wr.heap.size + 1 ≠ w1.heap.size by omega), ⟨?_, by rw [World.frozen?_setCell]; exact hf⟩, ?_⟩
        · rw [hbp]; exact World.cell?_setCell_same' _ _ _ (by rw [hc]; rfl)
        · exact HT.out.trans (Turn.store W ⟨w1.heap.size, 0, none⟩ _)
      case done =>
        rintro D ys W hD rfl ⟨⟨hc, hf⟩, ht⟩ hK
        have t1 : Turn w1.heap.size wr W := (Turn.of_below KW.out).trans ht
        have M2 : Hid (Mid (w1.alloc (.cells #[.int .i64 0] 2)) W w1.heap.size (areaL (L.take (k + 1))) (D :: Ds)) := by
          refine ⟨by rw [hc, HS.out, hpl], hf, HMid.out.turn.trans t1, (HMid.out.mks.turn t1 (by simp)).cons hK (by simp; omega) fun E hE => ?_⟩
          have := (HMid.out.mks.at_ E hE).2.1
          omega
        clear hc hf ht hK t1
        go_wp2
        exact ⟨⟨k + 1, D :: Ds, _, _, _, _, _, _, _, hlt, M2.out, rfl⟩, by simp [intOf]; omega⟩
      case stop =>
        rintro D c pre W _ _ h _
        exact h.elim
    · obtain rfl : k = L.length := by omega
      have e1 : areaL (L.take L.length) = areaL L := by rw [List.take_length]
      rw [e1] at hbd
      have hc : wr.cell? ⟨w1.heap.size, 0, none⟩ = some (.int .i64 (areaL L)) := by rw [← e1]; exact M.cnt
      have hB : Hid (Below w.heap.size w wr) := Turn.below K1.out (by omega) (by simp; omega) M.turn
      have hb0 : wr.heap[w.heap.size]? = some (.cells #[.int .i64 0, .int .i64 0] 35 (0, 0)) := (M.turn.block w.heap.size (by simp; omega) (by omega)).trans R0.out
      have r0 : wr.cell? ⟨w.heap.size, 0, none⟩ = some (.int .i64 0) := by rw [cell_of_row wr w.heap.size 0 _ _ _ hb0]; rfl
      have r1 : wr.cell? ⟨w.heap.size, 1, none⟩ = some (.int .i64 0) := by rw [cell_of_row wr w.heap.size 1 _ _ _ hb0]; rfl
      have z0 : wr.frozen? ⟨w.heap.size, 0, none⟩ = false := frozen_of_row wr w.heap.size 0 _ _ hb0
      have z1 : wr.frozen? ⟨w.heap.size, 1, none⟩ = false := frozen_of_row wr w.heap.size 1 _ _ hb0
      have hlt2 : w.heap.size < wr.heap.size := by omega
      have MK := hideP M.mks
      clear hb0 e1 M
      go_wp2
      have T0 : Turn w.heap.size wr ((wr.setCell ⟨w.heap.size, 0, none⟩ (.int .i64 0)).setCell ⟨w.heap.size, 1, none⟩ (.int .i64 (areaL L))) := (Turn.store wr ⟨w.heap.size, 0, none⟩ _).trans (Turn.store _ ⟨w.heap.size, 1, none⟩ _)
      show LeavesInM Fence.wide 3 Try.prog Try.f19 _ _ (marks Ds) .returning _
      refine leave_marks (w1.alloc (.cells #[.int .i64 0] 2)).heap.size Ds _ (MK.out.turn T0 (by simp; omega)) (by simp; omega) fun w' k => ?_
      have e0 : w'.cell? ⟨w.heap.size, 0, none⟩ = some (.int .i64 0) := by
        rw [k.cell (p := ⟨w.heap.size, 0, none⟩) (by simp; omega), cell_set_other (by omega)]; exact cell_set_same r0
      have e1 : w'.cell? ⟨w.heap.size, 1, none⟩ = some (.int .i64 (areaL L)) := by
        rw [k.cell (p := ⟨w.heap.size, 1, none⟩) (by simp; omega)]; exact cell_set_same ((cell_set_other (by omega)).trans r1)
      refine ⟨.agg #[.int .i64 0, .int .i64 (areaL L)], ?_, rfl, ?_⟩
      · simp [results, Try.results19, go_sem, e0, e1]
      · exact ((hB.out.setCell (p := ⟨w.heap.size, 0, none⟩) (Nat.le_refl _) _).setCell (p := ⟨w.heap.size, 1, none⟩) (Nat.le_refl _) _).trans (k.mono (by simp; omega))

set_option maxHeartbeats 1000000 in
theorem iArea_no (lo hi : Nat) (ao : Option Addr) (ca : Nat) (L : List Rc) (w : World) (ha : Lst w lo hi ao L) (h1 : hi ≤ w.heap.size) (hl : L.length ≤ 1048576) (hm : manyC L ≠ 0) :
    Calls Try.prog 19 #[.slice ao L.length ca] w fun e w' => e = .returned (.agg #[.int .i64 (manyC L), .int .i64 0]) ∧ Below w.heap.size w w' := by
  have HA := hideP ha
  clear ha
  obtain ⟨c, hc⟩ : ∃ c, manyC L = c := ⟨_, rfl⟩
  have hb : (c != 0) = true := by rw [← hc]; simpa using hm
  have HC := hideP hc
  clear hm hc
  go_enter Try.func19, Try.ntmps19
  go_wp2_with fail
  refine Calls.mono (fol_any lo hi ao ca L _ (HA.out.keep (B := w.heap.size) (by go_grown) h1) (by first | (simp; done) | (simp; omega) | omega) hl) ?_
  rintro e w1 ⟨rfl, k1⟩
  rw [HC.out]
  replace k1 := Kept.below k1
  have hc1 := Kept.cell k1
  have hf1 := Kept.frozen k1
  have hz1 := k1.size
  try simp only [World.size_alloc] at hz1
  try simp only [World.size_setCell] at hz1
  try simp only [World.size_drew] at hz1
  have hb1_0 : w.heap.size < w1.heap.size ∧ w.heap.size ≤ w1.heap.size ∧ w.heap.size ≤ w1.heap.size + 1 ∧ ¬ w.heap.size = w1.heap.size ∧ ¬ w.heap.size = w1.heap.size + 1 := by omega
  go_wp2
  refine bodyPost_ret (v := .agg #[.int .i64 c, .int .i64 0]) (by simp [results, Try.results19, go_sem, *]; done) rfl ⟨by rw [HC.out], ?_⟩
  repeat' (first | (with_reducible exact Below.refl _ _) | (with_reducible refine kept_below ?_ (by assumption) ?_) | (with_reducible refine Below.alloc ?_ ?_ _) | (with_reducible refine Below.drew ?_) | (with_reducible refine Below.setCell ?_ ?_ _) | go_size)

theorem iArea_any (lo hi : Nat) (ao : Option Addr) (ca : Nat) (L : List Rc) (w : World) (ha : Lst w lo hi ao L) (h1 : hi ≤ w.heap.size) (hl : L.length ≤ 1048576) :
    Calls Try.prog 19 #[.slice ao L.length ca] w fun e w' => e = .returned (.agg #[.int .i64 (manyC L), .int .i64 (areaV L)]) ∧ Below w.heap.size w w' := by
  by_cases hm : manyC L = 0
  · have e : areaV L = areaL L := by unfold areaV; rw [if_pos hm]
    rw [e, hm]
    exact iArea_ok lo hi ao ca L w ha h1 hl hm
  · have e : areaV L = 0 := by unfold areaV; rw [if_neg hm]
    rw [e]
    exact iArea_no lo hi ao ca L w ha h1 hl hm

end Go.Proofs.Ytbceacnadkhdoaa
