/- CoverOf of the program: a range over a function in a loop, left by a break of the outer loop. -/
import Derived.Test.YtbceacnadkhdoaaCov1
import Derived.Test.YtbceacnadkhdoaaMrk
namespace Go.Proofs.Ytbceacnadkhdoaa
open Go.RowKit Go.Shelf
set_option linter.unusedVariables false
attribute [local go_sem] Oper.semAt_some

/-- What stands between two rounds: all places from k on are asked; X was ahead of the loop. -/
def CInv (X : World) (ao : Option Addr) (ca B4 B5 B6 : Nat) (x y : Int) (L : List Rc) (a' : Act) (wr : World) : Prop :=
  ∃ (k : Nat) (Ds : List Nat) (v9 v10 v20 v21 v22 v23 v24 v25 v26 v27 v28 : Value), k ≤ L.length ∧ lastAt L x y L.length = lastAt L x y k ∧ Below X.heap.size X wr ∧ Mks wr X.heap.size Ds ∧
    a' = { tmps := #[.slice ao L.length ca, .int .i64 x, .int .i64 y, undef, .pointer (some ⟨B4, 0, none⟩), .pointer (some ⟨B5, 0, none⟩), .pointer (some ⟨B6, 0, none⟩), .int .i64 0, .int .i64 ((k : Int) - 1), v9, v10, .slice ao L.length ca, .int .i64 0, .int .i64 0, .bool false, undef, undef,
      .slice ao L.length ca, .int .i64 L.length, .int .i64 ((L.length : Int) - 1), v20, v21, v22, v23, v24, v25, v26, v27, v28, undef, undef, undef, undef, undef, undef, undef, undef, undef, undef, undef, undef, undef, undef, undef], defers := marks Ds }

set_option maxRecDepth 100000 in
set_option maxHeartbeats 4000000 in
theorem iCov_ok (lo hi : Nat) (ao : Option Addr) (ca : Nat) (L : List Rc) (x y : Int) (w : World) (ha : Lst w lo hi ao L) (h1 : hi ≤ w.heap.size) (hl : L.length ≤ 1048576) (hm : manyC L = 0) :
    Calls Try.prog 13 #[.slice ao L.length ca, .int .i64 x, .int .i64 y] w fun e w' => e = .returned (.agg #[.int .i64 (covC L x y), .int .i64 (covV L x y)]) ∧ Below w.heap.size w w' := by
  obtain ⟨h40, hf⟩ := manyC_ok hm
  have h40' : (L.length : Int) ≤ 40 := by omega
  have HA := hideP ha
  have HM := hideP hm
  have HF := hideP hf
  clear ha hm hf
  refine callsIn_wide.1 (callsIn_of_wp_marks (n := 3) Try.func13 rfl trivial ?_ rfl)
  simp only [Try.ntmps13, List.size_toArray, List.length_cons, List.length_nil, Nat.reduceAdd, Nat.reduceSub, Array.replicate_succ, Array.replicate_zero, List.push_toArray, List.append_toArray, List.nil_append, List.cons_append]
  refine wpIn_wide.2 ?_
  go_wp2
  refine wp_scope_straight ?_
  go_wp2_with fail
  refine Calls.mono (fol_any lo hi ao ca L _ (HA.out.keep (B := w.heap.size) (by go_grown) h1) (by first | (simp; done) | (simp; omega) | omega) hl) ?_
  rintro e w1 ⟨rfl, k1⟩
  rw [HM.out]
  have hz1 := k1.size
  simp only [World.size_alloc] at hz1
  have K1 : Hid (Below w.heap.size w w1) := Below.trans (by go_grown) (k1.mono (by simp; omega))
  have b4 : w1.cell? ⟨w.heap.size, 0, none⟩ = some (.int .i64 x) := by rw [k1.cell (p := ⟨w.heap.size, 0, none⟩) (by first | (simp; done) | (simp; omega) | omega)]; simp [go_sem]
  have b5 : w1.cell? ⟨w.heap.size + 1, 0, none⟩ = some (.int .i64 y) := by rw [k1.cell (p := ⟨w.heap.size + 1, 0, none⟩) (by first | (simp; done) | (simp; omega) | omega)]; simp [go_sem]
  have r0 : w1.cell? ⟨w.heap.size + 2, 0, none⟩ = some (.int .i64 0) := by rw [k1.cell (p := ⟨w.heap.size + 2, 0, none⟩) (by first | (simp; done) | (simp; omega) | omega)]; simp [go_sem]
  have r1 : w1.cell? ⟨w.heap.size + 2, 1, none⟩ = some (.int .i64 0) := by rw [k1.cell (p := ⟨w.heap.size + 2, 1, none⟩) (by first | (simp; done) | (simp; omega) | omega)]; simp [go_sem]
  have z0 : w1.frozen? ⟨w.heap.size + 2, 0, none⟩ = false := by rw [k1.frozen (p := ⟨w.heap.size + 2, 0, none⟩) (by first | (simp; done) | (simp; omega) | omega)]; simp [go_sem]
  have z1 : w1.frozen? ⟨w.heap.size + 2, 1, none⟩ = false := by rw [k1.frozen (p := ⟨w.heap.size + 2, 1, none⟩) (by first | (simp; done) | (simp; omega) | omega)]; simp [go_sem]
  have n4 : w.heap.size < w1.heap.size ∧ w.heap.size + 1 < w1.heap.size ∧ w.heap.size + 2 < w1.heap.size := by omega
  clear k1
  go_wp2
  refine wp_label ?_
  go_wp2
  have B4 := hideP b4
  have B5 := hideP b5
  have R0 := hideP r0
  have R1 := hideP r1
  have Z0 := hideP z0
  have Z1 := hideP z1
  clear b4 b5 r0 r1 z0 z1
  refine wp_loop (CInv w1 ao ca w.heap.size (w.heap.size + 1) (w.heap.size + 1 + 1) x y L) (fun a' _ => (intOf (a'.tmps.getD 8 undef) + 1).toNat) ?_ ?_
  · exact ⟨L.length, [], undef, undef, undef, undef, undef, undef, undef, undef, undef, undef, undef, Nat.le_refl _, rfl, Below.refl _ _, Mks.nil _ _, rfl⟩
  · rintro _ wr ⟨k, Ds, v9, v10, v20, v21, v22, v23, v24, v25, v26, v27, v28, hk, hT, hB, hM, rfl⟩
    have HT := hideP hT
    have HB := hideP hB
    have MK := hideP hM
    have hsz := hB.size
    clear hT hB hM
    have b4 := (HB.out.cell (p := ⟨w.heap.size, 0, none⟩) n4.1).trans B4.out
    have b5 := (HB.out.cell (p := ⟨w.heap.size + 1, 0, none⟩) n4.2.1).trans B5.out
    have r0 := (HB.out.cell (p := ⟨w.heap.size + 2, 0, none⟩) n4.2.2).trans R0.out
    have r1 := (HB.out.cell (p := ⟨w.heap.size + 2, 1, none⟩) n4.2.2).trans R1.out
    have z0 := (HB.out.frozen (p := ⟨w.heap.size + 2, 0, none⟩) n4.2.2).trans Z0.out
    have z1 := (HB.out.frozen (p := ⟨w.heap.size + 2, 1, none⟩) n4.2.2).trans Z1.out
    have n5 : w.heap.size < wr.heap.size ∧ w.heap.size + 1 < wr.heap.size ∧ w.heap.size + 2 < wr.heap.size := by omega
    have KB := hideP (K1.out.trans (HB.out.mono (by omega)))
    cases k with
    | zero =>
        have HC := hideP (cov_none HM.out HT.out)
        go_wp2
        have T0 : Turn (w.heap.size + 1 + 1) wr ((wr.setCell ⟨w.heap.size + 1 + 1, 0, none⟩ (.int .i64 4)).setCell ⟨w.heap.size + 1 + 1, 1, none⟩ (.int .i64 0)) := (Turn.store wr ⟨w.heap.size + 1 + 1, 0, none⟩ _).trans (Turn.store _ ⟨w.heap.size + 1 + 1, 1, none⟩ _)
        show LeavesInM Fence.wide 3 Try.prog Try.f13 _ _ (marks Ds) .returning _
        refine leave_marks w1.heap.size Ds _ (MK.out.turn T0 (by omega)) (by simp; omega) fun w' kk => ?_
        have e0 : w'.cell? ⟨w.heap.size + 1 + 1, 0, none⟩ = some (.int .i64 4) := by
          rw [kk.cell (p := ⟨w.heap.size + 1 + 1, 0, none⟩) (show w.heap.size + 1 + 1 < w1.heap.size by omega), cell_set_other (by omega)]; exact cell_set_same r0
        have e1 : w'.cell? ⟨w.heap.size + 1 + 1, 1, none⟩ = some (.int .i64 0) := by
          rw [kk.cell (p := ⟨w.heap.size + 1 + 1, 1, none⟩) (show w.heap.size + 1 + 1 < w1.heap.size by omega)]; exact cell_set_same ((cell_set_other (by omega)).trans r1)
        refine ⟨.agg #[.int .i64 4, .int .i64 0], ?_, by rw [HC.out.1, HC.out.2], ?_⟩
        · simp [results, Try.results13, go_sem, e0, e1]
        · exact ((KB.out.setCell (p := ⟨w.heap.size + 1 + 1, 0, none⟩) (show w.heap.size ≤ w.heap.size + 1 + 1 by omega) _).setCell (p := ⟨w.heap.size + 1 + 1, 1, none⟩) (show w.heap.size ≤ w.heap.size + 1 + 1 by omega) _).trans (kk.mono (by omega))
    | succ k =>
      have hlt : k < L.length := by omega
      have hlt' : (k : Int) < (L.length : Int) := by omega
      have ek : ((k + 1 : Nat) : Int) - 1 = (k : Int) := by omega
      rw [ek]
      have hne : L ≠ [] := fun e => by rw [e] at hlt; simp at hlt
      rcases HA.out with e | ⟨g, o, rfl, _, hg, hc⟩
      · exact absurd e hne
      obtain ⟨a0, a1, a2, a3⟩ := ((hc k hlt).keep K1.out (by omega)).keep HB.out (by omega)
      have HQ := hideP (fltL_at HF.out k hlt)
      have HE := hideP (hasAt_eq (x := x) (y := y) hlt)
      have HP := hideP (mem_pts HQ.out x y)
      have hgl : g < wr.heap.size := by omega
      clear hc HA ek
      go_wp2_with (go_at_call 45; refine Calls.mono (ptsOf_any _ _ _ _ _) ?_; rintro e w2 ⟨rfl, rfl⟩)
      have KW : Hid (Below wr.heap.size wr (wr.alloc (.cells #[.int .i64 L[k].x, .int .i64 L[k].y, .int .i64 L[k].w, .int .i64 L[k].h] 25))) := (Below.refl _ _).alloc (Nat.le_refl _) _
      have BX : Hid ((wr.alloc (.cells #[.int .i64 L[k].x, .int .i64 L[k].y, .int .i64 L[k].w, .int .i64 L[k].h] 25)).heap[wr.heap.size]? = some (.cells #[.int .i64 L[k].x, .int .i64 L[k].y, .int .i64 L[k].w, .int .i64 L[k].h] 25 (0, 0))) := heap_alloc_new wr _
      have SW : (wr.alloc (.cells #[.int .i64 L[k].x, .int .i64 L[k].y, .int .i64 L[k].w, .int .i64 L[k].h] 25)).heap.size = wr.heap.size + 1 := by simp
      generalize wr.alloc (.cells #[.int .i64 L[k].x, .int .i64 L[k].y, .int .i64 L[k].w, .int .i64 L[k].h] 25) = Wk at *
      clear a0 a1 a2 a3
      have C4 := hideP ((KW.out.cell (p := ⟨w.heap.size, 0, none⟩) n5.1).trans b4)
      have C5 := hideP ((KW.out.cell (p := ⟨w.heap.size + 1, 0, none⟩) n5.2.1).trans b5)
      have n6 : w.heap.size < Wk.heap.size ∧ w.heap.size + 1 < Wk.heap.size ∧ w.heap.size + 2 < Wk.heap.size := by omega
      refine (wpIn_wide (n := 3)).1 ?_
      refine wpIn_rangeFunc_ownF rfl (by omega) (gf := 73) (lb := #[.pointer (some ⟨wr.heap.size, 0, none⟩)]) rfl trivial (enters_of Try.func73 (by kernel_rfl) rfl)
        (pts_stops 2 wr.heap.size L[k] HQ.out Wk (by omega) BX.out) (fun h k => k.trans h) (fun W l o o' hl _ _ _ => World.putObj_heap_other (by omega)) (Below.refl _ _) (fun _ => rfl)
        (fun pre W => (x, y) ∉ pre ∧ Below Wk.heap.size Wk W)
        (fun c pre W => (c = .exit 0 ∧ (x, y) ∈ pre) ∧ Below Wk.heap.size Wk W)
        (OwnFrom.and (ownFrom_pure _ _) (ownFrom_below (Nat.le_refl _) (Nat.le_refl _)))
        (fun c => OwnFrom.and (ownFrom_pure _ _) (ownFrom_below (Nat.le_refl _) (Nat.le_refl _)))
        ⟨by simp, Below.refl _ _⟩
        (fun p => { tmps := #[(.slice (some ⟨g, o, none⟩) L.length ca), .int .i64 x, .int .i64 y, undef, .pointer (some ⟨w.heap.size, 0, none⟩), .pointer (some ⟨w.heap.size + 1, 0, none⟩), .pointer (some ⟨w.heap.size + 1 + 1, 0, none⟩), .int .i64 0, .int .i64 k, .int .i64 p.1, .int .i64 p.2, (.slice (some ⟨g, o, none⟩) L.length ca), .int .i64 0, .int .i64 0, .bool false, undef, undef,
          (.slice (some ⟨g, o, none⟩) L.length ca), .int .i64 L.length, .int .i64 ((L.length : Int) - 1), .int .i64 k, .bool true, v22, v23, (.slice (some ⟨g, o, none⟩) L.length ca), .int .i64 k, .pointer (some ⟨g, o + k * 4, none⟩), .agg #[.int .i64 L[k].x, .int .i64 L[k].y, .int .i64 L[k].w, .int .i64 L[k].h], .func (.func 73) #[] #[.pointer (some ⟨wr.heap.size, 0, none⟩)], .int .i64 p.1, .int .i64 p.2, undef, undef, undef, undef, undef, undef, undef, undef, undef, undef, undef, undef, undef], defers := [] }) ?assign ?body ?done ?stop
      case assign =>
        intro l p W K hK
        simp [encP]
        gi_wp2
        exact hK
      case body =>
        rintro l pre ⟨p1, p2⟩ W ⟨hn, hb⟩ hlen
        have c4 := (hb.cell (p := ⟨w.heap.size, 0, none⟩) n6.1).trans C4.out
        have c5 := (hb.cell (p := ⟨w.heap.size + 1, 0, none⟩) n6.2.1).trans C5.out
        have HN := hideP hn
        have HW := hideP hb
        clear hn hb
        by_cases e1 : p1 = x
        · subst e1
          by_cases e2 : p2 = y
          · subst e2
            gi_wp2
            exact ⟨KeepsOthers.refl _, ⟨rfl, by simp⟩, HW.out⟩
          · have q2 : (p2 == y) = false := by simpa using e2
            gi_wp2
            exact ⟨KeepsOthers.refl _, rfl, fun hm => (List.mem_append.1 hm).elim HN.out (fun h => by simp at h; exact e2 h.symm), HW.out⟩
        · have q1 : (p1 == x) = false := by simpa using e1
          gi_wp2
          exact ⟨KeepsOthers.refl _, rfl, fun hm => (List.mem_append.1 hm).elim HN.out (fun h => by simp at h; exact e1 h.1.symm), HW.out⟩
      case done =>
        rintro D ys W hD rfl ⟨hn, hb⟩ hK
        have hmiss : hasAt L x y k = false := by
          rw [HE.out]
          cases e : inB L[k].x L[k].y L[k].w L[k].h x y
          · rfl
          · exact absurd (HP.out.2 e) hn
        have HT2 := hideP (HT.out.trans (lastAt_miss hmiss))
        have kk : Below wr.heap.size wr W := KW.out.trans (hb.mono (by omega))
        have HB2 := hideP (HB.out.trans (kk.mono hsz))
        have MK2 := hideP ((MK.out.turn (Turn.of_below (b := w.heap.size) kk) n4.1).cons hK (by omega) fun E hE => by have := (MK.out.at_ E hE).2.1; omega)
        clear hn hb hK hmiss kk
        go_wp2
        exact ⟨⟨k, D :: Ds, _, _, _, _, _, _, _, _, _, _, _, by omega, HT2.out, HB2.out, MK2.out, rfl⟩, by simp [intOf]⟩
      case stop =>
        rintro D c pre W hD hpre ⟨⟨rfl, hin⟩, hb⟩ hK
        have hhit : hasAt L x y k = true := by rw [HE.out]; exact HP.out.1 (hpre.subset hin)
        have HT2 := hideP (HT.out.trans (lastAt_hit hhit))
        have HC := hideP (cov_hit HM.out HT2.out)
        have kk : Below wr.heap.size wr W := KW.out.trans (hb.mono (by omega))
        have KB2 := hideP (KB.out.trans (kk.mono KB.out.size))
        have MK2 := hideP ((MK.out.turn (Turn.of_below (b := w.heap.size) kk) n4.1).cons hK (by omega) fun E hE => by have := (MK.out.at_ E hE).2.1; omega)
        have hs2 := kk.size
        have r0' := (kk.cell (p := ⟨w.heap.size + 2, 0, none⟩) n5.2.2).trans r0
        have r1' := (kk.cell (p := ⟨w.heap.size + 2, 1, none⟩) n5.2.2).trans r1
        have z0' := (kk.frozen (p := ⟨w.heap.size + 2, 0, none⟩) n5.2.2).trans z0
        have z1' := (kk.frozen (p := ⟨w.heap.size + 2, 1, none⟩) n5.2.2).trans z1
        clear hin hb hK hhit kk r0 r1 z0 z1 b4 b5
        have r0 := r0'
        have r1 := r1'
        have z0 := z0'
        have z1 := z1'
        clear r0' r1' z0' z1'
        have n7 : w.heap.size + 1 + 1 < W.heap.size := by omega
        refine wpIn_wide.2 ?_
        go_wp2
        have T0 : Turn (w.heap.size + 1 + 1) W ((W.setCell ⟨w.heap.size + 1 + 1, 0, none⟩ (.int .i64 0)).setCell ⟨w.heap.size + 1 + 1, 1, none⟩ (.int .i64 k)) := (Turn.store W ⟨w.heap.size + 1 + 1, 0, none⟩ _).trans (Turn.store _ ⟨w.heap.size + 1 + 1, 1, none⟩ _)
        show LeavesInM Fence.wide 3 Try.prog Try.f13 _ _ (marks (D :: Ds)) .returning _
        refine leave_marks w1.heap.size (D :: Ds) _ (MK2.out.turn T0 (by omega)) (by simp; omega) fun w' kk => ?_
        have e0 : w'.cell? ⟨w.heap.size + 1 + 1, 0, none⟩ = some (.int .i64 0) := by
          rw [kk.cell (p := ⟨w.heap.size + 1 + 1, 0, none⟩) (show w.heap.size + 1 + 1 < w1.heap.size by omega), cell_set_other (by omega)]; exact cell_set_same r0
        have e1 : w'.cell? ⟨w.heap.size + 1 + 1, 1, none⟩ = some (.int .i64 k) := by
          rw [kk.cell (p := ⟨w.heap.size + 1 + 1, 1, none⟩) (show w.heap.size + 1 + 1 < w1.heap.size by omega)]; exact cell_set_same ((cell_set_other (by omega)).trans r1)
        refine ⟨.agg #[.int .i64 0, .int .i64 k], ?_, by rw [HC.out.1, HC.out.2], ?_⟩
        · simp [results, Try.results13, go_sem, e0, e1]
        · exact ((KB2.out.setCell (p := ⟨w.heap.size + 1 + 1, 0, none⟩) (show w.heap.size ≤ w.heap.size + 1 + 1 by omega) _).setCell (p := ⟨w.heap.size + 1 + 1, 1, none⟩) (show w.heap.size ≤ w.heap.size + 1 + 1 by omega) _).trans (kk.mono (by omega))

end Go.Proofs.Ytbceacnadkhdoaa
