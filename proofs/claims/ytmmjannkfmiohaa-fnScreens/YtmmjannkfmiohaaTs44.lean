/- Owners, put down window by window: the program's walk. -/
import Derived.Test.YtmmjannkfmiohaaTs40
import Derived.Test.YtmmjannkfmiohaaTs43
import Derived.Test.YtmmjannkfmiohaaTs10
import Derived.RangeFuncNested
namespace Go.Proofs.Ytmmjannkfmiohaa
open Go.RowKit Go.Shelf Go.Maps
set_option linter.unusedVariables false
attribute [local go_sem] Oper.semAt_some
attribute [local go_sem] growUponR growAtR

set_option maxHeartbeats 400000 in
theorem rbs_any (w : World) : Calls Try.prog 28 #[] w fun e w' => e = .returned (.agg #[.int .i64 0, .int .i64 1, .int .i64 12, .int .i64 7]) ∧ Below w.heap.size w w' := by
  go_enter Try.func28, Try.ntmps28
  go_wp2
  go_returns
  exact ⟨rfl, by go_grown⟩
theorem fRR1 (c : Int) (v : Value) (w : World) : Sem.run Try.prog (Instr.field 87 (.agg #[.int .i64 c, v]) 1) w = .ok v w := by kernel_rfl

attribute [local go_sem high] fRR1

theorem pts_lenO (r : Rc) (hf : rfB r.x r.y r.w r.h = false) : (ptsOf r).length = r.h.toNat * r.w.toNat ∧ r.h.toNat * r.w.toNat ≤ 400 := by
  obtain ⟨_, _, h3, h4⟩ := rfB_no hf
  refine ⟨rowsPts_len _ _ _ _, ?_⟩
  have : r.h.toNat * r.w.toNat ≤ 20 * 20 := Nat.mul_le_mul (by omega) (by omega)
  omega
/-- The iterator's contract, each point known to be one of the rectangle's. -/
theorem pts_stopsM (n Br : Nat) (r : Rc) (hf : rfB r.x r.y r.w r.h = false) (w : World) (hlt : Br < w.heap.size) (hB : w.heap[Br]? = some (.cells #[.int .i64 r.x, .int .i64 r.y, .int .i64 r.w, .int .i64 r.h] 45 (0, 0))) :
    SeqStopsK Fence.wide n Try.prog 48 #[.pointer (some ⟨Br, 0, none⟩)] (fun x : { p : Int × Int // p ∈ ptsOf r } => encP x.val) (fun A B => B.heap[Br]? = A.heap[Br]?) (fun xs => xs.map Subtype.val = ptsOf r) (fun pre => pre.map Subtype.val <+: ptsOf r) (r.h.toNat * r.w.toNat) w := fun l J Jx W hW hJ _ hY h0 => by
  refine (pts1_in n l Br r hf (fun pre W => ∃ q : List { p : Int × Int // p ∈ ptsOf r }, q.map Subtype.val = pre ∧ J q W) (fun pre W => ∃ q : List { p : Int × Int // p ∈ ptsOf r }, q.map Subtype.val = pre ∧ Jx q W) W ?_ ?_ ((hW.block Br hlt).trans hB) ⟨[], rfl, h0⟩).mono ?_
  · rintro _ x W1 ⟨q, rfl, hq⟩ hl hp
    have hx : x ∈ ptsOf r := hp.subset (by simp)
    obtain ⟨fn, tmps, assign, body, hy, hR⟩ := hY q ⟨x, hx⟩ W1 hq (by simpa using hl)
    refine ⟨fn, tmps, assign, body, hy, hR.mono ?_⟩
    rintro e W' (⟨he, h1, h2⟩ | ⟨he, h1⟩)
    · exact .inl ⟨he, ⟨_, by simp, h1⟩, h2⟩
    · exact .inr ⟨he, _, by simp, h1⟩
  · rintro _ W1 W2 row ⟨q, rfl, hq⟩ hg hr
    exact ⟨q, rfl, hJ q W1 W2 row hq hg hr⟩
  · rintro e W' ⟨hv, (⟨ys, rfl, q, hq, h1⟩ | ⟨pre, hp, q, rfl, h1⟩)⟩
    · exact ⟨hv, .inl ⟨q, hq, h1⟩⟩
    · exact ⟨hv, .inr ⟨q, hp, h1⟩⟩

theorem kal5O (w : World) (o : Obj) : Below w.heap.size w (w.alloc o) := (Below.refl _ _).alloc (Nat.le_refl _) o
theorem wfP {x : Int} (h0 : -100000 ≤ x) (h1 : x ≤ 100000) : (Lit.int .i64 x).wf = true := WalkArith.wf_i64 (by omega)

/-- What stands between two windows: the map of those put down; X was ahead of the loop. -/
structure OMid (X wr : World) (b m : Nat) (f : Int → Int → Option Int) (Ds : List Nat) : Prop where
  omp : ∃ n, n ≤ m ∧ Omp wr b n f
  turn : Turn b X wr
  mks : Mks wr X.heap.size Ds
theorem OMid.keep {X wr wr' : World} {b m : Nat} {f g : Int → Int → Option Int} {Ds : List Nat} (h : OMid X wr b m f Ds) (k : Below wr.heap.size wr wr') (hb : b < X.heap.size) (e : ∀ x y, f x y = g x y) (hm : m ≤ m + 400) : OMid X wr' b (m + 400) g Ds := by
  obtain ⟨⟨n, hn, ho⟩, ht, hk⟩ := h
  exact ⟨⟨n, by omega, (ho.keep k (Nat.lt_of_lt_of_le hb ht.size)).as e⟩, ht.trans (Turn.of_below k), hk.turn (Turn.of_below (b := b) k) hb⟩

def OInv (X : World) (so : Option Addr) (sc t3 b : Nat) (L : List Wn) (a' : Act) (wr : World) : Prop :=
  ∃ (k : Nat) (Ds : List Nat) (v4 v5 v7 v8 v9 v14 v15 v16 v17 v18 v19 v20 v21 v22 v23 v24 v25 v26 v27 v28 v29 v30 v31 v32 v33 v34 v35 v36 v37 v38 v39 v40 v41 : Value), k ≤ L.length ∧ OMid X wr b (400 * k) (ownF (L.map Wn.ct) k) Ds ∧
    a' = { tmps := #[.slice so L.length sc, undef, .map none, .pointer (some ⟨t3, 0, none⟩), v4, v5, undef, v7, v8, v9, .map (some b), .slice so L.length sc, .int .i64 L.length, .int .i64 (k : Nat), v14, v15, v16, v17, v18, v19, v20, v21, v22, v23, v24, v25, v26, v27, v28, v29, v30, v31, v32, v33, v34, v35, v36, v37, v38, v39, v40, v41, undef], defers := marks Ds }

set_option maxRecDepth 100000 in
set_option maxHeartbeats 8000000 in
theorem iOwners_any (so : Option Addr) (sc : Nat) (L : List Wn) (w : World) (hL : Ws w 0 w.heap.size so L) (hst : stF (L.map Wn.ct) = 0) :
    Calls Try.prog 25 #[.slice so L.length sc] w fun e w' => ∃ b n, e = .returned (.map (some b)) ∧ w.heap.size ≤ b ∧ b < w'.heap.size ∧ Omp w' b n (ownF (L.map Wn.ct) L.length) ∧ Below w.heap.size w w' := by
  have h12 : L.length ≤ 12 := by
    by_cases h : 12 < L.length
    · have := idsF_many (L := (L.map Wn.ct).map Wc.i) (by simpa using h)
      rw [(stF_ok hst).1] at this
      cases this
    · omega
  have h12' : (L.length : Int) ≤ 12 := by omega
  have hrf := hideP (st_rect hst)
  have HL := hideP hL
  have hmm := @run_makeMap Try.prog
  clear hL hst
  refine callsIn_wide.1 (callsIn_of_wp_marks (n := 3) Try.func25 rfl trivial ?_ rfl)
  simp only [Try.ntmps25, List.size_toArray, List.length_cons, List.length_nil, Nat.reduceAdd, Nat.reduceSub, Array.replicate_succ, Array.replicate_zero, List.push_toArray, List.append_toArray, List.nil_append, List.cons_append]
  refine wpIn_wide.2 ?_
  go_wp2
  clear hmm
  obtain ⟨X, hX⟩ : ∃ X, (w.alloc (.map #[] 0)).alloc (.cells #[.map (some w.heap.size)] 59) = X := ⟨_, rfl⟩
  have K1 : Hid (Below w.heap.size w X) := hideP (by rw [← hX]; exact ((Below.refl _ _).alloc (Nat.le_refl _) _).alloc (by simp) _)
  have hXs : X.heap.size = w.heap.size + 2 := by rw [← hX]; simp
  have T3 : Hid (X.cell? ⟨w.heap.size + 1, 0, none⟩ = some (.map (some w.heap.size))) := hideP (by rw [← hX]; simp [go_sem])
  have O0 : Hid (Omp X w.heap.size 0 (fun _ _ => none)) := hideP (by rw [← hX]; exact (omp_made w).keep ((Below.refl _ _).alloc (Nat.le_refl _) _) (by simp))
  rw [hX]
  clear hX
  refine wp_loop (OInv X so sc (w.heap.size + 1) w.heap.size L) (fun a' _ => L.length - (intOf (a'.tmps.getD 13 undef)).toNat) ?_ ?_
  · exact ⟨0, [], undef, undef, undef, undef, undef, undef, undef, undef, undef, undef, undef, undef, undef, undef, undef, undef, undef, undef, undef, undef, undef, undef, undef, undef, undef, undef, undef, undef, undef, undef, undef, undef, undef, Nat.zero_le _, ⟨⟨0, Nat.zero_le _, O0.out⟩, Turn.refl _ _, Mks.nil _ _⟩, rfl⟩
  · rintro _ wr ⟨k, Ds, v4, v5, v7, v8, v9, v14, v15, v16, v17, v18, v19, v20, v21, v22, v23, v24, v25, v26, v27, v28, v29, v30, v31, v32, v33, v34, v35, v36, v37, v38, v39, v40, v41, hk, M, rfl⟩
    have hsX := M.turn.size
    have HM := hideP M
    have t3 : wr.cell? ⟨w.heap.size + 1, 0, none⟩ = some (.map (some w.heap.size)) := (M.turn.cell (w.heap.size + 1) 0 (by omega) (by omega)).trans T3.out
    have ht3 : w.heap.size + 1 < wr.heap.size := by omega
    by_cases hlt : k < L.length
    · have hlt' : (k : Int) < (L.length : Int) := by omega
      obtain ⟨A, r, B, hL', hA⟩ : ∃ A r B, L = A ++ r :: B ∧ A.length = k := ⟨L.take k, L[k], L.drop (k + 1), by simp, by simp; omega⟩
      subst hA
      have h0 := HL.out
      have hr := hrf.out r (by rw [hL']; simp)
      have hat : (L.map Wn.ct)[A.length]? = some r.ct := by rw [hL']; simp
      rw [hL'] at h0
      obtain ⟨g, o, rfl, hg, hc, _⟩ := Ws.at h0
      have hcw : Cl Wn.vals wr g (o + A.length * 7) r := fun j hj => (M.turn.cell g _ (by omega) (by omega)).trans ((K1.out.cell (p := ⟨g, _, none⟩) hg).trans (hc j hj))
      obtain ⟨a0, a1, a2, a3, a4, a5, a6⟩ := hcw.seven
      have hgl : g < wr.heap.size := by omega
      have HAT := hideP hat
      have HR := hideP hr
      clear h0 hc hcw M hL' hat hr
      obtain ⟨ri, rx, ry, rp, rh, rm, ⟨rao, rca, rg, rD⟩⟩ := r
      simp only at a0 a1 a2 a3 a4 a5 a6 HR
      simp only [Wn.ct] at HAT
      have ka := (kal5O wr (.cells #[.int .i64 (A.length : Int)] 3)).trans ((kal5O (wr.alloc (.cells #[.int .i64 (A.length : Int)] 3)) (.cells #[.int .i64 ri, .int .i64 rx, .int .i64 ry, .int .i64 rp, .int .i64 rh, .bool rm, .slice rao rD.length rca] 47)).mono (by simp))
      cases rm
      · have hoff := ownF_off HAT.out (fun x y => by simp [hitC])
        have M2 := hideP (HM.out.keep ka (by omega) hoff (by omega))
        clear ka hoff
        go_wp2
        exact ⟨⟨A.length + 1, Ds, _, _, _, _, _, _, _, _, _, _, _, _, _, _, _, _, _, _, _, _, _, _, _, _, _, _, _, _, _, _, _, _, _, hlt, M2.out, rfl⟩, by simp [intOf]; omega⟩
      · have SI := cut_any_i ⟨rx, ry, rp, rh⟩ stripR
        have HKA := hideP ka
        clear ka
        have p0 : ((wr.alloc (.cells #[.int .i64 (A.length : Int)] 3)).alloc (.cells #[.int .i64 ri, .int .i64 rx, .int .i64 ry, .int .i64 rp, .int .i64 rh, .bool true, .slice rao rD.length rca] 47)).cell? ⟨wr.heap.size, 0, none⟩ = some (.int .i64 (A.length : Int)) := by simp [go_sem]
        have p1 : ((wr.alloc (.cells #[.int .i64 (A.length : Int)] 3)).alloc (.cells #[.int .i64 ri, .int .i64 rx, .int .i64 ry, .int .i64 rp, .int .i64 rh, .bool true, .slice rao rD.length rca] 47)).cell? ⟨wr.heap.size + 1, 1, none⟩ = some (.int .i64 rx) := by simp [go_sem]
        have p2 : ((wr.alloc (.cells #[.int .i64 (A.length : Int)] 3)).alloc (.cells #[.int .i64 ri, .int .i64 rx, .int .i64 ry, .int .i64 rp, .int .i64 rh, .bool true, .slice rao rD.length rca] 47)).cell? ⟨wr.heap.size + 1, 2, none⟩ = some (.int .i64 ry) := by simp [go_sem]
        have p3 : ((wr.alloc (.cells #[.int .i64 (A.length : Int)] 3)).alloc (.cells #[.int .i64 ri, .int .i64 rx, .int .i64 ry, .int .i64 rp, .int .i64 rh, .bool true, .slice rao rD.length rca] 47)).cell? ⟨wr.heap.size + 1, 3, none⟩ = some (.int .i64 rp) := by simp [go_sem]
        have p4 : ((wr.alloc (.cells #[.int .i64 (A.length : Int)] 3)).alloc (.cells #[.int .i64 ri, .int .i64 rx, .int .i64 ry, .int .i64 rp, .int .i64 rh, .bool true, .slice rao rD.length rca] 47)).cell? ⟨wr.heap.size + 1, 4, none⟩ = some (.int .i64 rh) := by simp [go_sem]
        have zk : ((wr.alloc (.cells #[.int .i64 (A.length : Int)] 3)).alloc (.cells #[.int .i64 ri, .int .i64 rx, .int .i64 ry, .int .i64 rp, .int .i64 rh, .bool true, .slice rao rD.length rca] 47)).heap.size = wr.heap.size + 2 := by simp
        have P0 := hideP p0
        have P1 := hideP p1
        have P2 := hideP p2
        have P3 := hideP p3
        have P4 := hideP p4
        clear p0 p1 p2 p3 p4
        go_wp2
        generalize (wr.alloc (.cells #[.int .i64 (A.length : Int)] 3)).alloc (.cells #[.int .i64 ri, .int .i64 rx, .int .i64 ry, .int .i64 rp, .int .i64 rh, .bool true, .slice rao rD.length rca] 47) = wk at *
        clear a0 a1 a2 a3 a4 a5 a6
        have t3k : wk.cell? ⟨w.heap.size + 1, 0, none⟩ = some (.map (some w.heap.size)) := (HKA.out.cell (p := ⟨w.heap.size + 1, 0, none⟩) ht3).trans t3
        have q1 := P1.out
        have q2 := P2.out
        have q3 := P3.out
        have q4 := P4.out
        have hq : wr.heap.size + 1 < wk.heap.size := by omega
        have HT3 := hideP t3k
        clear t3 t3k P1 P2 P3 P4
        rcases cut_strip ⟨rx, ry, rp, rh⟩ HR.out with ⟨hcut, hno⟩ | ⟨s, hcut, hs, hpts⟩
        · rw [hcut] at SI
          have hoff := ownF_off HAT.out (fun x y => by show ((true && inB rx ry rp rh x y) && subB x y) = false; rw [Bool.true_and]; exact hno x y)
          have HOFF := hideP hoff
          have HSI := hideP SI
          clear hcut hno SI hoff
          refine wp_region_plan (R := Kept) (G := Kept) rel_keptA rel_keptA (fun h => h) 7 [(true, 0), (true, 1), (true, 2), (true, 6), (false, 3), (true, 4), (true, 5)] (by kernel_rfl) (by kernel_rfl) ?_
          simp only [selP, List.filterMap_cons, List.filterMap_nil, List.getElem?_cons_succ, List.getElem?_cons_zero, Option.map_some]
          repeat (refine plan_take _ (by first | exact wanted_free rfl | exact wanted_yes rfl rfl | exact wanted_no rfl rfl) (by first | with_reducible rfl | decide) ?_; apply Exists.intro; refine ⟨fun w' k1 => ?_, fun K hK => ?_⟩; (focus (have hc := Kept.cell k1; go_simp; first | done | rfl | (go_at_call 28; exact kept_call (Below.refl _ _) (rbs_any _)))); (go_simp; refine hK _ ?_; clear hK K))
          refine plan_made _ (by first | exact wanted_free rfl | exact wanted_yes rfl rfl | exact wanted_no rfl rfl) (by first | with_reducible rfl | decide) fun v1 j1 => ?_
          have jj1 := Kept.below j1
          refine made_callsR (by go_simp; first | done | rfl | (simp [stripR]; done)) ((HSI.out v1).mono ?_)
          rintro e v2 ⟨v, rfl, kk, ao2, cap2, rfl, O2⟩
          replace O2 := hideP O2
          refine ⟨_, rfl, kk, fun K hK => ?_⟩
          go_simp
          refine hK _ ?_
          clear hK K
          repeat (refine plan_take _ (by first | exact wanted_free rfl | exact wanted_yes rfl rfl | exact wanted_no rfl rfl) (by first | with_reducible rfl | decide) ?_; apply Exists.intro; refine ⟨fun w' k1 => ?_, fun K hK => ?_⟩; (focus (have hc := Kept.cell k1; go_simp; first | done | rfl)); (go_simp; refine hK _ ?_; clear hK K))
          refine plan_nil fun w7 k7 => ?_
          try simp only [List.drop_succ_cons, List.drop_zero]
          have K7 : Hid (Below wk.heap.size wk w7) := hideP ((jj1.trans (kk.mono jj1.size)).trans ((Kept.below k7).mono (Nat.le_trans jj1.size kk.size)))
          have n7 := K7.out.size
          clear jj1 j1 q1 q2 q3 q4
          have M2 := hideP (HM.out.keep (HKA.out.trans (K7.out.mono (by omega))) (by omega) HOFF.out (by omega))
          clear HOFF K7 O2 HSI
          go_wp2
          refine wp_loop_rounds 1 ?_
          rw [rounds_succ]
          go_wp2
          exact ⟨⟨A.length + 1, Ds, _, _, _, _, _, _, _, _, _, _, _, _, _, _, _, _, _, _, _, _, _, _, _, _, _, _, _, _, _, _, _, _, _, hlt, M2.out, rfl⟩, by simp [intOf]; omega⟩
        · rw [hcut] at SI
          have HSI := hideP SI
          have HON := hideP (ownF_on (pts := ptsOf s) HAT.out (fun x y => by rw [hpts x y]; show _ ↔ ((true && inB rx ry rp rh x y) && subB x y) = true; rw [Bool.true_and]))
          have HS := hideP hs
          have HPT := hideP hpts
          clear hcut hpts SI hs
          refine wp_region_plan (R := Kept) (G := Kept) rel_keptA rel_keptA (fun h => h) 7 [(true, 0), (true, 1), (true, 2), (true, 6), (false, 3), (true, 4), (true, 5)] (by kernel_rfl) (by kernel_rfl) ?_
          simp only [selP, List.filterMap_cons, List.filterMap_nil, List.getElem?_cons_succ, List.getElem?_cons_zero, Option.map_some]
          repeat (refine plan_take _ (by first | exact wanted_free rfl | exact wanted_yes rfl rfl | exact wanted_no rfl rfl) (by first | with_reducible rfl | decide) ?_; apply Exists.intro; refine ⟨fun w' k1 => ?_, fun K hK => ?_⟩; (focus (have hc := Kept.cell k1; go_simp; first | done | rfl | (go_at_call 28; exact kept_call (Below.refl _ _) (rbs_any _)))); (go_simp; refine hK _ ?_; clear hK K))
          refine plan_made _ (by first | exact wanted_free rfl | exact wanted_yes rfl rfl | exact wanted_no rfl rfl) (by first | with_reducible rfl | decide) fun v1 j1 => ?_
          have jj1 := Kept.below j1
          refine made_callsR (by go_simp; first | done | rfl | (simp [stripR]; done)) ((HSI.out v1).mono ?_)
          rintro e v2 ⟨v, rfl, kk, ao2, cap2, rfl, O2⟩
          replace O2 := hideP O2
          refine ⟨_, rfl, kk, fun K hK => ?_⟩
          go_simp
          refine hK _ ?_
          clear hK K
          repeat (refine plan_take _ (by first | exact wanted_free rfl | exact wanted_yes rfl rfl | exact wanted_no rfl rfl) (by first | with_reducible rfl | decide) ?_; apply Exists.intro; refine ⟨fun w' k1 => ?_, fun K hK => ?_⟩; (focus (have hc := Kept.cell k1; go_simp; first | done | rfl)); (go_simp; refine hK _ ?_; clear hK K))
          refine plan_nil fun w7 k7 => ?_
          try simp only [List.drop_succ_cons, List.drop_zero]
          have K7 : Hid (Below wk.heap.size wk w7) := hideP ((jj1.trans (kk.mono jj1.size)).trans ((Kept.below k7).mono (Nat.le_trans jj1.size kk.size)))
          have n7 := K7.out.size
          clear jj1 j1 q1 q2 q3 q4
          rcases O2.out.lst with e | ⟨g2, o2, rfl, _, hg2, hc2⟩
          · cases e
          have R2 := hideP ((hc2 0 (by simp)).keep (Kept.below k7) hg2)
          simp only [List.getElem_cons_zero, Nat.zero_mul, Nat.add_zero] at R2
          have hg7 : g2 < w7.heap.size := Nat.lt_of_lt_of_le hg2 (Below.size (Kept.below k7))
          obtain ⟨b0, b1, b2, b3⟩ := R2.out
          clear hc2 O2 HSI
          go_wp2
          refine wp_loop_rounds 2 ?_
          rw [rounds_succ]
          go_wp2_with (go_at_call 27; refine Calls.mono (ptsOf_any _ _ _ _ _) ?_; rintro e w2 ⟨rfl, rfl⟩)
          have KW : Hid (Below w7.heap.size w7 ((w7.alloc (.cells #[.int .i64 s.x, .int .i64 s.y, .int .i64 s.w, .int .i64 s.h] 45)).alloc (.cells #[.int .i64 s.x, .int .i64 s.y, .int .i64 s.w, .int .i64 s.h] 45))) := ((Below.refl _ _).alloc (Nat.le_refl _) _).alloc (by simp) _
          have BX : Hid (((w7.alloc (.cells #[.int .i64 s.x, .int .i64 s.y, .int .i64 s.w, .int .i64 s.h] 45)).alloc (.cells #[.int .i64 s.x, .int .i64 s.y, .int .i64 s.w, .int .i64 s.h] 45)).heap[w7.heap.size + 1]? = some (.cells #[.int .i64 s.x, .int .i64 s.y, .int .i64 s.w, .int .i64 s.h] 45 (0, 0))) := by
            have := heap_alloc_new (w7.alloc (.cells #[.int .i64 s.x, .int .i64 s.y, .int .i64 s.w, .int .i64 s.h] 45)) (.cells #[.int .i64 s.x, .int .i64 s.y, .int .i64 s.w, .int .i64 s.h] 45)
            rw [World.size_alloc] at this
            exact this
          have SW : ((w7.alloc (.cells #[.int .i64 s.x, .int .i64 s.y, .int .i64 s.w, .int .i64 s.h] 45)).alloc (.cells #[.int .i64 s.x, .int .i64 s.y, .int .i64 s.w, .int .i64 s.h] 45)).heap.size = w7.heap.size + 2 := by simp
          generalize (w7.alloc (.cells #[.int .i64 s.x, .int .i64 s.y, .int .i64 s.w, .int .i64 s.h] 45)).alloc (.cells #[.int .i64 s.x, .int .i64 s.y, .int .i64 s.w, .int .i64 s.h] 45) = Wk at *
          clear b0 b1 b2 b3
          have KB : Hid (Below wk.heap.size wk Wk) := hideP (K7.out.trans (KW.out.mono n7))
          have KC : Hid (Below wr.heap.size wr Wk) := hideP (HKA.out.trans (KB.out.mono (by omega)))
          obtain ⟨n0, hn0, homp⟩ := HM.out.omp
          have OMP := hideP (homp.keep KC.out (by omega))
          obtain ⟨o0, ho0⟩ : ∃ o0, Wk.heap[w.heap.size]? = some o0 := ⟨_, Array.getElem?_eq_getElem OMP.out.lt⟩
          have HO0 := hideP ho0
          have D3 := hideP ((KB.out.cell (p := ⟨w.heap.size + 1, 0, none⟩) (by show w.heap.size + 1 < _; omega)).trans HT3.out)
          have D4 := hideP ((KB.out.cell (p := ⟨wr.heap.size, 0, none⟩) (by show wr.heap.size < _; omega)).trans P0.out)
          obtain ⟨hpl, hpn⟩ := pts_lenO s HS.out
          have hsb := rfB_no HS.out
          clear homp ho0
          refine (wpIn_wide (n := 3)).1 ?_
          refine wpIn_rangeFunc_ownH rfl (by omega) (gf := 48) (lb := #[.pointer (some ⟨w7.heap.size + 1, 0, none⟩)]) rfl trivial (enters_of Try.func48 (by kernel_rfl) rfl)
            (pts_stopsM 2 (w7.heap.size + 1) s HS.out Wk (by omega) BX.out) (fun h k => k.trans h) (fun W l o o' hl _ _ _ => World.putObj_heap_other (by omega)) (Below.refl _ _) (fun _ => rfl)
            (fun pre W => ∃ o, (∀ W' : World, W'.heap[w.heap.size]? = some o → Omp W' w.heap.size (n0 + pre.length) (putP (ownF (L.map Wn.ct) A.length) (pre.map Subtype.val) (A.length : Int))) ∧ W.heap[w.heap.size]? = some o ∧ Turn w.heap.size Wk W)
            (fun _ _ _ => False)
            (own_obj _ _ Wk (Nat.le_refl _) (by omega) (fun pre o => ∀ W' : World, W'.heap[w.heap.size]? = some o → Omp W' w.heap.size (n0 + pre.length) (putP (ownF (L.map Wn.ct) A.length) (pre.map Subtype.val) (A.length : Int))))
            (fun _ _ _ _ _ hs _ _ => hs)
            ⟨o0, fun W' h => (OMP.out.same (h.trans HO0.out.symm)).as (putP_nil _ _), HO0.out, Turn.refl _ _⟩
            (fun x a' W => a' = { tmps := #[.slice (some ⟨g, o, none⟩) L.length sc, undef, .map none, .pointer (some ⟨w.heap.size + 1, 0, none⟩), .pointer (some ⟨wr.heap.size, 0, none⟩), .pointer (some ⟨wr.heap.size + 1, 0, none⟩), undef, .pointer (some ⟨w7.heap.size, 0, none⟩), .int .i64 x.val.1, .int .i64 x.val.2, .map (some w.heap.size), .slice (some ⟨g, o, none⟩) L.length sc, .int .i64 L.length, .int .i64 (A.length : Nat), .bool true, .int .i64 (A.length : Nat), .pointer (some ⟨g, o + A.length * 7, none⟩), .agg #[.int .i64 ri, .int .i64 rx, .int .i64 ry, .int .i64 rp, .int .i64 rh, .bool true, .slice rao rD.length rca], .pointer (some ⟨wr.heap.size + 1, 5, none⟩), .bool true, .bool false, .pointer (some ⟨wr.heap.size + 1, 1, none⟩), .agg #[.int .i64 rx, .int .i64 ry, .int .i64 rp, .int .i64 rh], .agg #[.int .i64 0, .int .i64 1, .int .i64 12, .int .i64 7], .agg #[.int .i64 (rfOf ((⟨rx, ry, rp, rh⟩ : Rc).flt || stripR.flt)), .slice (some ⟨g2, o2, none⟩) 1 cap2], .slice (some ⟨g2, o2, none⟩) 1 cap2, .int .i64 1, .int .i64 0, .bool true, .pointer (some ⟨g2, o2, none⟩), .agg #[.int .i64 s.x, .int .i64 s.y, .int .i64 s.w, .int .i64 s.h], .agg #[.int .i64 s.x, .int .i64 s.y, .int .i64 s.w, .int .i64 s.h], .func (.func 48) #[] #[.pointer (some ⟨w7.heap.size + 1, 0, none⟩)], .int .i64 x.val.1, .int .i64 x.val.2, v35, v36, v37, v38, v39, v40, v41, undef], defers := [] })
            (fun x a' s X Y row h _ _ => h) ?assign ?body ?done ?stop
          case assign =>
            rintro l pre x W K hI hK
            simp only [encP]
            gi_wp2
            exact hK _ _ (KeepsFrom.refl _ _) rfl hI rfl
          case body =>
            rintro l pre ⟨⟨x, y⟩, hx⟩ a' W hl hrec ⟨o1, hF, hb, ht⟩ rfl hlen
            have hin := (mem_rowsPts.1 hx)
            have hwx : (Lit.int .i64 x).wf = true := wfP (by omega) (by omega)
            have hwy : (Lit.int .i64 y).wf = true := wfP (by omega) (by omega)
            have hwz : (Lit.int .i64 (A.length : Int)).wf = true := wfP (by omega) (by omega)
            have HF := hideP (hF W hb)
            have htz := ht.size
            have z3 : W.cell? ⟨w.heap.size + 1, 0, none⟩ = some (.map (some w.heap.size)) := (ht.cell (w.heap.size + 1) 0 (by omega) (by omega)).trans D3.out
            have z4 : W.cell? ⟨wr.heap.size, 0, none⟩ = some (.int .i64 (A.length : Int)) := (ht.cell wr.heap.size 0 (by omega) (by omega)).trans D4.out
            have HT := hideP ht
            have hnn : n0 + pre.length < maxLen := by unfold maxLen; omega
            have hl3 : w.heap.size + 1 < W.heap.size := by omega
            have hl4 : wr.heap.size < W.heap.size := by omega
            clear hF hb ht hin
            gi_wp2_with (first | (gi_at_mapUpdate; refine wpListIn_ownPut rfl _ _ _ rfl w.heap.size (n0 + pre.length) _ rfl HF.out hnn x y (A.length : Int) rfl rfl hwx hwy hwz ?_; intro w5 hO5 hG5; replace hO5 := hideP hO5; replace hG5 := hideP hG5) | gi_in)
            have T5 := Turn.of_grown hG5.out
            obtain ⟨o5, ho5⟩ : ∃ o5, w5.heap[w.heap.size]? = some o5 := ⟨_, Array.getElem?_eq_getElem hO5.out.lt⟩
            exact ⟨keepsFrom_turnO T5 (by omega), T5.block (w7.heap.size + 1) (by omega) (by omega), o5, fun W' h => ((hO5.out.same (h.trans ho5.symm)).as (fun p q => by rw [List.map_append]; exact putP_snoc _ _ (x, y) _ p q)).mono (by simp; omega), ho5, HT.out.trans T5⟩
          case done =>
            rintro D ys W hD hys ⟨o1, hF, hb, ht⟩ hK
            have hyl : ys.length ≤ 400 := by have := congrArg List.length hys; rw [List.length_map, hpl] at this; omega
            have F1 := hF W hb
            rw [hys] at F1
            have t1 : Turn w.heap.size wr W := (Turn.of_below KC.out).trans ht
            have zs := HKA.out.size
            have htz := ht.size
            have M2 : Hid (OMid X W w.heap.size (400 * (A.length + 1)) (ownF (L.map Wn.ct) (A.length + 1)) (D :: Ds)) := by
              refine ⟨⟨_, by omega, F1.as HON.out⟩, HM.out.turn.trans t1, (HM.out.mks.turn t1 (by omega)).cons hK (by omega) fun E hE => ?_⟩
              have := (HM.out.mks.at_ E hE).2.1
              omega
            clear hF hb ht hK t1 F1
            go_wp2
            rw [rounds_succ]
            go_wp2
            exact ⟨⟨A.length + 1, D :: Ds, _, _, _, _, _, _, _, _, _, _, _, _, _, _, _, _, _, _, _, _, _, _, _, _, _, _, _, _, _, _, _, _, _, hlt, M2.out, rfl⟩, by simp [intOf]; omega⟩
          case stop =>
            rintro D c pre W _ _ h _
            exact h.elim
    · obtain rfl : k = L.length := by omega
      have hB : Hid (Below w.heap.size w wr) := hideP (Turn.below K1.out (by omega) (by omega) M.turn)
      obtain ⟨n0, hn0, homp⟩ := M.omp
      have OMP := hideP homp
      have MK := hideP M.mks
      have hge : ¬ (L.length : Int) < (L.length : Int) := by omega
      have hwl := OMP.out.lt
      clear M homp
      go_wp2
      show LeavesInM Fence.wide 3 Try.prog Try.f25 _ _ (marks Ds) .returning _
      refine leave_marks X.heap.size Ds _ MK.out (by omega) fun w' kk => ?_
      refine ⟨.map (some w.heap.size), ?_, ?_⟩
      · simp [results, Try.results25, go_sem]
      · exact ⟨w.heap.size, rfl, Nat.le_refl _, Nat.lt_of_lt_of_le (by omega) kk.size, ⟨n0, OMP.out.keep kk (by omega)⟩, hB.out.trans (kk.mono (by omega))⟩
end Go.Proofs.Ytmmjannkfmiohaa
