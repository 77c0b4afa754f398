/- Panes taken out: DeleteFunc, and what calls it. -/
import Derived.Test.YtejgcheddloffaaTr20
namespace Go.Proofs.Ytejgcheddloffaa
open Go.RowKit Go.Maps
set_option linter.unusedVariables false

def keepI (I : List Int) (v : Wn) : Bool := !hasI I v.i
/-- One whole element written anew. -/
theorem SpV.whole {w : World} {lo hi g : Nat} {X Y : List Wn} {r s : Wn} (h : SpV Wn.pals w lo hi (some ⟨g, 0, none⟩) (X ++ r :: Y)) :
    SpV Wn.pals (((((((w.setCell ⟨g, X.length * 7, none⟩ (.int .i64 s.x)).setCell ⟨g, X.length * 7 + 1, none⟩ (.int .i64 s.y)).setCell ⟨g, X.length * 7 + 2, none⟩ (.int .i64 s.w)).setCell ⟨g, X.length * 7 + 3, none⟩ (.int .i64 s.h)).setCell ⟨g, X.length * 7 + 4, none⟩ (.int .i64 s.i)).setCell ⟨g, X.length * 7 + 5, none⟩ (.bool s.m)).setCell ⟨g, X.length * 7 + 6, none⟩ (.slice s.b.ao s.b.L.length s.b.cap)) lo hi (some ⟨g, 0, none⟩) (X ++ s :: Y) := by
  rcases h with h | ⟨g', ha, g1, g2, hc, hf⟩
  · simp at h
  · cases ha
    have hr := hc X.length (by simp)
    simp only [List.getElem_append_right (Nat.le_refl _), Nat.sub_self, List.getElem_cons_zero] at hr
    have P := put7 (w := w) (g := g) (o := X.length * 7) (.int .i64 s.x) (.int .i64 s.y) (.int .i64 s.w) (.int .i64 s.h) (.int .i64 s.i) (.bool s.m) (.slice s.b.ao s.b.L.length s.b.cap) (fun j hj => by
      rw [hr j hj]
      match j, hj with
      | 0, _ | 1, _ | 2, _ | 3, _ | 4, _ | 5, _ | 6, _ => exact ⟨_, rfl⟩)
    obtain ⟨P1, P2, P3⟩ := P
    refine .inr ⟨g, rfl, g1, g2, fun i hi => ?_, fun c => by simpa using hf c⟩
    have hi' : i < (X ++ r :: Y).length := by simpa using hi
    by_cases e : i = X.length
    · subst e
      simp only [List.getElem_append_right (Nat.le_refl _), Nat.sub_self, List.getElem_cons_zero]
      exact Cl.mkP P1
    · have e2 : (X ++ s :: Y)[i] = (X ++ r :: Y)[i] := by
        by_cases hx : i < X.length
        · rw [List.getElem_append_left hx, List.getElem_append_left hx]
        · obtain ⟨j, rfl⟩ : ∃ j, i = X.length + (j + 1) := ⟨i - X.length - 1, by omega⟩
          simp
      rw [e2]
      intro j hj
      rw [P2 _ (by omega)]
      exact hc i hi' j hj

/-- A row of panes out of which some are taken: w was ahead of it. -/
structure Cut (w wr : World) (lo hi g m : Nat) (L : List Wn) : Prop where
  far : Far g (g + 1) w wr
  sp : SpV Wn.pals wr lo hi (some ⟨g, 0, none⟩) L
  blk : Blk wr g 51 m
theorem Cut.keep {w wr w' : World} {lo hi g m : Nat} {L : List Wn} (h : Cut w wr lo hi g m L) (hh : hi ≤ w.heap.size) (k : Below wr.heap.size wr w') : Cut w w' lo hi g m L :=
  ⟨h.far.trans (Far.of_below k), h.sp.keep k (Nat.le_trans hh h.far.size), h.blk.keep k⟩
theorem Cut.rest {w wr w5 : World} {lo hi g m : Nat} {L1 L2 : List Wn} (h : Cut w wr lo hi g m (L1 ++ L2)) (f : Far g (g + 1) wr w5) (b : Blk w5 g 51 m) (c : ∀ j, j < L1.length * 7 → w5.cell? ⟨g, j, none⟩ = wr.cell? ⟨g, j, none⟩) (z : ∀ c, w5.frozen? ⟨g, c, none⟩ = false) : Cut w w5 lo hi g m L1 := by
  refine ⟨h.far.trans f, ?_, b⟩
  rcases h.sp with h0 | ⟨g', ha, g1, g2, hc, hf⟩
  · exact .inl (by simp at h0; exact h0.1)
  · cases ha
    refine .inr ⟨g, rfl, g1, g2, fun i hi j hj => ?_, fun c => z c⟩
    have h1 := hc i (by rw [List.length_append]; omega) j hj
    rw [List.getElem_append_left hi] at h1
    rw [c _ (by omega)]
    exact h1
theorem far_7 {w : World} {g o : Nat} (v0 v1 v2 v3 v4 v5 v6 : Value) : Far g (g + 1) w (((((((w.setCell ⟨g, o, none⟩ v0).setCell ⟨g, o + 1, none⟩ v1).setCell ⟨g, o + 2, none⟩ v2).setCell ⟨g, o + 3, none⟩ v3).setCell ⟨g, o + 4, none⟩ v4).setCell ⟨g, o + 5, none⟩ v5).setCell ⟨g, o + 6, none⟩ v6) :=
  ((((((Far.of_set7 ⟨Nat.le_refl _, Nat.lt_succ_self _⟩).trans (Far.of_set7 ⟨Nat.le_refl _, Nat.lt_succ_self _⟩)).trans (Far.of_set7 ⟨Nat.le_refl _, Nat.lt_succ_self _⟩)).trans (Far.of_set7 ⟨Nat.le_refl _, Nat.lt_succ_self _⟩)).trans (Far.of_set7 ⟨Nat.le_refl _, Nat.lt_succ_self _⟩)).trans (Far.of_set7 ⟨Nat.le_refl _, Nat.lt_succ_self _⟩)).trans (Far.of_set7 ⟨Nat.le_refl _, Nat.lt_succ_self _⟩)
theorem Cut.store {w wr : World} {lo hi g m : Nat} {X Y : List Wn} {r : Wn} (h : Cut w wr lo hi g m (X ++ r :: Y)) (s : Wn) :
    Cut w (((((((wr.setCell ⟨g, X.length * 7, none⟩ (.int .i64 s.x)).setCell ⟨g, X.length * 7 + 1, none⟩ (.int .i64 s.y)).setCell ⟨g, X.length * 7 + 2, none⟩ (.int .i64 s.w)).setCell ⟨g, X.length * 7 + 3, none⟩ (.int .i64 s.h)).setCell ⟨g, X.length * 7 + 4, none⟩ (.int .i64 s.i)).setCell ⟨g, X.length * 7 + 5, none⟩ (.bool s.m)).setCell ⟨g, X.length * 7 + 6, none⟩ (.slice s.b.ao s.b.L.length s.b.cap)) lo hi g m (X ++ s :: Y) :=
  ⟨h.far.trans (far_7 _ _ _ _ _ _ _), h.sp.whole, ((((((h.blk.set _ _ _).set _ _ _).set _ _ _).set _ _ _).set _ _ _).set _ _ _).set _ _ _⟩

set_option maxRecDepth 100000 in
set_option maxHeartbeats 4000000 in
theorem del_some (bx lo hi lo2 hi2 g : Nat) (io : Option Addr) (ic : Nat) (I : List Int) (sc : Nat) (X0 Y0 : List Wn) (r0 : Wn) (n : Nat) (w : World) (hB : Box1 w bx lo2 hi2 io ic I) (hI : I.length ≤ 1048576) (hbg : bx ≠ g) (hig : hi2 ≤ g ∨ g < lo2)
    (hL : SpV Wn.pals w lo hi (some ⟨g, 0, none⟩) (X0 ++ r0 :: Y0)) (hb : Blk w g 51 (sc * 7)) (hnc : n ≤ sc) (hs : hi ≤ w.heap.size) (hgh : g < hi) (hnn : (X0 ++ r0 :: Y0).length = n) (hn : n ≤ 1048576) (h : ∀ v ∈ X0, hasI I v.i = false) (h0 : hasI I r0.i = true) :
    Calls Try.prog 57 #[.slice (some ⟨g, 0, none⟩) n sc, .func (.func 58) #[] #[.pointer (some ⟨bx, 0, none⟩)]] w fun e w' => e = .returned (.slice (some ⟨g, 0, none⟩) (X0 ++ Y0.filter (keepI I)).length sc) ∧ Cut w w' lo hi g (sc * 7) (X0 ++ Y0.filter (keepI I)) := by
  have hn' : (n : Int) ≤ 1048576 := by omega
  have IX := hideP (ixF_some bx lo hi lo2 hi2 io ic I (some ⟨g, 0, none⟩) sc X0 Y0 r0 n w hB hI hL hs hnn hn h h0)
  have HBx := hideP hB
  have C0 : Hid (Cut w w lo hi g (sc * 7) (X0 ++ r0 :: Y0)) := hideP ⟨Far.refl _ _ _, hL, hb⟩
  have hX0 : X0.length + Y0.length + 1 = n := by rw [← hnn]; simp <;> omega
  have hne1 : ((X0.length : Int) == -1) = false := by simp
  clear hL hB h h0 hnn hb
  go_enter Try.func57, Try.ntmps57
  go_wp2_with fail
  refine Calls.mono IX.out ?_
  rintro e w1 ⟨rfl, k1⟩
  have C1 := hideP (C0.out.keep hs k1)
  have hw1 := k1.size
  clear k1 C0 IX
  go_wp2
  go_loopw [5, 6] (fun i j wr => ∃ F mid A B : List Wn, A ++ B = Y0 ∧ F = A.filter (keepI I) ∧ F.length + mid.length = A.length + 1 ∧ 0 < mid.length ∧ i = .int .i64 ((X0.length + F.length : Nat) : Int) ∧ j = .int .i64 ((X0.length + 1 + A.length : Nat) : Int) ∧ Cut w wr lo hi g (sc * 7) (X0 ++ (F ++ (mid ++ B)))) (fun _ j _ => n - (intOf j).toNat)
  case atStart => exact ⟨[], [r0], [], Y0, rfl, rfl, rfl, by simp, by simp, by simp, C1.out⟩
  case round =>
    obtain ⟨F, mid, A, B, hAB, hF, hlen, hmid, rfl, rfl, CT⟩ := hrel
    have hABl : A.length + B.length = Y0.length := by rw [← hAB]; simp
    have hFl : X0.length + F.length < n := by omega
    have hC := hideP CT
    have HAB := hideP hAB
    have HF := hideP hF
    have hgl : g < wr.heap.size := CT.blk.lt
    clear CT C1 hAB hF
    obtain ⟨q, hq⟩ : ∃ q : Nat, X0.length + F.length = q := ⟨_, rfl⟩
    obtain ⟨p, hp⟩ : ∃ p : Nat, X0.length + 1 + A.length = p := ⟨_, rfl⟩
    have HQ := hideP hq
    have HP := hideP hp
    rw [hq, hp]
    have hqn : (q : Int) < (n : Int) := by omega
    have hqp : q < p := by omega
    cases B with
    | cons r B =>
      have hpn : (p : Int) < (n : Int) := by simp at hABl; omega
      obtain ⟨m0, mt, rfl⟩ : ∃ m0 mt, mid = m0 :: mt := by
        cases mid with
        | nil => simp at hmid
        | cons m0 mt => exact ⟨m0, mt, rfl⟩
      have hSr := hC.out.sp
      have eSr : X0 ++ (F ++ (m0 :: mt ++ r :: B)) = (X0 ++ (F ++ m0 :: mt)) ++ r :: B := by simp
      rw [eSr] at hSr
      obtain ⟨_, hg0, _, _, hc, hfr⟩ := SpV.at hSr
      cases hg0
      have hpl : (X0 ++ (F ++ m0 :: mt)).length = p := by rw [← hp]; simp at hlen ⊢; omega
      rw [hpl] at hc
      have hc' := hc.pane
      have hSq := hC.out
      have eSq : X0 ++ (F ++ (m0 :: mt ++ r :: B)) = (X0 ++ F) ++ m0 :: (mt ++ r :: B) := by simp
      rw [eSq] at hSq
      have HSQ := hideP hSq
      obtain ⟨_, hg0, _, _, hcq, _⟩ := SpV.at hSq.sp
      cases hg0
      have hql : (X0 ++ F).length = q := by rw [← hq]; simp
      rw [hql] at hcq
      have B1 := hideP (HBx.out.far hSq.far hbg hig)
      have HLEN := hideP hlen
      clear hSr eSr hc hSq eSq hC hlen hmid hq hp hpl hABl
      obtain ⟨ri, rx, ry, rp, rh, rm, ⟨ao, cap, gb, D⟩⟩ := r
      simp only at hc'
      obtain ⟨a0, a1, a2, a3, a4, a5, a6⟩ := hc'
      go_wp2_with fail
      clear a0 a1 a2 a3 a4 a5 a6
      have ka := kalC wr (.cells #[.int .i64 rx, .int .i64 ry, .int .i64 rp, .int .i64 rh, .int .i64 ri, .bool rm, .slice ao D.length cap] 51)
      have Z1 := hideP (r7_new wr (.int .i64 rx) (.int .i64 ry) (.int .i64 rp) (.int .i64 rh) (.int .i64 ri) (.bool rm) (.slice ao D.length cap) 51)
      have B2 := hideP (B1.out.keep ka)
      have KA := hideP ka
      have hz1 : wr.heap.size < (wr.alloc (.cells #[.int .i64 rx, .int .i64 ry, .int .i64 rp, .int .i64 rh, .int .i64 ri, .bool rm, .slice ao D.length cap] 51)).heap.size := by simp
      clear ka B1
      generalize wr.alloc (.cells #[.int .i64 rx, .int .i64 ry, .int .i64 rp, .int .i64 rh, .int .i64 ri, .bool rm, .slice ao D.length cap] 51) = w3 at *
      have MT := meant_any lo2 hi2 bx io ic I ri rx ry rp rh rm ao D.length cap w3 B2.out.c0 B2.out.row B2.out.hs hI
      cases hk : hasI I ri
      · rw [hk] at MT
        refine Calls.mono MT ?_
        rintro e w4 ⟨rfl, k4⟩
        have K4 : Below wr.heap.size wr w4 := KA.out.trans (k4.mono (by omega))
        have Z4 := Z1.out.keep k4 Z1.out.lt
        have hcq4 := (hcq.keep K4 hgl).pane
        have hf4 : ∀ c, w4.frozen? ⟨g, c, none⟩ = false := fun c => (K4.frozen (p := ⟨g, c, none⟩) hgl).trans (hfr c)
        have hgl4 : g < w4.heap.size := by have := K4.size; omega
        have CS := (HSQ.out.keep hs K4).store ⟨ri, rx, ry, rp, rh, rm, ⟨ao, cap, gb, D⟩⟩
        rw [hql] at CS
        have HCS := hideP CS
        have hkr : keepI I ⟨ri, rx, ry, rp, rh, rm, ⟨ao, cap, gb, D⟩⟩ = true := by unfold keepI; simp only [hk]; rfl
        have HF2 : Hid (F ++ [⟨ri, rx, ry, rp, rh, rm, ⟨ao, cap, gb, D⟩⟩] = (A ++ [(⟨ri, rx, ry, rp, rh, rm, ⟨ao, cap, gb, D⟩⟩ : Wn)]).filter (keepI I)) := hideP (by rw [List.filter_append, ← HF.out]; simp [hkr])
        clear MT k4 K4 hcq hfr CS hkr hk Z1 KA B2
        obtain ⟨z0, z1, z2, z3, z4, z5, z6, z7, z8⟩ := Z4
        obtain ⟨b0, b1, b2, b3, b4, b5, b6⟩ := hcq4
        go_wp2
        go_roundw
        case rel => exact ⟨F ++ [⟨ri, rx, ry, rp, rh, rm, ⟨ao, cap, gb, D⟩⟩], mt ++ [⟨ri, rx, ry, rp, rh, rm, ⟨ao, cap, gb, D⟩⟩], A ++ [⟨ri, rx, ry, rp, rh, rm, ⟨ao, cap, gb, D⟩⟩], B, midW HAB.out, HF2.out, by have := HLEN.out; simp only [List.length_append, List.length_cons, List.length_nil] at this ⊢ <;> omega, by simp, by rw [← HQ.out]; simp; go_num, by rw [← HP.out]; simp; go_num, by simpa using HCS.out⟩
        case measure => simp [intOf]; omega
      · rw [hk] at MT
        refine Calls.mono MT ?_
        rintro e w4 ⟨rfl, k4⟩
        have K4 : Below wr.heap.size wr w4 := KA.out.trans (k4.mono (by omega))
        have HCS := hideP (HSQ.out.keep hs K4)
        have hkr : keepI I ⟨ri, rx, ry, rp, rh, rm, ⟨ao, cap, gb, D⟩⟩ = false := by unfold keepI; simp only [hk]; rfl
        have HF2 : Hid (F = (A ++ [(⟨ri, rx, ry, rp, rh, rm, ⟨ao, cap, gb, D⟩⟩ : Wn)]).filter (keepI I)) := hideP (by rw [List.filter_append, ← HF.out]; simp [hkr])
        clear MT k4 K4 hcq hfr hkr hk Z1 KA B2
        go_wp2
        go_roundw
        case rel => exact ⟨F, m0 :: mt ++ [⟨ri, rx, ry, rp, rh, rm, ⟨ao, cap, gb, D⟩⟩], A ++ [⟨ri, rx, ry, rp, rh, rm, ⟨ao, cap, gb, D⟩⟩], B, midW HAB.out, HF2.out, by have := HLEN.out; simp only [List.length_append, List.length_cons, List.length_nil] at this ⊢ <;> omega, by simp, by rw [← HQ.out], by rw [← HP.out]; simp; go_num, by simpa using HCS.out⟩
        case measure => simp [intOf]; omega
    | nil =>
      have hA : A = Y0 := by have := HAB.out; simpa using this
      subst hA
      have hml : 0 < mid.length := hmid
      have hsl : F.length + mid.length = A.length + 1 := hlen
      have hpn : p = n := by omega
      have hqc : q + mid.length = n := by omega
      obtain ⟨cur, hcur, hcz⟩ := hC.out.blk
      have SF := sp_from (some ⟨g, 0, none⟩) n sc .i64 (q : Int) (by omega) (by omega) wr
      have SU := fun w => sp_upto g n sc .i64 (q : Int) (by omega) (by omega) w
      rw [Int.toNat_natCast] at SF SU
      have hwf : wFrom (some ⟨g, 0, none⟩) sc q = some ⟨g, q * 7, none⟩ := by unfold wFrom; rw [if_neg (by omega)]; simp [add_none]
      rw [hwf] at SF
      obtain ⟨w5, hrun, f5, s5, b5, c5, z5⟩ := clearP wr 0 g (q * 7) (n - q) (sc - q) cur (by omega) hcur (by rw [hcz]; omega)
      rw [hcz] at b5
      have hC2 := hC.out
      rw [show X0 ++ (F ++ (mid ++ [])) = (X0 ++ F) ++ mid by simp] at hC2
      have hql : (X0 ++ F).length = q := by rw [← hq]; simp
      have R := hideP (hC2.rest f5 b5 (by rw [hql]; exact c5) z5)
      have hlF : (X0 ++ A.filter (keepI I)).length = q := by rw [← HF.out]; exact hql
      rw [HF.out] at R
      have RQ := hideP hlF
      clear hC2 f5 b5 c5 z5 hC hcur hcz hwf HF HAB HQ HP hlF
      go_wp2
      go_returns
      exact ⟨by rw [RQ.out]; rfl, R.out⟩

set_option maxRecDepth 100000 in
set_option maxHeartbeats 400000 in
theorem del_none (bx lo hi lo2 hi2 : Nat) (io : Option Addr) (ic : Nat) (I : List Int) (so : Option Addr) (sc : Nat) (L : List Wn) (w : World) (hB : Box1 w bx lo2 hi2 io ic I) (hI : I.length ≤ 1048576) (hL : SpV Wn.pals w lo hi so L) (hs : hi ≤ w.heap.size) (hn : L.length ≤ 1048576) (h : ∀ v ∈ L, hasI I v.i = false) :
    Calls Try.prog 57 #[.slice so L.length sc, .func (.func 58) #[] #[.pointer (some ⟨bx, 0, none⟩)]] w fun e w' => e = .returned (.slice so L.length sc) ∧ Below w.heap.size w w' := by
  have IX := hideP (ixF_none bx lo hi lo2 hi2 io ic I so sc L w hB hI hL hs hn h)
  clear hB hL h
  go_enter Try.func57, Try.ntmps57
  go_wp2_with fail
  refine Calls.mono IX.out ?_
  rintro e w1 ⟨rfl, k1⟩
  have K1 := hideP k1
  clear k1
  go_wp2
  go_returns
  exact ⟨rfl, K1.out⟩

/-- The first one that is meant. -/
theorem del_or (I : List Int) (L : List Wn) : (∀ v ∈ L, hasI I v.i = false) ∨ ∃ X r Y, L = X ++ r :: Y ∧ (∀ v ∈ X, hasI I v.i = false) ∧ hasI I r.i = true := by
  induction L with
  | nil => exact .inl fun v h => by simp at h
  | cons r L ih =>
    cases hr : hasI I r.i
    · rcases ih with h | ⟨X, s, Y, h1, h2, h3⟩
      · refine .inl fun v hv => ?_
        rcases List.mem_cons.1 hv with rfl | hv
        · exact hr
        · exact h v hv
      · refine .inr ⟨r :: X, s, Y, by rw [h1]; rfl, fun v hv => ?_, h3⟩
        rcases List.mem_cons.1 hv with rfl | hv
        · exact hr
        · exact h2 v hv
    · exact .inr ⟨[], r, L, rfl, fun v hv => by simp at hv, hr⟩
theorem keep_all {I : List Int} {L : List Wn} (h : ∀ v ∈ L, hasI I v.i = false) : L.filter (keepI I) = L :=
  List.filter_eq_self.2 fun v hv => by unfold keepI; rw [h v hv]; rfl

set_option maxRecDepth 100000 in
set_option maxHeartbeats 400000 in
theorem without_any (lo hi lo2 hi2 g : Nat) (io : Option Addr) (ic : Nat) (I : List Int) (sc : Nat) (L : List Wn) (n : Nat) (w : World) (hR : Row .i64 w lo2 hi2 io I) (hR2 : hi2 ≤ w.heap.size) (hI : I.length ≤ 1048576) (hig : hi2 ≤ g ∨ g < lo2)
    (hL : SpV Wn.pals w lo hi (some ⟨g, 0, none⟩) L) (hb : Blk w g 51 (sc * 7)) (hnc : n ≤ sc) (hs : hi ≤ w.heap.size) (hgh : g < hi) (hnn : L.length = n) (hn : n ≤ 1048576) :
    Calls Try.prog 31 #[.slice (some ⟨g, 0, none⟩) n sc, .slice io I.length ic] w fun e w' => e = .returned (.slice (some ⟨g, 0, none⟩) (L.filter (keepI I)).length sc) ∧ Cut w w' lo hi g (sc * 7) (L.filter (keepI I)) := by
  have ka := kalC w (.cells #[.slice io I.length ic] 36)
  have hg : g < w.heap.size := by omega
  have B0 : Box1 (w.alloc (.cells #[.slice io I.length ic] 36)) w.heap.size lo2 hi2 io ic I := ⟨by simp, hR.keep ka hR2, by simp; omega⟩
  have L0 := hL.keep ka hs
  have b0 := hb.keep ka
  have DEL : Hid (Calls Try.prog 57 #[.slice (some ⟨g, 0, none⟩) n sc, .func (.func 58) #[] #[.pointer (some ⟨w.heap.size, 0, none⟩)]] (w.alloc (.cells #[.slice io I.length ic] 36)) fun e w' => e = .returned (.slice (some ⟨g, 0, none⟩) (L.filter (keepI I)).length sc) ∧ Cut w w' lo hi g (sc * 7) (L.filter (keepI I))) := by
    refine hideP ?_
    have f0 : Far g (g + 1) w (w.alloc (.cells #[.slice io I.length ic] 36)) := Far.of_below ka
    rcases del_or I L with h | ⟨X, r, Y, h1, h2, h3⟩
    · rw [keep_all h]
      have D := del_none w.heap.size lo hi lo2 hi2 io ic I (some ⟨g, 0, none⟩) sc L _ B0 hI L0 (by simp; omega) (by omega) h
      rw [hnn] at D
      refine D.mono ?_
      rintro e w' ⟨rfl, k⟩
      exact ⟨by rw [hnn], f0.trans (Far.of_below k), L0.keep k (by simp; omega), b0.keep k⟩
    · subst h1
      refine (del_some w.heap.size lo hi lo2 hi2 g io ic I sc X Y r n _ B0 hI (by omega) hig L0 b0 hnc (by simp; omega) hgh hnn hn h2 h3).mono ?_
      rintro e w' ⟨rfl, C⟩
      have e0 : (X ++ r :: Y).filter (keepI I) = X ++ Y.filter (keepI I) := by
        rw [List.filter_append, keep_all h2, List.filter_cons_of_neg (by unfold keepI; rw [h3]; decide)]
      rw [e0]
      exact ⟨rfl, f0.trans C.far, C.sp, C.blk⟩
  clear hR hL hb B0 L0 b0 ka
  go_enter Try.func31, Try.ntmps31
  go_wp2_with fail
  refine Calls.mono DEL.out ?_
  rintro e w1 ⟨rfl, C⟩
  have HC := hideP C
  clear C DEL
  go_wp2
  go_returns
  exact ⟨rfl, HC.out⟩

/-- Panes of which some are taken out. (51) -/
theorem Pan.cut {w w' : World} {lo hi g m : Nat} {L N : List Wn} (h : Pan w lo hi (some ⟨g, 0, none⟩) L) (hl : lo ≤ g) (C : Cut w w' lo hi g m N) (hN : N.Sublist L) : Pan w' lo w'.heap.size (some ⟨g, 0, none⟩) N := by
  have hm : (N.map Wn.b).Sublist (L.map Wn.b) := hN.map _
  have hsz := C.far.size
  refine ⟨⟨Nat.le_trans h.q.le (Nat.le_trans h.q.hs hsz), Nat.le_refl _, ?_, C.sp.wide (Nat.le_refl _) (Nat.le_trans h.q.hs hsz), fun g' hg b hb => ?_⟩, fun b hb => ?_⟩
  · have S := h.q.cis.sub hm
    refine ⟨fun b hb => Ci.on_far (S.each b hb) C.far fun e => ⟨?_, Ci.lt (S.each b hb) e⟩, fun b hb e => ?_, S.apart⟩
    · have := h.q.ne g rfl b (hm.subset hb) e
      omega
    · have := S.inn b hb e
      have := h.q.hs
      omega
  · cases hg
    exact h.q.ne g rfl b (hm.subset hb)
  · have := h.ty b (hm.subset hb)
    intro hn
    have hne := h.q.ne g rfl b (hm.subset hb) hn
    obtain ⟨cs, fr, he⟩ := this hn
    exact ⟨cs, fr, (C.far.block b.g (Array.getElem?_eq_some_iff.1 he).1 (by omega)).trans he⟩
end Go.Proofs.Ytejgcheddloffaa
