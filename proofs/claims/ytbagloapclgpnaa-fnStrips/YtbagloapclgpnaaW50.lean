/- FnStrips: the law's walk. -/
import Derived.Test.YtbagloapclgpnaaW35
import Derived.Test.YtbagloapclgpnaaW49
namespace Go.Proofs.Ytbagloapclgpnaa
open Go.RowKit Go.Maps
set_option linter.unusedVariables false
attribute [local go_sem] growUpon growAt growUponR growAtR

theorem fT0 (c : Int) (v : Value) (w : World) : Sem.run Try.prog (Instr.field 41 (.agg #[.int .i64 c, v]) 0) w = .ok (.int .i64 c) w := by kernel_rfl
theorem fT1 (c : Int) (v : Value) (w : World) : Sem.run Try.prog (Instr.field 41 (.agg #[.int .i64 c, v]) 1) w = .ok v w := by kernel_rfl

attribute [local go_sem high] fT0 fT1

set_option maxHeartbeats 400000 in
theorem strips_big (w : World) (a : Option Addr) (len cap : Nat) (hl : len ≤ maxLen) (h : 1048576 < len) :
    Calls Try.prog 4 #[.slice a len cap] w fun e w' => e = .returned (.bool true) ∧ Below w.heap.size w w' := by
  have hb := big5 w a len cap hl
  rw [decide_eq_true (by omega : (1048576 : Int) < (len : Int))] at hb
  go_enter Try.func4, Try.ntmps4
  go_wp2_with fail
  refine Calls.mono hb ?_
  rintro e w1 ⟨rfl, rfl⟩
  go_wp2
  go_returns
  exact ⟨rfl, Below.refl _ _⟩

/-- What the walk carries along: the stack, the codes asked, the two answers. -/
structure TS (w W : World) (so : Option Addr) (L : List Wn) (ao : Option Addr) (A : List Int) (b6 : Nat) (z6 : Int) (s6 : Option Addr) (c6 : Nat) (N : List Int) (b8 : Nat) (z8 : Int) (s8 : Option Addr) (c8 : Nat) (O : List Int) : Prop where
  k : Below w.heap.size w W
  l : Ws W 0 W.heap.size so L
  a : Row .i64 W 0 W.heap.size ao A
  r : Rb W b6 (.int .i64 z6) (.slice s6 N.length c6)
  n : Row .i64 W 0 W.heap.size s6 N
  o : Rb W b8 (.int .i64 z8) (.slice s8 O.length c8)
  p : Row .i64 W 0 W.heap.size s8 O
theorem TS.keep {w W W' : World} {so : Option Addr} {L : List Wn} {ao : Option Addr} {A : List Int} {b6 : Nat} {z6 : Int} {s6 : Option Addr} {c6 : Nat} {N : List Int} {b8 : Nat} {z8 : Int} {s8 : Option Addr} {c8 : Nat} {O : List Int} (h : TS w W so L ao A b6 z6 s6 c6 N b8 z8 s8 c8 O) (k : Below W.heap.size W W') : TS w W' so L ao A b6 z6 s6 c6 N b8 z8 s8 c8 O :=
  ⟨h.k.trans (k.mono h.k.size), (h.l.keep k (Nat.le_refl _)).wide (Nat.le_refl _) k.size, (h.a.keep k (Nat.le_refl _)).wide (Nat.le_refl _) k.size, h.r.keep k h.r.lt, (h.n.keep k (Nat.le_refl _)).wide (Nat.le_refl _) k.size, h.o.keep k h.o.lt, (h.p.keep k (Nat.le_refl _)).wide (Nat.le_refl _) k.size⟩

theorem row_sub {w : World} {lo hi g o : Nat} {X M Y : List Int} (h : Row .i64 w lo hi (some ⟨g, o, none⟩) ((X ++ M) ++ Y)) : Row .i64 w lo hi (some ⟨g, o + X.length, none⟩) M := by
  rcases h with e | ⟨g', o', he, h1, h2, hc⟩
  · simp at e; exact .inl e.2.1
  · cases he
    refine .inr ⟨g, o + X.length, rfl, h1, h2, fun i hi => ?_⟩
    have := hc (X.length + i) (by simp; omega)
    rw [List.getElem_append_left (by simp; omega), List.getElem_append_right (by omega)] at this
    simpa [Nat.add_assoc] using this
theorem strip_head {w : World} {lo hi g o : Nat} {m f : Int} {A : List Int} (h : Row .i64 w lo hi (some ⟨g, o, none⟩) (stripC m f A)) : w.cell? ⟨g, o, none⟩ = some (.int .i64 (400 + m)) ∧ w.cell? ⟨g, o + 1, none⟩ = some (.int .i64 (f + 1)) ∧ w.cell? ⟨g, o + 2, none⟩ = some (.int .i64 (A.length : Int)) ∧ g < hi := by
  rcases h with e | ⟨g', o', he, h1, h2, hc⟩
  · simp [stripC] at e
  · cases he
    have h0 := hc 0 (by simp [stripC])
    have h3 := hc 1 (by simp [stripC])
    have h4 := hc 2 (by simp [stripC])
    simp only [stripC, List.cons_append, List.nil_append, List.getElem_cons_zero, List.getElem_cons_succ, Nat.add_zero] at h0 h3 h4
    exact ⟨h0, h3, h4, h2⟩

set_option maxRecDepth 100000 in
set_option maxHeartbeats 20000000 in
theorem strips_small (w : World) (a : Option Addr) (len cap : Nat) (f : Nat → Int) (hB : Bytes w w.heap.size a len f) (hlm : len ≤ maxLen) (hl : len ≤ 1048576) :
    Calls Try.prog 4 #[.slice a len cap] w fun e w' => e = .returned (.bool true) ∧ Below w.heap.size w w' := by
  have hb := big5 w a len cap hlm
  rw [decide_eq_false (by omega : ¬ (1048576 : Int) < (len : Int))] at hb
  have HB := hideP hB
  clear hB
  go_enter Try.func4, Try.ntmps4
  go_wp2_with fail
  refine Calls.mono hb ?_
  rintro e w0 ⟨rfl, hw0⟩
  subst w0
  clear hb
  go_wp2_with fail
  refine Calls.mono (drawStrip_any w a len cap f HB.out hl) ?_
  rintro e w1 ⟨md, fo, ao, ca, A, rfl, hA, hmd, hfo, k1, RA⟩
  have hA' : (A.length : Int) ≤ 5 := by omega
  have K1 := hideP k1
  have R1 := hideP RA
  have IF := hideP (iStripOf_any md fo w.heap.size w1.heap.size ao ca A w1 RA (Nat.le_refl _) (by omega))
  clear k1 RA
  go_wp2_with fail
  refine Calls.mono IF.out ?_
  rintro e w2 ⟨s6, c6, rfl, O2, k2⟩
  have HZ : Hid (stripZ md fo A = stripZ md fo A) := rfl
  have hroom := O2.room
  have RN := hideP (O2.wrt.row.wide (Nat.zero_le _) (Nat.le_refl _))
  have K2 := hideP (K1.out.trans (k2.mono K1.out.size))
  have R2 := hideP ((R1.out.keep k2 (Nat.le_refl _)).wide (lo' := 0) (Nat.zero_le _) k2.size)
  have n2 := k2.size
  clear k2 O2 IF R1 HZ
  obtain ⟨z6, hz6⟩ : ∃ z6, stripZ md fo A = z6 := ⟨_, rfl⟩
  obtain ⟨N, hN⟩ : ∃ N, stripL md fo A = N := ⟨_, rfl⟩
  rw [hN] at RN hroom
  rw [hz6, hN]
  have HZ6 := hideP hz6
  have HN := hideP hN
  clear hz6 hN
  have SF := hideP (fun w1 (r1 : Row .i64 w1 0 w1.heap.size ao A) => sStripOf_any md fo 0 w1.heap.size ao ca A w1 r1 (Nat.le_refl _) (by omega))
  rw [HZ6.out, HN.out] at SF
  go_wp2_with fail
  have ka := kal5 w2 (.cells #[.int .i64 z6, .slice s6 N.length c6] 41)
  have K3 := hideP (K2.out.trans (ka.mono K2.out.size))
  have X3 : Hid (Rb (w2.alloc (.cells #[.int .i64 z6, .slice s6 N.length c6] 41)) w2.heap.size (.int .i64 z6) (.slice s6 N.length c6)) := hideP ⟨by simp, by simp, by simp, by simp, by simp⟩
  have R3 := hideP ((R2.out.keep ka (Nat.le_refl _)).wide (Nat.le_refl _) ka.size)
  have N3 := hideP ((RN.out.keep ka (Nat.le_refl _)).wide (Nat.le_refl _) ka.size)
  clear ka K2 R2 RN
  generalize w2.alloc (.cells #[.int .i64 z6, .slice s6 N.length c6] 41) = w3 at *
  refine Calls.mono (drawOwn_any w3 a len cap f (HB.out.up9 K3.out) hl) ?_
  rintro e w4 ⟨so, sc, L, rfl, hL, hz, k4, L4⟩
  have LS : L.length + wzs L ≤ 1048576 := by omega
  have IO := hideP (iOwnersOf_any so sc L w4 L4 LS)
  have SO := hideP (fun w1 (l1 : Ws w1 0 w1.heap.size so L) => sOwners_any so sc L w1 l1 LS)
  have K4 := hideP (K3.out.trans (k4.mono K3.out.size))
  have R4 := hideP ((R3.out.keep k4 (Nat.le_refl _)).wide (Nat.le_refl _) k4.size)
  have N4 := hideP ((N3.out.keep k4 (Nat.le_refl _)).wide (Nat.le_refl _) k4.size)
  have X4 := hideP (X3.out.keep k4 X3.out.lt)
  have HL4 := hideP L4
  clear k4 L4 K3 R3 N3 X3
  obtain ⟨z8, hz8⟩ : ∃ z8, stF (L.map Wn.ct) = z8 := ⟨_, rfl⟩
  obtain ⟨O, hO⟩ : ∃ O, oscL (L.map Wn.ct) = O := ⟨_, rfl⟩
  have hOl : O.length ≤ 96 := by rw [← hO]; exact oscL_len _
  rw [hz8, hO] at IO SO
  clear hz8 hO
  go_wp2_with fail
  refine Calls.mono IO.out ?_
  rintro e w5 ⟨s8, c8, rfl, O5, k5⟩
  have P5 := hideP (O5.wrt.row.wide (lo' := 0) (Nat.zero_le _) (Nat.le_refl _))
  have kb := kal5 w5 (.cells #[.int .i64 z8, .slice s8 O.length c8] 41)
  have kk := k5.trans (kb.mono k5.size)
  have F6 : Hid (TS w (w5.alloc (.cells #[.int .i64 z8, .slice s8 O.length c8] 41)) so L ao A w2.heap.size z6 s6 c6 N w5.heap.size z8 s8 c8 O) := hideP ⟨K4.out.trans (kk.mono K4.out.size), (HL4.out.keep kk (Nat.le_refl _)).wide (Nat.le_refl _) kk.size, (R4.out.keep kk (Nat.le_refl _)).wide (Nat.le_refl _) kk.size, X4.out.keep kk X4.out.lt, (N4.out.keep kk (Nat.le_refl _)).wide (Nat.le_refl _) kk.size, ⟨by simp, by simp, by simp, by simp, by simp⟩, (P5.out.keep kb (Nat.le_refl _)).wide (Nat.le_refl _) kb.size⟩
  clear k5 O5 P5 kb kk K4 R4 N4 X4 HL4 IO
  obtain ⟨p0, p1, p2, p3, p4⟩ := (F6.out).r
  obtain ⟨q0, q1, q2, q3, q4⟩ := (F6.out).o
  go_wp2
  generalize w5.alloc (.cells #[.int .i64 z8, .slice s8 O.length c8] 41) = w6 at *
  generalize w5.heap.size = b8 at *
  generalize w2.heap.size = b6 at *
  refine wp_region_plan (R := Kept) (G := Kept) rel_keptA rel_keptA (fun h => h) 15 [(true, 0), (true, 1), (true, 2), (false, 3), (true, 4), (true, 5), (true, 6), (true, 7), (true, 8), (true, 9), (false, 10), (true, 11), (true, 12), (true, 13), (true, 14)] (by kernel_rfl) (by kernel_rfl) ?_
  simp only [selP, List.filterMap_cons, List.filterMap_nil, List.getElem?_cons_succ, List.getElem?_cons_zero, Option.map_some]
  repeat (refine plan_take _ (by first | exact wanted_free rfl | exact wanted_yes rfl rfl | exact wanted_no rfl rfl) (by first | with_reducible rfl | decide) ?_; apply Exists.intro; refine ⟨fun w' k1 => ?_, fun K hK => ?_⟩; (focus (have hc := Kept.cell k1; go_simp; first | done | rfl)); (go_simp; refine hK _ ?_; clear hK K))
  refine plan_made _ (by first | exact wanted_free rfl | exact wanted_yes rfl rfl | exact wanted_no rfl rfl) (by first | with_reducible rfl | decide) fun u1 i1 => ?_
  have ii1 := Kept.below i1
  refine made_callsR (by go_simp; first | done | rfl) ((SO.out u1 ((F6.out.l.keep ii1 (Nat.le_refl _)).wide (Nat.le_refl _) ii1.size)).mono ?_)
  rintro e v1 ⟨so1, sc1, rfl, O1, j1⟩
  refine ⟨_, rfl, j1, fun K hK => ?_⟩
  go_simp
  refine hK _ ?_
  clear hK K
  have jjB := ii1.trans (j1.mono ii1.size)
  clear p0 p1 p2 p3 p4 q0 q1 q2 q3 q4
  clear O1
  obtain ⟨p0, p1, p2, p3, p4⟩ := (F6.out.keep jjB).r
  obtain ⟨q0, q1, q2, q3, q4⟩ := (F6.out.keep jjB).o
  repeat (refine plan_take _ (by first | exact wanted_free rfl | exact wanted_yes rfl rfl | exact wanted_no rfl rfl) (by first | with_reducible rfl | decide) ?_; apply Exists.intro; refine ⟨fun w' k1 => ?_, fun K hK => ?_⟩; (focus (have hc := Kept.cell k1; go_simp; first | done | rfl)); (go_simp; refine hK _ ?_; clear hK K))
  refine plan_made _ (by first | exact wanted_free rfl | exact wanted_yes rfl rfl | exact wanted_no rfl rfl) (by first | with_reducible rfl | decide) fun u2 i2 => ?_
  have ii2 := Kept.below i2
  refine made_callsR (by go_simp; first | done | rfl) ((SO.out u2 ((F6.out.l.keep (jjB.trans (ii2.mono jjB.size)) (Nat.le_refl _)).wide (Nat.le_refl _) (jjB.trans (ii2.mono jjB.size)).size)).mono ?_)
  rintro e v2 ⟨so2, sc2, rfl, O2, j2⟩
  refine ⟨_, rfl, j2, fun K hK => ?_⟩
  go_simp
  refine hK _ ?_
  clear hK K
  have jjA := (jjB.trans (ii2.mono jjB.size)).trans (j2.mono (jjB.trans (ii2.mono jjB.size)).size)
  have NS := hideP (fun w1 (kk : Kept v2 w1) => nums_same 0 w6.heap.size 0 v2.heap.size s8 so2 c8 sc2 O w1 (F6.out.p.keep (jjA.trans (Below.mono kk jjA.size)) (Nat.le_refl _)) ((O2.wrt.row.wide (Nat.zero_le _) (Nat.le_refl _)).keep (Kept.below kk) (Nat.le_refl _)) (jjA.trans (Below.mono kk jjA.size)).size (Below.size (Kept.below kk)) (by omega))
  clear p0 p1 p2 p3 p4 q0 q1 q2 q3 q4
  clear O2
  obtain ⟨p0, p1, p2, p3, p4⟩ := (F6.out.keep jjA).r
  obtain ⟨q0, q1, q2, q3, q4⟩ := (F6.out.keep jjA).o
  repeat (refine plan_take _ (by first | exact wanted_free rfl | exact wanted_yes rfl rfl | exact wanted_no rfl rfl) (by first | with_reducible rfl | decide) ?_; apply Exists.intro; refine ⟨fun w' k1 => ?_, fun K hK => ?_⟩; (focus (have hc := Kept.cell k1; go_simp; first | done | (go_at_call 20; exact kept_call (Below.refl _ _) (NS.out _ k1)) | rfl)); (go_simp; refine hK _ ?_; clear hK K))
  refine plan_nil fun w7 k7 => ?_
  try simp only [List.drop_succ_cons, List.drop_zero]
  have F7 := hideP ((F6.out.keep jjA).keep (Kept.below k7))
  clear p0 p1 p2 p3 p4 q0 q1 q2 q3 q4
  clear k7 F6 SO
  obtain ⟨p0, p1, p2, p3, p4⟩ := (F7.out).r
  obtain ⟨q0, q1, q2, q3, q4⟩ := (F7.out).o
  by_cases hz0 : z6 = 0
  · subst hz0
    have h4 := stripZ_four HZ6.out
    have hC : N = stripC md fo A := by rw [← HN.out]; exact stripL_yes HZ6.out
    have hN12 : N.length = 12 := by rw [hC]; exact stripC_len h4
    have hmf : (0 ≤ md ∧ md ≤ 1) ∧ -1 ≤ fo ∧ fo ≤ 63 := by
      cases h : modB md fo
      · exact modB_no h
      · have := stripZ_mod (A := A) h; rw [HZ6.out] at this; cases this
    obtain ⟨⟨m1, m2⟩, f1, f2⟩ := hmf
    obtain ⟨ad, rfl⟩ : ∃ ad, s6 = some ad := by
      rcases F7.out.n with e | ⟨g, o, e, _⟩
      · rw [e] at hN12; simp at hN12
      · exact ⟨_, e⟩
    have hRN := F7.out.n
    obtain ⟨g, o, he⟩ : ∃ g o, ad = ⟨g, o, none⟩ := by
      rcases hRN with e | ⟨g, o, e, _⟩
      · rw [e] at hN12; simp at hN12
      · cases e; exact ⟨g, o, rfl⟩
    subst he
    have hc12 : 12 ≤ c6 := by omega
    have hc12' : (12 : Int) ≤ (c6 : Int) := by omega
    rw [hC] at hRN
    obtain ⟨t0, t1, t2, tg⟩ := strip_head hRN
    have hA4 : (A.length : Int) ≤ 4 := by omega
    have hA4n : A.length ≤ 4 := h4
    have SUB : Hid (∀ W, Kept w7 W → Row .i64 W 0 w7.heap.size (some ⟨g, o + 3, none⟩) A) := hideP (fun W kk => by
      have := hRN.keep (Kept.below kk) (Nat.le_refl _)
      unfold stripC at this
      exact row_sub this)
    have e3 : ((3 : Nat) : Int) = 3 := rfl
    rw [hN12] at p1
    have HC := hideP hC
    have HN12 := hideP hN12
    clear hRN hC hN12 h4 HN
    have hlen12 : ((3 : Int) + (A.length : Int)) ≤ 12 := by omega
    go_wp2
    have hw0 : IntKind.i64.wrap (400 + md) = 400 + md := IntWalk.i64_in _ (by omega)
    have hw1 : IntKind.i64.wrap (fo + 1) = fo + 1 := IntWalk.i64_in _ (by omega)
    have hw3 : IntKind.i64.wrap (3 + (A.length : Int)) = 3 + (A.length : Int) := IntWalk.i64_in _ (by omega)
    have hb0 : 0 ≤ 3 + (A.length : Int) ∧ 3 + (A.length : Int) ≤ (c6 : Int) := by omega
    have hmx : max (3 + (A.length : Int)) 0 = 3 + (A.length : Int) := by omega
    have hb2 : (3 : Int) ≤ 3 + (A.length : Int) := by omega
    have hc3 : ¬ c6 = 3 := by omega
    have htn : (3 + (A.length : Int)).toNat - 3 = A.length := by omega
    have NSA := hideP (fun (W : World) (kk : Kept w7 W) (cs : Nat) => nums_same 0 w7.heap.size 0 w7.heap.size (some ⟨g, o + 3, none⟩) ao cs ca A W (SUB.out W kk) (F7.out.a.keep (Kept.below kk) (Nat.le_refl _)) (Below.size (Kept.below kk)) (Below.size (Kept.below kk)) (by omega))
    refine wp_region_plan (R := Kept) (G := Kept) rel_keptA rel_keptA (fun h => h) 45 [(true, 0), (true, 1), (true, 2), (true, 3), (true, 4), (true, 5), (true, 6), (true, 7), (true, 8), (true, 9), (true, 10), (true, 11), (true, 12), (true, 13), (true, 14), (true, 15), (true, 16), (true, 17), (true, 18), (true, 19), (true, 20), (true, 21), (true, 22), (true, 23), (true, 24), (true, 25), (true, 26), (true, 27), (true, 28), (true, 29), (true, 30), (true, 31), (true, 32), (true, 33), (true, 34), (true, 35), (true, 36), (true, 37), (true, 38), (true, 39), (true, 40), (false, 41), (true, 42), (true, 43), (true, 44)] (by kernel_rfl) (by kernel_rfl) ?_
    simp only [selP, List.filterMap_cons, List.filterMap_nil, List.getElem?_cons_succ, List.getElem?_cons_zero, Option.map_some]
    repeat (refine plan_take _ (by first | exact wanted_free rfl | exact wanted_yes rfl rfl | exact wanted_no rfl rfl) (by first | with_reducible rfl | simp [hw0, hw1] | decide) ?_; apply Exists.intro; refine ⟨fun w' k1 => ?_, fun K hK => ?_⟩; (focus (have hc := Kept.cell k1; go_simp; first | done | (simp only [hw3, hmx, if_pos hb0, if_pos hb2, if_neg hc3, htn]; first | done | rfl) | (go_at_call 20; exact kept_call (Below.refl _ _) (NSA.out _ k1 _)) | rfl)); (go_simp; refine hK _ ?_; clear hK K))
    refine plan_made _ (by first | exact wanted_free rfl | exact wanted_yes rfl rfl | exact wanted_no rfl rfl) (by first | with_reducible rfl | decide) fun u3 i3 => ?_
    have ii3 := Kept.below i3
    refine made_callsR (by go_simp; first | done | rfl) ((SF.out u3 ((F7.out.a.keep ii3 (Nat.le_refl _)).wide (Nat.le_refl _) ii3.size)).mono ?_)
    rintro e v3 ⟨so3, sc3, rfl, O3, j3⟩
    refine ⟨_, rfl, j3, fun K hK => ?_⟩
    go_simp
    refine hK _ ?_
    clear hK K
    have jjC := ii3.trans (j3.mono ii3.size)
    have NSB : Hid (∀ w1, Kept v3 w1 → Calls Try.prog 20 #[.slice (some ⟨g, o, none⟩) 12 c6, .slice so3 N.length sc3] w1 fun e w' => e = .returned (.bool true) ∧ Below w1.heap.size w1 w') := hideP (fun w1 (kk : Kept v3 w1) => by
      have h := nums_same 0 w7.heap.size 0 v3.heap.size (some ⟨g, o, none⟩) so3 c6 sc3 N w1 (F7.out.n.keep (jjC.trans (Below.mono kk jjC.size)) (Nat.le_refl _)) ((O3.wrt.row.wide (Nat.zero_le _) (Nat.le_refl _)).keep (Kept.below kk) (Nat.le_refl _)) (jjC.trans (Below.mono kk jjC.size)).size (Below.size (Kept.below kk)) (by have := HN12.out; omega)
      have e12 : (12 : Nat) = N.length := HN12.out.symm
      rw [e12]
      exact h)
    clear p0 p1 p2 p3 p4 q0 q1 q2 q3 q4
    have F8 := hideP (F7.out.keep jjC)
    clear O3 i3 ii3 j3 jjC t0 t1 t2
    obtain ⟨p0, p1, p2, p3, p4⟩ := (F8.out).r
    obtain ⟨q0, q1, q2, q3, q4⟩ := (F8.out).o
    rw [HN12.out] at p1
    repeat (refine plan_take _ (by first | exact wanted_free rfl | exact wanted_yes rfl rfl | exact wanted_no rfl rfl) (by first | with_reducible rfl | decide) ?_; apply Exists.intro; refine ⟨fun w' k1 => ?_, fun K hK => ?_⟩; (focus (have hc := Kept.cell k1; go_simp; first | done | (go_at_call 20; exact kept_call (Below.refl _ _) (NSB.out _ k1)) | rfl)); (go_simp; refine hK _ ?_; clear hK K))
    refine plan_nil fun w9 k9 => ?_
    try simp only [List.drop_succ_cons, List.drop_zero]
    have F9 := hideP (F8.out.keep (Kept.below k9))
    clear F8 k9
    go_wp2
    go_returns
    exact ⟨rfl, F9.out.k⟩
  · have hz1 : (z6 != 0) = true := by simpa using hz0
    go_wp2
    refine wp_region_plan (R := Kept) (G := Kept) rel_keptA rel_keptA (fun h => h) 7 [(true, 0), (true, 1), (true, 2), (true, 5), (true, 6), (false, 3), (true, 4)] (by kernel_rfl) (by kernel_rfl) ?_
    simp only [selP, List.filterMap_cons, List.filterMap_nil, List.getElem?_cons_succ, List.getElem?_cons_zero, Option.map_some]
    repeat (refine plan_take _ (by first | exact wanted_free rfl | exact wanted_yes rfl rfl | exact wanted_no rfl rfl) (by first | with_reducible rfl | decide) ?_; apply Exists.intro; refine ⟨fun w' k1 => ?_, fun K hK => ?_⟩; (focus (have hc := Kept.cell k1; go_simp; first | done | rfl)); (go_simp; refine hK _ ?_; clear hK K))
    refine plan_made _ (by first | exact wanted_free rfl | exact wanted_yes rfl rfl | exact wanted_no rfl rfl) (by first | with_reducible rfl | decide) fun u3 i3 => ?_
    have ii3 := Kept.below i3
    refine made_callsR (by go_simp; first | done | rfl) ((SF.out u3 ((F7.out.a.keep ii3 (Nat.le_refl _)).wide (Nat.le_refl _) ii3.size)).mono ?_)
    rintro e v3 ⟨so3, sc3, rfl, O3, j3⟩
    refine ⟨_, rfl, j3, fun K hK => ?_⟩
    go_simp
    refine hK _ ?_
    clear hK K
    have jjC := ii3.trans (j3.mono ii3.size)
    clear p0 p1 p2 p3 p4 q0 q1 q2 q3 q4
    have F8 := hideP (F7.out.keep jjC)
    clear O3 i3 ii3 j3 jjC
    obtain ⟨p0, p1, p2, p3, p4⟩ := (F8.out).r
    obtain ⟨q0, q1, q2, q3, q4⟩ := (F8.out).o
    repeat (refine plan_take _ (by first | exact wanted_free rfl | exact wanted_yes rfl rfl | exact wanted_no rfl rfl) (by first | with_reducible rfl | decide) ?_; apply Exists.intro; refine ⟨fun w' k1 => ?_, fun K hK => ?_⟩; (focus (have hc := Kept.cell k1; go_simp; first | done | rfl)); (go_simp; refine hK _ ?_; clear hK K))
    refine plan_nil fun w9 k9 => ?_
    try simp only [List.drop_succ_cons, List.drop_zero]
    have F9 := hideP (F8.out.keep (Kept.below k9))
    clear F8 F7 k9
    go_wp2
    go_returns
    exact ⟨rfl, F9.out.k⟩

theorem strips_law (a : Option Addr) (len cap : Nat) (zs : List Int) (w : World) (h : IsRow .u8 w a len cap zs) :
    Calls Try.prog 4 #[.slice a len cap] w fun e w' => e = .returned (.bool true) ∧ Below w.heap.size w w' := by
  have hm : len ≤ maxLen := by
    rcases h with ⟨_, h, _⟩ | ⟨x, _, h1, h2, _⟩
    · rw [h]; exact Nat.zero_le _
    · omega
  by_cases hl : len ≤ 1048576
  · exact strips_small w a len cap _ h.bytes hm hl
  · exact strips_big w a len cap hm (by omega)
end Go.Proofs.Ytbagloapclgpnaa
