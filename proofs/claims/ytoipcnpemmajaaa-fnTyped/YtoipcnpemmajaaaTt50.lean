/- FnTyped: the law's walk. (Written by mkty1.py.) -/
import Derived.Test.YtoipcnpemmajaaaTt27
import Derived.Test.YtoipcnpemmajaaaTt49
import Derived.Test.YtoipcnpemmajaaaTt23
import Derived.Test.YtoipcnpemmajaaaTt26
import Derived.Test.YtoipcnpemmajaaaTt0
import Derived.Test.YtoipcnpemmajaaaTt1
namespace Go.Proofs.Ytoipcnpemmajaaa
open Go.RowKit Go.Maps
set_option linter.unusedVariables false
attribute [local go_sem] growUpon growAt growUponR growAtR
theorem fT0 (a : Int) (s : Value) (w : World) : Sem.run Try.prog (Instr.field 50 (.agg #[.int .i64 a, s]) 0) w = .ok (.int .i64 a) w := by kernel_rfl
attribute [local go_sem high] fH0 fT0

theorem goM_pre {C : List Wc} : ∀ (L : List Hd) (t : Bool) (f : Int) (A : List Int) {P : Int × List Int}, goM C L t f A = P → P.1 = 0 → ∃ S, P.2 = A ++ S ∧ S.length = L.length := by
  intro L
  induction L with
  | nil => intro t f A P h h0; subst h; exact ⟨[], by simp [goM], rfl⟩
  | cons h L ih =>
    intro t f A P hG h0
    by_cases hz : (rtR C t f h.k h.a h.b).z = 0
    · obtain ⟨S, h1, h2⟩ := ih _ _ _ (goM_yes hG rfl hz) h0
      exact ⟨(rtR C t f h.k h.a h.b).tg :: S, by rw [h1]; simp, by simp [h2]⟩
    · rw [goM_no hG rfl hz] at h0
      exact absurd h0 hz
structure StepM (C : List Wc) (LL : List Hd) (k : Nat) (t : Bool) (f : Int) (M : List Int) (P : Int × List Int) (R : Rt) : Prop where
  z : R.z = 0
  go : goM C (LL.drop (k + 1)) R.tr R.fo (M ++ [R.tg]) = P
  lt : k < P.2.length
  at' : P.2[k] = R.tg
theorem goM_step {C : List Wc} {LL : List Hd} {k : Nat} {t : Bool} {f : Int} {M : List Int} {P : Int × List Int} (hG : goM C (LL.drop k) t f M = P) (h0 : P.1 = 0) (hk : k < LL.length) (hM : M.length = k) : StepM C LL k t f M P (rtR C t f LL[k].k LL[k].a LL[k].b) := by
  rw [List.drop_eq_getElem_cons hk] at hG
  have hz : (rtR C t f LL[k].k LL[k].a LL[k].b).z = 0 := Classical.byContradiction fun hz => by
    rw [goM_no hG rfl hz] at h0; exact hz h0
  have h1 := goM_yes hG rfl hz
  obtain ⟨S, h2, h3⟩ := goM_pre _ _ _ _ h1 h0
  exact ⟨hz, h1, by rw [h2]; simp; omega, by simp only [h2]; rw [List.getElem_append_left (by simp; omega)]; simp [← hM]⟩
theorem many_ok {C : List Wc} {t : Bool} {f : Int} {L : List Hd} (h : (manyR C t f L).1 = 0) : inpF C f = 0 ∧ L.length ≤ 20 ∧ goM C L t f [] = manyR C t f L ∧ (manyR C t f L).2.length = L.length := by
  unfold manyR at h ⊢
  by_cases h1 : inpF C f = 0
  · rw [if_pos h1] at h ⊢
    by_cases h2 : L.length ≤ 20
    · rw [if_pos h2] at h ⊢
      obtain ⟨S, h3, h4⟩ := goM_pre _ _ _ _ rfl h
      exact ⟨h1, h2, rfl, by rw [h3]; simpa using h4⟩
    · rw [if_neg h2] at h; exact absurd h (by decide)
  · rw [if_neg h1] at h; exact absurd h h1
/-- What stands in memory. -/
structure TA (w W : World) (s1 ho ao : Option Addr) (L1 : List Wn) (LL : List Hd) (b1 r1 ca : Nat) (tr : Bool) (fo c : Int) (P2 : List Int) : Prop where
  kw : Below w.heap.size w W
  l1 : Ws W 0 W.heap.size s1 L1
  hd : Hds W 0 W.heap.size ho LL
  i : Rb W b1 (.bool tr) (.int .i64 fo)
  r : Rb W r1 (.int .i64 c) (.slice ao P2.length ca)
  row : Row .i64 W 0 W.heap.size ao P2
theorem TA.keep {w W W' : World} {s1 ho ao : Option Addr} {L1 : List Wn} {LL : List Hd} {b1 r1 ca : Nat} {tr : Bool} {fo c : Int} {P2 : List Int} (h : TA w W s1 ho ao L1 LL b1 r1 ca tr fo c P2) (kk : Below W.heap.size W W') : TA w W' s1 ho ao L1 LL b1 r1 ca tr fo c P2 :=
  ⟨h.kw.trans (kk.mono h.kw.size), h.l1.upH kk, (h.hd.keep kk (Nat.le_refl _)).wide (Nat.le_refl _) kk.size, h.i.keep kk h.i.lt, h.r.keep kk h.r.lt, (h.row.keep kk (Nat.le_refl _)).wide (Nat.le_refl _) kk.size⟩

set_option maxRecDepth 100000 in
set_option maxHeartbeats 2000000 in
theorem typed_big (w : World) (a : Option Addr) (len cap : Nat) (hl : len ≤ maxLen) (h : 1048576 < len) :
    Calls Try.prog 4 #[.slice a len cap] w fun e w' => e = .returned (.bool true) ∧ Below w.heap.size w w' := by
  have hb := bigH w a len cap hl
  rw [decide_eq_true (by omega : (1048576 : Int) < (len : Int))] at hb
  go_enter Try.func4, Try.ntmps4
  go_wp2_with fail
  refine Calls.mono hb ?_
  rintro e w1 ⟨rfl, rfl⟩
  go_wp2
  go_returns
  exact ⟨rfl, Below.refl _ _⟩

set_option maxRecDepth 100000 in
set_option maxHeartbeats 8000000 in
theorem typed_small (w : World) (a : Option Addr) (len cap : Nat) (f : Nat → Int) (hB : Bytes w w.heap.size a len f) (hlm : len ≤ maxLen) (hl : len ≤ 1048576) :
    Calls Try.prog 4 #[.slice a len cap] w fun e w' => e = .returned (.bool true) ∧ Below w.heap.size w w' := by
  have hb := bigH w a len cap hlm
  rw [decide_eq_false (by omega : ¬ (1048576 : Int) < (len : Int))] at hb
  have HB := hideP hB
  clear hB
  go_enter Try.func4, Try.ntmps4
  go_wp2_with fail
  refine Calls.mono hb ?_
  rintro e w0 ⟨rfl, hw0⟩
  subst w0
  clear hb
  go_wp2_with fail
  refine Calls.mono (drawMany_any w a len cap f HB.out hl) ?_
  rintro e w1 ⟨tr, fo, s1, c1, L1, vs, rfl, ⟨ho, hc, LL, rfl, hLL, hH⟩, hL1, hz1, kk, WL⟩
  simp only [List.append_toArray, List.cons_append, List.nil_append]
  have LS1 : Hid (L1.length + wzs L1 ≤ 1048576) := hideP (by omega)
  have kb := kalC w1 (.cells #[.bool tr, .int .i64 fo] 25)
  have K2 := hideP (kk.trans (kb.mono kk.size))
  have A2 := hideP ((WL.wide (lo' := 0) (Nat.zero_le _) (Nat.le_refl _)).upH kb)
  have H2 := hideP (((hH.wide (lo' := 0) (Nat.zero_le _) (Nat.le_refl _)).keep kb (Nat.le_refl _)).wide (Nat.le_refl _) kb.size)
  have I2 := hideP (rb_newH w1 (.bool tr) (.int .i64 fo) 25)
  clear kk WL hH kb hL1 hz1
  go_wp2_with fail
  generalize w1.alloc (.cells #[.bool tr, .int .i64 fo] 25) = w2 at *
  generalize w1.heap.size = b1 at *
  have PM := hideP (iMany_any tr fo s1 c1 L1 ho hc LL w2 A2.out LS1.out H2.out)
  have PSM := hideP (fun W (h : Ws W 0 W.heap.size s1 L1) (h2 : Hds W 0 W.heap.size ho LL) => sMany_any tr fo s1 c1 L1 ho hc LL W h LS1.out h2)
  have PI := hideP (fun W (h : Ws W 0 W.heap.size s1 L1) => iInput_any 0 W.heap.size tr fo s1 c1 L1 W h (Nat.le_refl _) LS1.out)
  have PT := hideP (fun x y W (h : Ws W 0 W.heap.size s1 L1) => iTop_any s1 c1 L1 x y W h LS1.out)
  have HOK := hideP (fun h => many_ok (C := L1.map Wn.ct) (t := tr) (f := fo) (L := LL) h)
  obtain ⟨C, hC⟩ : ∃ C, L1.map Wn.ct = C := ⟨_, rfl⟩
  rw [hC] at PM HOK
  have PT' : Hid (∀ x y W, Ws W 0 W.heap.size s1 L1 → Calls Try.prog 21 #[.slice s1 L1.length c1, .int .i64 x, .int .i64 y] W fun e w' => e = .returned (.agg #[.int .i64 (topZ C x y), .int .i64 (topV C x y)]) ∧ Below W.heap.size W w') := hideP (fun x y W h => by have := PT.out x y W h; rw [hC] at this; exact this)
  have PI' : Hid (∀ W, Ws W 0 W.heap.size s1 L1 → Calls Try.prog 15 #[.agg #[.bool tr, .int .i64 fo], .slice s1 L1.length c1] W fun e w' => e = .returned (.int .i64 (inpF C fo)) ∧ Below W.heap.size W w') := hideP (fun W h => by have := PI.out W h; rw [hC] at this; exact this)
  have PS' : Hid (∀ W, Ws W 0 W.heap.size s1 L1 → Hds W 0 W.heap.size ho LL → Calls Try.prog 24 #[.agg #[.bool tr, .int .i64 fo], .slice s1 L1.length c1, .slice ho LL.length hc] W (IsA W (manyR C tr fo LL).1 (manyR C tr fo LL).2)) := hideP (fun W h h2 => by have := PSM.out W h h2; rw [hC] at this; exact this)
  clear hC PT PI PSM
  generalize manyR C tr fo LL = P at *
  refine Calls.mono PM.out ?_
  rintro e w3 ⟨ao, ca, rfl, O3, kk⟩
  obtain ⟨c, P2⟩ := P
  simp only at O3 kk ⊢
  have kb := kk.trans ((kalC w3 (.cells #[.int .i64 c, .slice ao P2.length ca] 50)).mono kk.size)
  have U0 : Hid (TA w (w3.alloc (.cells #[.int .i64 c, .slice ao P2.length ca] 50)) s1 ho ao L1 LL b1 w3.heap.size ca tr fo c P2) :=
    hideP ⟨K2.out.trans (kb.mono K2.out.size), A2.out.upH kb, (H2.out.keep kb (Nat.le_refl _)).wide (Nat.le_refl _) kb.size, I2.out.keep kb I2.out.lt, rb_newH w3 _ _ _, (((OwnR.wrt O3).row).keep (kalC w3 _) (Nat.le_refl _)).wide (Nat.zero_le _) (kalC w3 _).size⟩
  clear O3 kk kb K2 A2 H2 I2 PM
  by_cases hc0 : c = 0
  · subst hc0
    obtain ⟨hin, hl20, hG0, hlen⟩ := HOK.out rfl
    simp only at hlen
    have hne : ((P2.length : Int) != (LL.length : Int)) = false := by rw [hlen]; simp
    rw [hin] at PI'
    have HLen := hideP hlen
    have HG0 := hideP hG0
    clear hin hG0 hlen HOK PS'
    obtain ⟨i0, i1, if0, if1, il⟩ := U0.out.i
    obtain ⟨r0, r1', rf0, rf1, rl⟩ := U0.out.r
    go_wp2
    clear hne
    generalize w3.alloc (.cells #[.int .i64 0, .slice ao P2.length ca] 50) = w4 at *
    generalize w3.heap.size = r1 at *
    clear i0 i1 if0 if1 il r0 r1' rf0 rf1 rl
    go_loopw [7, 8, 9] (fun v7 v8 v9 wr => ∃ (k : Nat) (t' : Bool) (f' : Int) (M : List Int), k ≤ LL.length ∧ v9 = .int .i64 k ∧ v8 = .bool t' ∧ v7 = .int .i64 f' ∧ M.length = k ∧ goM C (LL.drop k) t' f' M = (0, P2) ∧ TA w wr s1 ho ao L1 LL b1 r1 ca tr fo 0 P2) (fun _ _ i _ => LL.length - (intOf i).toNat)
    case atStart => exact ⟨0, tr, fo, [], Nat.zero_le _, rfl, rfl, rfl, rfl, by rw [List.drop_zero]; exact HG0.out, U0.out⟩
    case round =>
      obtain ⟨k, t', f', M, hk, rfl, rfl, rfl, hMl, hG, hU⟩ := hrel
      have UH := hideP hU
      clear hU U0
      by_cases hlt : k < LL.length
      · have hlt' : (k : Int) < (LL.length : Int) := by omega
        have hl20' : (LL.length : Int) ≤ 20 := by omega
        have hne : LL ≠ [] := fun e => by rw [e] at hlt; simp at hlt
        have SG0 := hideP (goM_step hG rfl hlt hMl)
        have HMl := hideP hMl
        have hkp : (k : Int) < (P2.length : Int) := by rw [HLen.out]; omega
        have hkq : k < P2.length := by rw [HLen.out]; omega
        have hpne : P2 ≠ [] := fun e => by rw [e] at hkq; simp at hkq
        obtain ⟨g, o, hho, -, hgl, hc⟩ : ∃ g o, ho = some ⟨g, o, none⟩ ∧ 0 ≤ g ∧ g < wr.heap.size ∧ ∀ i (h : i < LL.length), IsHd wr g (o + i * 3) LL[i].k LL[i].a LL[i].b := by
          rcases UH.out.hd with e | h
          · exact absurd e hne
          · exact h
        obtain ⟨g', o', hao, -, hgl', hc'⟩ : ∃ g o, ao = some ⟨g, o, none⟩ ∧ 0 ≤ g ∧ g < wr.heap.size ∧ ∀ i (h : i < P2.length), wr.cell? ⟨g, o + i, none⟩ = some (.int .i64 P2[i]) := by
          rcases UH.out.row with e | h
          · exact absurd e hpne
          · exact h
        subst hho hao
        obtain ⟨a0, a1, a2⟩ := hc k hlt
        have x0 := hc' k hkq
        rw [SG0.out.at'] at x0
        obtain ⟨R, hR⟩ : ∃ R, rtR C t' f' LL[k].k LL[k].a LL[k].b = R := ⟨_, rfl⟩
        have SG : Hid (StepM C LL k t' f' M (0, P2) R) := hideP (by rw [← hR]; exact SG0.out)
        have hz : (rtR C t' f' LL[k].k LL[k].a LL[k].b).z = 0 := SG0.out.z
        rw [hR] at x0
        clear hc hc' SG0 hG hMl
        generalize LL[k].k = x at *
        generalize LL[k].a = y at *
        generalize LL[k].b = z at *
        have gn : ¬ g' = wr.heap.size := Nat.ne_of_lt hgl'
        have rn : ¬ r1 = wr.heap.size := Nat.ne_of_lt UH.out.r.lt
        obtain ⟨r0, r1', rf0, rf1, rl⟩ := UH.out.r
        have HR := hideP hR
        have HZ := hideP hz
        have UR := hideP (UH.out.keep (kalC wr (.cells #[.int .i64 x, .int .i64 y, .int .i64 z] 28)))
        by_cases e3 : x = 3
        · subst e3
          obtain ⟨g1, g2, g3⟩ := rt_att' hz rfl
          rw [hR] at g1 g2 g3
          rw [g1] at x0
          go_wp2
          go_roundw
          case rel => exact ⟨k + 1, true, f', M ++ [R.tg], by omega, by go_num, rfl, rfl, by simp [HMl.out], by have e := SG.out.go; rw [g2, g3] at e; exact e, UR.out⟩
          case measure => simp [intOf]; omega

        · have e3' : (x == 3) = false := by simpa using e3
          by_cases e4 : x = 4
          · subst e4
            obtain ⟨g1, g2, g3⟩ := rt_leave hz rfl
            rw [hR] at g1 g2 g3
            rw [g1] at x0
            go_wp2
            go_roundw
            case rel => exact ⟨k + 1, false, f', M ++ [R.tg], by omega, by go_num, rfl, rfl, by simp [HMl.out], by have e := SG.out.go; rw [g2, g3] at e; exact e, UR.out⟩
            case measure => simp [intOf]; omega

          · have e4' : (x == 4) = false := by simpa using e4
            cases t'
            · by_cases e2 : x = 2
              · subst e2
                by_cases hb : 0 < z
                · obtain ⟨g1, g2, g3⟩ := rt_click hz rfl hb
                  rw [hR] at g1 g2 g3
                  rw [g1] at x0
                  clear UR
                  go_wp2_with fail
                  refine Calls.mono (PT'.out y z _ (UH.out.keep (kalC wr (.cells #[.int .i64 2, .int .i64 y, .int .i64 z] 28))).l1) ?_
                  rintro e w6 ⟨rfl, kk⟩
                  have kb := (kalC wr (.cells #[.int .i64 2, .int .i64 y, .int .i64 z] 28)).trans (kk.mono (kalC wr _).size)
                  have UR := hideP (UH.out.keep kb)
                  have x1 := (kb.cell (p := ⟨g', o' + k, none⟩) hgl').trans x0
                  obtain ⟨r0, r1', rf0, rf1, rl⟩ := UR.out.r
                  obtain ⟨tv, htv⟩ : ∃ v, topV C y z = v := ⟨_, rfl⟩
                  rw [htv] at x1 g1 g3
                  simp only [htv]
                  clear x0 kk kb htv
                  go_wp2
                  go_roundw
                  case rel => exact ⟨k + 1, false, tv, M ++ [R.tg], by omega, by go_num, rfl, rfl, by simp [HMl.out], by have e := SG.out.go; rw [g2, g3] at e; exact e, UR.out⟩
                  case measure => simp [intOf]; omega

                · obtain ⟨g1, g2, g3⟩ := rt_strip hz rfl hb
                  rw [hR] at g1 g2 g3
                  rw [g1] at x0
                  go_wp2
                  go_roundw
                  case rel => exact ⟨k + 1, false, 0, M ++ [R.tg], by omega, by go_num, rfl, rfl, by simp [HMl.out], by have e := SG.out.go; rw [g2, g3] at e; exact e, UR.out⟩
                  case measure => simp [intOf]; omega

              · have e2' : (x == 2) = false := by simpa using e2
                obtain ⟨g1, g2, g3⟩ := rt_key hz e2 e3 e4
                rw [hR] at g1 g2 g3
                rw [g1] at x0
                go_wp2
                go_roundw
                case rel => exact ⟨k + 1, false, f', M ++ [R.tg], by omega, by go_num, rfl, rfl, by simp [HMl.out], by have e := SG.out.go; rw [g2, g3] at e; exact e, UR.out⟩
                case measure => simp [intOf]; omega

            · obtain ⟨g1, g2, g3⟩ := rt_rest hz e3 e4
              rw [hR] at g1 g2 g3
              rw [g1] at x0
              go_wp2
              go_roundw
              case rel => exact ⟨k + 1, true, f', M ++ [R.tg], by omega, by go_num, rfl, rfl, by simp [HMl.out], by have e := SG.out.go; rw [g2, g3] at e; exact e, UR.out⟩
              case measure => simp [intOf]; omega


      · obtain rfl : k = LL.length := by omega
        clear hG hMl
        obtain ⟨i0, i1, if0, if1, il⟩ := UH.out.i
        go_wp2_with fail
        refine Calls.mono (PI'.out _ UH.out.l1) ?_
        rintro e w6 ⟨rfl, kk⟩
        have UE := hideP (UH.out.keep kk)
        clear kk UH i0 i1 if0 if1 il
        go_wp2
        go_returns
        exact ⟨rfl, UE.out.kw⟩

  · obtain ⟨i0, i1, if0, if1, il⟩ := U0.out.i
    obtain ⟨r0, r1', rf0, rf1, rl⟩ := U0.out.r
    have hz : (c != 0) = true := by simpa using hc0
    go_wp2
    generalize w3.alloc (.cells #[.int .i64 c, .slice ao P2.length ca] 50) = w4 at *
    generalize w3.heap.size = r1 at *
    refine wp_region_plan (R := Kept) (G := Kept) rel_keptA rel_keptA (fun h => h) 7 [(true, 0), (true, 1), (true, 2), (true, 5), (true, 6), (false, 3), (true, 4)] (by kernel_rfl) (by kernel_rfl) ?_
    simp only [selP, List.filterMap_cons, List.filterMap_nil, List.getElem?_cons_succ, List.getElem?_cons_zero, Option.map_some]
    repeat (first | (refine plan_take _ (by first | exact wanted_free rfl | exact wanted_yes rfl rfl | exact wanted_no rfl rfl) (by first | with_reducible rfl | (simp; done) | decide) ?_; apply Exists.intro; refine ⟨fun w' k1 => ?_, fun K hK => ?_⟩; (focus (have hc := Kept.cell k1; go_simp; first | done | rfl)); (go_simp; refine hK _ ?_; clear hK K)) | (refine plan_off _ (by first | exact wanted_yes rfl rfl | exact wanted_no rfl rfl | rfl) (by first | with_reducible rfl | (simp; done) | rfl | decide) ?_; intro K hK; (try go_simp); refine hK _ ?_; clear hK K))
    refine plan_made _ (by first | exact wanted_free rfl | exact wanted_yes rfl rfl | exact wanted_no rfl rfl) (by first | with_reducible rfl | (simp; done) | decide) fun u1 i1 => ?_
    have bb1 := Kept.below i1
    refine made_callsR (by go_simp; first | done | rfl) ((PS'.out u1 (U0.out.l1.upH bb1) ((U0.out.keep bb1).hd)).mono ?_)
    rintro e v1 ⟨ao1, ca1, rfl, -, j1⟩
    refine ⟨_, rfl, j1, fun K hK => ?_⟩
    go_simp
    refine hK _ ?_
    clear hK K
    have jj1 := bb1.trans (j1.mono bb1.size)
    clear bb1 i1 j1
    clear i0 i1 if0 if1 il r0 r1' rf0 rf1 rl
    repeat (first | (refine plan_take _ (by first | exact wanted_free rfl | exact wanted_yes rfl rfl | exact wanted_no rfl rfl) (by first | with_reducible rfl | (simp; done) | decide) ?_; apply Exists.intro; refine ⟨fun w' k1 => ?_, fun K hK => ?_⟩; (focus (have hc := Kept.cell k1; go_simp; first | done | rfl)); (go_simp; refine hK _ ?_; clear hK K)) | (refine plan_off _ (by first | exact wanted_yes rfl rfl | exact wanted_no rfl rfl | rfl) (by first | with_reducible rfl | (simp; done) | rfl | decide) ?_; intro K hK; (try go_simp); refine hK _ ?_; clear hK K))
    refine plan_nil fun w20 k20 => ?_
    try simp only [List.drop_succ_cons, List.drop_zero]
    have UE := hideP ((U0.out.keep jj1).keep (Kept.below k20))
    clear k20 jj1
    go_wp2
    go_returns
    exact ⟨rfl, UE.out.kw⟩


theorem typed_law (a : Option Addr) (len cap : Nat) (zs : List Int) (w : World) (h : IsRow .u8 w a len cap zs) :
    Calls Try.prog 4 #[.slice a len cap] w fun e w' => e = .returned (.bool true) ∧ Below w.heap.size w w' := by
  have hm : len ≤ maxLen := by
    rcases h with ⟨_, h, _⟩ | ⟨x, _, h1, h2, _⟩
    · rw [h]; exact Nat.zero_le _
    · omega
  by_cases hl : len ≤ 1048576
  · exact typed_small w a len cap _ h.bytes hm hl
  · exact typed_big w a len cap hm (by omega)
end Go.Proofs.Ytoipcnpemmajaaa
