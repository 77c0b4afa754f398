/- FnRects: the walk at every list of bytes. -/
import Derived.Test.YtbceacnadkhdoaaRct1
import Derived.Deep.Cut
namespace Go.Proofs.Ytbceacnadkhdoaa
open Go.RowKit
set_option linter.unusedVariables false
attribute [local go_sem] growUpon growAt

theorem fldI0 (c v : Int) (w : World) : Sem.run Try.prog (Instr.field 35 (.agg #[.int .i64 c, .int .i64 v]) 0) w = .ok (.int .i64 c) w := by kernel_rfl
theorem fldI1 (c v : Int) (w : World) : Sem.run Try.prog (Instr.field 35 (.agg #[.int .i64 c, .int .i64 v]) 1) w = .ok (.int .i64 v) w := by kernel_rfl
theorem fldR0 (c : Int) (w : World) : Sem.run Try.prog (Instr.field 30 (.agg #[.int .i64 c, .slice none 0 0]) 0) w = .ok (.int .i64 c) w := by kernel_rfl
attribute [local go_sem] fldI0 fldI1 fldR0

theorem Bytes.bel {w w' : World} {a : Option Addr} {len : Nat} {f : Nat → Int} (h : Bytes w w.heap.size a len f) (k : Below w.heap.size w w') : Bytes w' w'.heap.size a len f := by
  rcases h.stay (Nat.le_refl _) (Turn.of_below (b := w.heap.size) k) (Nat.le_refl _) with h | ⟨xb, xo, ha, hx, hc⟩
  · exact .inl h
  · exact .inr ⟨xb, xo, ha, Nat.lt_of_lt_of_le hx k.size, hc⟩

set_option maxRecDepth 100000 in
set_option maxHeartbeats 400000 in
theorem rects_big (a : Option Addr) (len cap : Nat) (w : World) (hl : len ≤ maxLen) (h : 1048576 < len) :
    Calls Try.prog 3 #[.slice a len cap] w fun e w' => e = .returned (.bool true) ∧ Below w.heap.size w w' := by
  have hd : decide ((1048576 : Int) < (len : Int)) = true := by simp; omega
  go_enter Try.func3, Try.ntmps3
  go_wp2_with fail
  refine Calls.mono (bigR_any _ _ _ _ hl) ?_
  rintro e w0 ⟨rfl, rfl⟩
  rw [hd]
  go_wp2
  go_returns
  exact ⟨rfl, Below.refl _ _⟩

set_option maxRecDepth 100000 in
set_option maxHeartbeats 8000000 in
theorem rects_small (ad : Option Addr) (len cap : Nat) (f : Nat → Int) (w : World) (hY : Bytes w w.heap.size ad len f) (hlm : len ≤ maxLen) (hl : len ≤ 1048576) :
    Calls Try.prog 3 #[.slice ad len cap] w fun e w' => e = .returned (.bool true) ∧ Below w.heap.size w w' := by
  have hd : Hid (decide ((1048576 : Int) < (len : Int)) = false) := by show _ = _; simp; omega
  have HY := hideP hY
  clear hY
  go_enter Try.func3, Try.ntmps3
  go_wp2_with fail
  refine Calls.mono (bigR_any _ _ _ _ hlm) ?_
  rintro e w0 ⟨rfl, rfl⟩
  rw [hd.out]
  go_wp2_with fail
  refine Calls.mono (rless_any _ ad len cap f HY.out hl) ?_
  rintro e w1 ⟨a, b, rfl, k1⟩
  have K1 := hideP k1
  clear k1
  go_wp2_with fail
  refine Calls.mono (cut_any_i a b _) ?_
  rintro e w2 ⟨_, rfl, k2, ao5, cap5, rfl, O5⟩
  have K2 := hideP k2
  have P5 := hideP O5
  have ra2 : IsRect w2 w1.heap.size 0 a.x a.y a.w a.h := IsRect.keep (w := (w1.alloc (.cells #[.int .i64 a.x, .int .i64 a.y, .int .i64 a.w, .int .i64 a.h] 25)).alloc (.cells #[.int .i64 b.x, .int .i64 b.y, .int .i64 b.w, .int .i64 b.h] 25)) ⟨by simp [go_sem], by simp [go_sem], by simp [go_sem], by simp [go_sem]⟩ k2 (by simp; omega)
  have rb2 : IsRect w2 (w1.heap.size + 1) 0 b.x b.y b.w b.h := IsRect.keep (w := (w1.alloc (.cells #[.int .i64 a.x, .int .i64 a.y, .int .i64 a.w, .int .i64 a.h] 25)).alloc (.cells #[.int .i64 b.x, .int .i64 b.y, .int .i64 b.w, .int .i64 b.h] 25)) ⟨by simp [go_sem], by simp [go_sem], by simp [go_sem], by simp [go_sem]⟩ k2 (by simp)
  have s2 := k2.size
  simp only [World.size_alloc] at s2
  have KB2 : Hid (Below w0.heap.size w0 w2) := (K1.out.trans (Below.trans (by go_grown : Below w1.heap.size w1 ((w1.alloc (.cells #[.int .i64 a.x, .int .i64 a.y, .int .i64 a.w, .int .i64 a.h] 25)).alloc (.cells #[.int .i64 b.x, .int .i64 b.y, .int .i64 b.w, .int .i64 b.h] 25))) (k2.mono (by simp; omega)) |>.mono K1.out.size))
  have RA2 := hideP ra2
  have RB2 := hideP rb2
  obtain ⟨a0, a1, a2, a3⟩ := ra2
  obtain ⟨d0, d1, d2, d3⟩ := rb2
  have n2 : w1.heap.size < w2.heap.size ∧ w1.heap.size + 1 < w2.heap.size := by omega
  clear k2 O5 K2
  go_wp2_with fail
  refine Calls.mono (less_any_i a b _) ?_
  rintro e w3 ⟨_, rfl, k3, ao6, cap6, rfl, O6⟩
  clear a0 a1 a2 a3 d0 d1 d2 d3
  have s3 := k3.size
  simp only [World.size_alloc] at s3
  have kk3 : Below w2.heap.size w2 w3 := Below.trans (by go_grown : Below w2.heap.size w2 (w2.alloc (.cells #[.int .i64 (rfOf (a.flt || b.flt)), .slice ao5 (cutR a b).length cap5] 30))) (k3.mono (by simp))
  have RA3 := hideP (RA2.out.keep kk3 n2.1)
  have RB3 := hideP (RB2.out.keep kk3 n2.2)
  have X5 : Hid (Box w3 w2.heap.size (rfOf (a.flt || b.flt)) (.slice ao5 (cutR a b).length cap5)) := Box.keep (W := w2.alloc (.cells #[.int .i64 (rfOf (a.flt || b.flt)), .slice ao5 (cutR a b).length cap5] 30)) ⟨by simp, by simp [go_sem], by simp [go_sem]⟩ k3 (by simp)
  have L5 := hideP (P5.out.lst.keep kk3 (Nat.le_refl _))
  have L6 := hideP O6.lst
  have S5 := hideP (P5.out.src.keep kk3 (Nat.le_refl _))
  have S6 := hideP O6.src
  have KB3 := hideP (KB2.out.trans (kk3.mono KB2.out.size))
  clear k3 O6 kk3 RA2 RB2 P5 KB2
  go_wp2_with fail
  refine Calls.mono (rcover_any _ ad len cap f (HY.out.bel (KB3.out.alloc KB3.out.size _)) hl) ?_
  rintro e w4 ⟨ao7, cap7, L, px, py, rfl, hL41, k4, L7⟩
  have s4 := k4.size
  simp only [World.size_alloc] at s4
  have kk4 : Below w3.heap.size w3 w4 := Below.trans (by go_grown : Below w3.heap.size w3 (w3.alloc (.cells #[.int .i64 (rfOf (a.flt || b.flt)), .slice ao6 (lessR a b).length cap6] 30))) (k4.mono (by simp))
  have R4 : Hid (Rs w0 w4 a b w4.heap.size w1.heap.size w2.heap.size w3.heap.size (rfOf (a.flt || b.flt)) ao5 cap5 ao6 cap6 (cutR a b) (lessR a b) ao7 L) := by
    refine ⟨KB3.out.trans (kk4.mono KB3.out.size), Nat.le_refl _, RA3.out.keep kk4 (by omega), RB3.out.keep kk4 (by omega), X5.out.keep kk4 (by omega), ?_, ?_, ?_, ?_, (S5.out.keep kk4 (by omega)).wide (by omega), (S6.out.keep kk4 (Nat.le_refl _)).wide (by omega), by omega, by omega, by omega⟩
    · exact Box.keep (W := w3.alloc (.cells #[.int .i64 (rfOf (a.flt || b.flt)), .slice ao6 (lessR a b).length cap6] 30)) ⟨by simp, by simp [go_sem], by simp [go_sem]⟩ k4 (by simp)
    · exact (L5.out.keep kk4 (by omega)).wide (Nat.zero_le _) (by omega)
    · exact (L6.out.keep kk4 (Nat.le_refl _)).wide (Nat.zero_le _) (by omega)
    · exact L7.wide (Nat.zero_le _) (Nat.le_refl _)
  clear k4 kk4 L7 X5 L5 L6 S5 S6 KB3 RA3 RB3 HY n2 s2 s3 s4 K1
  have hL' : L.length ≤ 1048576 := by omega
  generalize w1.heap.size = B3 at *
  generalize w2.heap.size = B5 at *
  generalize w3.heap.size = B6 at *
  go_wp2_with fail
  refine Calls.mono (iCov_any 0 w4.heap.size ao7 cap7 L px py w4 R4.out.l7 (Nat.le_refl _) hL') ?_
  rintro e w5 ⟨rfl, k5⟩
  have R5 := hideP ((R4.out.keep k5).keep (X' := w5.alloc (.cells #[.int .i64 (covC L px py), .int .i64 (covV L px py)] 35)) (by go_grown))
  clear k5 R4
  go_upto_region 8 with fail
  refine wp_region_wq (by kernel_rfl) (by kernel_rfl) ?_
  repeat (first | (refine wq_up _ (by first | exact wanted_free rfl | exact wanted_yes rfl rfl | exact wanted_no rfl rfl | exact wanted_lost rfl rfl) (by first | with_reducible rfl | decide) ?_; apply Exists.intro; refine ⟨fun w1 k1 => ?_, fun K hK => ?_⟩; (focus (have hc := Kept.cell k1; go_simp; first | done | rfl | (go_at_call 14; exact kept_call k1 (sCov_any 0 w4.heap.size ao7 cap7 L px py _ (R5.out.keep k1).l7 (R5.out.keep k1).sz hL')))); (go_simp; refine hK _ ?_; clear hK K)) | (refine wq_off _ (by first | exact wanted_free rfl | exact wanted_yes rfl rfl | exact wanted_no rfl rfl | exact wanted_lost rfl rfl) (by first | with_reducible rfl | decide) ?_; intro K hK; go_simp; refine hK _ ?_; clear hK K))
  refine wq_nil ?_
  intro w6 k6
  replace k6 := Kept.below k6
  have hc6 := Kept.cell k6
  have hf6 := Kept.frozen k6
  have hz6 := k6.size
  try simp only [World.size_alloc] at hz6
  try simp only [World.size_setCell] at hz6
  try simp only [World.size_drew] at hz6
  try (first | have hs6 := sz12 hz6 | have hs6 := sz11 hz6 | have hs6 := sz10 hz6 | have hs6 := sz9 hz6 | have hs6 := sz8 hz6 | have hs6 := sz7 hz6 | have hs6 := sz6 hz6 | have hs6 := sz5 hz6 | have hs6 := sz4 hz6 | have hs6 := sz3 hz6 | have hs6 := sz2 hz6 | have hs6 := sz1 hz6)
  have R6 := hideP (R5.out.keep k6)
  clear k6 hc6 hf6 hz6 R5
  cases hf : (a.flt || b.flt)
  · have HF := hideP hf
    have ec : cutR a b = cutL a b := by unfold cutR; rw [hf]; rfl
    have el : lessR a b = lessL a b := by unfold lessR; rw [hf]; rfl
    have R7 := hideP R6.out
    rw [hf, ec, el] at R7
    simp only [rfOf] at R7
    clear R6 ec el hf
    obtain ⟨u0, u1, u2⟩ := R7.out.x5
    obtain ⟨v0, v1, v2⟩ := R7.out.x6
    have n7 : B3 < w6.heap.size ∧ B3 + 1 < w6.heap.size ∧ B5 < w6.heap.size ∧ B6 < w6.heap.size := by have := R7.out.n; have := R7.out.sz; omega
    go_upto_region 12 with fail
    refine wp_region_held (S := Kept w6) (by kernel_rfl) ?_
    show wpAnyH _ _ _ _ _ 8 (Array.replicate 8 false) _ w6.drew
    have hK0 : Kept w6 w6.drew := (Below.refl _ _).drew
    generalize hQQ : (Exit.then _ _ : Exit → Act → World → Prop) = QQ
    have hQ : ∀ c a d v w, QQ (.panic c) (Act.put a d v) w → QQ (.panic c) a w := by
      subst hQQ
      intro c a d v w h
      cases d <;> exact h
    refine held_take (i := 1) rfl (by kernel_rfl) (by kernel_rfl) (by kernel_rfl) hQ hK0 (by rfl) ?_
    apply Exists.intro
    refine ⟨fun w1 k1 => ?_, fun K hK => ?_⟩
    · have hc := Kept.cell k1
      go_simp
      first | done | rfl
    go_simp
    refine hK _ ?_
    clear hK K
    refine held_take (i := 2) rfl (by kernel_rfl) (by kernel_rfl) (by kernel_rfl) hQ hK0 (by rfl) ?_
    apply Exists.intro
    refine ⟨fun w1 k1 => ?_, fun K hK => ?_⟩
    · have hc := Kept.cell k1
      go_simp
      first | done | rfl
    go_simp
    refine hK _ ?_
    clear hK K
    refine held_take (i := 4) rfl (by kernel_rfl) (by kernel_rfl) (by kernel_rfl) hQ hK0 (by rfl) ?_
    apply Exists.intro
    refine ⟨fun w1 k1 => ?_, fun K hK => ?_⟩
    · have hc := Kept.cell k1
      go_simp
      first | done | rfl
    go_simp
    refine hK _ ?_
    clear hK K
    refine held_take (i := 5) rfl (by kernel_rfl) (by kernel_rfl) (by kernel_rfl) hQ hK0 (by rfl) ?_
    apply Exists.intro
    refine ⟨fun w1 k1 => ?_, fun K hK => ?_⟩
    · have hc := Kept.cell k1
      go_simp
      first | done | rfl
    go_simp
    refine hK _ ?_
    clear hK K
    refine held_one (i := 0) rfl (by kernel_rfl) (by rfl) ?_
    refine wp_of_run (v := .slice (some ⟨w6.heap.size, 0, none⟩) 0 0) (w' := w6.drew.alloc (.cells #[] 25)) (by go_simp; first | done | rfl) ?_
    have hK1 : Kept w6 (w6.drew.alloc (.cells #[] 25)) := hK0.trans (kept_alloc _ _)
    refine ⟨hK1, ?_⟩
    refine norm_act fun K hK => ?_
    go_simp
    refine hK _ ?_
    clear hK K
    refine held_one (i := 3) rfl (by kernel_rfl) (by rfl) ?_
    have hcl := cutL_len a b
    have hll := (lessL_len a b).2.2.2
    have HOE : Own (w6.drew.alloc (.cells #[] 25)) w6.heap.size (some ⟨w6.heap.size, 0, none⟩) 0 [] := own_new w6.drew _ rfl
    refine wp_append_src (.tmp 75) (.tmp 77) rfl w6.heap.size (.slice (some ⟨w6.heap.size, 0, none⟩) 0 0) [] rfl HOE w4.heap.size ao5 cap5 (cutL a b) rfl (R7.out.s5.keep hK1 R7.out.sz) (by simp; omega) (by simp) ?_
    intro ao8 cap8 w8 O8 hg8
    simp only [List.nil_append] at O8
    have hK8 : Kept w6 w8 := Below.grown hK1 hg8 (by simp) (fun k hk => (World.ownsRow.lt HOE k hk).1)
    refine ⟨hK8, ?_⟩
    refine norm_act fun K hK => ?_
    go_simp
    refine hK _ ?_
    clear hK K
    refine held_one (i := 6) rfl (by kernel_rfl) (by rfl) ?_
    refine wp_append_src (.tmp 78) (.tmp 80) rfl w6.heap.size (.slice ao8 (cutL a b).length cap8) (cutL a b) rfl O8 w4.heap.size ao6 cap6 (lessL a b) rfl (R7.out.s6.keep hK8 R7.out.sz) (by omega) hK8.le ?_
    intro ao9 cap9 w9 O9 hg9
    have hK9 : Kept w6 w9 := Below.grown hK8 hg9 hK8.le (fun k hk => (World.ownsRow.lt O8 k hk).1)
    refine ⟨hK9, ?_⟩
    refine norm_act fun K hK => ?_
    go_simp
    refine hK _ ?_
    clear hK K
    refine held_one (i := 7) rfl (by kernel_rfl) (by rfl) ?_
    refine wp_of_run (v := .slice ao9 (cutL a b ++ lessL a b).length cap9) (w' := w9) (by go_simp; first | done | rfl) ?_
    refine ⟨hK9, ?_⟩
    refine norm_act fun K hK => ?_
    go_simp
    refine hK _ ?_
    clear hK K
    refine wpAnyH_done (by kernel_rfl) ?_ _
    subst hQQ
    have R9 := hideP (R7.out.keep hK9)
    have L9 := hideP (O9.lst)
    clear hQ hK0 hK1 hK8 hK9 O8 O9 hg8 hg9 HOE R7 u0 u1 u2 v0 v1 v2 n7
    obtain ⟨A, hA⟩ : ∃ A, A = cutL a b ++ lessL a b := ⟨_, rfl⟩
    have hAl : (cutL a b).length + (lessL a b).length = A.length := by rw [hA, List.length_append]
    have hA5 : A.length ≤ 5 := by omega
    have hA5' : (A.length : Int) ≤ 5 := by omega
    have CA := hideP (fun p q => cnt_all a b HF.out p q)
    have SM := hideP (all_small a b HF.out)
    rw [← hA] at CA SM L9
    rw [hAl]
    have HA := hideP hA
    clear hA hAl
    obtain ⟨hva, hvb⟩ := rfB_of HF.out
    have VA := hideP hva
    have VB := hideP hvb
    obtain ⟨⟨f1, f2⟩, ⟨f3, f4⟩, ⟨f5, f6⟩, f7, f8⟩ := rfB_no hva
    clear hva hvb
    obtain ⟨a0, a1, a2, a3⟩ := R9.out.ra
    go_wp2
    go_loopw [12] (fun y wr => ∃ j : Nat, (j : Int) ≤ a.h + 2 ∧ y = .int .i64 (a.y - 1 + j) ∧ Below w9.heap.size w9 wr) (fun y _ => (a.y + a.h + 1 - intOf y).toNat)
    case atStart => exact ⟨0, by omega, by simp, Below.refl _ _⟩
    case round =>
      obtain ⟨j, hj, rfl, hbel⟩ := hrel
      have HB1 := hideP hbel
      clear hbel a0 a1 a2 a3
      obtain ⟨a0, a1, a2, a3⟩ := (R9.out.keep HB1.out).ra
      by_cases hj2 : (j : Int) ≤ a.h + 1
      · have hle : a.y - 1 + (j : Int) ≤ a.y + a.h := by omega
        go_wp2
        go_loopw [13] (fun x wr => ∃ i : Nat, (i : Int) ≤ a.w + 2 ∧ x = .int .i64 (a.x - 1 + i) ∧ Below w9.heap.size w9 wr) (fun x _ => (a.x + a.w + 1 - intOf x).toNat)
        case atStart => exact ⟨0, by omega, by simp, HB1.out⟩
        case round =>
          obtain ⟨i, hi, rfl, hbel⟩ := hrel
          have HB2 := hideP hbel
          clear hbel a0 a1 a2 a3
          obtain ⟨a0, a1, a2, a3⟩ := (R9.out.keep HB2.out).ra
          by_cases hi2 : (i : Int) ≤ a.w + 1
          · have hli : a.x - 1 + (i : Int) ≤ a.x + a.w := by omega
            go_wp2
            go_loopw [14, 15] (fun n i' wr => ∃ k : Nat, k ≤ A.length ∧ i' = .int .i64 k ∧ n = .int .i64 (cntL (A.take k) (a.x - 1 + i) (a.y - 1 + j)) ∧ Below w9.heap.size w9 wr) (fun _ i' _ => A.length - (intOf i').toNat)
            case atStart => exact ⟨0, Nat.zero_le _, rfl, by simp [cntL], HB2.out⟩
            case round =>
              obtain ⟨k, hk, rfl, rfl, hbel⟩ := hrel
              have HB3 := hideP hbel
              have hz3 := hbel.size
              have hcb := cntL_bd (A.take k) (a.x - 1 + (i : Int)) (a.y - 1 + (j : Int))
              have hcl3 : (A.take k).length ≤ 5 := by simp; omega
              clear hbel a0 a1 a2 a3
              by_cases hlt : k < A.length
              · have hlt' : (k : Int) < (A.length : Int) := by omega
                have hne : A ≠ [] := fun e => by rw [e] at hlt; simp at hlt
                rcases L9.out with e | ⟨g, o, rfl, _, hg, hc⟩
                · exact absurd e hne
                obtain ⟨b0, b1, b2, b3⟩ := (hc k hlt).keep HB3.out (by omega)
                have hgl : _ < _ := Nat.lt_of_lt_of_le hg hz3
                have SK := hideP (SM.out A[k] (List.getElem_mem _))
                have TK := hideP (cntL_take A (a.x - 1 + (i : Int)) (a.y - 1 + (j : Int)) k hlt)
                clear hc L9
                cases hin : inB A[k].x A[k].y A[k].w A[k].h (a.x - 1 + (i : Int)) (a.y - 1 + (j : Int))
                · have HI := hideP hin
                  clear hin
                  go_wp2_with fail
                  refine Calls.mono (lwIn_any A[k] _ _ _ SK.out) ?_
                  rintro e w10 ⟨rfl, k10⟩
                  rw [HI.out]
                  have HB10 := hideP (HB3.out.trans (k10.mono hz3))
                  clear k10 b0 b1 b2 b3
                  go_wp2
                  go_roundw
                  case rel => exact ⟨k + 1, by omega, by go_num, by rw [TK.out, HI.out]; simp, HB10.out⟩
                  case measure => simp [intOf]; omega
                · have HI := hideP hin
                  clear hin
                  go_wp2_with fail
                  refine Calls.mono (lwIn_any A[k] _ _ _ SK.out) ?_
                  rintro e w10 ⟨rfl, k10⟩
                  rw [HI.out]
                  have HB10 := hideP (HB3.out.trans (k10.mono hz3))
                  clear k10 b0 b1 b2 b3
                  go_wp2
                  go_roundw
                  case rel => exact ⟨k + 1, by omega, by go_num, by rw [TK.out, HI.out]; simp, HB10.out⟩
                  case measure => simp [intOf]; omega
              · obtain rfl : k = A.length := by omega
                have hcnt : cntL (A.take A.length) (a.x - 1 + (i : Int)) (a.y - 1 + (j : Int)) = if inB a.x a.y a.w a.h (a.x - 1 + (i : Int)) (a.y - 1 + (j : Int)) then 1 else 0 := by rw [List.take_length]; exact CA.out _ _
                rw [hcnt]
                clear hcnt hcb
                have R10 := hideP (R9.out.keep HB3.out)
                have HCA := hideP (hp_in a (a.x - 1 + (i : Int)) (a.y - 1 + (j : Int)))
                have HCB := hideP (hp_in b (a.x - 1 + (i : Int)) (a.y - 1 + (j : Int)))
                have CI := hideP (fun r h => cut_in a b r HF.out h (a.x - 1 + (i : Int)) (a.y - 1 + (j : Int)))
                have SC := hideP (show ∀ r, cutL a b = [r] → small r from fun r h => SM.out r (by rw [HA.out, h]; simp))
                have hcase : cutL a b = [] ∨ ∃ r, cutL a b = [r] := by
                  have := cutL_len a b
                  match h : cutL a b with
                  | [] => exact .inl rfl
                  | [r] => exact .inr ⟨r, rfl⟩
                  | _ :: _ :: _ => rw [h] at this; simp at this
                obtain ⟨a0, a1, a2, a3⟩ := R10.out.ra
                have n10 : B3 < wr.heap.size ∧ B3 + 1 < wr.heap.size ∧ B5 < wr.heap.size := by have := R10.out.n; have := R10.out.sz; omega
                cases hin : inB a.x a.y a.w a.h (a.x - 1 + (i : Int)) (a.y - 1 + (j : Int))
                · have HI := hideP hin
                  clear hin
                  rw [if_neg (by simp)]
                  go_wp2_with fail
                  refine Calls.mono (HCA.out _ VA.out) ?_
                  rintro e w10 ⟨rfl, k10⟩
                  rw [HI.out]
                  have R11 := hideP (R10.out.keep k10)
                  have HB11 := hideP (HB3.out.trans (k10.mono hz3))
                  clear k10 a0 a1 a2 a3 R10
                  rcases hcase with hce | ⟨r, hce⟩
                  · have hce' := hideP hce
                    rw [hce] at R11
                    obtain ⟨u0, u1, u2⟩ := R11.out.x5
                    simp only [List.length_nil] at u2
                    clear hce
                    dsimp only
                    go_wp2
                    go_roundw
                    case rel => exact ⟨i + 1, by omega, by go_num, HB11.out⟩
                    case measure => simp [intOf]; omega
                  · have CR := hideP ((CI.out r hce).trans (by rw [HI.out]; rfl : _ = false))
                    have SR := hideP (SC.out r hce)
                    rw [hce] at R11
                    obtain ⟨u0, u1, u2⟩ := R11.out.x5
                    simp only [List.length_singleton] at u2
                    obtain ⟨g5, o5, e5, hg5, hr5⟩ := R11.out.l5.one
                    have hg5' : g5 < w10.heap.size := Nat.lt_of_lt_of_le hg5 R11.out.sz
                    rw [e5] at u2
                    obtain ⟨b0, b1, b2, b3⟩ := hr5
                    obtain ⟨d0, d1, d2, d3⟩ := R11.out.rb
                    clear hce
                    dsimp only
                    go_wp2_with fail
                    refine Calls.mono (lwIn_any r _ _ _ SR.out) ?_
                    rintro e w11 ⟨rfl, k11⟩
                    rw [CR.out]
                    have HB12 := hideP (HB11.out.trans (k11.mono HB11.out.size))
                    clear k11 u0 u1 u2 b0 b1 b2 b3 d0 d1 d2 d3 R11
                    dsimp only
                    go_wp2
                    go_roundw
                    case rel => exact ⟨i + 1, by omega, by go_num, HB12.out⟩
                    case measure => simp [intOf]; omega
                · have HI := hideP hin
                  clear hin
                  rw [if_pos rfl]
                  go_wp2_with fail
                  refine Calls.mono (HCA.out _ VA.out) ?_
                  rintro e w10 ⟨rfl, k10⟩
                  rw [HI.out]
                  have R11 := hideP (R10.out.keep k10)
                  have HB11 := hideP (HB3.out.trans (k10.mono hz3))
                  clear k10 a0 a1 a2 a3 R10
                  rcases hcase with hce | ⟨r, hce⟩
                  · have hce' := hideP hce
                    rw [hce] at R11
                    obtain ⟨u0, u1, u2⟩ := R11.out.x5
                    simp only [List.length_nil] at u2
                    clear hce
                    dsimp only
                    go_wp2
                    go_roundw
                    case rel => exact ⟨i + 1, by omega, by go_num, HB11.out⟩
                    case measure => simp [intOf]; omega
                  · have CR := hideP ((CI.out r hce).trans (by rw [HI.out]; rfl : _ = inB b.x b.y b.w b.h (a.x - 1 + (i : Int)) (a.y - 1 + (j : Int))))
                    have SR := hideP (SC.out r hce)
                    rw [hce] at R11
                    obtain ⟨u0, u1, u2⟩ := R11.out.x5
                    simp only [List.length_singleton] at u2
                    obtain ⟨g5, o5, e5, hg5, hr5⟩ := R11.out.l5.one
                    have hg5' : g5 < w10.heap.size := Nat.lt_of_lt_of_le hg5 R11.out.sz
                    rw [e5] at u2
                    obtain ⟨b0, b1, b2, b3⟩ := hr5
                    obtain ⟨d0, d1, d2, d3⟩ := R11.out.rb
                    clear hce
                    dsimp only
                    go_wp2_with fail
                    refine Calls.mono (lwIn_any r _ _ _ SR.out) ?_
                    rintro e w11 ⟨rfl, k11⟩
                    rw [CR.out]
                    have R12 := hideP (R11.out.keep k11)
                    have HB12 := hideP (HB11.out.trans (k11.mono HB11.out.size))
                    clear k11 u0 u1 u2 b0 b1 b2 b3 d0 d1 d2 d3 R11
                    obtain ⟨d0, d1, d2, d3⟩ := R12.out.rb
                    have hg12 : B3 + 1 < w11.heap.size := by have := R12.out.n; have := R12.out.sz; omega
                    cases hib : inB b.x b.y b.w b.h (a.x - 1 + (i : Int)) (a.y - 1 + (j : Int))
                    all_goals
                      have HJ := hideP hib
                      clear hib
                      dsimp only
                      go_wp2_with fail
                      refine Calls.mono (HCB.out _ VB.out) ?_
                      rintro e w12 ⟨rfl, k12⟩
                      rw [HJ.out]
                      have HB13 := hideP (HB12.out.trans (k12.mono HB12.out.size))
                      clear k12 d0 d1 d2 d3 R12
                      dsimp only
                      go_wp2
                      go_roundw
                      case rel => exact ⟨i + 1, by omega, by go_num, HB13.out⟩
                      case measure => simp [intOf]; omega
          · have hli : ¬ a.x - 1 + (i : Int) ≤ a.x + a.w := by omega
            go_wp2
            go_roundw
            case rel => exact ⟨j + 1, by omega, by go_num, HB2.out⟩
            case measure => simp [intOf]; omega
      · have hle : ¬ a.y - 1 + (j : Int) ≤ a.y + a.h := by omega
        have R10 := hideP (R9.out.keep HB1.out)
        have RF := hideP (fun w => rf_ok a.x a.y a.w a.h w VA.out)
        have hc1 : ((cutL a b).length : Int) ≤ 1 := by have := cutL_len a b; omega
        have hl4 : ((lessL a b).length : Int) ≤ 4 := by have := (lessL_len a b).2.2.2; omega
        obtain ⟨u0, u1, u2⟩ := R10.out.x5
        obtain ⟨v0, v1, v2⟩ := R10.out.x6
        have n10 : B3 < wr.heap.size ∧ B5 < wr.heap.size ∧ B6 < wr.heap.size := by have := R10.out.n; have := R10.out.sz; omega
        go_wp2_with fail
        refine Calls.mono (RF.out _) ?_
        rintro e w10 ⟨rfl, k10⟩
        have R11 := hideP (R10.out.keep k10)
        clear k10 u0 u1 u2 v0 v1 v2 a0 a1 a2 a3 R10
        dsimp only
        go_wp2_with fail
        refine Calls.mono (iArea_any 0 w4.heap.size ao7 cap7 L _ R11.out.l7 R11.out.sz hL') ?_
        rintro e w11 ⟨rfl, k11⟩
        have R12 := hideP (R11.out.keep k11)
        clear k11 R11
        dsimp only
        go_wp2_with fail
        refine Calls.mono (sArea_any 0 w4.heap.size ao7 cap7 L _ R12.out.l7 R12.out.sz hL') ?_
        rintro e w12 ⟨rfl, k12⟩
        have R13 := hideP (R12.out.keep k12)
        clear k12 R12
        dsimp only
        go_wp2
        go_returns
        exact ⟨rfl, R13.out.kb⟩
  · have HF := hideP hf
    have R7 := hideP R6.out
    rw [hf] at R7
    simp only [rfOf, if_true] at R7
    clear R6 hf
    obtain ⟨u0, u1, u2⟩ := R7.out.x5
    obtain ⟨v0, v1, v2⟩ := R7.out.x6
    obtain ⟨a0, a1, a2, a3⟩ := R7.out.ra
    obtain ⟨d0, d1, d2, d3⟩ := R7.out.rb
    have n7 : B3 < w6.heap.size ∧ B3 + 1 < w6.heap.size ∧ B5 < w6.heap.size ∧ B6 < w6.heap.size := by have := R7.out.n; have := R7.out.sz; omega
    go_upto_region 11 with fail
    refine wp_region_wq (by kernel_rfl) (by kernel_rfl) ?_
    repeat (first | (refine wq_up _ (by first | exact wanted_free rfl | exact wanted_yes rfl rfl | exact wanted_no rfl rfl | exact wanted_lost rfl rfl) (by first | with_reducible rfl | decide) ?_; apply Exists.intro; refine ⟨fun w1 k1 => ?_, fun K hK => ?_⟩; (focus (have hc := Kept.cell k1; go_simp; first | done | rfl | (go_at_call 15; exact kept_call k1 (sCut_bad a b _ HF.out)))); (go_simp; refine hK _ ?_; clear hK K)) | (refine wq_off _ (by first | exact wanted_free rfl | exact wanted_yes rfl rfl | exact wanted_no rfl rfl | exact wanted_lost rfl rfl) (by first | with_reducible rfl | decide) ?_; intro K hK; go_simp; refine hK _ ?_; clear hK K))
    refine wq_nil ?_
    intro w7 k7
    replace k7 := Kept.below k7
    have hc7 := Kept.cell k7
    have hf7 := Kept.frozen k7
    have hz7 := k7.size
    try simp only [World.size_alloc] at hz7
    try simp only [World.size_setCell] at hz7
    try simp only [World.size_drew] at hz7
    try (first | have hs7 := sz12 hz7 | have hs7 := sz11 hz7 | have hs7 := sz10 hz7 | have hs7 := sz9 hz7 | have hs7 := sz8 hz7 | have hs7 := sz7 hz7 | have hs7 := sz6 hz7 | have hs7 := sz5 hz7 | have hs7 := sz4 hz7 | have hs7 := sz3 hz7 | have hs7 := sz2 hz7 | have hs7 := sz1 hz7)
    have R8 := hideP (R7.out.keep k7)
    clear k7 hc7 hf7 hz7 R7
    go_wp2
    go_returns
    exact ⟨rfl, R8.out.kb⟩

theorem rects_any (a : Option Addr) (len cap : Nat) (zs : List Int) (w : World) (h : IsRow .u8 w a len cap zs) :
    Calls Try.prog 3 #[.slice a len cap] w fun e w' => e = .returned (.bool true) ∧ Below w.heap.size w w' := by
  have hl : len ≤ maxLen := by
    rcases h with ⟨_, h, _⟩ | ⟨_, _, h1, h2, _⟩
    · omega
    · omega
  by_cases hb : 1048576 < len
  · exact rects_big a len cap w hl hb
  · exact rects_small a len cap _ w h.bytes hl (by omega)

end Go.Proofs.Ytbceacnadkhdoaa
