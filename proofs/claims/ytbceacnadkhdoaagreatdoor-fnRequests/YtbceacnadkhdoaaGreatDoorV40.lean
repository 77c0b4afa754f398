/- Reading of a body by the model: where there are numbers enough. -/
import Derived.Test.YtbceacnadkhdoaaGreatDoorV39
import Derived.Test.YtbceacnadkhdoaaGreatDoorV13
import Derived.Test.YtbceacnadkhdoaaGreatDoorV24
namespace Go.Proofs.YtbceacnadkhdoaaGreatDoor
open Go.RowKit
set_option linter.unusedVariables false
attribute [local go_sem high] sl_from sl_upto
attribute [local go_sem] growUpon growAt

theorem rF_read {k : Int} {r : List Int} (h1 : 1 ≤ k) (h2 : k ≤ 13) (h : aN k ≤ r.length) (hB : byts r) : rF k (r.take (aN k)) (r.drop (aN k)).length = if r.length - aN k ≤ mD k then 0 else 2 := by
  have hl : (r.take (aN k)).length = aN k := by simp; omega
  have hd : (r.drop (aN k)).length = r.length - aN k := by simp
  by_cases hm : r.length - aN k ≤ mD k
  · rw [if_pos hm, rF_args h1 h2 (mny_no hl (by omega)), aF_yes (all_none fun i hi => ?_)]
    unfold isB
    exact decide_eq_true (byts_take hB (aN k) i hi)
  · rw [if_neg hm, rF_many h1 h2 (mny_yes (.inr (by omega)))]

theorem R3.far {w w' : World} {b lo hi : Nat} {v0 v1 v2 : Value} (h : R3 w b v0 v1 v2) (f : Far lo hi w w') (hd : b < lo ∨ hi ≤ b) : R3 w' b v0 v1 v2 :=
  ⟨(f.cell b 0 h.lt hd).trans h.c0, (f.cell b 1 h.lt hd).trans h.c1, (f.cell b 2 h.lt hd).trans h.c2, (f.frozen b 0 h.lt hd).trans h.f0, (f.frozen b 1 h.lt hd).trans h.f1, (f.frozen b 2 h.lt hd).trans h.f2, Nat.lt_of_lt_of_le h.lt f.size⟩
/-- It answered that number. -/
def SaidNum (x : Int) (w2 : World) (v : Value) : Prop := v = .int .i64 x

set_option maxRecDepth 100000 in
set_option maxHeartbeats 4000000 in
theorem sRd_full (lo hi g o ca : Nat) (k : Int) (r : List Int) (w : World) (hR : Row .u8 w lo hi (some ⟨g, o, none⟩) (k :: r)) (hs : hi ≤ w.heap.size) (hn : r.length + 1 ≤ ca) (hm : r.length + 1 ≤ 2097152) (hB : byts (k :: r)) (h1 : 1 ≤ k) (h2 : k ≤ 13) (h : aN k ≤ r.length) :
    Calls Tryz.prog 30 #[.slice (some ⟨g, o, none⟩) (r.length + 1) ca] w (ReadS w (k :: r)) := by
  have hc0 : w.cell? ⟨g, o, none⟩ = some (.int .u8 k) := by
    rcases hR with e | ⟨g', o', e, _, _, hc⟩
    · cases e
    · cases e; exact hc 0 (by simp)
  have hlt : g < w.heap.size := World.block_lt_of_cell? w _ hc0
  have hg1 : ¬ g = w.heap.size := by omega
  have hg2 : ¬ g = w.heap.size + 1 := by omega
  have HR := hideP hR
  have HBy := hideP hB
  have hk : 0 ≤ k ∧ k ≤ 255 := hB 0 (by simp)
  have HF := hideP (rF_read h1 h2 h (show byts r from byts_drop hB 1))
  have hk7 := aN_le k
  have HY := hideP (show r.length - aN k ≤ mD k → _ from fun h3 => rd_yes (k := k) (r := r) ⟨aC_yes h1 h2, h, h3⟩)
  have HNo := hideP (show ¬ r.length - aN k ≤ mD k → _ from fun h3 => (rd_no (k := k) (r := r) fun hh => h3 hh.2.2).1)
  obtain ⟨c, hcn⟩ : ∃ c, aN k = c := ⟨_, rfl⟩
  have CA := sArgN_any k
  rw [hcn] at h hk7 CA HF HY HNo
  have CA' := hideP CA
  have HK := hideP (And.intro h1 h2)
  have hn0 : ((r.length : Int) + 1 == 0) = false := by simp; omega
  have hn1 : (0 : Int) < (r.length : Int) + 1 := by omega
  have hwk : IntKind.i64.wrap k = k := IntWalk.i64_in _ (by omega)
  have hge : ¬ ((r.length : Int) + 1 < 1 + (c : Int)) := by omega
  have hc' : (c : Int) ≤ 7 := by omega
  have hlen : (r.take c).length = c := by simp; omega
  have hdl : (r.drop c).length = r.length - c := by simp
  have HL := hideP hlen
  have HDL := hideP hdl
  clear CA hcn h1 h2 hR hB hlen hdl
  go_enter Tryz.func30, Tryz.ntmps30
  go_wp2_with (first | (go_at_call 36; refine Calls.mono (kind_yes _ _ HK.out.1 HK.out.2) ?_; rintro e w1 ⟨rfl, rfl⟩))
  refine Calls.mono (CA'.out _ HK.out.1 HK.out.2) ?_
  rintro e w1 ⟨rfl, k1⟩
  have K1 : Hid (Below w.heap.size w w1) := hideP (Below.trans (by go_grown) (k1.mono (by simp; omega)))
  have R1 : Hid (R3 w1 w.heap.size (.int .i64 0) (.slice none 0 0) (.slice none 0 0)) := hideP (R3.keep ⟨by simp, by simp, by simp, by simp, by simp, by simp, by simp; omega⟩ k1 (by simp; omega))
  have S1 : Hid (R3 w1 (w.heap.size + 1) (.int .i64 k) (.slice none 0 0) (.slice none 0 0)) := hideP (R3.keep ⟨by simp, by simp, by simp, by simp, by simp, by simp, by simp⟩ k1 (by simp))
  have n1 := S1.out.lt
  clear k1
  go_wp2
  go_loopw [6] (fun i wr => ∃ (j : Nat) (ao' : Option Addr) (cap' : Nat), j ≤ c ∧ i = .int .i64 (1 + (j : Int)) ∧ R3 wr (w.heap.size + 1) (.int .i64 k) (.slice ao' (r.take j).length cap') (.slice none 0 0) ∧ OwnR .i64 2 wr (w.heap.size + 1 + 1) ao' cap' (r.take j) ∧ Below (w.heap.size + 1) w1 wr) (fun i _ => c + 1 - (intOf i).toNat)
  case atStart => exact ⟨0, none, 0, Nat.zero_le _, rfl, by simpa using S1.out, by simpa using OwnR.nil .i64 2 w1 (w.heap.size + 1 + 1), Below.refl _ _⟩
  case round =>
    obtain ⟨j, ao1, cap1, hj, rfl, X1, O1, K2⟩ := hrel
    have HX1 := hideP X1
    have HO1 := hideP O1
    have HK2 := hideP K2
    have hz := K2.size
    obtain ⟨s0, s1, s2, s3, s4, s5, s6⟩ := X1
    clear O1 K2
    by_cases hlt2 : j < c
    · have hlt' : (1 : Int) + (j : Int) ≤ (c : Int) := by omega
      have hjr : j < r.length := by omega
      have hji : (1 : Int) + (j : Int) < (r.length : Int) + 1 := by omega
      have hj0 : (0 : Int) ≤ 1 + (j : Int) := by omega
      rcases HR.out with e | ⟨g', o', e, _, hg, hc⟩
      · cases e
      cases e
      have hcc := hc (1 + j) (by simp; omega)
      have hx := HBy.out (1 + j) (by simp; omega)
      have exx : (k :: r)[1 + j]'(by simp; omega) = r[j] := by simp [Nat.add_comm 1 j]
      rw [exx] at hcc hx
      have a0 := (HK2.out.cell (p := ⟨g, o + (1 + j), none⟩) (by show g < _; omega)).trans ((K1.out.cell (p := ⟨g, o + (1 + j), none⟩) (by show g < _; omega)).trans hcc)
      have HT : Hid (r.take (j + 1) = r.take j ++ [r[j]]) := hideP (by rw [List.take_succ_eq_append_getElem hjr])
      have HL1 := hideP (show (r.take j).length ≤ 1000 by simp; omega)
      have htn : (1 + (j : Int)).toNat = 1 + j := by omega
      clear hc exx hcc
      generalize r[j] = x at *
      obtain ⟨x0, x1⟩ := hx
      have hmx : IntKind.i64.wrap x = x := IntWalk.i64_in _ (by omega)
      generalize r.take j = M1 at *
      have hgl : g < wr.heap.size := by omega
      go_wp2
      refine wp_region_made 7 (by kernel_rfl) (by kernel_rfl) ?_
      simp only [List.take_succ_cons, List.take_zero, List.drop_succ_cons, List.drop_zero]
      repeat (refine grow_step (by rfl) ?_; apply Exists.intro; refine ⟨fun w1 k1 => ?_, fun K hK => ?_⟩; (focus (have hc := Kept.cell k1; go_simp; first | done | rfl)); (go_simp; refine hK _ ?_; clear hK K))
      refine grow_nil ?_
      intro op hop
      cases hop
      refine ⟨by rfl, fun w5 k5 => ?_⟩
      refine made_alloc (b := .cells #[.int .i64 x] 2) (p := .slice (some ⟨w5.heap.size, 0, none⟩) 1 1) (by go_simp; first | done | rfl | exact ⟨rfl, rfl⟩) ?_
      intro w6 k6
      have n5 := Below.size k5
      have n6 := Below.size k6
      simp only [World.size_alloc] at n6
      have kk : Below wr.heap.size wr w6 := (Below.trans k5 ((Below.refl w5.heap.size w5).alloc (Nat.le_refl _) (.cells #[.int .i64 x] 2) |>.mono n5)).trans (Below.mono k6 (by simp; omega))
      have HX6 := hideP (HX1.out.keep kk HX1.out.lt)
      have HO6 := hideP (HO1.out.keep kk)
      have HS6 : Hid (SrcN .i64 w6 (some ⟨w5.heap.size, 0, none⟩) [x]) := hideP ((row_one .i64 w5 x 2 _ rfl).keep k6 (by simp)).src
      have HK6 : Hid (Below (w.heap.size + 1) w1 w6) := hideP (HK2.out.trans (kk.mono (by omega)))
      have n16 : w.heap.size + 1 + 1 ≤ w6.heap.size := by omega
      clear k5 k6 kk s0 s1 s2 s3 s4 s5 s6
      go_simp
      obtain ⟨s0, s1, s2, s3, s4, s5, s6⟩ := HX6.out
      go_wp2_with (first | (at_builtin; refine wpList_app (k := .i64) (T := 2) (S := 25) (bytes := 8) Tryz.underlying25 Tryz.infoI (by omega) rfl _ _ rfl (w.heap.size + 1 + 1) ao1 cap1 M1 rfl HO6.out _ 1 [x] rfl HS6.out (by have := HL1.out; simp; omega) n16 ?_; intro ao2 cap2 w2 O2 K2; refine Hid.out ?_) | go_in)
      have X2 := HX6.out.keep K2 (by omega)
      have HX2 := hideP X2
      have HO2 := hideP O2
      have HK7 : Hid (Below (w.heap.size + 1) w1 w2) := hideP (HK6.out.trans (K2.mono (by omega)))
      clear O2 K2 s0 s1 s2 s3 s4 s5 s6
      obtain ⟨s0, s1, s2, s3, s4, s5, s6⟩ := X2
      refine hideP ?_
      go_wp2
      clear s0 s1 s2 s3 s4 s5 s6
      go_roundw
      case rel =>
        refine ⟨j + 1, ao2, cap2, by omega, by go_num, ?_, ?_, ?_⟩
        · rw [HT.out]; simpa using HX2.out.put1 (.slice ao2 (M1 ++ [x]).length cap2)
        · rw [HT.out]; exact HO2.out.set _ _ (by simp)
        · exact HK7.out.setCell (by simp) _
      case measure => simp [intOf]; omega
    · obtain rfl : j = c := by omega
      have hnle : ¬ (1 : Int) + (j : Int) ≤ (j : Int) := by omega
      have hj1 : (1 : Int) + (j : Int) ≤ (r.length : Int) + 1 := by omega
      have hj0 : (0 : Int) ≤ 1 + (j : Int) := by omega
      have htn : (1 + (j : Int)).toNat = 1 + j := by omega
      have HD : Hid (Row .u8 w lo hi (some ⟨g, sOff o ca (1 + j), none⟩) (r.drop j)) := hideP (by
        have := HR.out.from (1 + j) (cap := ca) (by simpa using hn)
        rwa [Nat.add_comm 1 j, List.drop_succ_cons, Nat.add_comm j 1] at this)
      have K3 := hideP (K1.out.trans (HK2.out.mono (by omega)))
      have R3' := hideP (R1.out.keep HK2.out (by omega))
      go_wp2_with fail
      have edl : r.length + 1 - (1 + j) = (r.drop j).length := by rw [HDL.out]; omega
      rw [edl]
      clear edl
      refine Calls.mono (sBytes_any lo hi _ _ (r.drop j) wr ((HD.out.keep K1.out hs).keep HK2.out (by omega)) (by omega) (by rw [HDL.out]; omega)) ?_
      rintro e w5 ⟨ao5, cap5, rfl, O5, k5⟩
      have n5 := k5.size
      have HX5 := hideP (HX1.out.keep k5 HX1.out.lt)
      have R5 := hideP (R3'.out.keep k5 R3'.out.lt)
      have A5 : Hid (Wrt .i64 w5 (w.heap.size + 1 + 1) wr.heap.size ao1 (r.take j)) := hideP (HO1.out.wrt.keep k5 (Nat.le_refl _))
      have W5 : Hid (Wrt .u8 w5 wr.heap.size w5.heap.size ao5 (r.drop j)) := hideP O5.wrt
      have K5 := hideP (K3.out.trans (k5.mono (by omega)))
      clear O5 k5 s0 s1 s2 s3 s4 s5 s6 HK2 HX1 HO1 R3' K3 S1 R1
      obtain ⟨s0, s1, s2, s3, s4, s5, s6⟩ := HX5.out
      go_wp2
      clear s0 s1 s2 s3 s4 s5 s6
      have HX6 := hideP (HX5.out.put2 (.slice ao5 (r.drop j).length cap5))
      have R6 : Hid (R3 (w5.setCell ⟨w.heap.size + 1, 2, none⟩ (.slice ao5 (r.drop j).length cap5)) w.heap.size (.int .i64 0) (.slice none 0 0) (.slice none 0 0)) := hideP (R5.out.keep (B := w.heap.size + 1) ((Below.refl _ _).setCell (by simp) _) (by omega))
      have A6 := hideP (A5.out.set ⟨w.heap.size + 1, 2, none⟩ (.slice ao5 (r.drop j).length cap5) (by simp))
      have W6 : Hid (Wrt .u8 (w5.setCell ⟨w.heap.size + 1, 2, none⟩ (.slice ao5 (r.drop j).length cap5)) wr.heap.size w5.heap.size ao5 (r.drop j)) := hideP (W5.out.set _ _ (by dsimp only; omega))
      have K6 := hideP (K5.out.setCell (p := ⟨w.heap.size + 1, 2, none⟩) (by simp) (.slice ao5 (r.drop j).length cap5))
      have n6 : (w5.setCell ⟨w.heap.size + 1, 2, none⟩ (.slice ao5 (r.drop j).length cap5)).heap.size = w5.heap.size := by simp
      obtain ⟨F, hF⟩ : ∃ F, rF k (r.take j) (r.drop j).length = F := ⟨_, rfl⟩
      have hFv : F = if r.length - j ≤ mD k then 0 else 2 := by rw [← hF]; exact HF.out
      have HF' := hideP hF
      have HFv := hideP hFv
      clear HF hF hFv HX5 R5 A5 W5 K5
      rw [HDL.out] at HX6 R6 A6 W6 K6 n6
      rw [HL.out] at HX6
      generalize w5.setCell ⟨w.heap.size + 1, 2, none⟩ (.slice ao5 (r.length - j) cap5) = W at *
      have n6' : w5.heap.size = W.heap.size := n6.symm
      rw [n6'] at W6 n5
      clear n6 n6'
      have nW : w.heap.size + 1 < W.heap.size := HX6.out.lt
      refine wp_region_held (S := Far w.heap.size (w.heap.size + 1) W) (by kernel_rfl) ?_
      show wpAnyH _ _ _ _ _ 5 (Array.replicate 5 false) _ W.drew
      have hK0 : Far w.heap.size (w.heap.size + 1) W W.drew := ⟨rfl, rfl, rfl, Nat.le_refl _, fun _ _ _ => rfl⟩
      generalize hQQ : (Exit.then _ _ : Exit → Act → World → Prop) = QQ
      have hQ : ∀ c a d v w, QQ (.panic c) (Act.put a d v) w → QQ (.panic c) a w := by
        subst hQQ
        intro c a d v w h
        cases d <;> exact h
      refine held_take (i := 0) rfl (by kernel_rfl) (by kernel_rfl) (by kernel_rfl) hQ hK0 (by rfl) ?_
      apply Exists.intro
      refine ⟨fun w1 k1 => ?_, fun K hK => ?_⟩
      · obtain ⟨s0, s1, s2, s3, s4, s5, s6⟩ := HX6.out.far k1 (by omega)
        go_simp
        first | done | rfl
      go_simp
      refine hK _ ?_
      clear hK K
      refine held_one (i := 1) rfl (by kernel_rfl) (by rfl) ?_
      have hIR : IsReq W.drew (w.heap.size + 1) 0 k (.slice ao1 j cap1) (.slice ao5 (r.length - j) cap5) := ⟨HX6.out.c0, HX6.out.c1, HX6.out.c2⟩
      have cF := l3F_any (w.heap.size + 1 + 1) wr.heap.size (w.heap.size + 1) 0 k ao1 ao5 cap1 (r.length - j) cap5 (r.take j) W.drew (by rw [HL.out]; exact hIR) ((A6.out.far hK0 (by omega) (by omega)).row) (by simp; omega)
      rw [← HDL.out, HF'.out] at cF
      refine wp_of_made (L := SaidNum F) ?_ ?_
      · exact made_call (by go_simp; first | done | rfl) (cF.mono fun e w' ⟨he, hb⟩ => ⟨_, he, hb, rfl⟩)
      rintro w7 v hb ⟨⟩
      have hK7 : Far w.heap.size (w.heap.size + 1) W w7 := hK0.trans (Far.of_below hb)
      refine ⟨hK7, ?_⟩
      refine norm_act fun K hK => ?_
      go_simp
      refine hK _ ?_
      clear hK K
      have n7 := hK7.size
      have HX7 := hideP (HX6.out.far hK7 (by omega))
      have R7 := hideP (R6.out.keep (B := W.heap.size) ((show Below W.heap.size W W.drew from (Below.refl _ _).drew).trans hb) (by omega))
      have A7 := hideP (A6.out.far hK7 (by omega) (by omega))
      have W7 := hideP (W6.out.far hK7 (by omega) (by omega))
      have K7 := hideP (K6.out.trans (hK7.below (B := w.heap.size) (Nat.le_refl _) (by omega)))
      obtain ⟨q0, q1, q2, q3, q4, q5, q6⟩ := R7.out
      by_cases h3 : r.length - j ≤ mD k
      · have hF0 : F = 0 := by rw [HFv.out, if_pos h3]
        subst hF0
        refine held_take (i := 2) rfl (by kernel_rfl) (by kernel_rfl) (by kernel_rfl) hQ hK7 (by rfl) ?_
        apply Exists.intro
        refine ⟨fun w1 k1 => ?_, fun K hK => ?_⟩
        · go_simp
          first | done | rfl
        go_simp
        refine hK _ ?_
        clear hK K
        refine held_one (i := 3) rfl (by kernel_rfl) (by rfl) ?_
        refine wp_of_skip (w' := ((w7.setCell ⟨w.heap.size, 0, none⟩ (.int .i64 k)).setCell ⟨w.heap.size, 1, none⟩ (.slice ao1 j cap1)).setCell ⟨w.heap.size, 2, none⟩ (.slice ao5 (r.length - j) cap5)) (by go_simp; first | done | rfl) ?_
        have hK8 : Far w.heap.size (w.heap.size + 1) W (((w7.setCell ⟨w.heap.size, 0, none⟩ (.int .i64 k)).setCell ⟨w.heap.size, 1, none⟩ (.slice ao1 j cap1)).setCell ⟨w.heap.size, 2, none⟩ (.slice ao5 (r.length - j) cap5)) := ((hK7.setCell (p := ⟨w.heap.size, 0, none⟩) (Nat.le_refl _) (by simp) _).setCell (p := ⟨w.heap.size, 1, none⟩) (Nat.le_refl _) (by simp) _).setCell (p := ⟨w.heap.size, 2, none⟩) (Nat.le_refl _) (by simp) _
        refine ⟨hK8, ?_⟩
        refine norm_act fun K hK => ?_
        go_simp
        refine hK _ ?_
        clear hK K
        refine held_one (i := 4) rfl (by kernel_rfl) (by rfl) ?_
        refine wp_of_run (v := .bool true) (w' := ((w7.setCell ⟨w.heap.size, 0, none⟩ (.int .i64 k)).setCell ⟨w.heap.size, 1, none⟩ (.slice ao1 j cap1)).setCell ⟨w.heap.size, 2, none⟩ (.slice ao5 (r.length - j) cap5)) (by go_simp; first | done | rfl) ?_
        refine ⟨hK8, ?_⟩
        refine norm_act fun K hK => ?_
        go_simp
        refine hK _ ?_
        clear hK K
        refine wpAnyH_done (by kernel_rfl) ?_ _
        subst hQQ
        clear hQ hK0 hK7 hK8 hb cF hIR
        go_wp2
        refine bodyPost_ret (v := .tuple #[.agg #[.int .i64 k, .slice ao1 j cap1, .slice ao5 (r.length - j) cap5], .bool true]) (by simp [results, Tryz.results30, go_sem, *]) rfl ?_
        obtain ⟨y0, y1, y2, y3⟩ := HY.out h3
        refine .inr ⟨y0, ao1, cap1, ao5, cap5, wr.heap.size, by rw [y1, y2, y3, HL.out, HDL.out], ?_, by omega, by simp; omega, ?_, ?_⟩
        · repeat' (first | exact K7.out | (with_reducible refine Below.setCell ?_ ?_ _) | go_size)
        · rw [y2]
          refine Wrt.wide (lo := w.heap.size + 1 + 1) (hi := wr.heap.size) ?_ (by omega) (Nat.le_refl _)
          repeat (refine Wrt.set ?_ _ _ (by dsimp only; omega))
          exact A7.out
        · rw [y3]
          simp only [World.size_setCell]
          refine Wrt.wide (lo := wr.heap.size) (hi := W.heap.size) ?_ (Nat.le_refl _) n7
          repeat (refine Wrt.set ?_ _ _ (by dsimp only; omega))
          exact W7.out
      · have hF0 : F = 2 := by rw [HFv.out, if_neg h3]
        subst hF0
        refine held_take (i := 2) rfl (by kernel_rfl) (by kernel_rfl) (by kernel_rfl) hQ hK7 (by rfl) ?_
        apply Exists.intro
        refine ⟨fun w1 k1 => ?_, fun K hK => ?_⟩
        · go_simp
          first | done | rfl
        go_simp
        refine hK _ ?_
        clear hK K
        refine held_one (i := 3) rfl (by kernel_rfl) (by rfl) ?_
        refine wp_of_skip (w' := ((w7.setCell ⟨w.heap.size, 0, none⟩ (.int .i64 k)).setCell ⟨w.heap.size, 1, none⟩ (.slice ao1 j cap1)).setCell ⟨w.heap.size, 2, none⟩ (.slice ao5 (r.length - j) cap5)) (by go_simp; first | done | rfl) ?_
        have hK8 : Far w.heap.size (w.heap.size + 1) W (((w7.setCell ⟨w.heap.size, 0, none⟩ (.int .i64 k)).setCell ⟨w.heap.size, 1, none⟩ (.slice ao1 j cap1)).setCell ⟨w.heap.size, 2, none⟩ (.slice ao5 (r.length - j) cap5)) := ((hK7.setCell (p := ⟨w.heap.size, 0, none⟩) (Nat.le_refl _) (by simp) _).setCell (p := ⟨w.heap.size, 1, none⟩) (Nat.le_refl _) (by simp) _).setCell (p := ⟨w.heap.size, 2, none⟩) (Nat.le_refl _) (by simp) _
        refine ⟨hK8, ?_⟩
        refine norm_act fun K hK => ?_
        go_simp
        refine hK _ ?_
        clear hK K
        refine held_one (i := 4) rfl (by kernel_rfl) (by rfl) ?_
        refine wp_of_run (v := .bool false) (w' := ((w7.setCell ⟨w.heap.size, 0, none⟩ (.int .i64 k)).setCell ⟨w.heap.size, 1, none⟩ (.slice ao1 j cap1)).setCell ⟨w.heap.size, 2, none⟩ (.slice ao5 (r.length - j) cap5)) (by go_simp; first | done | rfl) ?_
        refine ⟨hK8, ?_⟩
        refine norm_act fun K hK => ?_
        go_simp
        refine hK _ ?_
        clear hK K
        refine wpAnyH_done (by kernel_rfl) ?_ _
        subst hQQ
        clear hQ hK0 hK7 hK8 hb cF hIR
        go_wp2
        refine bodyPost_ret (v := .tuple #[.agg #[.int .i64 k, .slice ao1 j cap1, .slice ao5 (r.length - j) cap5], .bool false]) (by simp [results, Tryz.results30, go_sem, *]) rfl ?_
        refine .inl ⟨HNo.out h3, ⟨k, ao1, j, cap1, ao5, r.length - j, cap5, rfl⟩, ?_⟩
        repeat' (first | exact K7.out | (with_reducible refine Below.setCell ?_ ?_ _) | go_size)

/-- Reading of a body by the model, at every body. -/
theorem sRd_any (lo hi : Nat) (ao : Option Addr) (ca : Nat) (L : List Int) (w : World) (hR : Row .u8 w lo hi ao L) (hs : hi ≤ w.heap.size) (hn : L.length ≤ ca) (hl : L.length ≤ 2097152) (hB : byts L) :
    Calls Tryz.prog 30 #[.slice ao L.length ca] w (ReadS w L) := by
  cases L with
  | nil => exact sRd_nil ao ca w
  | cons k r =>
    obtain ⟨g, o, rfl, hc⟩ := row_head hR
    have hk : 0 ≤ k ∧ k ≤ 255 := hB 0 (by simp)
    simp only [List.length_cons] at hn hl ⊢
    by_cases h1 : aC k = 0
    · have h1' := aC_iff.1 h1
      by_cases h2 : aN k ≤ r.length
      · exact sRd_full lo hi g o ca k r w hR hs hn hl hB h1'.1 h1'.2 h2
      · exact sRd_short g o ca k r w hc hl hk.1 hk.2 h1'.1 h1'.2 (by omega)
    · exact sRd_kind g o ca k r w hc hl hk.1 hk.2 (by have := mt aC_iff.2 h1; omega)

end Go.Proofs.YtbceacnadkhdoaaGreatDoor
