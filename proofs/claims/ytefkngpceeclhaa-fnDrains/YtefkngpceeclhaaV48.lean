/- FnDrains: the law's walk. -/
import Derived.Test.YtefkngpceeclhaaV43
import Derived.Test.YtefkngpceeclhaaV45
import Derived.Test.YtefkngpceeclhaaV46
import Derived.Test.YtefkngpceeclhaaV47
import Derived.Test.YtefkngpceeclhaaV39
namespace Go.Proofs.Ytefkngpceeclhaa
open Go.RowKit
set_option linter.unusedVariables false
attribute [local go_sem] growUpon growAt growUponR growAtR

theorem take_minQ (C : List (Int × List Int)) (i : Nat) : C.take (Nat.min i C.length) = C.take i := by
  show C.take (min i C.length) = _
  rcases Nat.le_total i C.length with h | h
  · rw [Nat.min_eq_left h]
  · rw [Nat.min_eq_right h, List.take_of_length_le h, List.take_length]
theorem drop_minQ (C : List (Int × List Int)) (i : Nat) : C.drop (Nat.min i C.length) = C.drop i := by
  show C.drop (min i C.length) = _
  rcases Nat.le_total i C.length with h | h
  · rw [Nat.min_eq_left h]
  · rw [Nat.min_eq_right h, List.drop_length, List.drop_of_length_le h]
theorem msF_allQ : ∀ {C : List (Int × List Int)}, (∀ t ∈ C, mF t = 0) → msF C = 0
  | [], _ => rfl
  | t :: C, h => by rw [msF, if_pos (h t (by simp))]; exact msF_allQ fun u hu => h u (by simp [hu])
theorem qF_drop {C : List (Int × List Int)} (h : qF C = 0) (i : Nat) : qF (C.drop i) = 0 := by
  obtain ⟨h1, h2⟩ := qF_nn C h
  rw [qF_few (by rw [List.length_drop]; omega)]
  exact msF_allQ fun t ht => msF_mem h2 t (List.mem_of_mem_drop ht)
theorem dr_split {C : List (Int × List Int)} {n c : Int} (v : Bool) (h : drC C n = 0) (c0 : 0 ≤ c) (c1 : c ≤ n) :
    drC C c = 0 ∧ drC (dr2 C c) (n - c) = 0 ∧ dr1 C c ++ dr1 (dr2 C c) (n - c) = dr1 C n ∧ dr2 (dr2 C c) (n - c) = dr2 C n ∧ qF (dr2 C n) = 0 ∧ (dr1 C n).length + (dr2 C n).length = C.length ∧ drV C c v = v ∧ drV (dr2 C c) (n - c) v = v ∧ drV C n v = v := by
  obtain ⟨hq, n0, n10⟩ := drC_zero h
  have h1 : drC C c = 0 := drC_ok hq (by omega)
  have e2 : ∀ m, drC C m = 0 → dr2 C m = C.drop m.toNat := fun m hm => by unfold dr2 drK; rw [if_pos hm, drop_minQ]
  have e1 : ∀ m, drC C m = 0 → dr1 C m = C.take m.toNat := fun m hm => by unfold dr1 drK; rw [if_pos hm, take_minQ]
  have hq2 : qF (dr2 C c) = 0 := by rw [e2 c h1]; exact qF_drop hq _
  have h2 : drC (dr2 C c) (n - c) = 0 := drC_ok hq2 (by omega)
  have f1 : dr1 (dr2 C c) (n - c) = (dr2 C c).take (n - c).toNat := by unfold dr1 drK; rw [if_pos h2, take_minQ]
  have f2 : dr2 (dr2 C c) (n - c) = (dr2 C c).drop (n - c).toNat := by rw [dr2, drK, if_pos h2, drop_minQ]
  have hs : n.toNat = c.toNat + (n - c).toNat := by omega
  refine ⟨h1, h2, ?_, ?_, ?_, ?_, ?_, ?_, ?_⟩
  · rw [f1, e1 c h1, e2 c h1, e1 n h, hs, List.take_add]
  · rw [f2, e2 c h1, e2 n h, hs, List.drop_drop]
  · rw [e2 n h]; exact qF_drop hq _
  · rw [e1 n h, e2 n h, ← List.length_append, List.take_append_drop]
  · unfold drV; rw [if_pos h1]
  · unfold drV; rw [if_pos h2]
  · unfold drV; rw [if_pos h]
theorem iDrain_len (lo hi : Nat) (so : Option Addr) (sc : Nat) (L : List Mg) (v : Bool) (n : Int) (w : World) (hL : Ms w lo hi so L) (hs : hi ≤ w.heap.size) (hn : L.length + mzs L ≤ 1048576) :
    Calls Try.prog 22 #[.agg #[.slice so L.length sc, .bool v], .int .i64 n] w fun e w' =>
      ∃ (s1 s2 : Option Addr) (c1 c2 : Nat) (L1 L2 : List Mg), e = .returned (.agg #[.int .i64 (drC (L.map Mg.ct) n), .slice s1 L1.length c1, .slice s2 L2.length c2, .bool (drV (L.map Mg.ct) n v)]) ∧ L1.map Mg.ct = dr1 (L.map Mg.ct) n ∧ L2.map Mg.ct = dr2 (L.map Mg.ct) n ∧ QM w' w.heap.size w'.heap.size s1 L1 s2 L2 ∧ Below w.heap.size w w' := by
  refine (iDrain_any lo hi so sc L v n w hL hs hn).mono ?_
  rintro e w' ⟨s1, s2, c1, c2, L1, L2, he, h1, h2, l1, l2, q, k⟩
  exact ⟨s1, s2, c1, c2, L1, L2, by rw [he, l1, l2], h1, h2, q, k⟩
theorem Ms.mem {w : World} {lo hi : Nat} {so : Option Addr} {L : List Mg} (h : Ms w lo hi so L) : ∀ m ∈ L, Row .u8 w lo hi m.b.ao m.b.L := by
  rcases h with rfl | ⟨g, o, _, _, _, hc⟩
  · intro m hm; simp at hm
  · intro m hm
    obtain ⟨i, hi, rfl⟩ := List.getElem_of_mem hm
    exact (hc i hi).2
theorem fB0 (z : Int) (s1 : Option Addr) (n1 c1 : Nat) (w : World) : Sem.run Try.prog (Instr.field 43 (.agg #[.int .i64 z, .slice s1 n1 c1]) 0) w = .ok (.int .i64 z) w := by kernel_rfl
theorem fB1 (z : Int) (s1 : Option Addr) (n1 c1 : Nat) (w : World) : Sem.run Try.prog (Instr.field 43 (.agg #[.int .i64 z, .slice s1 n1 c1]) 1) w = .ok (.slice s1 n1 c1) w := by kernel_rfl
theorem fQ0 (z : Int) (s1 s2 : Option Addr) (n1 c1 n2 c2 : Nat) (v : Bool) (w : World) : Sem.run Try.prog (Instr.field 32 (.agg #[.int .i64 z, .slice s1 n1 c1, .slice s2 n2 c2, .bool v]) 0) w = .ok (.int .i64 z) w := by kernel_rfl
attribute [local go_sem] fB0 fB1 fQ0
theorem Bytes.upQ {w w' : World} {a : Option Addr} {len : Nat} {f : Nat → Int} (h : Bytes w w.heap.size a len f) (k : Below w.heap.size w w') : Bytes w' w'.heap.size a len f := by
  have h2 := h.stay (Nat.le_refl _) (Turn.of_below (b := w.heap.size) k) (Nat.le_refl _)
  rcases h2 with h | ⟨xb, xo, ha, hx, hc⟩
  · exact .inl h
  · exact .inr ⟨xb, xo, ha, Nat.lt_of_lt_of_le hx k.size, hc⟩

set_option maxHeartbeats 400000 in
theorem fd_big (w : World) (a : Option Addr) (len cap : Nat) (hl : len ≤ maxLen) (h : 1048576 < len) :
    Calls Try.prog 4 #[.slice a len cap] w fun e w' => e = .returned (.bool true) ∧ Below w.heap.size w w' := by
  have hb := bigQ w a len cap hl
  rw [decide_eq_true (by omega : (1048576 : Int) < (len : Int))] at hb
  go_enter Try.func4, Try.ntmps4
  go_wp2_with fail
  refine Calls.mono hb ?_
  rintro e w1 ⟨rfl, rfl⟩
  go_wp2
  go_returns
  exact ⟨rfl, Below.refl _ _⟩

set_option maxRecDepth 100000 in
set_option maxHeartbeats 8000000 in
theorem fd_small (w : World) (a : Option Addr) (len cap : Nat) (f : Nat → Int) (hB : Bytes w w.heap.size a len f) (hl : len ≤ 1048576) :
    Calls Try.prog 4 #[.slice a len cap] w fun e w' => e = .returned (.bool true) ∧ Below w.heap.size w w' := by
  have hb := bigQ w a len cap (by unfold maxLen; omega)
  rw [decide_eq_false (by omega : ¬ (1048576 : Int) < (len : Int))] at hb
  have HBb := hideP hb
  have DQ := hideP (drawDQ_any w a len cap f hB hl)
  have DM := hideP (fun w1 (k : Below w.heap.size w w1) => drawPM_any w1 a len cap f (hB.upQ k) hl)
  have AT := hideP (fun w1 n (k : Below w.heap.size w w1) (n0 : 1 ≤ n) (n1 : n ≤ 1000) => atQ w1 a len cap w1.heap.size f 2 n (hB.upQ k) hl (by omega) (by omega) n0 n1)
  clear hb hB
  go_enter Try.func4, Try.ntmps4
  go_wp2_with fail
  refine Calls.mono HBb.out ?_
  rintro e w1 ⟨rfl, hw1⟩
  subst w1
  go_wp2_with fail
  refine Calls.mono DQ.out ?_
  rintro e w1 ⟨s, c, M, v, n, rfl, hok, hby, hM13, hn0, hn11, hMs, k1⟩
  have hn : M.length + mzs M ≤ 1048576 := by have := mzs_okB M hok; omega
  have kb := kalM w1 (.cells #[.slice s M.length c, .bool v] 26)
  have A2 := hideP (rb_new w1 (.slice s M.length c) (.bool v) 26)
  have K2 := hideP (k1.trans (kb.mono k1.size))
  have M2 := hideP ((hMs.keep kb (Nat.le_refl _)).wide (lo' := 0) (Nat.zero_le _) kb.size)
  clear hMs k1 kb hok hby
  go_wp2_with fail
  generalize w1.alloc (.cells #[.slice s M.length c, .bool v] 26) = w2 at *
  refine Calls.mono (iDrain_len 0 w2.heap.size s c M v n w2 M2.out (Nat.le_refl _) hn) ?_
  rintro e w3 ⟨s1, s2, c1, c2, L1, L2, rfl, hL1, hL2, Q3, k3⟩
  have ka := kalM w3 (.cells #[.int .i64 (drC (M.map Mg.ct) n), .slice s1 L1.length c1, .slice s2 L2.length c2, .bool (drV (M.map Mg.ct) n v)] 32)
  have k4 := k3.trans (ka.mono k3.size)
  have A4 := hideP (A2.out.keep k4 A2.out.lt)
  have C4 : Hid (R4 (w3.alloc (.cells #[.int .i64 (drC (M.map Mg.ct) n), .slice s1 L1.length c1, .slice s2 L2.length c2, .bool (drV (M.map Mg.ct) n v)] 32)) w3.heap.size _ _ _ _) := hideP (r4_new _ _ _ _ _ _)
  have K4 := hideP (K2.out.trans (k4.mono K2.out.size))
  have M4 := hideP (M2.out.up k4)
  have X4 := hideP ((Q3.ms1.wide (lo' := 0) (Nat.zero_le _) (Nat.le_refl _)).up ka)
  have Y4 := hideP ((Q3.ms2.wide (lo' := 0) (Nat.zero_le _) (Nat.le_refl _)).up ka)
  have H1 := hideP (And.intro hL1 hL2)
  clear k3 ka k4 A2 K2 M2 Q3 hL1 hL2
  go_wp2_with fail
  generalize w3.alloc (.cells #[.int .i64 (drC (M.map Mg.ct) n), .slice s1 L1.length c1, .slice s2 L2.length c2, .bool (drV (M.map Mg.ct) n v)] 32) = w4 at *
  refine Calls.mono (DM.out w4 K4.out) ?_
  rintro e w5 ⟨sl, cl, LL, rfl, hbyl, hLL, hmzl, hMl, k5⟩
  have hnl : LL.length + mzs LL ≤ 1048576 := by omega
  have A5 := hideP (A4.out.keep k5 A4.out.lt)
  have C5 := hideP (C4.out.keep k5 C4.out.lt)
  have K5 := hideP (K4.out.trans (k5.mono K4.out.size))
  have M5 := hideP (M4.out.up k5)
  have X5 := hideP (X4.out.up k5)
  have Y5 := hideP (Y4.out.up k5)
  have L5 := hideP (hMl.wide (lo' := 0) (Nat.zero_le _) (Nat.le_refl _))
  clear k5 A4 C4 K4 M4 X4 Y4 hMl hbyl DM DQ HBb
  go_wp2_with fail
  refine Calls.mono (iPack_any 0 w5.heap.size sl cl LL w5 L5.out (Nat.le_refl _) hnl) ?_
  rintro e w6 ⟨po, pc, rfl, OP, k6⟩
  have ka := kalM w6 (.cells #[.int .i64 (pkC (LL.map Mg.ct)), .slice po (pkB (LL.map Mg.ct)).length pc] 43)
  have k7 := k6.trans (ka.mono k6.size)
  have S7 : Hid (D1 w (w6.alloc (.cells #[.int .i64 (pkC (LL.map Mg.ct)), .slice po (pkB (LL.map Mg.ct)).length pc] 43)) w1.heap.size w3.heap.size w6.heap.size _ _ _ _ _ _ _ _ s s1 s2 sl po M L1 L2 LL (pkB (LL.map Mg.ct))) :=
    hideP ⟨K5.out.trans (k7.mono K5.out.size), A5.out.keep k7 A5.out.lt, C5.out.keep k7 C5.out.lt, rb_new w6 _ _ _, M5.out.up k7, X5.out.up k7, Y5.out.up k7, L5.out.up k7, ((OP.wrt.row.keep ka (Nat.le_refl _)).wide (Nat.zero_le _) ka.size)⟩
  clear OP k6 ka k7 A5 C5 K5 M5 X5 Y5 L5
  obtain ⟨a0, a1, a2, a3, a4⟩ := S7.out.A
  obtain ⟨d0, d1, d2, d3, d4, d5, d6, d7, d8⟩ := S7.out.C
  obtain ⟨p0, p1, p2, p3, p4⟩ := S7.out.P
  go_wp2_with fail
  clear a0 a1 a2 a3 a4 d0 d1 d2 d3 d4 d5 d6 d7 d8 p0 p1 p2 p3 p4
  generalize w6.alloc (.cells #[.int .i64 (pkC (LL.map Mg.ct)), .slice po (pkB (LL.map Mg.ct)).length pc] 43) = w7 at *
  generalize w6.heap.size = x7 at *
  generalize w3.heap.size = x5 at *
  generalize w1.heap.size = x3 at *
  have SP := hideP (fun w1 (kk : Kept w7 w1) => sPack_any 0 w1.heap.size sl cl LL w1 (S7.out.keep (Kept.below kk)).L (Nat.le_refl _) hnl)
  have SD := hideP (fun w1 (kk : Kept w7 w1) => sDrain_any 0 w1.heap.size s c M v n w1 (S7.out.keep (Kept.below kk)).M (Nat.le_refl _) hn)
  unfold PkA at SP
  unfold DrA QAns at SD
  obtain ⟨C, hC⟩ : ∃ C, M.map Mg.ct = C := ⟨_, rfl⟩
  rw [hC] at S7 SD H1
  obtain ⟨zd, hzd⟩ : ∃ zd, drC C n = zd := ⟨_, rfl⟩
  rw [hzd] at S7 SD
  generalize pkC (LL.map Mg.ct) = zk at *
  generalize pkB (LL.map Mg.ct) = PB at *
  have HC := hideP hC
  have HZD := hideP hzd
  clear hC hzd
  obtain ⟨a0, a1, a2, a3, a4⟩ := S7.out.A
  obtain ⟨d0, d1, d2, d3, d4, d5, d6, d7, d8⟩ := S7.out.C
  obtain ⟨p0, p1, p2, p3, p4⟩ := S7.out.P
  refine wp_region_plan (R := Kept) (G := Kept) rel_keptA rel_keptA (fun h => h) 15 [(true, 0), (true, 1), (true, 2), (false, 3), (true, 4), (true, 5), (true, 6), (true, 7), (true, 8), (true, 9), (false, 10), (true, 11), (true, 12), (true, 13), (true, 14)] (by kernel_rfl) (by kernel_rfl) ?_
  simp only [selP, List.filterMap_cons, List.filterMap_nil, List.getElem?_cons_succ, List.getElem?_cons_zero, Option.map_some]
  repeat (refine plan_take _ (by first | exact wanted_free rfl | exact wanted_yes rfl rfl | exact wanted_no rfl rfl) (by first | with_reducible rfl | decide) ?_; apply Exists.intro; refine ⟨fun w1 k1 => ?_, fun K hK => ?_⟩; (focus (have hc := Kept.cell k1; go_simp; first | done | rfl)); (go_simp; refine hK _ ?_; clear hK K))
  refine plan_made _ (by first | exact wanted_free rfl | exact wanted_yes rfl rfl | exact wanted_no rfl rfl) (by first | with_reducible rfl | decide) fun v1 j1 => ?_
  have jj1 : Kept w7 v1 := j1
  refine made_callsR (by go_simp; first | done | rfl) ((SP.out v1 jj1).mono ?_)
  rintro e v2 ⟨ao2, cap2, rfl, O2, j2⟩
  have jj2 : Kept w7 v2 := Below.trans jj1 (Below.mono j2 jj1.size)
  refine ⟨_, rfl, j2, fun K hK => ?_⟩
  go_simp
  refine hK _ ?_
  clear hK K
  clear O2
  clear a0 a1 a2 a3 a4 d0 d1 d2 d3 d4 d5 d6 d7 d8 p0 p1 p2 p3 p4
  obtain ⟨a0, a1, a2, a3, a4⟩ := (S7.out.keep (Kept.below jj2)).A
  obtain ⟨d0, d1, d2, d3, d4, d5, d6, d7, d8⟩ := (S7.out.keep (Kept.below jj2)).C
  obtain ⟨p0, p1, p2, p3, p4⟩ := (S7.out.keep (Kept.below jj2)).P
  repeat (refine plan_take _ (by first | exact wanted_free rfl | exact wanted_yes rfl rfl | exact wanted_no rfl rfl) (by first | with_reducible rfl | decide) ?_; apply Exists.intro; refine ⟨fun w1 k1 => ?_, fun K hK => ?_⟩; (focus (have hc := Kept.cell k1; go_simp; first | done | rfl)); (go_simp; refine hK _ ?_; clear hK K))
  refine plan_made _ (by first | exact wanted_free rfl | exact wanted_yes rfl rfl | exact wanted_no rfl rfl) (by first | with_reducible rfl | decide) fun v3 j3 => ?_
  have jj3 : Kept w7 v3 := Below.trans jj2 (Below.mono j3 jj2.size)
  refine made_callsR (by go_simp; first | done | rfl) ((SP.out v3 jj3).mono ?_)
  rintro e v4 ⟨ao4, cap4, rfl, O4, j4⟩
  have jj4 : Kept w7 v4 := Below.trans jj3 (Below.mono j4 jj3.size)
  refine ⟨_, rfl, j4, fun K hK => ?_⟩
  go_simp
  refine hK _ ?_
  clear hK K
  have BY := hideP (fun w1 (kk : Kept v4 w1) => bytes_same 0 w7.heap.size v3.heap.size v4.heap.size po ao4 pc cap4 PB w1 (S7.out.R.keep (Below.trans jj4 (Below.mono kk jj4.size)) (Nat.le_refl _)) (O4.wrt.row.keep (Kept.below kk) (Nat.le_refl _)))
  clear O4
  clear a0 a1 a2 a3 a4 d0 d1 d2 d3 d4 d5 d6 d7 d8 p0 p1 p2 p3 p4
  obtain ⟨a0, a1, a2, a3, a4⟩ := (S7.out.keep (Kept.below jj4)).A
  obtain ⟨d0, d1, d2, d3, d4, d5, d6, d7, d8⟩ := (S7.out.keep (Kept.below jj4)).C
  obtain ⟨p0, p1, p2, p3, p4⟩ := (S7.out.keep (Kept.below jj4)).P
  repeat (refine plan_take _ (by first | exact wanted_free rfl | exact wanted_yes rfl rfl | exact wanted_no rfl rfl) (by first | with_reducible rfl | decide) ?_; apply Exists.intro; refine ⟨fun w1 k1 => ?_, fun K hK => ?_⟩; (focus (have hc := Kept.cell k1; go_simp; first | done | (go_at_call 20; exact kept_call_same (Below.refl _ _) (BY.out _ k1)) | rfl)); (go_simp; refine hK _ ?_; clear hK K))
  refine plan_nil fun w8 k8 => ?_
  simp only [List.drop_succ_cons, List.drop_zero]
  have S8 := hideP (S7.out.keep (Below.trans jj4 (Below.mono k8 jj4.size)))
  have SD' := hideP (fun w1 (kk : Kept w8 w1) => SD.out w1 (Below.trans jj4 (Below.mono (Below.trans k8 (Below.mono kk k8.size)) jj4.size)))
  clear j1 jj1 j2 jj2 j3 jj3 j4 jj4 k8 SP BY SD S7
  clear a0 a1 a2 a3 a4 d0 d1 d2 d3 d4 d5 d6 d7 d8 p0 p1 p2 p3 p4
  clear v1 v2 v3 v4
  obtain ⟨a0, a1, a2, a3, a4⟩ := S8.out.A
  obtain ⟨d0, d1, d2, d3, d4, d5, d6, d7, d8⟩ := S8.out.C
  obtain ⟨p0, p1, p2, p3, p4⟩ := S8.out.P
  by_cases hz : zd = 0
  · subst hz
    obtain ⟨hqC, n0, n10⟩ := drC_zero HZD.out
    have hw : IntKind.i64.wrap (n + 1) = n + 1 := IntWalk.i64_in _ (by omega)
    clear hqC
    go_wp2_with fail
    clear a0 a1 a2 a3 a4 d0 d1 d2 d3 d4 d5 d6 d7 d8 p0 p1 p2 p3 p4
    refine Calls.mono (AT.out w8 (n + 1) S8.out.K (by omega) (by omega)) ?_
    rintro e w9 ⟨cut, rfl, hc0, hc1, k9⟩
    have S9 := hideP (S8.out.keep k9)
    obtain ⟨e1, e2, e3, e4, e5, e6, e7, e8, e9⟩ := dr_split v HZD.out hc0 (by omega : cut ≤ n)
    have DA := iDrain_len 0 w9.heap.size s c M v cut w9 S9.out.M (Nat.le_refl _) hn
    rw [HC.out, e1, e7] at DA
    rw [e9] at S9
    have DA' := hideP DA
    have HE := hideP (And.intro e2 (And.intro e3 (And.intro e4 (And.intro e5 (And.intro e6 e8)))))
    have hw2 : IntKind.i64.wrap (n - cut) = n - cut := IntWalk.i64_in _ (by omega)
    clear k9 S8 SD' AT DA hw e1 e2 e3 e4 e5 e6 e7 e8 e9
    obtain ⟨a0, a1, a2, a3, a4⟩ := S9.out.A
    go_wp2_with fail
    clear a0 a1 a2 a3 a4
    refine Calls.mono DA'.out ?_
    rintro e w10 ⟨sa1, sa2, ca1, ca2, A1, A2, rfl, hA1, hA2, Qa, k10⟩
    have ka := kalM w10 (.cells #[.int .i64 0, .slice sa1 A1.length ca1, .slice sa2 A2.length ca2, .bool v] 32)
    have k11 := k10.trans (ka.mono k10.size)
    have S11 := hideP (S9.out.keep k11)
    have E11 := hideP (r4_new w10 (.int .i64 0) (.slice sa1 A1.length ca1) (.slice sa2 A2.length ca2) (.bool v) 32)
    have XA := hideP ((Qa.ms1.wide (lo' := 0) (Nat.zero_le _) (Nat.le_refl _)).up ka)
    have YA := hideP ((Qa.ms2.wide (lo' := 0) (Nat.zero_le _) (Nat.le_refl _)).up ka)
    have nA1 := (dr_small (C := C) (n := cut)).1 A1 hA1
    have nA2 := (dr_small (C := C) (n := cut)).2 A2 hA2
    have DB := fun W (hW : Ms W 0 W.heap.size sa2 A2) => iDrain_len 0 W.heap.size sa2 ca2 A2 v (n - cut) W hW (Nat.le_refl _) (by omega)
    rw [hA2, HE.out.1, HE.out.2.2.2.2.2] at DB
    have DB' := hideP DB
    have HA1 := hideP hA1
    clear DB ka k10 k11 Qa S9 DA' hA1 hA2
    obtain ⟨e0, e1, e2, e3, e4, e5, e6, e7, e8⟩ := E11.out
    go_wp2_with fail
    clear e0 e1 e2 e3 e4 e5 e6 e7 e8
    generalize w10.alloc (.cells #[.int .i64 0, .slice sa1 A1.length ca1, .slice sa2 A2.length ca2, .bool v] 32) = w11 at *
    refine Calls.mono (DB'.out w11 YA.out) ?_
    rintro e w12 ⟨sb1, sb2, cb1, cb2, B1, B2, rfl, hB1, hB2, Qb, k12⟩
    have ka := kalM w12 (.cells #[.int .i64 0, .slice sb1 B1.length cb1, .slice sb2 B2.length cb2, .bool v] 32)
    have k13 := k12.trans (ka.mono k12.size)
    have S13 := hideP (S11.out.keep k13)
    have E13 := hideP (E11.out.keep k13 E11.out.lt)
    have F13 := hideP (r4_new w12 (.int .i64 0) (.slice sb1 B1.length cb1) (.slice sb2 B2.length cb2) (.bool v) 32)
    have XA13 := hideP (XA.out.up k13)
    have XB13 := hideP ((Qb.ms1.wide (lo' := 0) (Nat.zero_le _) (Nat.le_refl _)).up ka)
    have YB13 := hideP ((Qb.ms2.wide (lo' := 0) (Nat.zero_le _) (Nat.le_refl _)).up ka)
    have nB1 := (dr_small (C := dr2 C cut) (n := n - cut)).1 B1 hB1
    have nB2 := (dr_small (C := dr2 C cut) (n := n - cut)).2 B2 hB2
    have nL1 := (dr_small (C := C) (n := n)).1 L1 H1.out.1
    have nL2 := (dr_small (C := C) (n := n)).2 L2 H1.out.2
    have HBO : Hid ((A1 ++ B1).map Mg.ct = dr1 C n) := hideP (by rw [List.map_append, HA1.out, hB1]; exact HE.out.2.1)
    have HB2 : Hid (B2.map Mg.ct = L2.map Mg.ct) := hideP (by rw [hB2, HE.out.2.2.1, H1.out.2])
    have HQF : Hid (qF (L2.map Mg.ct) = 0) := hideP (by rw [H1.out.2]; exact HE.out.2.2.2.1)
    have hlen : L1.length + L2.length = M.length := by
      have := HE.out.2.2.2.2.1
      rw [← H1.out.1, ← H1.out.2, ← HC.out] at this
      simpa using this
    have hbl : (A1 ++ B1).length = L1.length := by
      have := congrArg List.length (HBO.out.trans H1.out.1.symm)
      simpa using this
    have hab : A1.length + B1.length = L1.length := by simpa using hbl
    have nBO : (A1 ++ B1).length + mzs (A1 ++ B1) ≤ 1048576 := by rw [hbl, mzs_app]; omega
    have hA1s : A1.length ≤ 500 := by omega
    have hB1s : B1.length ≤ 500 := by omega
    clear ka k12 k13 Qb XA YA S11 E11 DB' hB1 hB2 HE
    go_wp2_with fail
    generalize w12.alloc (.cells #[.int .i64 0, .slice sb1 B1.length cb1, .slice sb2 B2.length cb2, .bool v] 32) = w13 at *
    generalize w10.heap.size = x9 at *
    generalize w12.heap.size = x10 at *
    obtain ⟨e0, e1, e2, e3, e4, e5, e6, e7, e8⟩ := E13.out
    obtain ⟨f0, f1, f2, f3, f4, f5, f6, f7, f8⟩ := F13.out
    refine wp_region_held (S := Kept w13) (by kernel_rfl) ?_
    show wpAnyH _ _ _ _ _ 8 (Array.replicate 8 false) _ (w13).drew
    generalize hQQ : (Exit.then _ _ : Exit → Act → World → Prop) = QQ
    have hQ : ∀ c a d v w, QQ (.panic c) (Act.put a d v) w → QQ (.panic c) a w := by
      subst hQQ
      intro c a d v w h
      cases d <;> exact h
    have hK0 : Kept w13 w13.drew := (Below.refl _ _).drew
    refine held_take (i := 1) rfl (by kernel_rfl) (by kernel_rfl) (by kernel_rfl) hQ hK0 (by rfl) ?_
    apply Exists.intro
    refine ⟨fun w1 k1 => ?_, fun K hK => ?_⟩
    · have hc := Kept.cell k1
      go_simp
      first | done | rfl
    go_simp
    refine hK _ ?_
    clear hK K
    refine held_take (i := 2) rfl (by kernel_rfl) (by kernel_rfl) (by kernel_rfl) hQ hK0 (by rfl) ?_
    apply Exists.intro
    refine ⟨fun w1 k1 => ?_, fun K hK => ?_⟩
    · have hc := Kept.cell k1
      go_simp
      first | done | rfl
    go_simp
    refine hK _ ?_
    clear hK K
    refine held_take (i := 4) rfl (by kernel_rfl) (by kernel_rfl) (by kernel_rfl) hQ hK0 (by rfl) ?_
    apply Exists.intro
    refine ⟨fun w1 k1 => ?_, fun K hK => ?_⟩
    · have hc := Kept.cell k1
      go_simp
      first | done | rfl
    go_simp
    refine hK _ ?_
    clear hK K
    refine held_take (i := 5) rfl (by kernel_rfl) (by kernel_rfl) (by kernel_rfl) hQ hK0 (by rfl) ?_
    apply Exists.intro
    refine ⟨fun w1 k1 => ?_, fun K hK => ?_⟩
    · have hc := Kept.cell k1
      go_simp
      first | done | rfl
    go_simp
    refine hK _ ?_
    clear hK K
    refine held_one (i := 0) rfl (by kernel_rfl) (by rfl) ?_
    refine wp_of_run (v := .slice (some ⟨w13.heap.size, 0, none⟩) 0 0) (w' := w13.drew.alloc (.cells #[] 28)) (by go_simp; first | done | rfl) ?_
    have hK1 : Kept w13 (w13.drew.alloc (.cells #[] 28)) := hK0.trans (kept_alloc _ _)
    refine ⟨hK1, ?_⟩
    refine norm_act fun K hK => ?_
    go_simp
    refine hK _ ?_
    clear hK K
    refine held_one (i := 3) rfl (by kernel_rfl) (by rfl) ?_
    have HOE : RowMs (w13.drew.alloc (.cells #[] 28)) w13.heap.size (.slice (some ⟨w13.heap.size, 0, none⟩) 0 0) [] := (OwnM.lit w13.drew w13.heap.size (Nat.le_refl _)).row
    refine wp_append_ms (.tmp 64) (.tmp 66) rfl w13.heap.size (.slice (some ⟨w13.heap.size, 0, none⟩) 0 0) [] rfl HOE 0 w13.heap.size sa1 ca1 A1 rfl (XA13.out.keep (Kept.below hK1) (Nat.le_refl _)) (by simp; omega) (by simp) ?_
    intro so1 sc1 w14 O14 hg14
    simp only [List.nil_append] at O14
    have hK14 : Kept w13 w14 := Below.grown hK1 hg14 (by simp) (fun k hk => (World.ownsRow.lt HOE k hk).1)
    refine ⟨hK14, ?_⟩
    refine norm_act fun K hK => ?_
    go_simp
    refine hK _ ?_
    clear hK K
    refine held_one (i := 6) rfl (by kernel_rfl) (by rfl) ?_
    refine wp_append_ms (.tmp 67) (.tmp 69) rfl w13.heap.size (.slice so1 A1.length sc1) A1 rfl O14 0 w13.heap.size sb1 cb1 B1 rfl (XB13.out.keep (Kept.below hK14) (Nat.le_refl _)) (by omega) hK14.size ?_
    intro so2 sc2 w15 O15 hg15
    have hK15 : Kept w13 w15 := Below.grown hK14 hg15 hK14.size (fun k hk => (World.ownsRow.lt O14 k hk).1)
    have MB := rowMs_ms (lo := 0) O15 (Nat.zero_le _) (fun m hm => by
      rcases List.mem_append.1 hm with hm | hm
      · exact ((XA13.out.mem m hm).keep (Kept.below hK15) (Nat.le_refl _)).wide (Nat.le_refl _) hK15.size
      · exact ((XB13.out.mem m hm).keep (Kept.below hK15) (Nat.le_refl _)).wide (Nat.le_refl _) hK15.size)
    generalize A1 ++ B1 = BO at *
    have S15 := hideP (S13.out.keep (Kept.below hK15))
    have F15 := hideP (F13.out.keep (Kept.below hK15) F13.out.lt)
    have YB15 := hideP (YB13.out.up (Kept.below hK15))
    have MB15 := hideP MB
    refine ⟨hK15, ?_⟩
    refine norm_act fun K hK => ?_
    go_simp
    refine hK _ ?_
    clear hK K
    refine held_one (i := 7) rfl (by kernel_rfl) (by rfl) ?_
    refine wp_of_run (v := .slice so2 BO.length sc2) (w' := w15) (by go_simp; first | done | rfl) ?_
    refine ⟨hK15, ?_⟩
    refine norm_act fun K hK => ?_
    go_simp
    refine hK _ ?_
    clear hK K
    refine wpAnyH_done (by kernel_rfl) ?_ _
    subst hQQ
    clear hQ hK0 hK1 hK14 hK15 HOE O14 O15 hg14 hg15 MB S13 E13 F13 XA13 XB13 YB13
    clear e0 e1 e2 e3 e4 e5 e6 e7 e8 f0 f1 f2 f3 f4 f5 f6 f7 f8
    have hw3 : IntKind.i64.wrap ((L1.length : Int) + (L2.length : Int)) = (M.length : Int) := (IntWalk.i64_in _ (by omega)).trans (by omega)
    have PB1 := hideP (fun w1 (kk : Kept w15 w1) => iPack_any 0 w1.heap.size so2 sc2 BO w1 (MB15.out.up (Kept.below kk)) (Nat.le_refl _) nBO)
    have PD := hideP (fun w1 (kk : Kept w15 w1) => iPack_any 0 w1.heap.size s1 c1 L1 w1 (S15.out.keep (Kept.below kk)).X (Nat.le_refl _) (by omega))
    have SQ := hideP (fun w1 (kk : Kept w15 w1) => iSameQ_any 0 w1.heap.size 0 w1.heap.size sb2 s2 cb2 c2 B2 L2 v v w1 (YB15.out.up (Kept.below kk)) (S15.out.keep (Kept.below kk)).Y (Nat.le_refl _) (Nat.le_refl _) (by omega) (by omega))
    have QF := hideP (fun w1 (kk : Kept w15 w1) => iQF_any 0 w1.heap.size s2 c2 L2 v w1 (S15.out.keep (Kept.below kk)).Y (Nat.le_refl _) (by omega))
    have hsq : sameQs v v (B2.map Mg.ct) (L2.map Mg.ct) = true := by rw [HB2.out]; unfold sameQs; simp
    rw [hsq] at SQ
    rw [HQF.out] at QF
    unfold PkA at PB1 PD
    rw [HBO.out] at PB1
    rw [H1.out.1] at PD
    generalize pkB (dr1 C n) = PL at *
    generalize pkC (dr1 C n) = zp at *
    rw [hbl] at PB1
    clear hsq hab nBO
    obtain ⟨a0, a1, a2, a3, a4⟩ := S15.out.A
    obtain ⟨d0, d1, d2, d3, d4, d5, d6, d7, d8⟩ := S15.out.C
    obtain ⟨f0, f1, f2, f3, f4, f5, f6, f7, f8⟩ := F15.out
    go_wp2_with fail
    refine wp_region_plan (R := Kept) (G := Kept) rel_keptA rel_keptA (fun h => h) 43 [(true, 0), (true, 3), (true, 4), (false, 1), (true, 2), (false, 5), (true, 6), (true, 7), (true, 8), (true, 9), (true, 10), (true, 11), (true, 12), (true, 13), (true, 14), (true, 15), (true, 16), (true, 17), (true, 18), (true, 19), (true, 20), (true, 21), (true, 22), (true, 23), (true, 24), (true, 25), (true, 26), (true, 27), (true, 28), (true, 29), (true, 30), (true, 31), (true, 32), (true, 33), (true, 34), (true, 35), (true, 36), (true, 37), (true, 38), (true, 39), (true, 40), (true, 41), (true, 42)] (by kernel_rfl) (by kernel_rfl) ?_
    simp only [selP, List.filterMap_cons, List.filterMap_nil, List.getElem?_cons_succ, List.getElem?_cons_zero, Option.map_some]
    repeat (refine plan_take _ (by first | exact wanted_free rfl | exact wanted_yes rfl rfl | exact wanted_no rfl rfl) (by first | with_reducible rfl | decide) ?_; apply Exists.intro; refine ⟨fun w1 k1 => ?_, fun K hK => ?_⟩; (focus (have hc := Kept.cell k1; go_simp; first | done | rfl)); (go_simp; refine hK _ ?_; clear hK K))
    refine plan_made _ (by first | exact wanted_free rfl | exact wanted_yes rfl rfl | exact wanted_no rfl rfl) (by first | with_reducible rfl | decide) fun v1 j1 => ?_
    have jj1 : Kept w15 v1 := j1
    refine made_callsR (by go_simp; first | done | rfl) ((PB1.out v1 jj1).mono ?_)
    rintro e v2 ⟨ao5, cap5, rfl, O5, j2⟩
    have jj2 : Kept w15 v2 := Below.trans jj1 (Below.mono j2 jj1.size)
    refine ⟨_, rfl, j2, fun K hK => ?_⟩
    go_simp
    refine hK _ ?_
    clear hK K
    clear a0 a1 a2 a3 a4 d0 d1 d2 d3 d4 d5 d6 d7 d8 f0 f1 f2 f3 f4 f5 f6 f7 f8
    obtain ⟨a0, a1, a2, a3, a4⟩ := (S15.out.keep (Kept.below jj2)).A
    obtain ⟨d0, d1, d2, d3, d4, d5, d6, d7, d8⟩ := (S15.out.keep (Kept.below jj2)).C
    obtain ⟨f0, f1, f2, f3, f4, f5, f6, f7, f8⟩ := F15.out.keep (Kept.below jj2) F15.out.lt
    repeat (refine plan_take _ (by first | exact wanted_free rfl | exact wanted_yes rfl rfl | exact wanted_no rfl rfl) (by first | with_reducible rfl | decide) ?_; apply Exists.intro; refine ⟨fun w1 k1 => ?_, fun K hK => ?_⟩; (focus (have hc := Kept.cell k1; go_simp; first | done | rfl)); (go_simp; refine hK _ ?_; clear hK K))
    refine plan_made _ (by first | exact wanted_free rfl | exact wanted_yes rfl rfl | exact wanted_no rfl rfl) (by first | with_reducible rfl | decide) fun v3 j3 => ?_
    have jj3 : Kept w15 v3 := Below.trans jj2 (Below.mono j3 jj2.size)
    refine made_callsR (by go_simp; first | done | rfl) ((PD.out v3 jj3).mono ?_)
    rintro e v4 ⟨ao6, cap6, rfl, O6, j4⟩
    have jj4 : Kept w15 v4 := Below.trans jj3 (Below.mono j4 jj3.size)
    refine ⟨_, rfl, j4, fun K hK => ?_⟩
    go_simp
    refine hK _ ?_
    clear hK K
    have j24 : Below v2.heap.size v2 v4 := Below.trans j3 (Below.mono j4 j3.size)
    have BY := hideP (fun w1 (kk : Kept v4 w1) => bytes_same v1.heap.size v2.heap.size v3.heap.size v4.heap.size ao5 ao6 cap5 cap6 PL w1 (O5.wrt.row.keep (Below.trans j24 (Below.mono kk j24.size)) (Nat.le_refl _)) (O6.wrt.row.keep (Kept.below kk) (Nat.le_refl _)))
    have SQ4 := hideP (fun w1 (kk : Kept v4 w1) => SQ.out w1 (Below.trans jj4 (Below.mono kk jj4.size)))
    have QF4 := hideP (fun w1 (kk : Kept v4 w1) => QF.out w1 (Below.trans jj4 (Below.mono kk jj4.size)))
    clear O5 O6 j24 SQ QF
    clear a0 a1 a2 a3 a4 d0 d1 d2 d3 d4 d5 d6 d7 d8 f0 f1 f2 f3 f4 f5 f6 f7 f8
    obtain ⟨a0, a1, a2, a3, a4⟩ := (S15.out.keep (Kept.below jj4)).A
    obtain ⟨d0, d1, d2, d3, d4, d5, d6, d7, d8⟩ := (S15.out.keep (Kept.below jj4)).C
    obtain ⟨f0, f1, f2, f3, f4, f5, f6, f7, f8⟩ := F15.out.keep (Kept.below jj4) F15.out.lt
    repeat (refine plan_take _ (by first | exact wanted_free rfl | exact wanted_yes rfl rfl | exact wanted_no rfl rfl) (by first | with_reducible rfl | decide) ?_; apply Exists.intro; refine ⟨fun w1 k1 => ?_, fun K hK => ?_⟩; (focus (have hc := Kept.cell k1; go_simp; first | done | (go_at_call 20; exact kept_call_same (Below.refl _ _) (BY.out _ k1)) | (go_at_call 28; exact kept_call (Below.refl _ _) (SQ4.out _ k1)) | (go_at_call 18; exact kept_call (Below.refl _ _) (QF4.out _ k1)) | rfl)); (go_simp; refine hK _ ?_; clear hK K))
    refine plan_nil fun w16 k16 => ?_
    simp only [List.drop_succ_cons, List.drop_zero]
    have S16 := hideP (S15.out.K.trans ((Below.trans jj4 (Below.mono k16 jj4.size)).mono S15.out.K.size))
    clear a0 a1 a2 a3 a4 d0 d1 d2 d3 d4 d5 d6 d7 d8 f0 f1 f2 f3 f4 f5 f6 f7 f8
    go_wp2
    go_returns
    exact ⟨rfl, S16.out⟩
  · as_aux_lemma =>
    have hz' : (zd != 0) = true := by simpa using hz
    clear hz AT
    go_wp2_with fail
    refine wp_region_plan (R := Kept) (G := Kept) rel_keptA rel_keptA (fun h => h) 7 [(true, 0), (true, 1), (true, 4), (true, 5), (false, 2), (true, 3), (true, 6)] (by kernel_rfl) (by kernel_rfl) ?_
    simp only [selP, List.filterMap_cons, List.filterMap_nil, List.getElem?_cons_succ, List.getElem?_cons_zero, Option.map_some]
    repeat (refine plan_take _ (by first | exact wanted_free rfl | exact wanted_yes rfl rfl | exact wanted_no rfl rfl) (by first | with_reducible rfl | decide) ?_; apply Exists.intro; refine ⟨fun w1 k1 => ?_, fun K hK => ?_⟩; (focus (have hc := Kept.cell k1; go_simp; first | done | rfl)); (go_simp; refine hK _ ?_; clear hK K))
    refine plan_made _ (by first | exact wanted_free rfl | exact wanted_yes rfl rfl | exact wanted_no rfl rfl) (by first | with_reducible rfl | decide) fun v1 j1 => ?_
    have jj1 : Kept w8 v1 := j1
    refine made_callsR (by go_simp; first | done | rfl) ((SD'.out v1 jj1).mono ?_)
    rintro e v2 ⟨s3, s4, c3, c4, L3, L4, rfl, hL3, hL4, hl3, hl4, Q4, j2⟩
    have jj2 : Kept w8 v2 := Below.trans jj1 (Below.mono j2 jj1.size)
    refine ⟨_, rfl, j2, fun K hK => ?_⟩
    go_simp
    refine hK _ ?_
    clear hK K
    clear hL3 hL4 hl3 hl4 Q4
    clear a0 a1 a2 a3 a4 d0 d1 d2 d3 d4 d5 d6 d7 d8 p0 p1 p2 p3 p4
    obtain ⟨a0, a1, a2, a3, a4⟩ := (S8.out.keep (Kept.below jj2)).A
    obtain ⟨d0, d1, d2, d3, d4, d5, d6, d7, d8⟩ := (S8.out.keep (Kept.below jj2)).C
    obtain ⟨p0, p1, p2, p3, p4⟩ := (S8.out.keep (Kept.below jj2)).P
    repeat (refine plan_take _ (by first | exact wanted_free rfl | exact wanted_yes rfl rfl | exact wanted_no rfl rfl) (by first | with_reducible rfl | decide) ?_; apply Exists.intro; refine ⟨fun w1 k1 => ?_, fun K hK => ?_⟩; (focus (have hc := Kept.cell k1; go_simp; first | done | rfl)); (go_simp; refine hK _ ?_; clear hK K))
    refine plan_nil fun w9 k9 => ?_
    simp only [List.drop_succ_cons, List.drop_zero]
    have S9 := hideP (S8.out.K.trans ((Below.trans jj2 (Below.mono k9 jj2.size)).mono S8.out.K.size))
    go_wp2
    go_returns
    exact ⟨rfl, S9.out⟩

theorem drains_law (a : Option Addr) (len cap : Nat) (zs : List Int) (w : World) (h : IsRow .u8 w a len cap zs) :
    Calls Try.prog 4 #[.slice a len cap] w fun e w' => e = .returned (.bool true) ∧ Below w.heap.size w w' := by
  have hm : len ≤ maxLen := by
    rcases h with ⟨_, h, _⟩ | ⟨x, _, h1, h2, _⟩
    · rw [h]; exact Nat.zero_le _
    · omega
  by_cases hl : len ≤ 1048576
  · exact fd_small w a len cap _ h.bytes hl
  · exact fd_big w a len cap hm (by omega)
end Go.Proofs.Ytefkngpceeclhaa
