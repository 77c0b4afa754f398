/- FnTops: what a raised window is; what its walk carries along. DropWindow by the specification. DropSlot by the program. -/
import Derived.Test.YtejgcheddloffaaTr22
import Derived.Test.YtejgcheddloffaaTr23
import Derived.Test.YtejgcheddloffaaTr28
import Derived.Test.YtejgcheddloffaaTr29
import Derived.Test.YtejgcheddloffaaTr45
import Derived.Test.YtejgcheddloffaaTr30
namespace Go.Proofs.Ytejgcheddloffaa
open Go.RowKit Go.Maps
set_option linter.unusedVariables false

theorem raise_top {L M : List Wn} {id : Int} (h : askW (L.map Wn.ct) id = 0) (e : M.map Wn.ct = raiseP (L.map Wn.ct) id) : ∃ (A : List Wn) (t : Wn), M = A ++ [t] ∧ t.i = id ∧ M.length = L.length ∧ stF (M.map Wn.ct) = 0 ∧ (t.m = true → topV (M.map Wn.ct) t.x t.y = id) := by
  have hs : stF (L.map Wn.ct) = 0 := Classical.byContradiction fun hb => absurd h (askW_ne (.inl hb))
  obtain ⟨X, r, Y, hf⟩ : ∃ X r Y, Fst id L X r Y := (fst_or id L).resolve_left fun hb => absurd h (askW_ne (.inr hb))
  rw [raiseP_yes hs hf] at e
  have hl : M.length = L.length := by
    have := congrArg List.length e
    simp at this
    rw [hf.eq]
    simp
    omega
  rcases List.eq_nil_or_concat M with hM | ⟨A, t, hM⟩
  · subst hM
    simp at e
  · rw [List.concat_eq_append] at hM
    subst hM
    have e2 : A.map Wn.ct = X.map Wn.ct ++ Y.map Wn.ct ∧ t.ct = r.ct := by
      simp only [List.map_append, List.map_cons, List.map_nil] at e
      have := List.append_inj' e rfl
      exact ⟨this.1, by simpa using this.2⟩
    have hst : stF ((A ++ [t]).map Wn.ct) = 0 := by
      rw [e]
      obtain ⟨i1, i2⟩ := stF_ok hs
      have hperm : (X.map Wn.ct ++ Y.map Wn.ct ++ [r.ct]).Perm (L.map Wn.ct) := by
        rw [hf.eq]
        simp only [List.map_append, List.map_cons, List.append_assoc]
        exact List.Perm.append_left _ (List.perm_append_singleton _ _)
      have hI := hperm.map Wc.i
      obtain ⟨a, b⟩ := idsF_ok i1
      rw [stF_ws (idsF_mk (by rw [hI.length_eq]; exact idsF_len i1) (fun x hx => a x (hI.mem_iff.1 hx)) (hI.nodup_iff.2 b))]
      exact wsF_all fun c hc => wsF_mem i2 c (hperm.mem_iff.1 hc)
    have hti : t.i = id := by
      have : t.ct.i = r.ct.i := by rw [e2.2]
      exact this.trans hf.at'
    refine ⟨A, t, rfl, hti, hl, hst, fun hm => ?_⟩
    obtain ⟨-, -, w1, w2⟩ := rfB_no (st_rect hst t (by simp))
    have T : Top t.x t.y (A ++ [t]) A t [] := ⟨rfl, by unfold hitW inB; rw [hm]; simp; omega, fun v h => by cases h⟩
    rw [(top_some hst T).2, hti]

theorem ansT {z v : Int} {P : List Wc} {n : Nat} {w w' : World} {e : Ending} (h : SAns z v P n w e w') : ∃ (s : Option Addr) (c : Nat) (M : List Wn), e = .returned (.agg #[.int .i64 z, .int .i64 v, .slice s M.length c]) ∧ M.map Wn.ct = P ∧ Ws w' 0 w'.heap.size s M ∧ Below w.heap.size w w' := by
  obtain ⟨s, c, M, he, h1, h2, h3, h4⟩ := h
  exact ⟨s, c, M, by rw [he, h2], h1, h3.ws.wide (Nat.zero_le _) (Nat.le_refl _), h4⟩
theorem Bytes.upT {w w' : World} {a : Option Addr} {len : Nat} {f : Nat → Int} (h : Bytes w w.heap.size a len f) (k : Below w.heap.size w w') : Bytes w' w'.heap.size a len f := by
  have h2 := h.stay (Nat.le_refl _) (Turn.of_below (b := w.heap.size) k) (Nat.le_refl _)
  rcases h2 with h | ⟨xb, xo, ha, hx, hc⟩
  · exact .inl h
  · exact .inr ⟨xb, xo, ha, Nat.lt_of_lt_of_le hx k.size, hc⟩
theorem Ws.up {w w' : World} {so : Option Addr} {L : List Wn} (h : Ws w 0 w.heap.size so L) (k : Below w.heap.size w w') : Ws w' 0 w'.heap.size so L := (h.keep k (Nat.le_refl _)).wide (Nat.le_refl _) k.size
theorem rbT_new (w : World) (v0 v1 : Value) (T : TypeId) : Rb (w.alloc (.cells #[v0, v1] T)) w.heap.size v0 v1 := ⟨by simp, by simp, by simp, by simp, by simp⟩

set_option maxHeartbeats 400000 in
theorem bigT (w : World) (a : Option Addr) (len cap : Nat) (hl : len ≤ maxLen) :
    Calls Try.prog 4 #[.slice a len cap] w fun e w' => e = .returned (.bool (decide ((1048576 : Int) < (len : Int)))) ∧ w' = w := by
  go_enter Try.func4, Try.ntmps4
  go_wp2
  go_returns
  exact ⟨rfl, rfl⟩
theorem fV0 (c v : Int) (w : World) : Sem.run Try.prog (Instr.field 41 (.agg #[.int .i64 c, .int .i64 v]) 0) w = .ok (.int .i64 c) w := by kernel_rfl
theorem fV1 (c v : Int) (w : World) : Sem.run Try.prog (Instr.field 41 (.agg #[.int .i64 c, .int .i64 v]) 1) w = .ok (.int .i64 v) w := by kernel_rfl
theorem fV2 (c v : Int) (s : Value) (w : World) : Sem.run Try.prog (Instr.field 30 (.agg #[.int .i64 c, .int .i64 v, s]) 0) w = .ok (.int .i64 c) w := by kernel_rfl
theorem fV3 (c v : Int) (s : Value) (w : World) : Sem.run Try.prog (Instr.field 30 (.agg #[.int .i64 c, .int .i64 v, s]) 2) w = .ok s w := by kernel_rfl

/-- What the walk carries along: four stacks that were drawn, the four answers. -/
structure US (w W : World) (s1 : Option Addr) (L1 : List Wn) (s2 : Option Addr) (L2 : List Wn) (s3 : Option Addr) (L3 : List Wn) (s4 : Option Addr) (L4 : List Wn) (b1 : Nat) (z1 v1 : Int) (b2 : Nat) (z2 : Int) (q2 : Option Addr) (d2 : Nat) (M2 : List Wn) (b3 : Nat) (z3 : Int) (q3 : Option Addr) (d3 : Nat) (M3 : List Wn) (b4 : Nat) (z4 : Int) (q4 : Option Addr) (d4 : Nat) (M4 : List Wn) : Prop where
  k : Below w.heap.size w W
  l1 : Ws W 0 W.heap.size s1 L1
  l2 : Ws W 0 W.heap.size s2 L2
  l3 : Ws W 0 W.heap.size s3 L3
  l4 : Ws W 0 W.heap.size s4 L4
  m2 : Ws W 0 W.heap.size q2 M2
  m3 : Ws W 0 W.heap.size q3 M3
  m4 : Ws W 0 W.heap.size q4 M4
  r1 : Rb W b1 (.int .i64 z1) (.int .i64 v1)
  r2 : R3 W b2 (.int .i64 z2) (.int .i64 0) (.slice q2 M2.length d2)
  r3 : R3 W b3 (.int .i64 z3) (.int .i64 0) (.slice q3 M3.length d3)
  r4 : R3 W b4 (.int .i64 z4) (.int .i64 0) (.slice q4 M4.length d4)
theorem US.keep {w W W' : World} {s1 s2 s3 s4 q2 q3 q4 : Option Addr} {L1 L2 L3 L4 M2 M3 M4 : List Wn} {b1 b2 b3 b4 d2 d3 d4 : Nat} {z1 v1 z2 z3 z4 : Int} (h : US w W s1 L1 s2 L2 s3 L3 s4 L4 b1 z1 v1 b2 z2 q2 d2 M2 b3 z3 q3 d3 M3 b4 z4 q4 d4 M4) (k : Below W.heap.size W W') : US w W' s1 L1 s2 L2 s3 L3 s4 L4 b1 z1 v1 b2 z2 q2 d2 M2 b3 z3 q3 d3 M3 b4 z4 q4 d4 M4 :=
  ⟨h.k.trans (k.mono h.k.size), h.l1.up k, h.l2.up k, h.l3.up k, h.l4.up k, h.m2.up k, h.m3.up k, h.m4.up k, h.r1.keep k h.r1.lt, h.r2.keep k h.r2.lt, h.r3.keep k h.r3.lt, h.r4.keep k h.r4.lt⟩
end Go.Proofs.Ytejgcheddloffaa

namespace Go.Proofs.Ytejgcheddloffaa
open Go.RowKit Go.Maps
set_option linter.unusedVariables false

set_option maxRecDepth 100000 in
set_option maxHeartbeats 1000000 in
theorem sDrop_any (so : Option Addr) (sc : Nat) (L : List Wn) (id : Int) (w : World) (hL : Ws w 0 w.heap.size so L) (hn : L.length + wzs L ≤ 1048576) :
    Calls Try.prog 11 #[.slice so L.length sc, .int .i64 id] w (SAns (askW (L.map Wn.ct) id) 0 (dropP (L.map Wn.ct) id) (dropP (L.map Wn.ct) id).length w) := by
  by_cases hbad : ¬ stF (L.map Wn.ct) = 0 ∨ ∀ v ∈ L, v.i ≠ id
  · have AN := fun w1 (kk : Below w.heap.size w w1) => asked_no 0 w.heap.size so sc L id w1 (hL.keep kk (Nat.le_refl _)) kk.size hn hbad
    have hne := askW_ne hbad
    rw [dropP_no hne]
    obtain ⟨F, hF⟩ : ∃ F, askW (L.map Wn.ct) id = F := ⟨_, rfl⟩
    rw [hF] at AN hne ⊢
    have hne' : (F != 0) = true := by simpa using hne
    have AN' := hideP AN
    clear AN hL hbad hF hne
    go_enter Try.func11, Try.ntmps11
    go_wp2_with fail
    refine Calls.mono (AN'.out _ (by go_grown)) ?_
    rintro e w1 ⟨rfl, k1⟩
    have K1 : Hid (Below w.heap.size w w1) := hideP (Below.trans (by go_grown) (k1.mono (by simp)))
    have X1 : R3 w1 w.heap.size (.int .i64 0) (.int .i64 0) (.slice none 0 0) := R3.keep ⟨by simp, by simp, by simp, by simp, by simp⟩ k1 (by simp)
    clear k1
    go_wp2_with fail
    refine Calls.mono (l7Bad_any F w1) ?_
    rintro e w2 ⟨rfl, k2⟩
    have K2 := hideP (K1.out.trans (k2.mono K1.out.size))
    obtain ⟨x0, x1, x2, x3, x4⟩ := X1.keep k2 X1.lt
    clear k2 X1
    go_wp2
    have K3 := (((K2.out.setCell (p := ⟨w.heap.size, 0, none⟩) (Nat.le_refl _) (.int .i64 F)).setCell (p := ⟨w.heap.size, 1, none⟩) (Nat.le_refl _) (.int .i64 0)).setCell (p := ⟨w.heap.size, 2, none⟩) (Nat.le_refl _) (.slice none 0 0))
    exact bodyPost_ret (v := .agg #[.int .i64 F, .int .i64 0, .slice none 0 0]) (by simp [results, Try.results11, go_sem, *]) rfl (sans_bad K3)
  · obtain ⟨h0, X, r, Y, hf⟩ : stF (L.map Wn.ct) = 0 ∧ ∃ X r Y, Fst id L X r Y := by
      have h1 : stF (L.map Wn.ct) = 0 := Classical.byContradiction fun h => hbad (.inl h)
      exact ⟨h1, (fst_or id L).resolve_left fun h => hbad (.inr h)⟩
    have AY := hideP (fun w1 (kk : Below w.heap.size w w1) => asked_yes 0 w.heap.size so sc L X Y r id w1 (hL.keep kk (Nat.le_refl _)) kk.size hn h0 hf)
    have CP := hideP (fun w1 (kk : Below w.heap.size w w1) => l7Copy_any 0 w.heap.size so sc L w1 (hL.keep kk (Nat.le_refl _)) kk.size hn)
    rw [askW_yes h0 hf, dropP_yes h0 hf]
    have hXl : (X.length : Int) < (L.length : Int) := by rw [hf.eq]; simp; omega
    have hn' : (L.length : Int) ≤ 1048576 := by omega
    have HF := hideP hf
    clear hL hbad h0 hf
    go_enter Try.func11, Try.ntmps11
    go_wp2_with fail
    refine Calls.mono (AY.out _ (by go_grown)) ?_
    rintro e w1 ⟨rfl, k1⟩
    have K1 : Hid (Below w.heap.size w w1) := hideP (Below.trans (by go_grown) (k1.mono (by simp)))
    have X1 : R3 w1 w.heap.size (.int .i64 0) (.int .i64 0) (.slice none 0 0) := R3.keep ⟨by simp, by simp, by simp, by simp, by simp⟩ k1 (by simp)
    have n1 := X1.lt
    clear k1
    go_wp2_with fail
    refine Calls.mono (CP.out w1 K1.out) ?_
    rintro e w2 ⟨s, c, M, rfl, hM, LN, k2⟩
    have K2 := hideP (K1.out.trans (k2.mono K1.out.size))
    have X2 := hideP (X1.keep k2 X1.lt)
    obtain ⟨X', r', Y', hf', e1, e2, e3⟩ := fst_ct HF.out hM
    have hMl := lenW hM
    have hXX := lenW e1
    have hYY := lenW e3
    have hMe := hf'.eq
    subst hMe
    obtain ⟨g, rfl, g1, g2, _⟩ := SpV.at (LN.own.sp vals7)
    have n2 := k2.size
    have WO := l7Without_any w1.heap.size g c L.length X' Y' r' w2 LN k2.size hMl (by omega)
    rw [hXX, hYY] at WO
    rw [hMl]
    have HWO := hideP WO
    have HCT : Hid ((X' ++ Y').map Wn.ct = X.map Wn.ct ++ Y.map Wn.ct) := hideP (by rw [List.map_append, e1, e3])
    have HPL : Hid ((X.map Wn.ct ++ Y.map Wn.ct).length = X.length + Y.length) := hideP (by simp)
    have HML : Hid ((X' ++ Y').length = X.length + Y.length) := hideP (by simp [hXX, hYY])
    clear k2 LN hM hf' e1 e2 e3 WO CP AY HF X1 hMl hXX hYY
    go_wp2_with fail
    refine Calls.mono HWO.out ?_
    rintro e w3 ⟨s3, c3, rfl, LN3, k3⟩
    have Q3 := hideP (LN3.wq vals7 winNe (Nat.le_trans n2 k3.size))
    have K3 := hideP (K2.out.trans (k3.mono K2.out.size))
    obtain ⟨x0, x1, x2, x3, x4⟩ := X2.out.keep k3 X2.out.lt
    clear k3 LN3 HWO X2 K2
    go_wp2
    have K5 := ((K3.out.setCell (p := ⟨w.heap.size, 0, none⟩) (Nat.le_refl _) (.int .i64 0)).setCell (p := ⟨w.heap.size, 1, none⟩) (Nat.le_refl _) (.int .i64 0)).setCell (p := ⟨w.heap.size, 2, none⟩) (Nat.le_refl _) (.slice s3 (X.length + Y.length) c3)
    have Q5 := (((Q3.out.set ⟨w.heap.size, 0, none⟩ (.int .i64 0) n1).set ⟨w.heap.size, 1, none⟩ (.int .i64 0) n1).set ⟨w.heap.size, 2, none⟩ (.slice s3 (X.length + Y.length) c3) n1).wide K1.out.size (Nat.le_refl _) (by simp)
    refine bodyPost_ret (v := .agg #[.int .i64 0, .int .i64 0, .slice s3 (X.length + Y.length) c3]) (by simp [results, Try.results11, go_sem, *]) rfl ⟨s3, c3, _, by rw [HPL.out], HCT.out, by rw [HPL.out]; exact HML.out, ?_, K5⟩
    simpa using Q5
end Go.Proofs.Ytejgcheddloffaa

namespace Go.Proofs.Ytejgcheddloffaa
open Go.RowKit Go.Maps
set_option linter.unusedVariables false

set_option maxRecDepth 100000 in
set_option maxHeartbeats 1000000 in
theorem iDropSlot_any (so : Option Addr) (sc : Nat) (L : List Wn) (s : Int) (w : World) (hL : Ws w 0 w.heap.size so L) (hn : L.length + wzs L ≤ 1048576) :
    Calls Try.prog 10 #[.slice so L.length sc, .int .i64 s] w (SAns (askS (L.map Wn.ct) s) (slotV (L.map Wn.ct) s) (slotP (L.map Wn.ct) s) (slotP (L.map Wn.ct) s).length w) := by
  have AN := fun w1 (kk : Below w.heap.size w w1) => fos_any 0 w.heap.size so sc L s w1 (hL.keep kk (Nat.le_refl _)) kk.size hn
  by_cases hbad : askS (L.map Wn.ct) s ≠ 0
  · rw [slotP_no hbad, slotV_no hbad]
    obtain ⟨F, hF⟩ : ∃ F, askS (L.map Wn.ct) s = F := ⟨_, rfl⟩
    rw [hF] at AN hbad ⊢
    have hne' : (F != 0) = true := by simpa using hbad
    have AN' := hideP AN
    clear AN hL hbad hF
    go_enter Try.func10, Try.ntmps10
    go_wp2_with fail
    refine Calls.mono (AN'.out _ (by go_grown)) ?_
    rintro e w1 ⟨rfl, k1⟩
    have K1 : Hid (Below w.heap.size w w1) := hideP (Below.trans (by go_grown) (k1.mono (by simp)))
    have X1 : R3 w1 w.heap.size (.int .i64 0) (.int .i64 0) (.slice none 0 0) := R3.keep ⟨by simp, by simp, by simp, by simp, by simp⟩ k1 (by simp)
    clear k1
    obtain ⟨x0, x1, x2, x3, x4⟩ := X1
    go_wp2
    have K3 := (((K1.out.setCell (p := ⟨w.heap.size, 0, none⟩) (Nat.le_refl _) (.int .i64 F)).setCell (p := ⟨w.heap.size, 1, none⟩) (Nat.le_refl _) (.int .i64 0)).setCell (p := ⟨w.heap.size, 2, none⟩) (Nat.le_refl _) (.slice none 0 0))
    exact bodyPost_ret (v := .agg #[.int .i64 F, .int .i64 0, .slice none 0 0]) (by simp [results, Try.results10, go_sem, *]) rfl (sans_bad K3)
  · have h0 : askS (L.map Wn.ct) s = 0 := Classical.byContradiction fun h => hbad h
    have ID := hideP (fun w1 (kk : Below w.heap.size w w1) => idsIn_any 0 w.heap.size so sc L w1 (hL.keep kk (Nat.le_refl _)) kk.size (by omega))
    have PA := hideP (fun w1 (kk : Below w.heap.size w w1) => panes_any 0 w.heap.size so sc L w1 (hL.keep kk (Nat.le_refl _)) kk.size hn)
    rw [slotP_yes h0, slotV_yes h0]
    rw [h0] at AN ⊢
    have AN' := hideP AN
    have hn' : (L.length : Int) ≤ 1048576 := by omega
    have hIl : (L.map Wn.i).length = L.length := by simp
    have HI := hideP hIl
    have hol := ownL_len (L.map Wn.i) s
    have HOC := hideP (own_count s L)
    have HOW : Hid (offW s (L.map Wn.ct) = (offN s L).map Wn.ct) := hideP (offN_ct s L).symm
    clear AN hL hbad h0
    go_enter Try.func10, Try.ntmps10
    go_wp2_with fail
    refine Calls.mono (AN'.out _ (by go_grown)) ?_
    rintro e w1 ⟨rfl, k1⟩
    have K1 : Hid (Below w.heap.size w w1) := hideP (Below.trans (by go_grown) (k1.mono (by simp)))
    have X1 : R3 w1 w.heap.size (.int .i64 0) (.int .i64 0) (.slice none 0 0) := R3.keep ⟨by simp, by simp, by simp, by simp, by simp⟩ k1 (by simp)
    have n1 := X1.lt
    clear k1
    go_wp2_with fail
    refine Calls.mono (ID.out w1 K1.out) ?_
    rintro e w2 ⟨ao2, cap2, rfl, O2, k2⟩
    have K2 := hideP (K1.out.trans (k2.mono K1.out.size))
    have X2 := X1.keep k2 X1.lt
    have OW := iOwnIds_any w1.heap.size w2.heap.size ao2 cap2 (L.map Wn.i) s w2 (OwnR.wrt O2).row (Nat.le_refl _) (by rw [HI.out]; omega)
    rw [HI.out] at OW
    have HOW2 := hideP OW
    rw [HI.out]
    clear k2 O2 OW X1 ID
    go_wp2_with fail
    refine Calls.mono HOW2.out ?_
    rintro e w3 ⟨ao3, cap3, rfl, O3, k3⟩
    have K3 := hideP (K2.out.trans (k3.mono K2.out.size))
    have X3 := X2.keep k3 X2.lt
    have R3' := hideP (OwnR.wrt O3).row
    obtain ⟨own, hown⟩ : ∃ own, ownL (L.map Wn.i) s = own := ⟨_, rfl⟩
    have HON := hideP hown
    rw [hown] at R3' HOC
    rw [hown, HI.out] at hol
    rw [hown]
    clear k3 O3 X2 HOW2 hown
    go_wp2_with fail
    refine Calls.mono (PA.out w3 K3.out) ?_
    rintro e w4 ⟨s4, c4, M, rfl, hM, LN, k4⟩
    have K4 := hideP (K3.out.trans (k4.mono K3.out.size))
    have n3 := X3.lt
    have X4 := hideP (X3.keep k4 n3)
    have hMl := lenW hM
    have hMi : M.map Wn.i = L.map Wn.i := by rw [← mapI, hM, mapI]
    have hKM : M.filter (keepI own) = offN s M := by rw [← HON.out, ← hMi]; exact keep_slot s M
    have WO := without_lin w3.heap.size w2.heap.size w3.heap.size ao3 cap3 own s4 c4 M w4 LN k4.size (R3'.out.keep k4 (Nat.le_refl _)) (Nat.le_refl _) (by omega) (by omega)
    have hct : (offN s M).map Wn.ct = offW s (L.map Wn.ct) := by rw [offN_ct, hM]
    have hml : (offN s M).length = (offN s L).length := lenW (by rw [hct, HOW.out])
    rw [hKM, hMl] at WO
    rw [hMl]
    obtain ⟨m, hm⟩ : ∃ m, (offN s M).length = m := ⟨_, rfl⟩
    rw [hm] at WO hml
    have HWO := hideP WO
    have HM := hideP hm
    have HCT := hideP hct
    have hoc : own.length + m = L.length := by have := HOC.out; omega
    have HPL : Hid ((offW s (L.map Wn.ct)).length = m) := hideP (by rw [HOW.out, List.length_map]; omega)
    have HVL : Hid (((L.map Wn.ct).length : Int) - ((offW s (L.map Wn.ct)).length : Int) = (own.length : Int)) := hideP (by rw [HPL.out, List.length_map]; omega)
    have n4 := k4.size
    clear k4 LN hM hMi hKM WO hct PA R3' X3 HON hm hml HOC HOW
    go_wp2_with fail
    refine Calls.mono HWO.out ?_
    rintro e w5 ⟨rfl, PC, k5⟩
    have SO := stackOf_any w3.heap.size w5.heap.size s4 c4 (offN s M) w5 PC.q.sp (Nat.le_refl _) (by rw [HM.out]; omega)
    rw [HM.out] at SO
    have K5 : Hid (Below w.heap.size w w5) := hideP (K4.out.trans (k5.mono (by omega)))
    have X5 := hideP (X4.out.keep k5 n3)
    have HPC := hideP PC
    have HSO := hideP SO
    clear HWO PC SO K4 X4 k5
    go_wp2_with fail
    refine Calls.mono HSO.out ?_
    rintro e w6 ⟨s6, c6, rfl, O6, k6⟩
    have Q6 := hideP (HPC.out.done k6 O6)
    have K6 := hideP (K5.out.trans (k6.mono K5.out.size))
    obtain ⟨x0, x1, x2, x3, x4⟩ := X5.out.keep k6 X5.out.lt
    clear k6 O6 HSO HPC X5 K5
    go_wp2
    have K7 := ((K6.out.setCell (p := ⟨w.heap.size, 0, none⟩) (Nat.le_refl _) (.int .i64 0)).setCell (p := ⟨w.heap.size, 1, none⟩) (Nat.le_refl _) (.int .i64 own.length)).setCell (p := ⟨w.heap.size, 2, none⟩) (Nat.le_refl _) (.slice s6 m c6)
    have Q7 := (((Q6.out.set ⟨w.heap.size, 0, none⟩ (.int .i64 0) n3).set ⟨w.heap.size, 1, none⟩ (.int .i64 own.length) n3).set ⟨w.heap.size, 2, none⟩ (.slice s6 m c6) n3).wide (Nat.le_of_lt n3) (Nat.le_refl _) (by simp)
    refine bodyPost_ret (v := .agg #[.int .i64 0, .int .i64 own.length, .slice s6 m c6]) (by simp [results, Try.results10, go_sem, *]) rfl ⟨s6, c6, _, by rw [HVL.out, HPL.out], HCT.out, by rw [HPL.out]; exact HM.out, ?_, K7⟩
    simpa using Q7
end Go.Proofs.Ytejgcheddloffaa
