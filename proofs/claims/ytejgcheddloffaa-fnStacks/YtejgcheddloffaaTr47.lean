/- DropSlot by the specification. FnStacks: what is made and what is dropped. -/
import Derived.Test.YtejgcheddloffaaTr30
import Derived.Test.YtejgcheddloffaaTr23
import Derived.Test.YtejgcheddloffaaTr46
import Derived.Test.YtejgcheddloffaaTr40
namespace Go.Proofs.Ytejgcheddloffaa
open Go.RowKit Go.Maps
set_option linter.unusedVariables false

theorem offN_snoc {s : Int} {X : List Wn} {r : Wn} : offN s (X ++ [r]) = offN s X ++ (if slV r.i == s then [] else [r]) := by
  unfold offN
  rw [List.filter_append]
  cases h : (slV r.i == s) <;> simp [h]

set_option maxRecDepth 100000 in
set_option maxHeartbeats 1000000 in
theorem l7Drop_any (so : Option Addr) (sc : Nat) (L : List Wn) (s : Int) (w : World) (hL : Ws w 0 w.heap.size so L) (hn : L.length + wzs L ≤ 1048576) (hok : ∀ v ∈ L, okId v.i = true) :
    Calls Try.prog 41 #[.slice so L.length sc, .int .i64 s] w fun e w' => ∃ (s' : Option Addr) (c : Nat) (M : List Wn), e = .returned (.slice s' M.length c) ∧ M.map Wn.ct = offW s (L.map Wn.ct) ∧ LinV Wn.vals 38 w' w.heap.size s' c M ∧ Below w.heap.size w w' := by
  have hn' : (L.length : Int) ≤ 1048576 := by omega
  have CP := hideP (l7Copy_any 0 w.heap.size so sc L w hL (Nat.le_refl _) hn)
  have HOK := hideP hok
  clear hL hok
  go_enter Try.func41, Try.ntmps41
  go_wp2_with fail
  refine Calls.mono CP.out ?_
  rintro e w1 ⟨s1, c1, M, rfl, hM, LN, k1⟩
  have K1 := hideP k1
  have HMl := lenW hM
  have HLN := hideP LN
  have HMO : Hid (∀ v ∈ M, okId v.i = true) := hideP fun v hv => by
    have h1 : v.ct ∈ L.map Wn.ct := by rw [← hM]; exact List.mem_map_of_mem hv
    obtain ⟨u, hu, hue⟩ := List.mem_map.1 h1
    have h2 := HOK.out u hu
    have h3 : u.i = v.i := congrArg Wc.i hue
    rw [← h3]; exact h2
  have HCT : Hid (M.map Wn.ct = L.map Wn.ct) := hideP hM
  clear k1 LN CP HOK hM
  rw [HMl]
  obtain ⟨n, hnn⟩ : ∃ n, L.length = n := ⟨_, rfl⟩
  rw [hnn] at hn' HMl
  rw [hnn]
  have hn1 : M.length ≤ 1048576 := by omega
  go_wp2
  have L0 : Hid (LinV Wn.vals 38 (w1.alloc (.cells #[] 38)) w1.heap.size (some ⟨w1.heap.size, 0, none⟩) 0 []) := hideP (LinV.lit _ _ _ (Nat.le_refl _))
  have ka := kalC w1 (.cells #[] 38)
  have KA := hideP ka
  clear ka
  go_loopw [6, 7] (fun v i wr => ∃ (X Y : List Wn) (s2 : Option Addr) (c2 : Nat), X ++ Y = M ∧ i = .int .i64 (X.length : Nat) ∧ v = .slice s2 (offN s X).length c2 ∧ Below w1.heap.size w1 wr ∧ OwnV Wn.vals 38 wr w1.heap.size s2 c2 (offN s X)) (fun _ i _ => n - (intOf i).toNat)
  case atStart => exact ⟨[], M, _, 0, rfl, rfl, rfl, KA.out, L0.out.own⟩
  case round =>
    clear L0 KA
    obtain ⟨X, Y, s2, c2, hXY, rfl, rfl, kb, OW⟩ := hrel
    have hlen : X.length + Y.length = n := by rw [← HMl, ← hXY]; simp
    have HOL : (offN s X).length ≤ X.length := List.length_filter_le _ _
    have hz := kb.size
    have HB := hideP kb
    have HO := hideP OW
    clear kb OW
    cases Y with
    | cons r Y =>
      have hlt : (X.length : Int) < (n : Int) := by simp at hlen; omega
      have h0 := (HLN.out.own.sp vals7).keep HB.out (Nat.le_refl _)
      have hok := okId_iff.1 (HMO.out r (by rw [← hXY]; simp))
      have hsl := (slV_yes (HMO.out r (by rw [← hXY]; simp))).symm
      rw [← hXY] at h0
      obtain ⟨g, rfl, g1, g2, hc, _⟩ := SpV.at h0
      have hc' := hc.seven
      have hgl : g < wr.heap.size := by omega
      have HXY := hideP hXY
      have OS := hideP (offN_snoc (s := s) (X := X) (r := r))
      clear h0 hc hXY
      obtain ⟨ri, rx, ry, rp, rh, rm, ⟨ao, cap, gb, D⟩⟩ := r
      simp only at hc' hok hsl OS
      obtain ⟨a0, a1, a2, a3, a4, a5, a6⟩ := hc'
      have hd := tdiv64 hok.1
      have hwr : IntKind.i64.wrap (ri / 64) = ri / 64 := IntWalk.i64_in _ (by omega)
      rw [hsl] at hd hwr
      clear hsl hok
      generalize slV ri = y at *
      obtain ⟨N, hN⟩ : ∃ N, offN s X = N := ⟨_, rfl⟩
      rw [hN] at HO OS HOL
      rw [hN]
      cases hsx : (y == s)
      · have hnx : (y != s) = true := by simpa using hsx
        have CL : Hid (Cl Wn.vals (wr.alloc (.cells #[.int .i64 ri, .int .i64 rx, .int .i64 ry, .int .i64 rp, .int .i64 rh, .bool rm, .slice ao D.length cap] 38)) wr.heap.size 0 ⟨ri, rx, ry, rp, rh, rm, ⟨ao, cap, gb, D⟩⟩) := hideP (by
          have h := r7_new wr (.int .i64 ri) (.int .i64 rx) (.int .i64 ry) (.int .i64 rp) (.int .i64 rh) (.bool rm) (.slice ao D.length cap) 38
          exact Cl.mkW ⟨h.c0, h.c1, h.c2, h.c3, h.c4, h.c5, h.c6⟩)
        have OA := hideP (HO.out.alloc (.cells #[.int .i64 ri, .int .i64 rx, .int .i64 ry, .int .i64 rp, .int .i64 rh, .bool rm, .slice ao D.length cap] 38))
        have KA := hideP (kalC wr (.cells #[.int .i64 ri, .int .i64 rx, .int .i64 ry, .int .i64 rp, .int .i64 rh, .bool rm, .slice ao D.length cap] 38))
        clear HO
        go_wp2_with (first | (at_builtin; go_loud (refine wpList_appV (V := Wn.vals) (T := 38) vals7 vals1 Try.underlying24 Try.infoWn rfl rfl _ _ rfl w1.heap.size s2 c2 N rfl OA.out wr.heap.size 1 ⟨ri, rx, ry, rp, rh, rm, ⟨ao, cap, gb, D⟩⟩ rfl CL.out (by omega) (by simp; omega) ?_; intro s6 c6 w6 O6 G6 K6; refine Hid.out ?_)) | go_in)
        have KB6 := hideP ((HB.out.trans (KA.out.mono hz)).trans K6)
        have HO6 := hideP O6
        clear O6 G6 K6 OA CL KA a0 a1 a2 a3 a4 a5 a6
        refine hideP ?_
        go_wp2
        go_roundw
        case rel =>
          have e : offN s (X ++ [(⟨ri, rx, ry, rp, rh, rm, ⟨ao, cap, gb, D⟩⟩ : Wn)]) = N ++ [⟨ri, rx, ry, rp, rh, rm, ⟨ao, cap, gb, D⟩⟩] := by rw [OS.out, hsx]; rfl
          exact ⟨X ++ [⟨ri, rx, ry, rp, rh, rm, ⟨ao, cap, gb, D⟩⟩], Y, s6, c6, midW HXY.out, by simp, by rw [e]; simp, KB6.out, by rw [e]; exact HO6.out⟩
        case measure => simp [intOf]; omega
      · have hnx : (y != s) = false := by simpa using hsx
        clear a1 a2 a3 a4 a5 a6
        go_wp2
        go_roundw
        case rel =>
          have e : offN s (X ++ [(⟨ri, rx, ry, rp, rh, rm, ⟨ao, cap, gb, D⟩⟩ : Wn)]) = N := by rw [OS.out, hsx]; simp
          exact ⟨X ++ [⟨ri, rx, ry, rp, rh, rm, ⟨ao, cap, gb, D⟩⟩], Y, s2, c2, midW HXY.out, by simp, by rw [e], HB.out, by rw [e]; exact HO.out⟩
        case measure => simp [intOf]; omega
    | nil =>
      have hX : X = M := by simpa using hXY
      subst hX
      have LN2 : Hid (LinV Wn.vals 38 wr w.heap.size s2 c2 (offN s X)) := hideP (by
        have hsub : ((offN s X).map Wn.b).Sublist (X.map Wn.b) := List.Sublist.map _ List.filter_sublist
        exact ⟨HO.out.le K1.out.size, ((HLN.out.cis.keep HB.out (Nat.le_refl _)).sub hsub).wide (Nat.le_refl _) hz, fun b m => Ci.ty_keep (HLN.out.ty b (hsub.subset m)) HB.out⟩)
      have K2 := hideP (K1.out.trans (HB.out.mono K1.out.size))
      have HE : Hid ((offN s X).map Wn.ct = offW s (L.map Wn.ct)) := hideP (by rw [offN_ct, HCT.out])
      have hXn : X.length = n := HMl
      rw [hXn]
      clear hXY HO HB HLN HMO
      go_wp2
      go_returns
      exact ⟨s2, c2, _, rfl, HE.out, LN2.out, K2.out⟩

set_option maxRecDepth 100000 in
set_option maxHeartbeats 1000000 in
theorem sDropSlot_any (so : Option Addr) (sc : Nat) (L : List Wn) (s : Int) (w : World) (hL : Ws w 0 w.heap.size so L) (hn : L.length + wzs L ≤ 1048576) :
    Calls Try.prog 13 #[.slice so L.length sc, .int .i64 s] w (SAns (askS (L.map Wn.ct) s) (slotV (L.map Wn.ct) s) (slotP (L.map Wn.ct) s) (slotP (L.map Wn.ct) s).length w) := by
  have SF := fun w1 (kk : Below w.heap.size w w1) => l7F_any 0 w.heap.size so sc L w1 (hL.keep kk (Nat.le_refl _)) kk.size hn
  by_cases h : stF (L.map Wn.ct) = 0
  · rw [h] at SF
    have SF' := hideP SF
    by_cases h2 : 0 ≤ s ∧ s ≤ 3
    · have h0 := askS_yes h h2
      rw [slotP_yes h0, slotV_yes h0, h0]
      have hd : decide (0 ≤ s ∧ s ≤ 3) = true := decide_eq_true h2
      have hok : ∀ v ∈ L, okId v.i = true := fun v hv => (idsF_ok (stF_ok h).1).1 v.i (by rw [mapI]; exact List.mem_map_of_mem hv)
      have DR := hideP (fun w1 (kk : Below w.heap.size w w1) => l7Drop_any so sc L s w1 ((hL.keep kk (Nat.le_refl _)).wide (Nat.le_refl _) kk.size) hn hok)
      have hn' : (L.length : Int) ≤ 1048576 := by omega
      have HOS := hideP (offW_small s (L.map Wn.ct)).1
      have HLL : Hid ((L.map Wn.ct).length = L.length) := hideP (by simp)
      clear SF hL h h2 h0 hok
      go_enter Try.func13, Try.ntmps13
      go_wp2_with fail
      refine Calls.mono (SF'.out _ (by go_grown)) ?_
      rintro e w1 ⟨rfl, k1⟩
      have K1 : Hid (Below w.heap.size w w1) := hideP (Below.trans (by go_grown) (k1.mono (by simp)))
      have X1 : R3 w1 w.heap.size (.int .i64 0) (.int .i64 0) (.slice none 0 0) := R3.keep ⟨by simp, by simp, by simp, by simp, by simp⟩ k1 (by simp)
      have n1 := X1.lt
      clear k1
      go_wp2_with fail
      refine Calls.mono (sSlot5_any s w1) ?_
      rintro e w2 ⟨rfl, hw⟩
      subst hw
      rw [hd]
      go_wp2_with fail
      refine Calls.mono (DR.out w2 K1.out) ?_
      rintro e w3 ⟨s3, c3, M, rfl, hM, LN, k3⟩
      have K3 := hideP (K1.out.trans (k3.mono K1.out.size))
      have Q3 := hideP (LN.wq vals7 winNe k3.size)
      obtain ⟨x0, x1, x2, x3, x4⟩ := X1.keep k3 X1.lt
      obtain ⟨m, hm⟩ : ∃ m, M.length = m := ⟨_, rfl⟩
      have HM := hideP hm
      have hol : (offW s (L.map Wn.ct)).length = m := by rw [← hM, List.length_map, hm]
      have hml : m ≤ L.length := by rw [← hol, ← HLL.out]; exact HOS.out
      have HPL := hideP hol
      have HVL : Hid (((L.map Wn.ct).length : Int) - ((offW s (L.map Wn.ct)).length : Int) = (L.length : Int) - (m : Int)) := hideP (by rw [HPL.out, HLL.out])
      have HCT := hideP hM
      rw [hm]
      clear k3 LN X1 hM SF' DR hol HOS HLL hm
      go_wp2
      have K7 := ((K3.out.setCell (p := ⟨w.heap.size, 0, none⟩) (Nat.le_refl _) (.int .i64 0)).setCell (p := ⟨w.heap.size, 1, none⟩) (Nat.le_refl _) (.int .i64 ((L.length : Int) - (m : Int)))).setCell (p := ⟨w.heap.size, 2, none⟩) (Nat.le_refl _) (.slice s3 m c3)
      have Q7 := (((Q3.out.set ⟨w.heap.size, 0, none⟩ (.int .i64 0) n1).set ⟨w.heap.size, 1, none⟩ (.int .i64 ((L.length : Int) - (m : Int))) n1).set ⟨w.heap.size, 2, none⟩ (.slice s3 m c3) n1).wide (Nat.le_of_lt n1) (Nat.le_refl _) (by simp)
      refine bodyPost_ret (v := .agg #[.int .i64 0, .int .i64 ((L.length : Int) - (m : Int)), .slice s3 m c3]) (by simp [results, Try.results13, go_sem, *]) rfl ⟨s3, c3, _, by rw [HVL.out, HPL.out], HCT.out, by rw [HPL.out]; exact HM.out, ?_, K7⟩
      simpa using Q7
    · have h0 := askS_out h h2
      rw [slotP_no (by rw [h0]; decide), slotV_no (by rw [h0]; decide), h0]
      have hd : decide (0 ≤ s ∧ s ≤ 3) = false := decide_eq_false h2
      clear SF hL h h2 h0
      go_enter Try.func13, Try.ntmps13
      go_wp2_with fail
      refine Calls.mono (SF'.out _ (by go_grown)) ?_
      rintro e w1 ⟨rfl, k1⟩
      have K1 : Hid (Below w.heap.size w w1) := hideP (Below.trans (by go_grown) (k1.mono (by simp)))
      have X1 : R3 w1 w.heap.size (.int .i64 0) (.int .i64 0) (.slice none 0 0) := R3.keep ⟨by simp, by simp, by simp, by simp, by simp⟩ k1 (by simp)
      clear k1
      go_wp2_with fail
      refine Calls.mono (sSlot5_any s w1) ?_
      rintro e w2 ⟨rfl, hw⟩
      subst hw
      rw [hd]
      go_wp2_with fail
      refine Calls.mono (l7Bad_any 3 w2) ?_
      rintro e w3 ⟨rfl, k3⟩
      have K2 := hideP (K1.out.trans (k3.mono K1.out.size))
      obtain ⟨x0, x1, x2, x3, x4⟩ := X1.keep k3 X1.lt
      clear k3 X1
      go_wp2
      have K3 := (((K2.out.setCell (p := ⟨w.heap.size, 0, none⟩) (Nat.le_refl _) (.int .i64 3)).setCell (p := ⟨w.heap.size, 1, none⟩) (Nat.le_refl _) (.int .i64 0)).setCell (p := ⟨w.heap.size, 2, none⟩) (Nat.le_refl _) (.slice none 0 0))
      exact bodyPost_ret (v := .agg #[.int .i64 3, .int .i64 0, .slice none 0 0]) (by simp [results, Try.results13, go_sem, *]) rfl (sans_bad K3)
  · have hb : askS (L.map Wn.ct) s ≠ 0 := by rw [askS_bad h]; exact h
    rw [slotP_no hb, slotV_no hb, askS_bad h]
    obtain ⟨F, hF⟩ : ∃ F, stF (L.map Wn.ct) = F := ⟨_, rfl⟩
    rw [hF] at SF h ⊢
    have hne' : (F != 0) = true := by simpa using h
    have AN' := hideP SF
    clear SF hL h hF hb
    go_enter Try.func13, Try.ntmps13
    go_wp2_with fail
    refine Calls.mono (AN'.out _ (by go_grown)) ?_
    rintro e w1 ⟨rfl, k1⟩
    have K1 : Hid (Below w.heap.size w w1) := hideP (Below.trans (by go_grown) (k1.mono (by simp)))
    have X1 : R3 w1 w.heap.size (.int .i64 0) (.int .i64 0) (.slice none 0 0) := R3.keep ⟨by simp, by simp, by simp, by simp, by simp⟩ k1 (by simp)
    clear k1
    go_wp2_with fail
    refine Calls.mono (l7Bad_any F w1) ?_
    rintro e w2 ⟨rfl, k2⟩
    have K2 := hideP (K1.out.trans (k2.mono K1.out.size))
    obtain ⟨x0, x1, x2, x3, x4⟩ := X1.keep k2 X1.lt
    clear k2 X1
    go_wp2
    have K3 := (((K2.out.setCell (p := ⟨w.heap.size, 0, none⟩) (Nat.le_refl _) (.int .i64 F)).setCell (p := ⟨w.heap.size, 1, none⟩) (Nat.le_refl _) (.int .i64 0)).setCell (p := ⟨w.heap.size, 2, none⟩) (Nat.le_refl _) (.slice none 0 0))
    exact bodyPost_ret (v := .agg #[.int .i64 F, .int .i64 0, .slice none 0 0]) (by simp [results, Try.results13, go_sem, *]) rfl (sans_bad K3)
end Go.Proofs.Ytejgcheddloffaa

namespace Go.Proofs.Ytejgcheddloffaa
open Go.RowKit Go.Maps
set_option linter.unusedVariables false

theorem nodup_leK : ∀ (L S : List Int), L.Nodup → (∀ x ∈ L, x ∈ S) → L.length ≤ S.length
  | [], S, _, _ => Nat.zero_le _
  | x :: L, S, h, hs => by
    have h1 := List.nodup_cons.1 h
    have hx := hs x (by simp)
    have h2 := nodup_leK L (S.erase x) h1.2 (fun y hy => (List.mem_erase_of_ne (fun e : y = x => h1.1 (by rw [← e]; exact hy))).2 (hs y (by simp [hy])))
    rw [List.length_erase_of_mem hx] at h2
    have h3 : 0 < S.length := List.length_pos_of_mem hx
    simp only [List.length_cons]
    omega
theorem ids_leK {L : List Int} (h : L.Nodup) (a : ∀ x ∈ L, okId x = true) : L.length ≤ 12 :=
  nodup_leK L [1, 2, 3, 65, 66, 67, 129, 130, 131, 193, 194, 195] h fun x hx => by
    obtain ⟨h0, h1, h2, h3⟩ := okId_iff.1 (a x hx)
    have : x = 1 ∨ x = 2 ∨ x = 3 ∨ x = 65 ∨ x = 66 ∨ x = 67 ∨ x = 129 ∨ x = 130 ∨ x = 131 ∨ x = 193 ∨ x = 194 ∨ x = 195 := by omega
    simpa using this
theorem nxt_freeK {L : List Int} {s : Int} (h0 : 0 ≤ s) (h3 : s ≤ 3) (h : ¬ nxt L s < 0) : nxt L s ∉ L ∧ okId (nxt L s) = true ∧ nxt L s / 64 = s := by
  have ok : ∀ i : Int, 1 ≤ i → i ≤ 3 → okId (64 * s + i) = true ∧ (64 * s + i) / 64 = s := fun i i1 i3 => ⟨okId_iff.2 (by omega), by omega⟩
  unfold nxt at h ⊢
  cases b1 : L.contains (64 * s + 1)
  · simp only [Bool.false_eq_true, if_false]
    exact ⟨by simpa using b1, ok 1 (by omega) (by omega)⟩
  · cases b2 : L.contains (64 * s + 2)
    · simp only [Bool.false_eq_true, if_false, if_true]
      exact ⟨by simpa using b2, ok 2 (by omega) (by omega)⟩
    · cases b3 : L.contains (64 * s + 3)
      · simp only [Bool.false_eq_true, if_false, if_true]
        exact ⟨by simpa using b3, ok 3 (by omega) (by omega)⟩
      · rw [b1, b2, b3] at h
        exact absurd (by simp) h

theorem drop_facts {L M : List Wn} {id : Int} (h : askW (L.map Wn.ct) id = 0) (e : M.map Wn.ct = dropP (L.map Wn.ct) id) : stF (M.map Wn.ct) = 0 ∧ L.length = M.length + 1 ∧ askW (M.map Wn.ct) id = 4 := by
  have hs : stF (L.map Wn.ct) = 0 := Classical.byContradiction fun hb => absurd h (askW_ne (.inl hb))
  obtain ⟨X, r, Y, hf⟩ : ∃ X r Y, Fst id L X r Y := (fst_or id L).resolve_left fun hb => absurd h (askW_ne (.inr hb))
  rw [dropP_yes hs hf] at e
  have hsub : (X.map Wn.ct ++ Y.map Wn.ct).Sublist (L.map Wn.ct) := by
    rw [hf.eq]
    simp only [List.map_append, List.map_cons]
    exact List.Sublist.append_left (List.sublist_cons_self _ _) _
  obtain ⟨i1, i2⟩ := stF_ok hs
  obtain ⟨a, b⟩ := idsF_ok i1
  have hst : stF (M.map Wn.ct) = 0 := by
    rw [e, stF_ws (idsF_mk (Nat.le_trans (hsub.map Wc.i).length_le (idsF_len i1)) (fun x hx => a x ((hsub.map Wc.i).subset hx)) ((hsub.map Wc.i).nodup b))]
    exact wsF_all fun c hc => wsF_mem i2 c (hsub.subset hc)
  refine ⟨hst, ?_, askW_none hst fun v hv hi => ?_⟩
  · have := congrArg List.length e
    simp at this
    rw [hf.eq]
    simp
    omega
  · have : v.ct ∈ X.map Wn.ct ++ Y.map Wn.ct := by rw [← e]; exact List.mem_map_of_mem hv
    rcases List.mem_append.1 this with m | m
    · obtain ⟨u, hu, he⟩ := List.mem_map.1 m
      have : u.ct.i = v.ct.i := by rw [he]
      exact hf.no u hu (this.trans hi)
    · obtain ⟨u, hu, he⟩ := List.mem_map.1 m
      have : u.ct.i = v.ct.i := by rw [he]
      exact fst_once hs hf u hu (this.trans hi)

theorem slot_zero (C : List Wc) (s : Int) : slotV (slotP C s) s = 0 := by
  have h : offW s (slotP C s) = slotP C s := by
    unfold slotP
    split
    · unfold offW
      rw [List.filter_filter]
      simp
    · rfl
  unfold slotV
  rw [h]
  split
  · omega
  · rfl
theorem slot_val {L M : List Wn} {s : Int} (h : askS (L.map Wn.ct) s = 0) (e : M.map Wn.ct = slotP (L.map Wn.ct) s) : (L.length : Int) - (M.length : Int) = slotV (L.map Wn.ct) s := by
  have hl : M.length = (offW s (L.map Wn.ct)).length := by
    have := congrArg List.length e
    unfold slotP at this
    rw [if_pos h] at this
    simpa using this
  unfold slotV
  rw [if_pos h, hl, List.length_map]

theorem make_facts {L M : List Wn} {s x y p h : Int} (hz : mkZ (L.map Wn.ct) s x y p h = 0) (e : M.map Wn.ct = mkP (L.map Wn.ct) s x y p h) :
    ∃ (A : List Wn) (t : Wn), M = A ++ [t] ∧ A.length = L.length ∧ t.i = mkV (L.map Wn.ct) s x y p h ∧ t.x = x ∧ t.y = y ∧ t.w = p ∧ t.h = h ∧ t.m = false ∧ stF (M.map Wn.ct) = 0 ∧ askW (M.map Wn.ct) (mkV (L.map Wn.ct) s x y p h) = 0 ∧ dropP (M.map Wn.ct) (mkV (L.map Wn.ct) s x y p h) = L.map Wn.ct ∧ okId (mkV (L.map Wn.ct) s x y p h) = true ∧ mkV (L.map Wn.ct) s x y p h / 64 = s := by
  obtain ⟨ha, hr, hn⟩ := mk_ok hz
  obtain ⟨hst, s0, s3⟩ := askS_ok ha
  have hv : mkV (L.map Wn.ct) s x y p h = nxt ((L.map Wn.ct).map Wc.i) s := by unfold mkV; rw [if_pos hz]
  obtain ⟨f1, f2, f3⟩ := nxt_freeK s0 s3 hn
  rw [mkP_yes hz] at e
  rw [hv]
  obtain ⟨n, hnn⟩ : ∃ n, nxt ((L.map Wn.ct).map Wc.i) s = n := ⟨_, rfl⟩
  rw [hnn] at e f1 f2 f3 ⊢
  rcases List.eq_nil_or_concat M with hM | ⟨A, t, hM⟩
  · subst hM
    simp at e
  rw [List.concat_eq_append] at hM
  subst hM
  have e2 := e
  rw [List.map_append] at e2
  have e3 := List.append_inj' e2 (by simp)
  have et : t.ct = ⟨n, x, y, p, h, false, List.replicate (p * h).toNat 0⟩ := by simpa using e3.2
  obtain ⟨i1, i2⟩ := stF_ok hst
  obtain ⟨a, b⟩ := idsF_ok i1
  obtain ⟨-, -, w1, w2, -⟩ := wrB_no hr
  have hph : 0 ≤ p * h := Int.mul_nonneg (by omega) (by omega)
  have hids : ((A ++ [t]).map Wn.ct).map Wc.i = (L.map Wn.ct).map Wc.i ++ [n] := by rw [e]; simp
  have hnd : ((L.map Wn.ct).map Wc.i ++ [n]).Nodup := by
    rw [List.nodup_append]
    exact ⟨b, by simp, fun u hu v hv e => f1 (by rw [List.mem_singleton.1 hv] at e; rw [← e]; exact hu)⟩
  have hok : ∀ u ∈ (L.map Wn.ct).map Wc.i ++ [n], okId u = true := fun u hu => by
    rcases List.mem_append.1 hu with hu | hu
    · exact a u hu
    · rw [List.mem_singleton.1 hu]; exact f2
  have hstM : stF ((A ++ [t]).map Wn.ct) = 0 := by
    rw [stF_ws (by rw [hids]; exact idsF_mk (ids_leK hnd hok) hok hnd), e]
    refine wsF_snoc i2 ?_
    unfold winF
    rw [if_neg (by rw [hr]; simp), if_neg (by simp; omega), if_pos (by simp [byB])]
  have hfst : Fst n (A ++ [t]) A t [] := ⟨rfl, by have := congrArg Wc.i et; exact this, fun v hv hi => f1 (by
    rw [← e3.1, ← hi]
    exact List.mem_map.2 ⟨v.ct, List.mem_map_of_mem hv, rfl⟩)⟩
  refine ⟨A, t, rfl, by have := congrArg List.length e3.1; simpa using this, congrArg Wc.i et, congrArg Wc.x et, congrArg Wc.y et, congrArg Wc.w et, congrArg Wc.h et, congrArg Wc.m et, hstM, askW_yes hstM hfst, ?_, f2, f3⟩
  rw [dropP_yes hstM hfst, e3.1]
  simp
end Go.Proofs.Ytejgcheddloffaa
