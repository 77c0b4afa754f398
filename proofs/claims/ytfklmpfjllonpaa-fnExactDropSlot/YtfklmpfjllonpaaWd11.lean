/- DropSlot by the specification. -/
import Derived.Test.YtfklmpfjllonpaaWd9
import Derived.Test.YtfklmpfjllonpaaWd7
namespace Go.Proofs.Ytfklmpfjllonpaa
open Go.RowKit Go.Maps
set_option linter.unusedVariables false

theorem offN_snoc {s : Int} {X : List Wn} {r : Wn} : offN s (X ++ [r]) = offN s X ++ (if slV r.i == s then [] else [r]) := by
  unfold offN
  rw [List.filter_append]
  cases h : (slV r.i == s) <;> simp [h]

set_option maxRecDepth 100000 in
set_option maxHeartbeats 1000000 in
theorem l7Drop_any (so : Option Addr) (sc : Nat) (L : List Wn) (s : Int) (w : World) (hL : Ws w 0 w.heap.size so L) (hn : L.length + wzs L ≤ 1048576) (hok : ∀ v ∈ L, okId v.i = true) :
    Calls Try.prog 66 #[.slice so L.length sc, .int .i64 s] w fun e w' => ∃ (s' : Option Addr) (c : Nat) (M : List Wn), e = .returned (.slice s' M.length c) ∧ M.map Wn.ct = offW s (L.map Wn.ct) ∧ LinV Wn.vals 38 w' w.heap.size s' c M ∧ Below w.heap.size w w' := by
  have hn' : (L.length : Int) ≤ 1048576 := by omega
  have CP := hideP (l7Copy_any 0 w.heap.size so sc L w hL (Nat.le_refl _) hn)
  have HOK := hideP hok
  clear hL hok
  go_enter Try.func66, Try.ntmps66
  go_wp2_with fail
  refine Calls.mono CP.out ?_
  rintro e w1 ⟨s1, c1, M, rfl, hM, LN, k1⟩
  have K1 := hideP k1
  have HMl := lenW hM
  have HLN := hideP LN
  have HMO : Hid (∀ v ∈ M, okId v.i = true) := hideP fun v hv => by
    have h1 : v.ct ∈ L.map Wn.ct := by rw [← hM]; exact List.mem_map_of_mem hv
    obtain ⟨u, hu, hue⟩ := List.mem_map.1 h1
    have h2 := HOK.out u hu
    have h3 : u.i = v.i := congrArg Wc.i hue
    rw [← h3]; exact h2
  have HCT : Hid (M.map Wn.ct = L.map Wn.ct) := hideP hM
  clear k1 LN CP HOK hM
  rw [HMl]
  obtain ⟨n, hnn⟩ : ∃ n, L.length = n := ⟨_, rfl⟩
  rw [hnn] at hn' HMl
  rw [hnn]
  have hn1 : M.length ≤ 1048576 := by omega
  go_wp2
  have L0 : Hid (LinV Wn.vals 38 (w1.alloc (.cells #[] 38)) w1.heap.size (some ⟨w1.heap.size, 0, none⟩) 0 []) := hideP (LinV.lit _ _ _ (Nat.le_refl _))
  have ka := kalC w1 (.cells #[] 38)
  have KA := hideP ka
  clear ka
  go_loopw [6, 7] (fun v i wr => ∃ (X Y : List Wn) (s2 : Option Addr) (c2 : Nat), X ++ Y = M ∧ i = .int .i64 (X.length : Nat) ∧ v = .slice s2 (offN s X).length c2 ∧ Below w1.heap.size w1 wr ∧ OwnV Wn.vals 38 wr w1.heap.size s2 c2 (offN s X)) (fun _ i _ => n - (intOf i).toNat)
  case atStart => exact ⟨[], M, _, 0, rfl, rfl, rfl, KA.out, L0.out.own⟩
  case round =>
    clear L0 KA
    obtain ⟨X, Y, s2, c2, hXY, rfl, rfl, kb, OW⟩ := hrel
    have hlen : X.length + Y.length = n := by rw [← HMl, ← hXY]; simp
    have HOL : (offN s X).length ≤ X.length := List.length_filter_le _ _
    have hz := kb.size
    have HB := hideP kb
    have HO := hideP OW
    clear kb OW
    cases Y with
    | cons r Y =>
      have hlt : (X.length : Int) < (n : Int) := by simp at hlen; omega
      have h0 := (HLN.out.own.sp vals7).keep HB.out (Nat.le_refl _)
      have hok := okId_iff.1 (HMO.out r (by rw [← hXY]; simp))
      have hsl := (slV_yes (HMO.out r (by rw [← hXY]; simp))).symm
      rw [← hXY] at h0
      obtain ⟨g, rfl, g1, g2, hc, _⟩ := SpV.at h0
      have hc' := hc.seven
      have hgl : g < wr.heap.size := by omega
      have HXY := hideP hXY
      have OS := hideP (offN_snoc (s := s) (X := X) (r := r))
      clear h0 hc hXY
      obtain ⟨ri, rx, ry, rp, rh, rm, ⟨ao, cap, gb, D⟩⟩ := r
      simp only at hc' hok hsl OS
      obtain ⟨a0, a1, a2, a3, a4, a5, a6⟩ := hc'
      have hd := tdiv64 hok.1
      have hwr : IntKind.i64.wrap (ri / 64) = ri / 64 := IntWalk.i64_in _ (by omega)
      rw [hsl] at hd hwr
      clear hsl hok
      generalize slV ri = y at *
      obtain ⟨N, hN⟩ : ∃ N, offN s X = N := ⟨_, rfl⟩
      rw [hN] at HO OS HOL
      rw [hN]
      cases hsx : (y == s)
      · have hnx : (y != s) = true := by simpa using hsx
        have CL : Hid (Cl Wn.vals (wr.alloc (.cells #[.int .i64 ri, .int .i64 rx, .int .i64 ry, .int .i64 rp, .int .i64 rh, .bool rm, .slice ao D.length cap] 38)) wr.heap.size 0 ⟨ri, rx, ry, rp, rh, rm, ⟨ao, cap, gb, D⟩⟩) := hideP (by
          have h := r7_new wr (.int .i64 ri) (.int .i64 rx) (.int .i64 ry) (.int .i64 rp) (.int .i64 rh) (.bool rm) (.slice ao D.length cap) 38
          exact Cl.mkW ⟨h.c0, h.c1, h.c2, h.c3, h.c4, h.c5, h.c6⟩)
        have OA := hideP (HO.out.alloc (.cells #[.int .i64 ri, .int .i64 rx, .int .i64 ry, .int .i64 rp, .int .i64 rh, .bool rm, .slice ao D.length cap] 38))
        have KA := hideP (kalC wr (.cells #[.int .i64 ri, .int .i64 rx, .int .i64 ry, .int .i64 rp, .int .i64 rh, .bool rm, .slice ao D.length cap] 38))
        clear HO
        go_wp2_with (first | (at_builtin; go_loud (refine wpList_appV (V := Wn.vals) (T := 38) vals7 vals1 Try.underlying24 Try.infoWn rfl rfl _ _ rfl w1.heap.size s2 c2 N rfl OA.out wr.heap.size 1 ⟨ri, rx, ry, rp, rh, rm, ⟨ao, cap, gb, D⟩⟩ rfl CL.out (by omega) (by simp; omega) ?_; intro s6 c6 w6 O6 G6 K6; refine Hid.out ?_)) | go_in)
        have KB6 := hideP ((HB.out.trans (KA.out.mono hz)).trans K6)
        have HO6 := hideP O6
        clear O6 G6 K6 OA CL KA a0 a1 a2 a3 a4 a5 a6
        refine hideP ?_
        go_wp2
        go_roundw
        case rel =>
          have e : offN s (X ++ [(⟨ri, rx, ry, rp, rh, rm, ⟨ao, cap, gb, D⟩⟩ : Wn)]) = N ++ [⟨ri, rx, ry, rp, rh, rm, ⟨ao, cap, gb, D⟩⟩] := by rw [OS.out, hsx]; rfl
          exact ⟨X ++ [⟨ri, rx, ry, rp, rh, rm, ⟨ao, cap, gb, D⟩⟩], Y, s6, c6, midW HXY.out, by simp, by rw [e]; simp, KB6.out, by rw [e]; exact HO6.out⟩
        case measure => simp [intOf]; omega
      · have hnx : (y != s) = false := by simpa using hsx
        clear a1 a2 a3 a4 a5 a6
        go_wp2
        go_roundw
        case rel =>
          have e : offN s (X ++ [(⟨ri, rx, ry, rp, rh, rm, ⟨ao, cap, gb, D⟩⟩ : Wn)]) = N := by rw [OS.out, hsx]; simp
          exact ⟨X ++ [⟨ri, rx, ry, rp, rh, rm, ⟨ao, cap, gb, D⟩⟩], Y, s2, c2, midW HXY.out, by simp, by rw [e], HB.out, by rw [e]; exact HO.out⟩
        case measure => simp [intOf]; omega
    | nil =>
      have hX : X = M := by simpa using hXY
      subst hX
      have LN2 : Hid (LinV Wn.vals 38 wr w.heap.size s2 c2 (offN s X)) := hideP (by
        have hsub : ((offN s X).map Wn.b).Sublist (X.map Wn.b) := List.Sublist.map _ List.filter_sublist
        exact ⟨HO.out.le K1.out.size, ((HLN.out.cis.keep HB.out (Nat.le_refl _)).sub hsub).wide (Nat.le_refl _) hz, fun b m => Ci.ty_keep (HLN.out.ty b (hsub.subset m)) HB.out⟩)
      have K2 := hideP (K1.out.trans (HB.out.mono K1.out.size))
      have HE : Hid ((offN s X).map Wn.ct = offW s (L.map Wn.ct)) := hideP (by rw [offN_ct, HCT.out])
      have hXn : X.length = n := HMl
      rw [hXn]
      clear hXY HO HB HLN HMO
      go_wp2
      go_returns
      exact ⟨s2, c2, _, rfl, HE.out, LN2.out, K2.out⟩

set_option maxRecDepth 100000 in
set_option maxHeartbeats 1000000 in
theorem sDropSlot_any (so : Option Addr) (sc : Nat) (L : List Wn) (s : Int) (w : World) (hL : Ws w 0 w.heap.size so L) (hn : L.length + wzs L ≤ 1048576) :
    Calls Try.prog 18 #[.slice so L.length sc, .int .i64 s] w (SAns (askS (L.map Wn.ct) s) (slotV (L.map Wn.ct) s) (slotP (L.map Wn.ct) s) (slotP (L.map Wn.ct) s).length w) := by
  have SF := fun w1 (kk : Below w.heap.size w w1) => l7F_any 0 w.heap.size so sc L w1 (hL.keep kk (Nat.le_refl _)) kk.size hn
  by_cases h : stF (L.map Wn.ct) = 0
  · rw [h] at SF
    have SF' := hideP SF
    by_cases h2 : 0 ≤ s ∧ s ≤ 3
    · have h0 := askS_yes h h2
      rw [slotP_yes h0, slotV_yes h0, h0]
      have hd : decide (0 ≤ s ∧ s ≤ 3) = true := decide_eq_true h2
      have hok : ∀ v ∈ L, okId v.i = true := fun v hv => (idsF_ok (stF_ok h).1).1 v.i (by rw [mapI]; exact List.mem_map_of_mem hv)
      have DR := hideP (fun w1 (kk : Below w.heap.size w w1) => l7Drop_any so sc L s w1 ((hL.keep kk (Nat.le_refl _)).wide (Nat.le_refl _) kk.size) hn hok)
      have hn' : (L.length : Int) ≤ 1048576 := by omega
      have HOS := hideP (offW_small s (L.map Wn.ct)).1
      have HLL : Hid ((L.map Wn.ct).length = L.length) := hideP (by simp)
      clear SF hL h h2 h0 hok
      go_enter Try.func18, Try.ntmps18
      go_wp2_with fail
      refine Calls.mono (SF'.out _ (by go_grown)) ?_
      rintro e w1 ⟨rfl, k1⟩
      have K1 : Hid (Below w.heap.size w w1) := hideP (Below.trans (by go_grown) (k1.mono (by simp)))
      have X1 : R3 w1 w.heap.size (.int .i64 0) (.int .i64 0) (.slice none 0 0) := R3.keep ⟨by simp, by simp, by simp, by simp, by simp⟩ k1 (by simp)
      have n1 := X1.lt
      clear k1
      go_wp2_with fail
      refine Calls.mono (sSlot5_any s w1) ?_
      rintro e w2 ⟨rfl, hw⟩
      subst hw
      rw [hd]
      go_wp2_with fail
      refine Calls.mono (DR.out w2 K1.out) ?_
      rintro e w3 ⟨s3, c3, M, rfl, hM, LN, k3⟩
      have K3 := hideP (K1.out.trans (k3.mono K1.out.size))
      have Q3 := hideP (LN.wq vals7 winNe k3.size)
      obtain ⟨x0, x1, x2, x3, x4⟩ := X1.keep k3 X1.lt
      obtain ⟨m, hm⟩ : ∃ m, M.length = m := ⟨_, rfl⟩
      have HM := hideP hm
      have hol : (offW s (L.map Wn.ct)).length = m := by rw [← hM, List.length_map, hm]
      have hml : m ≤ L.length := by rw [← hol, ← HLL.out]; exact HOS.out
      have HPL := hideP hol
      have HVL : Hid (((L.map Wn.ct).length : Int) - ((offW s (L.map Wn.ct)).length : Int) = (L.length : Int) - (m : Int)) := hideP (by rw [HPL.out, HLL.out])
      have HCT := hideP hM
      rw [hm]
      clear k3 LN X1 hM SF' DR hol HOS HLL hm
      go_wp2
      have K7 := ((K3.out.setCell (p := ⟨w.heap.size, 0, none⟩) (Nat.le_refl _) (.int .i64 0)).setCell (p := ⟨w.heap.size, 1, none⟩) (Nat.le_refl _) (.int .i64 ((L.length : Int) - (m : Int)))).setCell (p := ⟨w.heap.size, 2, none⟩) (Nat.le_refl _) (.slice s3 m c3)
      have Q7 := (((Q3.out.set ⟨w.heap.size, 0, none⟩ (.int .i64 0) n1).set ⟨w.heap.size, 1, none⟩ (.int .i64 ((L.length : Int) - (m : Int))) n1).set ⟨w.heap.size, 2, none⟩ (.slice s3 m c3) n1).wide (Nat.le_of_lt n1) (Nat.le_refl _) (by simp)
      refine bodyPost_ret (v := .agg #[.int .i64 0, .int .i64 ((L.length : Int) - (m : Int)), .slice s3 m c3]) (by simp [results, Try.results18, go_sem, *]) rfl ⟨s3, c3, _, by rw [HVL.out, HPL.out], HCT.out, by rw [HPL.out]; exact HM.out, ?_, K7⟩
      simpa using Q7
    · have h0 := askS_out h h2
      rw [slotP_no (by rw [h0]; decide), slotV_no (by rw [h0]; decide), h0]
      have hd : decide (0 ≤ s ∧ s ≤ 3) = false := decide_eq_false h2
      clear SF hL h h2 h0
      go_enter Try.func18, Try.ntmps18
      go_wp2_with fail
      refine Calls.mono (SF'.out _ (by go_grown)) ?_
      rintro e w1 ⟨rfl, k1⟩
      have K1 : Hid (Below w.heap.size w w1) := hideP (Below.trans (by go_grown) (k1.mono (by simp)))
      have X1 : R3 w1 w.heap.size (.int .i64 0) (.int .i64 0) (.slice none 0 0) := R3.keep ⟨by simp, by simp, by simp, by simp, by simp⟩ k1 (by simp)
      clear k1
      go_wp2_with fail
      refine Calls.mono (sSlot5_any s w1) ?_
      rintro e w2 ⟨rfl, hw⟩
      subst hw
      rw [hd]
      go_wp2_with fail
      refine Calls.mono (l7Bad_any 3 w2) ?_
      rintro e w3 ⟨rfl, k3⟩
      have K2 := hideP (K1.out.trans (k3.mono K1.out.size))
      obtain ⟨x0, x1, x2, x3, x4⟩ := X1.keep k3 X1.lt
      clear k3 X1
      go_wp2
      have K3 := (((K2.out.setCell (p := ⟨w.heap.size, 0, none⟩) (Nat.le_refl _) (.int .i64 3)).setCell (p := ⟨w.heap.size, 1, none⟩) (Nat.le_refl _) (.int .i64 0)).setCell (p := ⟨w.heap.size, 2, none⟩) (Nat.le_refl _) (.slice none 0 0))
      exact bodyPost_ret (v := .agg #[.int .i64 3, .int .i64 0, .slice none 0 0]) (by simp [results, Try.results18, go_sem, *]) rfl (sans_bad K3)
  · have hb : askS (L.map Wn.ct) s ≠ 0 := by rw [askS_bad h]; exact h
    rw [slotP_no hb, slotV_no hb, askS_bad h]
    obtain ⟨F, hF⟩ : ∃ F, stF (L.map Wn.ct) = F := ⟨_, rfl⟩
    rw [hF] at SF h ⊢
    have hne' : (F != 0) = true := by simpa using h
    have AN' := hideP SF
    clear SF hL h hF hb
    go_enter Try.func18, Try.ntmps18
    go_wp2_with fail
    refine Calls.mono (AN'.out _ (by go_grown)) ?_
    rintro e w1 ⟨rfl, k1⟩
    have K1 : Hid (Below w.heap.size w w1) := hideP (Below.trans (by go_grown) (k1.mono (by simp)))
    have X1 : R3 w1 w.heap.size (.int .i64 0) (.int .i64 0) (.slice none 0 0) := R3.keep ⟨by simp, by simp, by simp, by simp, by simp⟩ k1 (by simp)
    clear k1
    go_wp2_with fail
    refine Calls.mono (l7Bad_any F w1) ?_
    rintro e w2 ⟨rfl, k2⟩
    have K2 := hideP (K1.out.trans (k2.mono K1.out.size))
    obtain ⟨x0, x1, x2, x3, x4⟩ := X1.keep k2 X1.lt
    clear k2 X1
    go_wp2
    have K3 := (((K2.out.setCell (p := ⟨w.heap.size, 0, none⟩) (Nat.le_refl _) (.int .i64 F)).setCell (p := ⟨w.heap.size, 1, none⟩) (Nat.le_refl _) (.int .i64 0)).setCell (p := ⟨w.heap.size, 2, none⟩) (Nat.le_refl _) (.slice none 0 0))
    exact bodyPost_ret (v := .agg #[.int .i64 F, .int .i64 0, .slice none 0 0]) (by simp [results, Try.results18, go_sem, *]) rfl (sans_bad K3)
end Go.Proofs.Ytfklmpfjllonpaa
