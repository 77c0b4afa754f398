/- ScreenOf by the program. ScreenOf by the program, at every argument. OwnersOf of both sides, at every stack. -/
import Derived.Test.YtmmjannkfmiohaaTs42
import Derived.Test.YtmmjannkfmiohaaTs43
import Derived.Test.YtmmjannkfmiohaaTs45
namespace Go.Proofs.Ytmmjannkfmiohaa
open Go.RowKit Go.Shelf Go.Maps
set_option linter.unusedVariables false
attribute [local go_sem] Oper.semAt_some
attribute [local go_sem] Oper.quietAtIn Oper.quietUponIn

set_option maxRecDepth 100000 in
set_option maxHeartbeats 400000 in
theorem clone9_any (lo hi : Nat) (a : Addr) (ca : Nat) (L : List Int) (w : World) (hR : Row .i64 w lo hi (some a) L) (hs : hi ≤ w.heap.size) (hl : L.length ≤ 2097152) :
    Calls Try.prog 26 #[.slice (some a) L.length ca] w fun e w' => ∃ so sc, e = .returned (.slice so L.length sc) ∧ OwnR .i64 2 w' w.heap.size so sc L ∧ Below w.heap.size w w' := by
  have HR := hideP hR
  clear hR
  have hnil := fun w => Lib.run_eql_slice_nil (P := Try.prog) w 26 2 (some a) L.length ca 0 0 Try.underlying26
  simp only [Option.isNone_some] at hnil
  go_enter Try.func26, Try.ntmps26
  go_wp2_with (first | (at_builtin; refine wpList_app (k := .i64) (T := 2) (S := 26) (bytes := 8) Try.underlying26 Try.infoO9 (by omega) rfl _ _ rfl w.heap.size (some ⟨w.heap.size, 0, none⟩) 0 [] rfl (OwnR.lit .i64 2 w w.heap.size [] _ rfl (Nat.le_refl _) (by unfold maxLen; simp)) (some a) ca L rfl (HR.out.keep (B := w.heap.size) ((Below.refl _ _).alloc (Nat.le_refl _) _) hs).src (by simp; omega) (by simp) ?_; intro ao2 cap2 w2 O2 K2; refine Hid.out ?_) | go_in)
  have HO2 : Hid (OwnR .i64 2 w2 w.heap.size ao2 cap2 L) := hideP O2
  have HK2 : Hid (Below w.heap.size w w2) := hideP (Below.trans (by go_grown) K2)
  clear O2 K2
  refine hideP ?_
  go_wp2
  go_returns
  exact ⟨ao2, cap2, rfl, HO2.out, HK2.out⟩

theorem keepsFrom_t {B : Nat} {X Y Z : World} (h : Below X.heap.size X Y) (k : KeepsFrom B Y Z) : KeepsFrom B X Z := (keepsFrom_belowO h).trans k

set_option maxRecDepth 100000 in
set_option maxHeartbeats 8000000 in
theorem iScreen_ok (so : Option Addr) (sc : Nat) (L : List Wn) (la : Option Addr) (lc : Nat) (LL : List La) (ao : Option Addr) (ac : Nat) (A : List Int) (w : World) (hL : Ws w 0 w.heap.size so L) (hn : L.length + wzs L ≤ 1048576) (hA : Las w 0 w.heap.size la LL) (hl : LL.length ≤ 1048576) (hR : Row .i64 w 0 w.heap.size ao A) (ha : A.length ≤ 1048576) (hz : scrZ (L.map Wn.ct) LL A = 0) :
    Calls Try.prog 6 #[.slice so L.length sc, .slice la LL.length lc, .slice ao A.length ac] w (IsA w 0 (scrC (L.map Wn.ct) LL A)) := by
  have SF := fun w1 (kk : Below w.heap.size w w1) => fos9_any so sc L la lc LL ao ac A w w1 kk hL hn hA hl hR ha
  rw [hz] at SF
  have SF' := hideP SF
  obtain ⟨z1, z2, z3, z4⟩ := scrZ_parts hz
  have OW := hideP (fun w1 (kk : Below w.heap.size w w1) => iOwners_any so sc L w1 ((hL.keep kk (Nat.le_refl _)).wide (Nat.le_refl _) kk.size) z1)
  obtain ⟨aa, rfl⟩ : ∃ aa, ao = some aa := by
    rcases hR with h | ⟨g, o, h, _⟩
    · rw [h] at z3; simp at z3
    · exact ⟨_, h⟩
  have CL := hideP (fun w1 (kk : Below w.heap.size w w1) => clone9_any 0 w.heap.size aa ac A w1 (hR.keep kk (Nat.le_refl _)) kk.size (by omega))
  have SH := hideP (fun (v : Wn) x y W (kk : Below w.heap.size w W) (g : Good v x y) (hv : Row .i64 w 0 w.heap.size v.b.ao v.b.L) (hx : -100 ≤ x ∧ x ≤ 100) (hy : -100 ≤ y ∧ y ≤ 100) => shown_any v la lc 0 w.heap.size 0 w.heap.size LL x y W g z2 (hA.keep kk (Nat.le_refl _)) kk.size (hv.keep kk (Nat.le_refl _)) kk.size hx hy)
  have HST := hideP z1
  have HL := hideP hL
  have hn' : L.length ≤ 1048576 := by omega
  have hnI : (L.length : Int) ≤ 1048576 := by omega
  have HALen := hideP z3
  obtain ⟨G, hG⟩ : ∃ G, scrP LL (L.map Wn.ct) = G := ⟨_, rfl⟩
  have HG := hideP hG
  have HR : Hid (scrC (L.map Wn.ct) LL A = A ++ (ptsOf stripR).map G) := hideP (by rw [← hG]; rfl)
  have HLen := hideP (scrC_len (C := L.map Wn.ct) (LL := LL) z3)
  have hpos : 0 < A.length := by omega
  have hA96 : A.length ≤ 12 := by omega
  clear SF hL hG hz z1 z2 z3 z4 hA hR
  refine callsIn_wide.1 (callsIn_of_wp_marks (n := 3) Try.func6 rfl trivial ?_ rfl)
  simp only [Try.ntmps6, List.size_toArray, List.length_cons, List.length_nil, Nat.reduceAdd, Nat.reduceSub, Array.replicate_succ, Array.replicate_zero, List.push_toArray, List.append_toArray, List.nil_append, List.cons_append]
  refine wpIn_wide.2 ?_
  go_wp2_with fail
  refine Calls.mono (SF'.out _ (by go_grown)) ?_
  rintro e w1 ⟨rfl, k1⟩
  have n1 := k1.size
  simp only [World.size_alloc] at n1
  have K1 : Hid (Below w.heap.size w w1) := hideP (Below.trans (by go_grown) (k1.mono (by simp; omega)))
  have B0 : Hid (w1.cell? ⟨w.heap.size, 0, none⟩ = some (.slice so L.length sc)) := hideP ((k1.cell (p := ⟨w.heap.size, 0, none⟩) (by simp; omega)).trans (by simp [go_sem]))
  have B1 : Hid (w1.cell? ⟨w.heap.size + 1, 0, none⟩ = some (.slice la LL.length lc)) := hideP ((k1.cell (p := ⟨w.heap.size + 1, 0, none⟩) (by simp)).trans (by simp [go_sem]))
  have X1 : Hid (Rb w1 (w.heap.size + 1 + 1) (.int .i64 0) (.slice none 0 0)) := hideP (Rb.keep ⟨by simp [go_sem], by simp [go_sem], by simp [go_sem], by simp [go_sem], by simp⟩ k1 (by simp))
  have b0 := B0.out
  have hl0 : w.heap.size < w1.heap.size := by omega
  clear k1 SF'
  go_wp2_with fail
  clear b0
  refine Calls.mono (OW.out w1 K1.out) ?_
  rintro e w2 ⟨mb, mn, rfl, hm1, hm2, OM, k2⟩
  have n2 := k2.size
  have K2 := hideP (K1.out.trans (k2.mono K1.out.size))
  have B2 := hideP ((k2.cell (p := ⟨w.heap.size, 0, none⟩) hl0).trans B0.out)
  have B3 := hideP ((k2.cell (p := ⟨w.heap.size + 1, 0, none⟩) (by show w.heap.size + 1 < _; omega)).trans B1.out)
  have X2 := hideP (X1.out.keep k2 X1.out.lt)
  have M2 := hideP OM
  clear k2 OM OW B0 B1 X1
  go_wp2_with fail
  refine Calls.mono (CL.out _ (K2.out.alloc (by omega) _)) ?_
  rintro e w3 ⟨s3, c3, rfl, O3, k3⟩
  simp only [World.size_alloc] at O3
  have n3 := k3.size
  simp only [World.size_alloc] at n3
  obtain ⟨ab, rfl⟩ : ∃ ab, s3 = some ab := by
    rcases O3.wrt.row with h | ⟨g, o, h, _⟩
    · rw [h] at hpos; simp at hpos
    · exact ⟨_, h⟩
  have hab := World.ownsRow.lt O3 ab.block rfl
  have HO3 := hideP O3
  have K3 : Hid (Below (w2.heap.size + 1) (w2.alloc (.cells #[.map (some mb)] 59)) w3) := hideP (by have := k3; simp only [World.size_alloc] at this; exact this)
  clear k3 O3
  go_wp2_with (first | (go_at_call 28; refine Calls.mono (rbs_any _) ?_; rintro e w4 ⟨rfl, k4⟩; replace k4 := hideP k4) | (go_at_call 27; refine Calls.mono (ptsOf_any _ _ _ _ _) ?_; rintro e w5 ⟨rfl, hw5⟩; subst hw5))
  obtain ⟨Wk, hWk⟩ : ∃ Wk, w4.alloc (.cells #[.int .i64 0, .int .i64 1, .int .i64 12, .int .i64 7] 45) = Wk := ⟨_, rfl⟩
  have n4 := k4.out.size
  simp only [World.size_alloc] at n4
  have hWs : Wk.heap.size = w4.heap.size + 1 := by rw [← hWk]; simp
  have BX : Hid (Wk.heap[w4.heap.size]? = some (.cells #[.int .i64 stripR.x, .int .i64 stripR.y, .int .i64 stripR.w, .int .i64 stripR.h] 45 (0, 0))) := hideP (by rw [← hWk]; exact heap_alloc_new w4 _)
  have K5 : Below (w2.heap.size + 1) (w2.alloc (.cells #[.map (some mb)] 59)) Wk := by
    rw [← hWk]
    refine ((K3.out.alloc (by omega) _).trans (k4.out.mono (by simp; omega))).alloc (by omega) _
  have K2k : Hid (Below w2.heap.size w2 Wk) := hideP (((Below.refl _ _).alloc (Nat.le_refl _) _).trans (K5.mono (by omega)))
  have Kk : Hid (Below w.heap.size w Wk) := hideP (K2.out.trans (K2k.out.mono K2.out.size))
  have Z4 : Hid (Wk.cell? ⟨w2.heap.size, 0, none⟩ = some (.map (some mb))) := hideP ((K5.cell (p := ⟨w2.heap.size, 0, none⟩) (by show w2.heap.size < _; omega)).trans (by simp [go_sem]))
  have Z1 := hideP ((K2k.out.cell (p := ⟨w.heap.size, 0, none⟩) (by show w.heap.size < _; omega)).trans B2.out)
  have Z2 := hideP ((K2k.out.cell (p := ⟨w.heap.size + 1, 0, none⟩) (by show w.heap.size + 1 < _; omega)).trans B3.out)
  have X9 := hideP (X2.out.keep K2k.out X2.out.lt)
  have MM := hideP (M2.out.keep K2k.out hm2)
  have hbx : w3.heap.size < Wk.heap.size := by omega
  have hbn : w3.heap.size ≠ ab.block := by omega
  have OS0 : Hid (OS Wk Wk w2.heap.size ab.block w3.heap.size 0 (some ab) c3 A) := hideP (by
    have hk := k4.out
    refine ⟨?_, fun a ha => by cases ha; exact .inl rfl, ?_, ?_, fun _ _ => rfl, fun _ _ _ _ => rfl, rfl, rfl, rfl, Nat.le_refl _⟩
    · rw [← hWk]; exact (((HO3.out.le (by omega)).alloc _).keep hk).alloc _
    · rw [← hWk]
      refine (Below.cell (kal5 w4 _) (p := ⟨w3.heap.size, 0, none⟩) (by show w3.heap.size < _; omega)).trans ((hk.cell (p := ⟨w3.heap.size, 0, none⟩) (by simp)).trans (by simp [go_sem]))
    · rw [← hWk]
      refine (Below.frozen (kal5 w4 _) (p := ⟨w3.heap.size, 0, none⟩) (by show w3.heap.size < _; omega)).trans ((hk.frozen (p := ⟨w3.heap.size, 0, none⟩) (by simp)).trans (by simp [go_sem])))
  try rw [hWk]
  clear hWk K5 k4 K3 HO3 M2 X2 B2 B3
  refine (wpIn_wide (n := 3)).1 ?_
  refine wpIn_rangeFunc_ownH rfl (by omega) (gf := 48) (lb := #[.pointer (some ⟨w4.heap.size, 0, none⟩)]) rfl trivial (enters_of Try.func48 (by kernel_rfl) rfl)
    (pts_stopsM 2 w4.heap.size stripR rfl Wk (by omega) BX.out) (fun h k => k.trans h) (fun W l o o' hl _ _ _ => World.putObj_heap_other (by omega)) (Below.refl _ _) (fun _ => rfl)
    (fun pre W => ∃ s c, OS Wk W w2.heap.size ab.block w3.heap.size 0 s c (A ++ pre.map (fun p => G p.val)))
    (fun _ _ _ => False)
    (os_own Wk.heap.size (Nat.le_refl _) hbx (fun (pre : List { p : Int × Int // p ∈ ptsOf stripR }) => A ++ pre.map (fun p => G p.val)))
    (fun _ _ _ _ _ hs _ _ => hs)
    ⟨_, _, by simpa using OS0.out⟩
    (fun x a' W => a' = { tmps := #[.slice so L.length sc, .slice la LL.length lc, .slice (some aa) A.length ac, .pointer (some ⟨w.heap.size, 0, none⟩), .pointer (some ⟨w.heap.size + 1, 0, none⟩), undef, .pointer (some ⟨w.heap.size + 1 + 1, 0, none⟩), .int .i64 0, .pointer (some ⟨w2.heap.size, 0, none⟩), .pointer (some ⟨w3.heap.size, 0, none⟩), .int .i64 x.val.1, .int .i64 x.val.2, undef, undef, undef, .slice so L.length sc, .slice la LL.length lc, .slice (some aa) A.length ac, .int .i64 0, .int .i64 0, .bool false, undef, undef, .slice so L.length sc, .map (some mb), .slice (some aa) A.length ac, .slice (some ab) A.length c3, .agg #[.int .i64 0, .int .i64 1, .int .i64 12, .int .i64 7], .func (.func 48) #[] #[.pointer (some ⟨w4.heap.size, 0, none⟩)], .int .i64 x.val.1, .int .i64 x.val.2, undef, undef, undef, undef, undef, undef, undef, undef, undef, undef, undef, undef, undef, undef, undef, undef, undef, undef, undef, undef, undef, undef, undef], defers := [] })
    (fun x a' s X Y row h _ _ => h) ?assign ?body ?done ?stop
  case assign =>
    rintro l pre x W K hI hK
    simp only [encP]
    gi_wp2
    exact hK _ _ (KeepsFrom.refl _ _) rfl hI rfl
  case body =>
    rintro l pre ⟨⟨x, y⟩, hx⟩ a' W hl hrec ⟨s5, c5, O⟩ rfl hlen
    have hsub := mem_sub.1 hx
    have hin := hsub
    simp only [subB, decide_eq_true_eq] at hin
    have hwx : (Lit.int .i64 x).wf = true := wfP (by omega) (by omega)
    have hwy : (Lit.int .i64 y).wf = true := wfP (by omega) (by omega)
    have hlen' : pre.length < 84 := hlen
    have HO := hideP O
    have HO0 := hideP O
    have z4 := (O.at_ w2.heap.size 0 (by omega) (by omega) (by omega)).trans Z4.out
    have hsz := O.size
    have hl4 : w2.heap.size < W.heap.size := by omega
    have hl5 : w3.heap.size < W.heap.size := by omega
    have HOM := hideP (MM.out.same (O.blk mb (by omega) (by omega) (by omega)))
    have hML : (A ++ pre.map (fun p => G p.val)).length ≤ 96 := by simp; omega
    obtain ⟨M, hM⟩ : ∃ M, A ++ pre.map (fun p => G p.val) = M := ⟨_, rfl⟩
    rw [hM] at HO HO0 hML
    have HMM := hideP hM
    clear O hM
    rcases top_or x y L with hno | ⟨A', r, B', ht⟩
    · have FXY := ownF_none hno L.length
      have HZ : Hid (G (x, y) = 0) := hideP (by rw [← HG.out]; exact scrP_none hno)
      have z5 := HO.out.cell
      clear hno hin
      gi_wp2_with (first | (gi_at_lookup; refine wpListIn_ownAsk rfl _ _ rfl mb mn _ rfl HOM.out x y rfl hwx hwy ?_; rw [FXY]) | (gi_at_builtin; refine wpListIn_snoc rfl _ _ rfl w2.heap.size s5 c5 M rfl (HO.out.keep (kal5 W (.cells #[.int .i64 0] 2)) hbx).own ⟨W.heap.size, 0, none⟩ 1 0 rfl (by simp [go_sem]) (by omega) (by simp; omega) ?_; intro s6 c6 w6 SN; replace SN := hideP SN; refine Hid.out ?_) | gi_in)
      have O6 := hideP (HO.out.keep (kal5 W (.cells #[.int .i64 0] 2)) hbx)
      obtain ⟨q1, q2, q3⟩ := O6.out.box hbx hbn SN.out
      have O7 := hideP (O6.out.put hbx hbn SN.out)
      have KF := hideP (HO.out.keepsFrom (B := Wk.heap.size) (v := .slice s6 (M ++ [0]).length c6) hbx SN.out)
      clear O6 SN z5
      refine hideP ?_
      gi_wp2
      simp only [List.length_append, List.length_cons, List.length_nil] at O7 KF
      refine ⟨KF.out, (O7.out.blk w4.heap.size (by omega) (by omega) (by omega)).trans (HO0.out.blk w4.heap.size (by omega) (by omega) (by omega)).symm, s6, c6, ?_⟩
      have h7 := O7.out
      rw [show M ++ [0] = A ++ (pre ++ [(⟨(x, y), hx⟩ : { p : Int × Int // p ∈ ptsOf stripR })]).map (fun p => G p.val) by rw [List.map_append, ← List.append_assoc, HMM.out]; simp [HZ.out]] at h7
      exact h7
    · have FXY := ownF_top ht hsub
      have GD := hideP (good_of HST.out ht)
      have h0 := HL.out
      rw [ht.eq] at h0
      obtain ⟨g, o, rfl, hg, hc, hrow⟩ := Ws.at h0
      have hAl : (A'.length : Int) < (L.length : Int) := by rw [ht.eq]; simp; omega
      have KW : Hid (Below w.heap.size w W) := hideP (Kk.out.trans (HO.out.below (B := w.heap.size) (by omega) (by omega) (by omega)))
      obtain ⟨a0, a1, a2, a3, a4, a5, a6⟩ := (hc.keep KW.out hg).seven
      have z1 : W.cell? ⟨w.heap.size, 0, none⟩ = some (.slice (some ⟨g, o, none⟩) L.length sc) := (HO.out.at_ w.heap.size 0 (by omega) (by omega) (by omega)).trans Z1.out
      have z2 : W.cell? ⟨w.heap.size + 1, 0, none⟩ = some (.slice la LL.length lc) := (HO.out.at_ (w.heap.size + 1) 0 (by omega) (by omega) (by omega)).trans Z2.out
      have hl1 : w.heap.size < W.heap.size := by omega
      have hl2 : w.heap.size + 1 < W.heap.size := by omega
      have hlg : g < W.heap.size := by omega
      have HRow := hideP hrow
      obtain ⟨zz, hzz⟩ : ∃ zz, G (x, y) = zz := ⟨_, rfl⟩
      have HZ := hideP hzz
      have HCS : Hid (celS LL r.ct x y = zz) := hideP (by rw [← scrP_some ht, HG.out]; exact hzz)
      have SV := hideP (fun W2 (kk : Kept W W2) => SH.out r x y W2 (KW.out.trans (Below.mono (Kept.below kk) KW.out.size)) GD.out HRow.out ⟨by omega, by omega⟩ ⟨by omega, by omega⟩)
      rw [HCS.out] at SV
      clear h0 hc hrow ht hzz hin
      obtain ⟨ri, rx, ry, rp, rh, rm, ⟨rao, rca, rg, rD⟩⟩ := r
      simp only at a0 a1 a2 a3 a4 a5 a6 SV
      gi_wp2_with (first | (gi_at_lookup; refine wpListIn_ownAsk rfl _ _ rfl mb mn _ rfl HOM.out x y rfl hwx hwy ?_; rw [FXY]) | gi_in)
      refine wpIn_region_keptR (by kernel_rfl) (by kernel_rfl) (by kernel_rfl) ?_
      repeat (refine keptIn_step (by rfl) (fun _ => trivial) ?_; apply Exists.intro; refine ⟨fun w1 k1 => ?_, fun K hK => ?_⟩; (focus (have hc := Kept.cell k1; go_simp; first | done | rfl | exact (CallsIn.inRound l (callsIn_wide.2 (kept_call k1 (SV.out _ k1)))) | exact ⟨rfl, CallsIn.inRound l (callsIn_wide.2 (kept_call k1 (SV.out _ k1)))⟩ | exact ⟨by simp, CallsIn.inRound l (callsIn_wide.2 (kept_call k1 (SV.out _ k1)))⟩)); (go_simp; refine hK _ ?_; clear hK K))
      refine wpQuietIn_nil ?_
      intro w7 k7
      have k77 := Kept.below k7
      have HO7 := hideP (HO.out.keep k77 hbx)
      have HK7 := hideP k77
      have n7 := k77.size
      have z5 := HO7.out.cell
      have hl7 : w3.heap.size < w7.heap.size := by omega
      clear k7 k77 a0 a1 a2 a3 a4 a5 a6 z1 z2 z4
      gi_wp2_with (first | (gi_at_builtin; refine wpListIn_snoc rfl _ _ rfl w2.heap.size s5 c5 M rfl (HO7.out.keep (kal5 w7 (.cells #[.int .i64 zz] 2)) hbx).own ⟨w7.heap.size, 0, none⟩ 1 zz rfl (by simp [go_sem]) (by omega) (by simp; omega) ?_; intro s6 c6 w6 SN; replace SN := hideP SN; refine Hid.out ?_) | gi_in)
      have O6 := hideP (HO7.out.keep (kal5 w7 (.cells #[.int .i64 zz] 2)) hbx)
      obtain ⟨q1, q2, q3⟩ := O6.out.box hbx hbn SN.out
      have O7 := hideP (O6.out.put hbx hbn SN.out)
      have KF := hideP (HO7.out.keepsFrom (B := Wk.heap.size) (v := .slice s6 (M ++ [zz]).length c6) hbx SN.out)
      clear O6 SN z5
      refine hideP ?_
      gi_wp2
      simp only [List.length_append, List.length_cons, List.length_nil] at O7 KF
      refine ⟨keepsFrom_t HK7.out KF.out, (O7.out.blk w4.heap.size (by omega) (by omega) (by omega)).trans (HO0.out.blk w4.heap.size (by omega) (by omega) (by omega)).symm, s6, c6, ?_⟩
      have h7 := O7.out
      rw [show M ++ [zz] = A ++ (pre ++ [(⟨(x, y), hx⟩ : { p : Int × Int // p ∈ ptsOf stripR })]).map (fun p => G p.val) by rw [List.map_append, ← List.append_assoc, HMM.out]; simp [HZ.out]] at h7
      exact h7
  case done =>
    rintro D ys W hD hys ⟨s5, c5, O⟩ hK
    have hyl : ys.map (fun p => G p.val) = (ptsOf stripR).map G := by have h9 := congrArg (List.map G) hys; rw [List.map_map] at h9; exact h9
    rw [hyl, ← HR.out] at O
    have HO := hideP O
    have hsz := O.size
    have z5 := O.cell
    rw [HLen.out] at z5
    have X5 : Rb W (w.heap.size + 1 + 1) (.int .i64 0) (.slice none 0 0) := ⟨(O.at_ _ 0 (by omega) (by omega) (by omega)).trans X9.out.c0, (O.at_ _ 1 (by omega) (by omega) (by omega)).trans X9.out.c1, (O.at_f _ 0 (by omega) (by omega) (by omega)).trans X9.out.f0, (O.at_f _ 1 (by omega) (by omega) (by omega)).trans X9.out.f1, by omega⟩
    have HX5 := hideP X5
    obtain ⟨x0, x1, x2, x3, x4⟩ := X5
    have hl5 : w3.heap.size < W.heap.size := by omega
    have MK := hideP ((Mks.nil W Wk.heap.size).cons hK hD (fun E hE => by cases hE))
    have HKD := hideP hK
    have HBW := hideP (Kk.out.trans (O.below (B := w.heap.size) (by omega) (by omega) (by omega)))
    clear O hK
    go_wp2
    have T0 : Turn (w.heap.size + 1 + 1) W ((W.setCell ⟨w.heap.size + 1 + 1, 0, none⟩ (.int .i64 0)).setCell ⟨w.heap.size + 1 + 1, 1, none⟩ (.slice s5 96 c5)) := (Turn.store W ⟨w.heap.size + 1 + 1, 0, none⟩ _).trans (Turn.store _ ⟨w.heap.size + 1 + 1, 1, none⟩ _)
    show LeavesInM Fence.wide 3 Try.prog Try.f6 _ _ (marks [D]) .returning _
    refine leave_marksO Wk.heap.size [D] _ (MK.out.turn T0 (by omega)) (by simp; omega) fun w' k hk => ?_
    have e0 : w'.cell? ⟨w.heap.size + 1 + 1, 0, none⟩ = some (.int .i64 0) := by
      rw [k.cell (p := ⟨w.heap.size + 1 + 1, 0, none⟩) (by show w.heap.size + 1 + 1 < _; omega), cell_set_other (by omega)]; exact cell_set_same HX5.out.c0
    have e1 : w'.cell? ⟨w.heap.size + 1 + 1, 1, none⟩ = some (.slice s5 96 c5) := by
      rw [k.cell (p := ⟨w.heap.size + 1 + 1, 1, none⟩) (by show w.heap.size + 1 + 1 < _; omega)]; exact cell_set_same ((cell_set_other (by omega)).trans HX5.out.c1)
    refine ⟨.agg #[.int .i64 0, .slice s5 96 c5], ?_, ?_⟩
    · simp [results, Try.results6, go_sem, e0, e1]
    · refine ⟨s5, c5, by rw [HLen.out], ?_, ((HBW.out.setCell (p := ⟨w.heap.size + 1 + 1, 0, none⟩) (by show w.heap.size ≤ w.heap.size + 1 + 1; omega) _).setCell (p := ⟨w.heap.size + 1 + 1, 1, none⟩) (by show w.heap.size ≤ w.heap.size + 1 + 1; omega) _).trans (k.mono (by omega))⟩
      have h1 := (HO.out.own.set ⟨w.heap.size + 1 + 1, 0, none⟩ (.int .i64 0) (by show w.heap.size + 1 + 1 < _; omega)).set ⟨w.heap.size + 1 + 1, 1, none⟩ (.slice s5 96 c5) (by show w.heap.size + 1 + 1 < _; omega)
      refine (ownR_same h1 fun a ha => hk _ fun E hE e => ?_).le (by omega)
      obtain rfl : E = D := by simpa using hE
      obtain ⟨cur, hcur⟩ := ownR_cells HO.out.own ha
      rw [e, HKD.out] at hcur
      cases hcur
  case stop =>
    rintro D c pre W _ _ h _
    exact h.elim
end Go.Proofs.Ytmmjannkfmiohaa

namespace Go.Proofs.Ytmmjannkfmiohaa
open Go.RowKit Go.Maps
set_option linter.unusedVariables false

set_option maxHeartbeats 2000000 in
theorem iScreen_bad (so : Option Addr) (sc : Nat) (L : List Wn) (la : Option Addr) (lc : Nat) (LL : List La) (ao : Option Addr) (ac : Nat) (A : List Int) (w : World) (hL : Ws w 0 w.heap.size so L) (hn : L.length + wzs L ≤ 1048576) (hA : Las w 0 w.heap.size la LL) (hl : LL.length ≤ 1048576) (hR : Row .i64 w 0 w.heap.size ao A) (ha : A.length ≤ 1048576) (hz : ¬ scrZ (L.map Wn.ct) LL A = 0) :
    Calls Try.prog 6 #[.slice so L.length sc, .slice la LL.length lc, .slice ao A.length ac] w (IsA w (scrZ (L.map Wn.ct) LL A) []) := by
  have SF := fun w1 (kk : Below w.heap.size w w1) => fos9_any so sc L la lc LL ao ac A w w1 kk hL hn hA hl hR ha
  obtain ⟨F, hF⟩ : ∃ F, scrZ (L.map Wn.ct) LL A = F := ⟨_, rfl⟩
  rw [hF] at SF hz ⊢
  have hne' : (F != 0) = true := by simpa using hz
  have AN' := hideP SF
  clear SF hL hz hF hA hR
  go_enter Try.func6, Try.ntmps6
  go_wp2_with fail
  refine Calls.mono (AN'.out _ (by go_grown)) ?_
  rintro e w1 ⟨rfl, k1⟩
  have K1 : Hid (Below w.heap.size w w1) := hideP (Below.trans (by go_grown) (k1.mono (by simp; omega)))
  have X1 : Rb w1 (w.heap.size + 1 + 1) (.int .i64 0) (.slice none 0 0) := Rb.keep ⟨by simp [go_sem], by simp [go_sem], by simp [go_sem], by simp [go_sem], by simp⟩ k1 (by simp)
  obtain ⟨x0, x1, x2, x3, x4⟩ := X1
  clear k1 AN'
  go_wp2
  exact bodyPost_ret (v := .agg #[.int .i64 F, .slice none 0 0]) (by simp [results, Try.results6, go_sem, *]; done) rfl (IsA.nil w F rfl ((K1.out.setCell (p := ⟨w.heap.size + 1 + 1, 0, none⟩) (by show w.heap.size ≤ w.heap.size + 1 + 1; omega) _).setCell (p := ⟨w.heap.size + 1 + 1, 1, none⟩) (by show w.heap.size ≤ w.heap.size + 1 + 1; omega) _))

theorem iScreen_any (so : Option Addr) (sc : Nat) (L : List Wn) (la : Option Addr) (lc : Nat) (LL : List La) (ao : Option Addr) (ac : Nat) (A : List Int) (w : World) (hL : Ws w 0 w.heap.size so L) (hn : L.length + wzs L ≤ 1048576) (hA : Las w 0 w.heap.size la LL) (hl : LL.length ≤ 1048576) (hR : Row .i64 w 0 w.heap.size ao A) (ha : A.length ≤ 1048576) :
    Calls Try.prog 6 #[.slice so L.length sc, .slice la LL.length lc, .slice ao A.length ac] w (IsA w (scrZ (L.map Wn.ct) LL A) (scrL (L.map Wn.ct) LL A)) := by
  by_cases h : scrZ (L.map Wn.ct) LL A = 0
  · rw [scrL_yes h, h]; exact iScreen_ok so sc L la lc LL ao ac A w hL hn hA hl hR ha h
  · rw [scrL_no h]; exact iScreen_bad so sc L la lc LL ao ac A w hL hn hA hl hR ha h
end Go.Proofs.Ytmmjannkfmiohaa

namespace Go.Proofs.Ytmmjannkfmiohaa
open Go.RowKit Go.Maps
set_option linter.unusedVariables false

set_option maxHeartbeats 1000000 in
theorem iOwnersOf_bad (so : Option Addr) (sc : Nat) (L : List Wn) (w : World) (hL : Ws w 0 w.heap.size so L) (hn : L.length + wzs L ≤ 1048576) (h : ¬ stF (L.map Wn.ct) = 0) :
    Calls Try.prog 14 #[.slice so L.length sc] w (IsA w (stF (L.map Wn.ct)) []) := by
  have SF := fun w1 (kk : Below w.heap.size w w1) => iStack_any 0 w.heap.size so sc L w1 (hL.keep kk (Nat.le_refl _)) kk.size hn
  obtain ⟨F, hF⟩ : ∃ F, stF (L.map Wn.ct) = F := ⟨_, rfl⟩
  rw [hF] at SF h ⊢
  have hne' : (F != 0) = true := by simpa using h
  have AN' := hideP SF
  clear SF hL h hF
  go_enter Try.func14, Try.ntmps14
  go_wp2_with fail
  refine Calls.mono (AN'.out _ (by go_grown)) ?_
  rintro e w1 ⟨rfl, k1⟩
  have K1 : Hid (Below w.heap.size w w1) := hideP (Below.trans (by go_grown) (k1.mono (by simp; omega)))
  have X1 : Rb w1 (w.heap.size + 1) (.int .i64 0) (.slice none 0 0) := Rb.keep ⟨by simp [go_sem], by simp [go_sem], by simp [go_sem], by simp [go_sem], by simp⟩ k1 (by simp)
  obtain ⟨x0, x1, x2, x3, x4⟩ := X1
  clear k1 AN'
  go_wp2
  exact bodyPost_ret (v := .agg #[.int .i64 F, .slice none 0 0]) (by simp [results, Try.results14, go_sem, *]; done) rfl (IsA.nil w F rfl ((K1.out.setCell (p := ⟨w.heap.size + 1, 0, none⟩) (by show w.heap.size ≤ w.heap.size + 1; omega) _).setCell (p := ⟨w.heap.size + 1, 1, none⟩) (by show w.heap.size ≤ w.heap.size + 1; omega) _))

theorem iOwnersOf_any (so : Option Addr) (sc : Nat) (L : List Wn) (w : World) (hL : Ws w 0 w.heap.size so L) (hn : L.length + wzs L ≤ 1048576) :
    Calls Try.prog 14 #[.slice so L.length sc] w (IsA w (stF (L.map Wn.ct)) (oscL (L.map Wn.ct))) := by
  by_cases h : stF (L.map Wn.ct) = 0
  · rw [oscL_yes h, h]; exact iOwnersOf_ok so sc L w hL hn h
  · rw [oscL_no h]; exact iOwnersOf_bad so sc L w hL hn h
end Go.Proofs.Ytmmjannkfmiohaa
