/- Messages packed by the model. -/
import Derived.Test.YtefkngpceeclhaaV44
import Derived.Test.YtefkngpceeclhaaV30
namespace Go.Proofs.Ytefkngpceeclhaa
open Go.RowKit
set_option linter.unusedVariables false
attribute [local go_sem] growUponR growAtR

/-- Bytes joined, in a region whose order is open. -/
theorem made_appB {R : World → World → Prop} {w : World} {o : Oper} {a : Act} {K : World → Value → Prop}
    (s x : Operand) (ho : o.op = .call { callee := .builtin .append, args := #[s, x], argTypes := #[22, 22] })
    (base : Nat) (ao : Option Addr) (cap : Nat) (M : List Int) (hs : a.eval s = .slice ao M.length cap) (hown : OwnR .u8 5 w base ao cap M)
    (bo : Option Addr) (cb : Nat) (L : List Int) (hx : a.eval x = .slice bo L.length cb) (hsrc : SrcN .u8 w bo L) (hn : M.length + L.length ≤ 2097152) (hbase : base ≤ w.heap.size)
    (h : ∀ ao' cap' w', OwnR .u8 5 w' base ao' cap' (M ++ L) → Below base w w' → w.heap.size ≤ w'.heap.size → R w w' ∧ K w' (.slice ao' (M ++ L).length cap')) : madeAtR R Try.prog o a w K := by
  obtain ⟨ao', cap', w', hr, h1, h2, h3⟩ := run_appB (w := w) o.type base ao cap M hown bo cb L hsrc hn hbase
  have hr' : (execOp a.eval o).run Try.prog w = .ok (.value (.slice ao' (M ++ L).length cap')) w' := by
    unfold execOp
    simp only [ho, resolve, invoke, builtin, Sem.run_bind, Sem.run_pure, Result.andThen_ok, List.map_toArray, List.map_cons, List.map_nil, hs, hx, hr]
  unfold madeAtR
  rw [hr']
  exact h ao' cap' w' h1 h3 h2.size
theorem src_two (w : World) (x y : Int) (T : TypeId) : SrcN .u8 (w.alloc (.cells #[.int .u8 x, .int .u8 y] T)) (some ⟨w.heap.size, 0, none⟩) [x, y] := by
  refine .inr ⟨⟨w.heap.size, 0, none⟩, rfl, fun j hj => ?_⟩
  rw [add_none]
  have h2 : j = 0 ∨ j = 1 := by simp at hj; omega
  rcases h2 with rfl | rfl <;> simp

set_option maxRecDepth 100000 in
set_option maxHeartbeats 4000000 in
theorem pack6_any (lo hi : Nat) (so : Option Addr) (sc : Nat) (L : List Mg) (w : World) (hL : Ms w lo hi so L) (hs : hi ≤ w.heap.size) (hn : L.length ≤ 100) (hF : msF (L.map Mg.ct) = 0) :
    Calls Try.prog 57 #[.slice so L.length sc] w fun e w' => ∃ ao cap, e = .returned (.slice ao (pkO (L.map Mg.ct)).length cap) ∧ OwnR .u8 5 w' w.heap.size ao cap (pkO (L.map Mg.ct)) ∧ Below w.heap.size w w' := by
  have hn' : (L.length : Int) ≤ 100 := by omega
  have HL := hideP hL
  have HF := hideP hF
  clear hL hF
  go_enter Try.func57, Try.ntmps57
  go_wp2
  have K0 : Hid (Below w.heap.size w (w.alloc (.cells #[] 5))) := hideP (kalP _ _)
  have O0 : Hid (OwnR .u8 5 (w.alloc (.cells #[] 5)) w.heap.size (some ⟨w.heap.size, 0, none⟩) 0 []) := hideP (OwnR.lit .u8 5 w w.heap.size [] _ rfl (Nat.le_refl _) (by unfold maxLen; simp))
  have n0 : w.heap.size ≤ (w.alloc (.cells #[] 5)).heap.size := by simp
  generalize w.alloc (.cells #[] 5) = W at *
  go_loopw [3, 4] (fun q i wr => ∃ (X Y : List Mg) (ao : Option Addr) (cap : Nat), X ++ Y = L ∧ i = .int .i64 (X.length : Nat) ∧ q = .slice ao (pkO (X.map Mg.ct)).length cap ∧ OwnR .u8 5 wr w.heap.size ao cap (pkO (X.map Mg.ct)) ∧ Below w.heap.size w wr) (fun _ i _ => L.length - (intOf i).toNat)
  case atStart => exact ⟨[], L, some ⟨w.heap.size, 0, none⟩, 0, rfl, rfl, rfl, O0.out, K0.out⟩
  case round =>
    obtain ⟨X, Y, ao0, cap0, hXY, rfl, rfl, hO, kb⟩ := hrel
    have hlen : X.length + Y.length = L.length := by rw [← hXY]; simp
    have hfx : msF (X.map Mg.ct) = 0 := msF_pre0 (Y := Y.map Mg.ct) (by rw [← List.map_append, hXY]; exact HF.out)
    have hpl := pkO_len (X.map Mg.ct) hfx
    rw [List.length_map] at hpl
    have hz := kb.size
    have HB := hideP kb
    have HO := hideP hO
    clear kb K0 O0 hO hfx
    cases Y with
    | cons r Y =>
      have hlt : (X.length : Int) < (L.length : Int) := by simp at hlen; omega
      obtain ⟨hd30, hk1, hk7⟩ := mF_len (msF_mem HF.out r.ct (by rw [← hXY]; simp))
      have h0 := HL.out
      rw [← hXY] at h0
      obtain ⟨g, o, rfl, hg, hc, hon⟩ := Ms.at h0
      obtain ⟨a0, a1⟩ := hc.keep HB.out (by omega)
      have hgl : g < wr.heap.size := by omega
      have hgw : g < w.heap.size := by omega
      have HXY := hideP hXY
      have HR := hideP (Row.keep hon HB.out hs)
      clear h0 hc hXY hon HL
      obtain ⟨k, ao, cap, gb, D⟩ := r
      simp only [Mg.ct] at a0 a1 hd30 hk1 hk7 HR
      have hMl : (pkO (X.map Mg.ct)).length ≤ 4000 := by omega
      have HPK : Hid (pkO ((X ++ [(⟨k, ⟨ao, cap, gb, D⟩⟩ : Mg)]).map Mg.ct) = (pkO (X.map Mg.ct) ++ [1 + (D.length : Int), k]) ++ D) := hideP (by
        rw [List.map_append, pkO_app, List.append_assoc]
        simp [pkO, pk1, Mg.ct])
      obtain ⟨M, hM⟩ : ∃ M, pkO (X.map Mg.ct) = M := ⟨_, rfl⟩
      rw [hM] at HO hMl HPK ⊢
      have hd' : (D.length : Int) ≤ 30 := by omega
      have hm0 : IntKind.i64.wrap (1 + (D.length : Int)) = 1 + (D.length : Int) := IntWalk.i64_in _ (by omega)
      have hm1 : IntKind.u8.wrap (1 + (D.length : Int)) = 1 + (D.length : Int) := by simp [IntKind.wrap, IntKind.bits, IntKind.signed]; omega
      have hm2 : IntKind.u8.wrap k = k := by simp [IntKind.wrap, IntKind.bits, IntKind.signed]; omega
      clear hM hpl
      go_wp2_with fail
      refine wp_region_takesR (R := Stay (fun q => q < w.heap.size)) (G := Kept) (rel_stay _) rel_keptA (fun h => Stay.of_below h) 23 [0, 1, 2, 3, 4, 5, 6, 7, 8, 9, 10, 11, 12, 13, 14, 17, 18, 19, 20, 21] [15, 16, 22] (by kernel_rfl) (by kernel_rfl) ?_
      simp only [sel, List.filterMap_cons, List.filterMap_nil, List.getElem?_cons_succ, List.getElem?_cons_zero]
      repeat (refine grow_stepR (by rfl) ?_; apply Exists.intro; refine ⟨fun w1 k1 => ?_, fun K hK => ?_⟩; (focus (have hc := fun o => k1.cell g o hgw hgl; go_simp; first | done | rfl)); (go_simp; refine hK _ ?_; clear hK K))
      refine grow_nilR ?_
      clear a0 a1
      refine mades_stepR (by rfl) fun w1 k1 => ?_
      have kk1 := Kept.below k1
      have HB1 := hideP (HB.out.trans (kk1.mono hz))
      have HO1 := hideP (HO.out.keep kk1)
      have HR1 := hideP (HR.out.keep kk1 (by omega))
      have n1 := kk1.size
      clear k1 kk1 HB HO HR
      refine made_allocR (rel_stay _) (b := .cells #[.int .u8 (1 + (D.length : Int)), .int .u8 k] 5) (by go_simp; first | done | rfl) fun K hK => ?_
      go_simp
      refine hK _ ?_
      clear hK K
      refine mades_stepR (by rfl) fun w2 k2 => ?_
      have kk2 := Kept.below k2
      have ka := kalP w1 (.cells #[.int .u8 (1 + (D.length : Int)), .int .u8 k] 5)
      have k12 : Below w1.heap.size w1 w2 := ka.trans (kk2.mono ka.size)
      have HB2 := hideP (HB1.out.trans (k12.mono (by omega)))
      have HO2 := hideP (HO1.out.keep k12)
      have HR2 := hideP (HR1.out.keep k12 (by omega))
      have HS2 := hideP (src_two w1 (1 + (D.length : Int)) k 5)
      have HS2' : Hid (SrcN .u8 w2 (some ⟨w1.heap.size, 0, none⟩) [1 + (D.length : Int), k]) := hideP (by
        rcases HS2.out with ⟨e, _⟩ | ⟨ad, e, hc⟩
        · cases e
        · refine .inr ⟨ad, e, fun j hj => ?_⟩
          cases e
          rw [← hc j hj, add_none]
          exact kk2.cell (p := ⟨w1.heap.size, 0 + j, none⟩) (by simp))
      have n2 : w.heap.size ≤ w2.heap.size := by have := k12.size; omega
      clear k2 kk2 ka k12 HB1 HO1 HR1 HS2
      refine made_appB _ _ rfl w.heap.size ao0 cap0 M rfl HO2.out _ 2 [1 + (D.length : Int), k] rfl HS2'.out (by simp; omega) n2 ?_
      intro ao3 cap3 w3 O3 K3 z3
      have HB3 := hideP (HB2.out.trans K3)
      have HO3 := hideP O3
      have HR3 := hideP (HR2.out.keep K3 hs)
      have hl3 : (M ++ [1 + (D.length : Int), k]).length ≤ 4002 := by simp; omega
      refine ⟨⟨z3, fun q hq _ => K3.block q hq⟩, fun K hK => ?_⟩
      clear O3 K3 HB2 HO2 HR2 HS2'
      obtain ⟨M2, hM2⟩ : ∃ M2, M ++ [1 + (D.length : Int), k] = M2 := ⟨_, rfl⟩
      rw [hM2] at HO3 hl3 HPK
      try rw [hM2]
      clear hM2
      go_simp
      refine hK _ ?_
      clear hK K
      refine mades_stepR (by rfl) fun w4 k4 => ?_
      have kk4 := Kept.below k4
      have n3 : w.heap.size ≤ w3.heap.size := by omega
      have HB4 := hideP (HB3.out.trans (kk4.mono n3))
      have HO4 := hideP (HO3.out.keep kk4)
      have HR4 := hideP (HR3.out.keep kk4 (by omega))
      have n4 := kk4.size
      clear k4 kk4 HB3 HO3 HR3
      refine made_appB _ _ rfl w.heap.size ao3 cap3 M2 (by rfl) HO4.out ao cap D rfl HR4.out.src (by omega) (by omega) ?_
      intro ao5 cap5 w5 O5 K5 z5
      have HB5 := hideP (HB4.out.trans K5)
      have HO5 := hideP O5
      refine ⟨⟨z5, fun q hq _ => K5.block q hq⟩, fun K hK => ?_⟩
      clear O5 K5 HB4 HO4 HR4
      go_simp
      refine hK _ ?_
      clear hK K
      refine mades_nilR fun w6 k6 => ?_
      have kk6 := Kept.below k6
      have HB6 := hideP (HB5.out.trans (kk6.mono (by omega)))
      have HO6 := hideP (HO5.out.keep kk6)
      clear k6 kk6 HB5 HO5
      go_wp2
      go_roundw
      case rel =>
        exact ⟨X ++ [⟨k, ⟨ao, cap, gb, D⟩⟩], Y, ao5, cap5, mid_in HXY.out, by simp, by rw [HPK.out]; simp, by rw [HPK.out]; exact HO6.out, HB6.out⟩
      case measure => simp [intOf]; omega
    | nil =>
      have hX : X = L := by simpa using hXY
      subst hX
      obtain ⟨B, hBk⟩ : ∃ B, pkO (X.map Mg.ct) = B := ⟨_, rfl⟩
      rw [hBk] at HO ⊢
      have HBk := hideP hBk
      clear hXY HL HF hBk hpl
      go_wp2
      go_returns
      exact ⟨ao0, cap0, by rw [HBk.out]; rfl, by rw [HBk.out]; exact HO.out, HB.out⟩

set_option maxRecDepth 100000 in
set_option maxHeartbeats 2000000 in
theorem sPack_any (lo hi : Nat) (so : Option Addr) (sc : Nat) (L : List Mg) (w : World) (hL : Ms w lo hi so L) (hs : hi ≤ w.heap.size) (hn : L.length + mzs L ≤ 1048576) :
    Calls Try.prog 25 #[.slice so L.length sc] w fun e w' => PkA (L.map Mg.ct) w e w' := by
  have hn' : (L.length : Int) ≤ 1048576 := by omega
  have HL := hideP hL
  have hCl : (L.map Mg.ct).length = L.length := by simp
  have PN := hideP (fun c w' (hc : pkC (L.map Mg.ct) = c) h hb => pkA_no (w := w) (w' := w') hc h hb)
  have PY := hideP (fun w' ao cap h h2 ho hb => pkA_yes (C := L.map Mg.ct) (w := w) (w' := w') (ao := ao) (cap := cap) h h2 ho hb)
  have PM := hideP (fun h => pkC_many (C := L.map Mg.ct) h)
  have PF := hideP (fun h => pkC_few (C := L.map Mg.ct) h)
  obtain ⟨P, hP⟩ : ∃ P, PkA (L.map Mg.ct) w = P := ⟨_, rfl⟩
  rw [hP] at PN PY ⊢
  have HCl := hideP hCl
  clear hL hP hCl
  by_cases hmany : (100 : Int) < (L.length : Int)
  · have PN' := hideP (fun w' hb => PN.out 2 w' (PM.out (by rw [HCl.out]; omega)) (by omega) hb)
    clear PN PY PM PF HL
    go_enter Try.func25, Try.ntmps25
    go_wp2
    refine bodyPost_ret (v := .agg #[.int .i64 2, .slice none 0 0]) (by simp [results, Try.results25, go_sem, *]) rfl (PN'.out _ ?_)
    go_grown
  have HQ := hideP (PF.out (by rw [HCl.out]; omega))
  have HFew := hideP (show ¬ 100 < (L.map Mg.ct).length by rw [HCl.out]; omega)
  have hfl : L.length ≤ 100 := by omega
  clear PM PF
  go_enter Try.func25, Try.ntmps25
  go_wp2
  have K0 : Hid (Below w.heap.size w (w.alloc (.cells #[.int .i64 0, .slice none 0 0] 43))) := hideP (kalP _ _)
  have Z0 := hideP (rb_newP w (.int .i64 0) (.slice none 0 0) 43)
  have n0 : (w.alloc (.cells #[.int .i64 0, .slice none 0 0] 43)).heap.size = w.heap.size + 1 := by simp
  generalize w.alloc (.cells #[.int .i64 0, .slice none 0 0] 43) = W at *
  go_loopw [3] (fun i wr => ∃ (X Y : List Mg), X ++ Y = L ∧ i = .int .i64 (X.length : Nat) ∧ msF (X.map Mg.ct) = 0 ∧ Below w.heap.size w wr ∧ Rb wr w.heap.size (.int .i64 0) (.slice none 0 0)) (fun i _ => L.length - (intOf i).toNat)
  case atStart => exact ⟨[], L, rfl, rfl, rfl, K0.out, Z0.out⟩
  case round =>
    obtain ⟨X, Y, hXY, rfl, hF, kb, hZ⟩ := hrel
    have hlen : X.length + Y.length = L.length := by rw [← hXY]; simp
    have hz := hZ.lt
    have HF := hideP hF
    have HB := hideP kb
    have HZ := hideP hZ
    clear hF kb K0 Z0 hZ
    cases Y with
    | cons r Y =>
      have hlt : (X.length : Int) < (L.length : Int) := by simp at hlen; omega
      have hsz : r.b.L.length ≤ mzs L := mzs_mem (m := r) (by rw [← hXY]; simp)
      have h0 := HL.out
      rw [← hXY] at h0
      obtain ⟨g, o, rfl, hg, hc, hon⟩ := Ms.at h0
      have hc' := hc.keep HB.out (by omega)
      have HXY := hideP hXY
      have MF := hideP (sMF_any g (o + X.length * 2) r wr hc' (by omega))
      have hgl : g < wr.heap.size := by omega
      clear h0 hc hXY hon hc' HL
      go_wp2_with fail
      refine Calls.mono MF.out ?_
      rintro e w2 ⟨rfl, k2⟩
      have HB2 := hideP (HB.out.trans (k2.mono (by omega)))
      have HZ2 := hideP (HZ.out.keep k2 hz)
      clear k2 HB HZ MF
      by_cases hc : mF r.ct = 0
      · have HC := hideP hc
        rw [hc]
        clear hc
        go_wp2
        go_roundw
        case rel => exact ⟨X ++ [r], Y, mid_in HXY.out, by simp, by rw [List.map_append]; exact msF_snoc HF.out HC.out, HB2.out, HZ2.out⟩
        case measure => simp [intOf]; omega
      · obtain ⟨c, hcc⟩ : ∃ c, mF r.ct = c := ⟨_, rfl⟩
        have hcn : (c != 0) = true := by rw [← hcc]; simpa using hc
        have HE : Hid (msF (L.map Mg.ct) = c) := hideP (by
          rw [← HXY.out, List.map_append, List.map_cons]
          exact (msF_bad HF.out hc).trans hcc)
        have PN' := hideP (fun w' hb => PN.out c w' (HQ.out.trans HE.out) (by rw [← hcc]; exact hc) hb)
        rw [hcc]
        clear hc hcc PN PY
        obtain ⟨p0, p1, p2, p3, p4⟩ := HZ2.out
        go_wp2
        refine bodyPost_ret (v := .agg #[.int .i64 c, .slice none 0 0]) (by simp [results, Try.results25, go_sem, *]) rfl (PN'.out _ ?_)
        repeat' (first | (with_reducible exact HB2.out) | (with_reducible refine Below.setCell ?_ ?_ _) | go_size)
    | nil =>
      have hX : X = L := by simpa using hXY
      subst hX
      have PP := hideP (pack6_any lo hi so sc X wr (HL.out.keep HB.out hs) (by omega) hfl HF.out)
      have PY' := hideP (fun w' ao cap ho hb => PY.out w' ao cap HFew.out HF.out ho hb)
      obtain ⟨B, hBk⟩ : ∃ B, pkO (X.map Mg.ct) = B := ⟨_, rfl⟩
      rw [hBk] at PP PY'
      clear hXY HL PN PY hBk
      go_wp2_with fail
      refine Calls.mono PP.out ?_
      rintro e w2 ⟨ao2, cap2, rfl, O2, k2⟩
      have HB2 := hideP (HB.out.trans (k2.mono (by omega)))
      have HZ2 := hideP (HZ.out.keep k2 hz)
      have HO2 := hideP O2
      clear k2 O2 HB HZ PP
      obtain ⟨p0, p1, p2, p3, p4⟩ := HZ2.out
      go_wp2
      refine bodyPost_ret (v := .agg #[.int .i64 0, .slice ao2 B.length cap2]) (by simp [results, Try.results25, go_sem, *]) rfl (PY'.out _ ao2 cap2 ?_ ?_)
      · refine OwnR.le (base := wr.heap.size) ?_ (by omega)
        repeat' (first | (with_reducible exact HO2.out) | (with_reducible refine OwnR.set ?_ _ _ (by dsimp only; omega)))
      · repeat' (first | (with_reducible exact HB2.out) | (with_reducible refine Below.setCell ?_ ?_ _) | go_size)
end Go.Proofs.Ytefkngpceeclhaa
