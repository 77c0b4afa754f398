/- Windows dropped. Regions in open order: one of two that come up; what leaves no value. RaiseWindow by the program. -/
import Derived.Test.YtejgcheddloffaaTr21
import Derived.Test.YtejgcheddloffaaTr10
namespace Go.Proofs.Ytejgcheddloffaa
open Go.RowKit Go.Maps
set_option linter.unusedVariables false

/-- Without the first one of an id. -/
def cutW (id : Int) : List Wc → List Wc
  | [] => []
  | c :: C => if c.i = id then C else c :: cutW id C
theorem cutW_at {id : Int} {L X Y : List Wn} {r : Wn} (h : Fst id L X r Y) : cutW id (L.map Wn.ct) = X.map Wn.ct ++ Y.map Wn.ct := by
  rw [h.eq]
  have hno := h.no
  have hat := h.at'
  clear h
  induction X with
  | nil => simp only [List.nil_append, List.map_cons, List.map_nil, cutW]; rw [if_pos (by exact hat)]
  | cons v X ih =>
    simp only [List.cons_append, List.map_cons, cutW]
    rw [if_neg (by exact hno v (by simp)), ih fun u hu => hno u (by simp [hu])]
theorem cutW_small (id : Int) (C : List Wc) : (cutW id C).length ≤ C.length ∧ cz (cutW id C) ≤ cz C := by
  induction C with
  | nil => exact ⟨Nat.le_refl _, Nat.le_refl _⟩
  | cons c C ih =>
    unfold cutW
    split
    · simp only [List.length_cons, cz]; omega
    · simp only [List.length_cons, cz]; omega
def dropP (C : List Wc) (id : Int) : List Wc := if askW C id = 0 then cutW id C else []
theorem dropP_yes {L X Y : List Wn} {r : Wn} {id : Int} (h : stF (L.map Wn.ct) = 0) (hf : Fst id L X r Y) : dropP (L.map Wn.ct) id = X.map Wn.ct ++ Y.map Wn.ct := by
  unfold dropP; rw [if_pos (askW_yes h hf), cutW_at hf]
theorem dropP_no {C : List Wc} {id : Int} (h : askW C id ≠ 0) : dropP C id = [] := by unfold dropP; rw [if_neg h]
theorem small_drop {L : List Wn} (id : Int) (h : L.length + wzs L ≤ 1048576) : ∀ N : List Wn, N.map Wn.ct = dropP (L.map Wn.ct) id → N.length + wzs N ≤ 1048576 :=
  small_of (L := L) (by
    have := cutW_small id (L.map Wn.ct)
    rw [cz_wzs, List.length_map] at this
    unfold dropP
    split
    · omega
    · simp [cz])
/-- A stack without a fault has each id once. -/
theorem fst_once {L X Y : List Wn} {r : Wn} {id : Int} (h : stF (L.map Wn.ct) = 0) (hf : Fst id L X r Y) : ∀ v ∈ Y, v.i ≠ id := by
  intro v hv e
  have hI : idsF ((L.map Wn.ct).map Wc.i) = 0 := by
    unfold stF at h
    split at h
    · assumption
    · exact absurd h (by assumption)
  have hN := (idsF_ok hI).2
  have e2 : (L.map Wn.ct).map Wc.i = X.map Wn.i ++ r.i :: Y.map Wn.i := by
    rw [hf.eq, List.map_map, List.map_append, List.map_cons]
    rfl
  rw [e2] at hN
  have h3 := (List.nodup_append.1 hN).2.1
  rw [List.nodup_cons] at h3
  exact h3.1 (by rw [hf.at', ← e]; exact List.mem_map_of_mem hv)
theorem keep_one {L X Y : List Wn} {r : Wn} {id : Int} (h : stF (L.map Wn.ct) = 0) (hf : Fst id L X r Y) : L.filter (keepI [id]) = X ++ Y := by
  have h1 : ∀ v ∈ X, hasI [id] v.i = false := fun v hv => by have := hf.no v hv; unfold hasI; simpa using this
  have h2 : ∀ v ∈ Y, hasI [id] v.i = false := fun v hv => by have := fst_once h hf v hv; unfold hasI; simpa using this
  have h3 : hasI [id] r.i = true := by rw [hf.at']; unfold hasI; simp
  rw [hf.eq, List.filter_append, keep_all h1, List.filter_cons_of_neg (by unfold keepI; rw [h3]; decide), keep_all h2]

set_option maxRecDepth 100000 in
set_option maxHeartbeats 1000000 in
theorem iDrop_any (so : Option Addr) (sc : Nat) (L : List Wn) (id : Int) (w : World) (hL : Ws w 0 w.heap.size so L) (hn : L.length + wzs L ≤ 1048576) :
    Calls Try.prog 8 #[.slice so L.length sc, .int .i64 id] w (SAns (askW (L.map Wn.ct) id) 0 (dropP (L.map Wn.ct) id) (dropP (L.map Wn.ct) id).length w) := by
  by_cases hbad : ¬ stF (L.map Wn.ct) = 0 ∨ ∀ v ∈ L, v.i ≠ id
  · have AN := fun w1 (kk : Below w.heap.size w w1) => point_no 0 w.heap.size so sc L id w1 (hL.keep kk (Nat.le_refl _)) kk.size hn hbad
    have hne := askW_ne hbad
    rw [dropP_no hne]
    obtain ⟨F, hF⟩ : ∃ F, askW (L.map Wn.ct) id = F := ⟨_, rfl⟩
    rw [hF] at AN hne ⊢
    have hne' : (F != 0) = true := by simpa using hne
    have AN' := hideP AN
    clear AN hL hbad hF hne
    go_enter Try.func8, Try.ntmps8
    go_wp2_with fail
    refine Calls.mono (AN'.out _ (by go_grown)) ?_
    rintro e w1 ⟨rfl, k1⟩
    have K1 : Hid (Below w.heap.size w w1) := hideP (Below.trans (by go_grown) (k1.mono (by simp)))
    have X1 : R3 w1 w.heap.size (.int .i64 0) (.int .i64 0) (.slice none 0 0) := R3.keep ⟨by simp, by simp, by simp, by simp, by simp⟩ k1 (by simp)
    clear k1
    obtain ⟨x0, x1, x2, x3, x4⟩ := X1
    go_wp2
    have K3 := (((K1.out.setCell (p := ⟨w.heap.size, 0, none⟩) (Nat.le_refl _) (.int .i64 F)).setCell (p := ⟨w.heap.size, 1, none⟩) (Nat.le_refl _) (.int .i64 0)).setCell (p := ⟨w.heap.size, 2, none⟩) (Nat.le_refl _) (.slice none 0 0))
    exact bodyPost_ret (v := .agg #[.int .i64 F, .int .i64 0, .slice none 0 0]) (by simp [results, Try.results8, go_sem, *]) rfl (sans_bad K3)
  · obtain ⟨h0, X, r, Y, hf⟩ : stF (L.map Wn.ct) = 0 ∧ ∃ X r Y, Fst id L X r Y := by
      have h1 : stF (L.map Wn.ct) = 0 := Classical.byContradiction fun h => hbad (.inl h)
      exact ⟨h1, (fst_or id L).resolve_left fun h => hbad (.inr h)⟩
    have AY := hideP (fun w1 (kk : Below w.heap.size w w1) => point_yes 0 w.heap.size so sc L X Y r id w1 (hL.keep kk (Nat.le_refl _)) kk.size hn h0 hf)
    rw [askW_yes h0 hf, dropP_yes h0 hf]
    have hn' : (L.length : Int) ≤ 1048576 := by omega
    have HF := hideP hf
    have H0 := hideP h0
    clear hL hbad h0 hf
    go_enter Try.func8, Try.ntmps8
    go_wp2_with fail
    refine Calls.mono (AY.out _ (by go_grown)) ?_
    rintro e w1 ⟨g, c, X', Y', r', rfl, e1, e2, e3, LN, g1, g2, k1⟩
    have K1 : Hid (Below w.heap.size w w1) := hideP (Below.trans (by go_grown) (k1.mono (by simp)))
    have X1 : R3 w1 w.heap.size (.int .i64 0) (.int .i64 0) (.slice none 0 0) := R3.keep ⟨by simp, by simp, by simp, by simp, by simp⟩ k1 (by simp)
    have n1 := k1.size
    simp only [World.size_alloc] at g1 n1
    have PN : Pan w1 (w.heap.size + 1) w1.heap.size (some ⟨g, 0, none⟩) (X' ++ r' :: Y') := by have := LN.pan k1.size; simpa using this
    have hXX := lenW e1
    have hYY := lenW e3
    have hMl : (X' ++ r' :: Y').length = L.length := by rw [HF.out.eq]; simp [hXX, hYY]
    have hct : L.map Wn.ct = (X' ++ r' :: Y').map Wn.ct := by rw [HF.out.eq]; simp [e1, e2, e3]
    have hf' : Fst id (X' ++ r' :: Y') X' r' Y' := by
      refine ⟨rfl, ?_, fun v hv => ?_⟩
      · rw [← HF.out.at']; exact congrArg Wc.i e2
      · have hm : v.ct ∈ X.map Wn.ct := by rw [← e1]; exact List.mem_map_of_mem hv
        obtain ⟨u, hu, hue⟩ := List.mem_map.1 hm
        have h2 := HF.out.no u hu
        have h3 : u.i = v.i := congrArg Wc.i hue
        rw [← h3]
        exact h2
    have hN := keep_one (by rw [← hct]; exact H0.out) hf'
    obtain ⟨hb, hlc, hcm, _⟩ := LN.own.blk
    have ka := kalC w1 (.cells #[.int .i64 id] 2)
    have PN2 := PN.keep ka
    have WO := without_any (w.heap.size + 1) w1.heap.size w1.heap.size (w1.heap.size + 1) g (some ⟨w1.heap.size, 0, none⟩) 1 [id] c (X' ++ r' :: Y') L.length (w1.alloc (.cells #[.int .i64 id] 2)) (.inr ⟨w1.heap.size, 0, rfl, Nat.le_refl _, Nat.lt_succ_self _, fun i hi => by
      have : i = 0 := by simpa using hi
      subst this
      simp⟩) (by simp) (by simp) (.inr g2) PN2.q.sp (hb.keep ka) (by omega) (by simp) g2 hMl (by omega)
    rw [hN] at WO
    obtain ⟨m, hm⟩ : ∃ m, (X' ++ Y').length = m := ⟨_, rfl⟩
    have hmn : m ≤ 1048576 := by rw [← hm]; simp at hMl ⊢; omega
    have hsub : (X' ++ Y').Sublist (X' ++ r' :: Y') := by simp
    have HCT : Hid ((X' ++ Y').map Wn.ct = X.map Wn.ct ++ Y.map Wn.ct) := hideP (by rw [List.map_append, e1, e3])
    have HPL : Hid ((X.map Wn.ct ++ Y.map Wn.ct).length = m) := hideP (by rw [← hm]; simp [hXX, hYY])
    have HM := hideP hm
    rw [hm] at WO
    have HWO := hideP WO
    have HPN := hideP PN2
    have HS := hideP hsub
    have KA := hideP ka
    clear k1 LN e1 e2 e3 PN hb hN hf' hct HF AY H0 WO PN2 hsub ka hMl hlc hXX hYY hm
    go_wp2_with fail
    refine Calls.mono HWO.out ?_
    rintro e w3 ⟨rfl, C⟩
    have PC := HPN.out.cut (by omega) C HS.out
    have SO := stackOf_any (w.heap.size + 1) w3.heap.size (some ⟨g, 0, none⟩) c (X' ++ Y') w3 PC.q.sp (Nat.le_refl _) (by rw [HM.out]; exact hmn)
    rw [HM.out] at SO
    have K3 : Hid (Below w.heap.size w w3) := hideP ((K1.out.trans (KA.out.mono (by omega))).trans (C.far.below (by omega) (by simp; omega)))
    have X3 := hideP ((X1.keep KA.out X1.lt).far C.far (by omega))
    have HPC := hideP PC
    have HSO := hideP SO
    clear C HWO HPN PC SO K1 KA X1 HS
    go_wp2_with fail
    refine Calls.mono HSO.out ?_
    rintro e w4 ⟨s4, c4, rfl, O4, k4⟩
    have Q4 := hideP (HPC.out.done k4 O4)
    have K4 := hideP (K3.out.trans (k4.mono K3.out.size))
    obtain ⟨x0, x1, x2, x3, x4⟩ := X3.out.keep k4 X3.out.lt
    clear k4 O4 HSO HPC X3 K3
    go_wp2
    have K5 := ((K4.out.setCell (p := ⟨w.heap.size, 0, none⟩) (Nat.le_refl _) (.int .i64 0)).setCell (p := ⟨w.heap.size, 1, none⟩) (Nat.le_refl _) (.int .i64 0)).setCell (p := ⟨w.heap.size, 2, none⟩) (Nat.le_refl _) (.slice s4 m c4)
    have Q5 := (((Q4.out.set ⟨w.heap.size, 0, none⟩ (.int .i64 0) (Nat.lt_succ_self _)).set ⟨w.heap.size, 1, none⟩ (.int .i64 0) (Nat.lt_succ_self _)).set ⟨w.heap.size, 2, none⟩ (.slice s4 m c4) (Nat.lt_succ_self _)).wide (Nat.le_succ _) (Nat.le_refl _) (by simp)
    refine bodyPost_ret (v := .agg #[.int .i64 0, .int .i64 0, .slice s4 m c4]) (by simp [results, Try.results8, go_sem, *]) rfl ⟨s4, c4, _, by rw [HPL.out], HCT.out, by rw [HPL.out]; exact HM.out, ?_, K5⟩
    simpa using Q5
end Go.Proofs.Ytejgcheddloffaa

namespace Go.Proofs.Ytejgcheddloffaa
open Go.RowKit
set_option linter.unusedVariables false

section
variable {P : Program} {md : Region.Mode} {ops : Array Oper} {Q : Exit → Act → World → Prop} {S : World → Prop}
theorem held_two {i j : Nat} {oi oj : Oper} {fuel : Nat} {listed : Array Bool} {a : Act} {w : World} (hi : ops[i]? = some oi) (hj : ops[j]? = some oj) (hr : Region.ready md ops listed = [i, j]) (hw : Region.wanted oi (yielded ops a.tmps) = true) (hw' : Region.wanted oj (yielded ops a.tmps) = true)
    (h : oi.wp P a w (fun a' w' => S w' ∧ wpAnyH P md ops Q S fuel (listed.setIfInBounds i true) a' w') Q) (h' : oj.wp P a w (fun a' w' => S w' ∧ wpAnyH P md ops Q S fuel (listed.setIfInBounds j true) a' w') Q) : wpAnyH P md ops Q S (fuel + 1) listed a w :=
  wpAnyH_all hr (by simp) (fun k hk => by
    unfold wpOp
    simp only [List.mem_cons, List.not_mem_nil, or_false] at hk
    rcases hk with rfl | rfl
    · simp only [hi]; rw [if_pos hw]; exact .inl h
    · simp only [hj]; rw [if_pos hw']; exact .inl h')
end

theorem wp_of_skip {P : Program} {Q : Exit → Act → World → Prop} {o : Oper} {a : Act} {w w' : World} {K : Act → World → Prop} (h : (execOp a.eval o).run P w = .ok .skip w') (hk : K (a.put o.dst undef) w') : o.wp P a w K Q := by
  unfold Oper.wp
  rw [h]
  exact hk
end Go.Proofs.Ytejgcheddloffaa

namespace Go.Proofs.Ytejgcheddloffaa
open Go.RowKit Go.Maps
set_option linter.unusedVariables false

theorem wp_of_calls {P : Program} {o : Oper} {a : Act} {w : World} {K : Act → World → Prop} {Q : Exit → Act → World → Prop} {f : FuncId} {args : Array Value} (h : (execOp a.eval o).run P w = .ok (.enter f args) w)
    (hc : Calls P f args w fun e w'' => ∃ v, e = .returned v ∧ K (a.put o.dst v) w'') : o.wp P a w K Q := by
  unfold Oper.wp
  rw [h]
  simp only [Oper.upon]
  exact hc.mono fun e w'' ⟨v, he, hk⟩ => by rw [he]; exact hk

def raiseP (C : List Wc) (id : Int) : List Wc := if askW C id = 0 then cutW id C ++ C.filter (fun c => c.i == id) else []
theorem raise_one {L X Y : List Wn} {r : Wn} {id : Int} (h : stF (L.map Wn.ct) = 0) (hf : Fst id L X r Y) : (L.map Wn.ct).filter (fun c => c.i == id) = [r.ct] := by
  have h1 : (X.map Wn.ct).filter (fun c => c.i == id) = [] := List.filter_eq_nil_iff.2 fun c hc => by
    obtain ⟨v, hv, rfl⟩ := List.mem_map.1 hc
    have := hf.no v hv
    simpa [Wn.ct] using this
  have h2 : (Y.map Wn.ct).filter (fun c => c.i == id) = [] := List.filter_eq_nil_iff.2 fun c hc => by
    obtain ⟨v, hv, rfl⟩ := List.mem_map.1 hc
    have := fst_once h hf v hv
    simpa [Wn.ct] using this
  have h3 : (r.ct.i == id) = true := by rw [show r.ct.i = r.i from rfl, hf.at']; simp
  rw [hf.eq, List.map_append, List.map_cons, List.filter_append, h1, List.filter_cons_of_pos (p := fun c : Wc => c.i == id) h3, h2]
  rfl
theorem raiseP_yes {L X Y : List Wn} {r : Wn} {id : Int} (h : stF (L.map Wn.ct) = 0) (hf : Fst id L X r Y) : raiseP (L.map Wn.ct) id = X.map Wn.ct ++ Y.map Wn.ct ++ [r.ct] := by
  unfold raiseP; rw [if_pos (askW_yes h hf), cutW_at hf, raise_one h hf]
theorem raiseP_no {C : List Wc} {id : Int} (h : askW C id ≠ 0) : raiseP C id = [] := by unfold raiseP; rw [if_neg h]
theorem cz_app (A B : List Wc) : cz (A ++ B) = cz A + cz B := by
  induction A with
  | nil => simp [cz]
  | cons c A ih => simp only [List.cons_append, cz, ih]; omega
theorem small_raise {L : List Wn} (id : Int) (h : L.length + wzs L ≤ 1048576) : ∀ N : List Wn, N.map Wn.ct = raiseP (L.map Wn.ct) id → N.length + wzs N ≤ 1048576 := by
  by_cases h0 : askW (L.map Wn.ct) id = 0
  · obtain ⟨hs, X, r, Y, hf⟩ : stF (L.map Wn.ct) = 0 ∧ ∃ X r Y, Fst id L X r Y := by
      have h1 : stF (L.map Wn.ct) = 0 := Classical.byContradiction fun h => absurd h0 (askW_ne (.inl h))
      exact ⟨h1, (fst_or id L).resolve_left fun h => absurd h0 (askW_ne (.inr h))⟩
    rw [raiseP_yes hs hf]
    refine small_of (L := L) ?_
    have e : wzs L = wzs X + (r.b.L.length + wzs Y) := by rw [hf.eq, wzs_app, wzs_cons]
    have e2 : L.length = X.length + (Y.length + 1) := by rw [hf.eq]; simp
    rw [cz_app, cz_app, cz_wzs, cz_wzs]
    have e3 : cz [r.ct] = r.b.L.length := rfl
    rw [e3]
    simp only [List.length_append, List.length_map, List.length_cons, List.length_nil]
    omega
  · rw [raiseP_no h0]
    exact small_of (L := L) (by simp [cz])

theorem Cut.front {u w w' : World} {lo hi g m : Nat} {N : List Wn} (h : Cut w w' lo hi g m N) (k : Below u.heap.size u w) : Cut u w' lo hi g m N := ⟨(Far.of_below k).trans h.far, h.sp, h.blk⟩
/-- Panes turned round, in a row of their own. -/
theorem Pan.turned {w w' : World} {lo hi g : Nat} {L N : List Wn} {so : Option Addr} {sc : Nat} (h : Pan w lo hi (some ⟨g, 0, none⟩) L) (f : Far g (g + 1) w w') (O : OwnV Wn.pals 51 w' lo so sc N) (hN : L.Perm N) : Pan w' lo w'.heap.size so N := by
  have hm : (L.map Wn.b).Perm (N.map Wn.b) := hN.map _
  have hsz := f.size
  have S := h.q.cis.perm hm
  have hty : ∀ b ∈ N.map Wn.b, b.ty w' := fun b hb hn => by
    have hne := h.q.ne g rfl b (hm.mem_iff.2 hb) hn
    obtain ⟨cs, fr, he⟩ := h.ty b (hm.mem_iff.2 hb) hn
    exact ⟨cs, fr, (f.block b.g (Array.getElem?_eq_some_iff.1 he).1 (by omega)).trans he⟩
  refine ⟨⟨Nat.le_trans h.q.le (Nat.le_trans h.q.hs hsz), Nat.le_refl _, ?_, O.sp pals7, fun g' hg b hb hn e => O.other paneNe (hty b hb) hn (by rw [e, hg]; rfl)⟩, hty⟩
  refine ⟨fun b hb => Ci.on_far (S.each b hb) f fun e => ⟨?_, Ci.lt (S.each b hb) e⟩, fun b hb e => ?_, S.apart⟩
  · have := h.q.ne g rfl b (hm.mem_iff.2 hb) e
    omega
  · have := S.inn b hb e
    have := h.q.hs
    omega

end Go.Proofs.Ytejgcheddloffaa
