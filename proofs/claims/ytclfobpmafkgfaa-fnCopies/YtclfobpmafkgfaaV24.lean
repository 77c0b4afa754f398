/- FillWindow, by the specification and by the program. What is to be seen of a stack where a window was filled. Mathematics. -/
import Derived.Test.YtclfobpmafkgfaaV13
import Derived.Test.YtclfobpmafkgfaaV23
namespace Go.Proofs.Ytclfobpmafkgfaa
open Go.RowKit Go.Maps
set_option linter.unusedVariables false

theorem area_pos {p h : Int} (h1 : 1 ≤ p ∧ p ≤ 8) (h2 : 1 ≤ h ∧ h ≤ 6) : 1 ≤ p * h := by
  have hp : p = 1 ∨ p = 2 ∨ p = 3 ∨ p = 4 ∨ p = 5 ∨ p = 6 ∨ p = 7 ∨ p = 8 := by omega
  rcases hp with rfl | rfl | rfl | rfl | rfl | rfl | rfl | rfl <;> omega

/-- A window with other cells. -/
def Wn.put (r : Wn) (D : List Int) : Wn := ⟨r.i, r.x, r.y, r.w, r.h, r.m, ⟨r.b.ao, r.b.cap, r.b.g, D⟩⟩
def Wc.put (c : Wc) (D : List Int) : Wc := ⟨c.i, c.x, c.y, c.w, c.h, c.m, D⟩
theorem put_ct (r : Wn) (D : List Int) : (r.put D).ct = r.ct.put D := rfl
theorem put_vals {r : Wn} {D : List Int} (h : D.length = r.b.L.length) : Wn.vals (r.put D) = Wn.vals r := by simp [Wn.vals, Wn.put, h]
theorem put_pals {r : Wn} {D : List Int} (h : D.length = r.b.L.length) : Wn.pals (r.put D) = Wn.pals r := by simp [Wn.pals, Wn.put, h]
section
variable {V : Wn → List Value} {w w' : World} {lo hi : Nat} {so s : Option Addr} {X Y L : List Wn} {r : Wn} {D : List Int} {c : Nat}
/-- One window painted. -/
theorem Wq.paint (h : Wq V w lo hi so (X ++ r :: Y)) (hn : r.b.L ≠ []) (S : PS w w' r.b.g D) (hv : V (r.put D) = V r) : Wq V w' lo hi so (X ++ r.put D :: Y) := by
  have hcis := h.cis
  rw [List.map_append, List.map_cons] at hcis
  have hb := hcis.each r.b (by simp)
  have hi1 := hcis.inn r.b (by simp) hn
  have f := S.far
  refine ⟨h.le, Nat.le_trans h.hs f.size, ?_, ?_, fun g hg b m e => ?_⟩
  · rw [List.map_append, List.map_cons]
    exact hcis.mark hn f (by rw [hb.2 hn]; exact S.wrt)
  · refine SpV.vals (L := X ++ r :: Y) ?_ (by simp only [List.map_append, List.map_cons, hv])
    rcases h.sp with h0 | ⟨g, ha, g1, g2, hc, hf⟩
    · exact .inl h0
    · have hne := h.ne g ha r.b (by simp) hn
      have hgl : g < w.heap.size := by have := h.hs; omega
      exact .inr ⟨g, ha, g1, g2, fun i hi => (hc i hi).far f hgl (by omega), fun c => (f.frozen g c hgl (by omega)).trans (hf c)⟩
  · rw [List.map_append, List.map_cons, List.mem_append, List.mem_cons] at m
    rcases m with m | rfl | m
    · exact h.ne g hg b (by rw [List.map_append, List.map_cons]; simp [m]) e
    · exact h.ne g hg r.b (by simp) hn
    · exact h.ne g hg b (by rw [List.map_append, List.map_cons]; simp [m]) e
/-- Panes handed on as a stack. -/
theorem Wq.done (h : Wq Wn.pals w lo hi so L) (k : Below w.heap.size w w') (O : OwnV Wn.vals 39 w' w.heap.size s c L) : Wq Wn.vals w' lo w'.heap.size s L :=
  ⟨by have := h.le; have := h.hs; have := k.size; omega, Nat.le_refl _, (h.cis.keep k h.hs).wide (Nat.le_refl _) (Nat.le_trans h.hs k.size), (O.sp vals7).wide (by have := h.le; have := h.hs; omega) (Nat.le_refl _), fun g hg b m e e2 => by
    have h1 := h.cis.inn b m e
    have h2 := h.hs
    rcases O.sp vals7 with h0 | ⟨g', ha, h3, _⟩
    · rw [h0] at m; simp at m
    · rw [hg] at ha; cases ha; omega⟩
/-- What is told of the cells of a window of a right stack. -/
theorem Wq.cellsOf (h : Wq V w lo hi so (X ++ r :: Y)) (hn : r.b.L ≠ []) : r.b.ao = some ⟨r.b.g, 0, none⟩ ∧ Wrt .i64 w r.b.g (r.b.g + 1) (some ⟨r.b.g, 0, none⟩) r.b.L ∧ lo ≤ r.b.g ∧ r.b.g < hi := by
  have hcis := h.cis
  rw [List.map_append, List.map_cons] at hcis
  have hb := hcis.each r.b (by simp)
  have hi1 := hcis.inn r.b (by simp) hn
  have e := hb.2 hn
  have := hb.1
  rw [e] at this
  exact ⟨e, this, hi1⟩
end
theorem fst_right {L X Y : List Wn} {r : Wn} {id : Int} (h0 : stF (L.map Wn.ct) = 0) (hf : Fst id L X r Y) : (1 ≤ r.w ∧ r.w ≤ 8) ∧ (1 ≤ r.h ∧ r.h ≤ 6) ∧ (r.b.L.length : Int) = r.w * r.h := by
  have h1 := winF_no (wsF_mem (stF_ok h0).2 r.ct (by rw [hf.eq]; simp))
  have h2 := wrB_no h1.1
  exact ⟨h2.2.2.1, h2.2.2.2.1, h1.2.1⟩

/-- What FillWindow and CopyWindow ask first. -/
def ptpZ (C : List Wc) (id rx ry rp rh : Int) : Int := if askW C id = 0 then rfOf (rfB rx ry rp rh) else askW C id
theorem ptp_bad {C : List Wc} {id rx ry rp rh : Int} (h : askW C id ≠ 0) : ptpZ C id rx ry rp rh = askW C id := by unfold ptpZ; rw [if_neg h]
theorem ptp_yes {C : List Wc} {id rx ry rp rh : Int} (h : askW C id = 0) : ptpZ C id rx ry rp rh = rfOf (rfB rx ry rp rh) := by unfold ptpZ; rw [if_pos h]
theorem ptp_ok {C : List Wc} {id rx ry rp rh : Int} (h : ptpZ C id rx ry rp rh = 0) : askW C id = 0 ∧ rfB rx ry rp rh = false := by
  by_cases h1 : askW C id = 0
  · rw [ptp_yes h1] at h
    cases h2 : rfB rx ry rp rh
    · exact ⟨h1, rfl⟩
    · rw [h2] at h; exact absurd h (by decide)
  · rw [ptp_bad h1] at h; exact absurd h h1
theorem askW_ok {L : List Wn} {id : Int} (h : askW (L.map Wn.ct) id = 0) : stF (L.map Wn.ct) = 0 ∧ ∃ X r Y, Fst id L X r Y := by
  by_cases h0 : stF (L.map Wn.ct) = 0
  · rcases fst_or id L with hn | hf
    · rw [askW_none h0 hn] at h; exact absurd h (by decide)
    · exact ⟨h0, hf⟩
  · rw [askW_bad h0] at h; exact absurd h h0
theorem askW_no {L : List Wn} {id : Int} (h : askW (L.map Wn.ct) id ≠ 0) : ¬ stF (L.map Wn.ct) = 0 ∨ ∀ v ∈ L, v.i ≠ id := by
  by_cases h0 : stF (L.map Wn.ct) = 0
  · rcases fst_or id L with hn | ⟨X, r, Y, hf⟩
    · exact .inr hn
    · exact absurd (askW_yes h0 hf) h
  · exact .inl h0
/-- FillWindow's code, and what it does to cells. -/
def fillZ (C : List Wc) (id rx ry rp rh col : Int) : Int := if ptpZ C id rx ry rp rh = 0 then (if byB col then 0 else 3) else ptpZ C id rx ry rp rh
def fillC (rx ry rp rh col : Int) (c : Wc) : Wc := c.put (fillL c.w rx ry rp rh col c.L)
def fillP (C : List Wc) (id rx ry rp rh col : Int) : List Wc := if fillZ C id rx ry rp rh col = 0 then modW id (fillC rx ry rp rh col) C else []
theorem fillZ_bad {C : List Wc} {id rx ry rp rh col : Int} (h : ptpZ C id rx ry rp rh ≠ 0) : fillZ C id rx ry rp rh col = ptpZ C id rx ry rp rh := by unfold fillZ; rw [if_neg h]
theorem fillZ_yes {C : List Wc} {id rx ry rp rh col : Int} (h : ptpZ C id rx ry rp rh = 0) : fillZ C id rx ry rp rh col = if byB col then 0 else 3 := by unfold fillZ; rw [if_pos h]
theorem fillP_no {C : List Wc} {id rx ry rp rh col : Int} (h : fillZ C id rx ry rp rh col ≠ 0) : fillP C id rx ry rp rh col = [] := by unfold fillP; rw [if_neg h]
theorem fillP_yes {L X Y : List Wn} {r : Wn} {id rx ry rp rh col : Int} (h : fillZ (L.map Wn.ct) id rx ry rp rh col = 0) (hf : Fst id L X r Y) : fillP (L.map Wn.ct) id rx ry rp rh col = X.map Wn.ct ++ fillC rx ry rp rh col r.ct :: Y.map Wn.ct := by
  unfold fillP; rw [if_pos h, modW_at hf]
theorem fillL_len {p rx ry rp rh col : Int} {D : List Int} : (fillL p rx ry rp rh col D).length = D.length := pntL_len
theorem cz_mod2 {id : Int} {f : Wc → Wc} (hf : ∀ c, (f c).L.length = c.L.length) (C : List Wc) : cz (modW id f C) = cz C := by
  induction C with
  | nil => rfl
  | cons c C ih =>
    unfold modW
    split
    · simp only [cz, hf]
    · simp only [cz, ih]
theorem small_fill {L : List Wn} (id rx ry rp rh col : Int) (h : L.length + wzs L ≤ 1048576) : ∀ N : List Wn, N.map Wn.ct = fillP (L.map Wn.ct) id rx ry rp rh col → N.length + wzs N ≤ 1048576 :=
  small_of (L := L) (by
    unfold fillP
    split
    · rw [modW_len, cz_mod2 (f := fillC rx ry rp rh col) (fun c => fillL_len), cz_wzs, List.length_map]; exact h
    · simp [cz])

set_option maxHeartbeats 800000 in
theorem ptp_no (lo hi : Nat) (so : Option Addr) (sc : Nat) (L : List Wn) (id rx ry rp rh : Int) (w : World) (hL : Ws w lo hi so L) (hs : hi ≤ w.heap.size) (hn : L.length + wzs L ≤ 1048576) (hne : askW (L.map Wn.ct) id ≠ 0) :
    Calls Try.prog 41 #[.slice so L.length sc, .int .i64 id, .agg #[.int .i64 rx, .int .i64 ry, .int .i64 rp, .int .i64 rh]] w fun e w' => e = .returned (.tuple #[.slice none 0 0, .pointer none, .int .i64 (askW (L.map Wn.ct) id)]) ∧ Below w.heap.size w w' := by
  have AN := fun w1 (kk : Below w.heap.size w w1) => point_no lo hi so sc L id w1 (hL.keep kk hs) (Nat.le_trans hs kk.size) hn (askW_no hne)
  obtain ⟨F, hF⟩ : ∃ F, askW (L.map Wn.ct) id = F := ⟨_, rfl⟩
  rw [hF] at AN hne ⊢
  have hne' : (F != 0) = true := by simpa using hne
  have AN' := hideP AN
  clear AN hL hF hne
  go_enter Try.func41, Try.ntmps41
  go_wp2_with fail
  refine Calls.mono (AN'.out _ (by go_grown)) ?_
  rintro e w1 ⟨rfl, k1⟩
  have K1 : Hid (Below w.heap.size w w1) := hideP (Below.trans (by go_grown) (k1.mono (by simp)))
  clear k1
  go_wp2
  go_returns
  exact ⟨rfl, K1.out⟩

set_option maxHeartbeats 800000 in
theorem ptp_any (lo hi : Nat) (so : Option Addr) (sc : Nat) (L X Y : List Wn) (r : Wn) (id rx ry rp rh : Int) (w : World) (hL : Ws w lo hi so L) (hs : hi ≤ w.heap.size) (hn : L.length + wzs L ≤ 1048576) (h : stF (L.map Wn.ct) = 0) (hf : Fst id L X r Y) :
    Calls Try.prog 41 #[.slice so L.length sc, .int .i64 id, .agg #[.int .i64 rx, .int .i64 ry, .int .i64 rp, .int .i64 rh]] w fun e w' => ∃ (g c : Nat) (X' Y' : List Wn) (r' : Wn), e = .returned (.tuple #[.slice (some ⟨g, 0, none⟩) L.length c, .pointer (some ⟨g, X.length * 7, none⟩), .int .i64 (rfOf (rfB rx ry rp rh))]) ∧ X'.map Wn.ct = X.map Wn.ct ∧ r'.ct = r.ct ∧ Y'.map Wn.ct = Y.map Wn.ct ∧ Wq Wn.pals w' w.heap.size w'.heap.size (some ⟨g, 0, none⟩) (X' ++ r' :: Y') ∧ w.heap.size ≤ g ∧ g < w'.heap.size ∧ Below w.heap.size w w' := by
  have AY := hideP (fun w1 (kk : Below w.heap.size w w1) => point_yes lo hi so sc L X Y r id w1 (hL.keep kk hs) (Nat.le_trans hs kk.size) hn h hf)
  clear hL h hf
  go_enter Try.func41, Try.ntmps41
  go_wp2_with fail
  refine Calls.mono (AY.out _ (by go_grown)) ?_
  rintro e w1 ⟨g, c, X', Y', r', rfl, e1, e2, e3, LN, g1, g2, k1⟩
  have K1 : Hid (Below w.heap.size w w1) := hideP (Below.trans (by go_grown) (k1.mono (by simp)))
  have n1 := k1.size
  simp only [World.size_alloc] at n1 g1
  have R1 : IsRect w1 w.heap.size 0 rx ry rp rh := ⟨(k1.cell (p := ⟨w.heap.size, 0, none⟩) (by simp)).trans (by simp), (k1.cell (p := ⟨w.heap.size, 0 + 1, none⟩) (by simp)).trans (by simp), (k1.cell (p := ⟨w.heap.size, 0 + 2, none⟩) (by simp)).trans (by simp), (k1.cell (p := ⟨w.heap.size, 0 + 3, none⟩) (by simp)).trans (by simp)⟩
  have QW := (LN.wq pals7 paneNe k1.size).wide (lo' := w.heap.size) (by simp) (Nat.le_refl _) (Nat.le_refl _)
  have HQ := hideP QW
  have HE := hideP (And.intro e1 (And.intro e2 e3))
  obtain ⟨d0, d1, d2, d3⟩ := R1
  simp only [Nat.zero_add] at d0 d1 d2 d3
  have hw1 : w.heap.size < w1.heap.size := by omega
  clear k1 LN QW e1 e2 e3 AY
  go_wp2_with fail
  refine Calls.mono (rf_any rx ry rp rh w1) ?_
  rintro e w2 ⟨rfl, k2⟩
  have K2 := hideP (K1.out.trans (k2.mono K1.out.size))
  have HQ2 := hideP ((HQ.out.keep k2 (Nat.le_refl _)).wide (Nat.le_refl _) k2.size (Nat.le_refl _))
  have n2 := k2.size
  clear k2 d0 d1 d2 d3
  go_wp2
  go_returns
  exact ⟨g, c, X', Y', r', rfl, HE.out.1, HE.out.2.1, HE.out.2.2, HQ2.out, by omega, by omega, K2.out⟩
end Go.Proofs.Ytclfobpmafkgfaa

namespace Go.Proofs.Ytclfobpmafkgfaa
open Go.RowKit Go.Maps
set_option linter.unusedVariables false

theorem modW_nodup {id : Int} {f : Wc → Wc} {C : List Wc} (h : (C.map Wc.i).Nodup) : modW id f C = C.map fun c => if c.i = id then f c else c := by
  induction C with
  | nil => rfl
  | cons c C ih =>
    rw [List.map_cons, List.nodup_cons] at h
    unfold modW
    rw [List.map_cons]
    split
    · rename_i hc
      congr 1
      have hn : ∀ d ∈ C, ¬ d.i = id := fun d hd e => h.1 (by rw [hc, ← e]; exact List.mem_map_of_mem hd)
      symm
      calc C.map (fun c => if c.i = id then f c else c) = C.map (fun c => c) := List.map_congr_left fun d hd => if_neg (hn d hd)
        _ = C := List.map_id' C
    · rw [ih h.2]
theorem find_nodup {C : List Wc} (h : (C.map Wc.i).Nodup) {k : Nat} (hk : k < C.length) : pickW C[k].i C = some C[k] := by
  unfold pickW
  induction C generalizing k with
  | nil => simp at hk
  | cons c C ih =>
    rw [List.map_cons, List.nodup_cons] at h
    cases k with
    | zero => simp
    | succ k =>
      have hk' : k < C.length := by simpa using hk
      simp only [List.getElem_cons_succ]
      rw [List.find?_cons_of_neg, ih h.2 hk']
      intro e
      exact h.1 (by rw [show c.i = C[k].i by simpa using e]; exact List.mem_map_of_mem (List.getElem_mem hk'))
theorem stF_each {C : List Wc} (h : stF C = 0) {c : Wc} (hc : c ∈ C) : stF [c] = 0 := by
  obtain ⟨h1, h2⟩ := stF_ok h
  obtain ⟨a, b⟩ := idsF_ok h1
  have : idsF ([c].map Wc.i) = 0 := idsF_mk (by simp) (fun x hx => by simp at hx; subst hx; exact a _ (List.mem_map_of_mem hc)) (by simp)
  rw [stF_ws this]
  exact wsF_all fun t ht => by simp at ht; subst ht; exact wsF_mem h2 _ hc
theorem pt_nth {C : List Wc} (h : stF C = 0) {k : Nat} (hk : k < C.length) (a b : Int) : ptV C C[k].i a b = celV C[k] a b := by
  have hask : askW C C[k].i = 0 := by
    unfold askW
    rw [if_pos h, if_pos]
    simpa using ⟨C[k], List.getElem_mem hk, rfl⟩
  unfold ptV
  rw [if_pos hask, find_nodup (idsF_ok (stF_ok h).1).2 hk]
theorem fill_ok {C : List Wc} {id rx ry rp rh col : Int} (h : fillZ C id rx ry rp rh col = 0) : stF C = 0 ∧ rfB rx ry rp rh = false ∧ byB col = true ∧ fillP C id rx ry rp rh col = C.map fun c => if c.i = id then fillC rx ry rp rh col c else c := by
  have hp : ptpZ C id rx ry rp rh = 0 := by
    by_cases e : ptpZ C id rx ry rp rh = 0
    · exact e
    · rw [fillZ_bad e] at h; exact h
  obtain ⟨h1, h2⟩ := ptp_ok hp
  have h0 : stF C = 0 := by
    by_cases e : stF C = 0
    · exact e
    · rw [askW_bad e] at h1; exact h1
  refine ⟨h0, h2, ?_, ?_⟩
  · rw [fillZ_yes hp] at h
    by_cases e : byB col = true
    · exact e
    · rw [if_neg e] at h; exact absurd h (by decide)
  · unfold fillP
    rw [if_pos h, modW_nodup (idsF_ok (stF_ok h0).1).2]
theorem fill_len {C : List Wc} {id rx ry rp rh col : Int} (h : fillZ C id rx ry rp rh col = 0) : (fillP C id rx ry rp rh col).length = C.length := by
  rw [(fill_ok h).2.2.2, List.length_map]
theorem fill_st {C : List Wc} {id rx ry rp rh col : Int} (h : fillZ C id rx ry rp rh col = 0) : stF (fillP C id rx ry rp rh col) = 0 := by
  obtain ⟨h0, h1, h2, h3⟩ := fill_ok h
  obtain ⟨i0, w0⟩ := stF_ok h0
  have hi : (fillP C id rx ry rp rh col).map Wc.i = C.map Wc.i := by
    rw [h3, List.map_map]
    apply List.map_congr_left
    intro c _
    show (if c.i = id then fillC rx ry rp rh col c else c).i = c.i
    split <;> rfl
  rw [stF_ws (by rw [hi]; exact i0), h3]
  apply wsF_all
  intro t ht
  obtain ⟨c, hc, rfl⟩ := List.mem_map.1 ht
  have hw := wsF_mem w0 c hc
  split
  · obtain ⟨a1, a2, a3⟩ := winF_no hw
    refine winF_ok (c := fillC rx ry rp rh col c) a1 ?_ ?_
    · show ((fillL c.w rx ry rp rh col c.L).length : Int) = c.w * c.h
      rw [fillL_len]; exact a2
    · show (fillL c.w rx ry rp rh col c.L).all byB = true
      exact pntL_all a3 fun _ _ _ => h2
  · exact hw
/-- What a point shows once a window was filled. -/
theorem fill_pt {C : List Wc} {id rx ry rp rh col : Int} (h : fillZ C id rx ry rp rh col = 0) {k : Nat} (hk : k < C.length) {a b : Int} (a0 : 0 ≤ a) (a1 : a < C[k].w) (b0 : 0 ≤ b) (b1 : b < C[k].h) :
    ptV (fillP C id rx ry rp rh col) C[k].i a b = if C[k].i = id ∧ inB rx ry rp rh a b = true then col else ptV C C[k].i a b := by
  obtain ⟨h0, h1, h2, h3⟩ := fill_ok h
  have hs := fill_st h
  have hk' : k < (fillP C id rx ry rp rh col).length := by rw [fill_len h]; exact hk
  have e : (fillP C id rx ry rp rh col)[k] = if C[k].i = id then fillC rx ry rp rh col C[k] else C[k] := by
    simp only [h3, List.getElem_map]
  have ei : (fillP C id rx ry rp rh col)[k].i = C[k].i := by rw [e]; split <;> rfl
  have hm : C[k] ∈ C := List.getElem_mem hk
  have hm' := List.getElem_mem hk'
  have p1 := pt_nth hs hk' a b
  rw [ei] at p1
  rw [p1, pt_nth h0 hk]
  have ho : ownB C[k].w C[k].h a b = true := ownB_of ⟨a0, a1, b0, b1⟩
  have c1 := (cel_in (a := a) (b := b) (stF_each h0 hm) ho).2
  by_cases hid : C[k].i = id
  · rw [if_pos hid] at e
    have hs1 := stF_each hs hm'
    rw [e] at hs1 ⊢
    have c2 := (cel_in (c := fillC rx ry rp rh col C[k]) (a := a) (b := b) hs1 ho).2
    rw [c1, c2]
    obtain ⟨q1, q2, q3⟩ := winF_no (wsF_mem (stF_ok h0).2 _ hm)
    obtain ⟨_, _, q4, q5, _⟩ := wrB_no q1
    obtain ⟨r1, r2, r3⟩ := row_le q4 q5 ho
    have hn : (b * C[k].w + a).toNat < C[k].L.length := by omega
    have hp := pntL_at (P := inB rx ry rp rh) (f := fun _ _ => col) hn a0 a1 (show (((b * C[k].w + a).toNat : Nat) : Int) = b * C[k].w + a by omega)
    show (pntL C[k].w (inB rx ry rp rh) (fun _ _ => col) C[k].L).getD _ 0 = _
    rw [List.getD_eq_getElem?_getD, List.getElem?_eq_getElem (by rw [pntL_len]; exact hn), Option.getD_some, List.getD_eq_getElem?_getD, List.getElem?_eq_getElem hn, Option.getD_some]
    refine hp.trans ?_
    by_cases hi : inB rx ry rp rh a b = true
    · rw [if_pos hi, if_pos ⟨hid, hi⟩]
    · rw [if_neg hi, if_neg (fun e => hi e.2)]
  · rw [if_neg hid] at e
    rw [e, if_neg (fun e => hid e.1)]
end Go.Proofs.Ytclfobpmafkgfaa
