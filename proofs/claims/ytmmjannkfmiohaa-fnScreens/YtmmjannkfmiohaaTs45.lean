/- Whose each point is: what the program's walk needs. Whose each point is: the program. -/
import Derived.Test.YtmmjannkfmiohaaTs41
import Derived.Test.YtmmjannkfmiohaaTs44
import Derived.Test.YtmmjannkfmiohaaTs14
namespace Go.Proofs.Ytmmjannkfmiohaa
open Go.RowKit Go.Shelf Go.Maps
set_option linter.unusedVariables false

/-- A frame on its way out over marks alone; what is no mark stays. -/
theorem leave_marksO {F : Fence} {n : Nat} {P : Program} {fn : Func} {tmps : Array Value} {R : Ending → World → Prop} (lo : Nat) (Ds : List Nat) : ∀ (w : World), Mks w lo Ds → lo ≤ w.heap.size →
    (∀ w', Below lo w w' → (∀ k, (∀ D ∈ Ds, k ≠ D) → w'.heap[k]? = w.heap[k]?) → LeavesInM F n P fn tmps R [] .returning w') → LeavesInM F n P fn tmps R (marks Ds) .returning w := by
  induction Ds with
  | nil => intro w _ _ h; exact h w (Below.refl _ _) (fun _ _ => rfl)
  | cons D Ds ih =>
    intro w hM hlo h
    obtain ⟨h1, h2, h3⟩ := hM.at_ D (by simp)
    have hb : Below lo w (w.putObj D (.deferred none)) := ⟨rfl, rfl, rfl, by simp, fun k hk => World.putObj_heap_other (by omega)⟩
    refine ⟨by simp, .inl ⟨D, w.putObj D (.deferred none), rfl, run_takeDeferred h3, ih _ ⟨fun E hE => ?_, (List.nodup_cons.1 hM.once).2⟩ (by simpa using hlo) fun w' k hk => h w' (hb.trans k) fun j hj => (hk j fun E hE => hj E (by simp [hE])).trans (World.putObj_heap_other (hj D (by simp)))⟩⟩
    obtain ⟨g1, g2, g3⟩ := hM.at_ E (by simp [hE])
    have hne : E ≠ D := fun e => (List.nodup_cons.1 hM.once).1 (e ▸ hE)
    exact ⟨g1, by simpa using g2, (World.putObj_heap_other hne).trans g3⟩

theorem ownR_cells {w : World} {base : Nat} {so : Option Addr} {sc : Nat} {M : List Int} (h : OwnR .i64 2 w base so sc M) {a : Addr} (ha : so = some a) : ∃ cur, w.heap[a.block]? = some (.cells cur 2 (0, 0)) := by
  rcases h.2 with ⟨hv, _⟩ | ⟨g, cap, cur, hv, _, hg, _⟩
  · subst ha; cases hv
  · subst ha; cases hv; exact ⟨cur, hg⟩
theorem ownR_same {w w' : World} {base : Nat} {so : Option Addr} {sc : Nat} {M : List Int} (h : OwnR .i64 2 w base so sc M) (e : ∀ a, so = some a → w'.heap[a.block]? = w.heap[a.block]?) : OwnR .i64 2 w' base so sc M := by
  refine ⟨h.1, ?_⟩
  rcases h.2 with h1 | ⟨g, cap, cur, hv, hb, hg, r⟩
  · exact .inl h1
  · cases hv
    exact .inr ⟨g, sc, cur, rfl, hb, (e ⟨g, 0, none⟩ rfl).trans hg, r⟩

section
variable {Wk W W' : World} {base bl bx off : Nat} {so : Option Addr} {sc : Nat} {M : List Int}
theorem os_own {α : Type} (B : Nat) (hB : Wk.heap.size ≤ B) (hx : bx < Wk.heap.size) (F : List α → List Int) : OwnFrom B (fun (pre : List α) W => ∃ so sc, OS Wk W base bl bx off so sc (F pre)) := fun s A W' row hs hg hr => by
  obtain ⟨so, sc, O⟩ := hs
  have hxA : bx < A.heap.size := Nat.lt_of_lt_of_le hx O.size
  have hb := hg.block bx hxA (fun e => by have := (hr bx e.symm).1; omega)
  refine ⟨so, sc, ownR_same O.own fun a ha => hg.block _ ?_ fun e => ?_, O.row, (World.cell?_of_block (a := ⟨bx, off, none⟩) hb).trans O.cell, (World.frozen?_of_block (a := ⟨bx, off, none⟩) hb).trans O.free, fun c hc => (World.cell?_of_block (a := ⟨bx, c, none⟩) hb).trans (O.oth c hc),
    fun k hk h1 h2 => (hg.block k (Nat.lt_of_lt_of_le hk O.size) (fun e => by have := (hr k e.symm).1; omega)).trans (O.blk k hk h1 h2), hg.os.trans O.os, hg.tape.trans O.tape, hg.output.trans O.output, Nat.le_trans O.size hg.size⟩
  · obtain ⟨cur, hc⟩ := ownR_cells O.own ha
    exact (Array.getElem?_eq_some_iff.1 hc).1
  · obtain ⟨cur, hc⟩ := ownR_cells O.own ha
    obtain ⟨_, o, ho, hcell⟩ := hr _ e.symm
    rw [hc] at ho
    cases ho
    cases hcell

/-- What is no row of numbers stays behind one more number and the store. -/
theorem OS.keepsFrom {B : Nat} {w2 : World} {so' : Option Addr} {sc' : Nat} {N : List Int} {v : Value} {o : Obj} (h : OS Wk W base bl bx off so sc M) (hx : bx < B) (s : Snoc base (W.alloc o) so N so' sc' w2) : KeepsFrom B W (w2.setCell ⟨bx, off, none⟩ v) := by
  have ka := kal5 W o
  refine ⟨Nat.le_trans (Nat.le_trans ka.size s.below.size) (Turn.store w2 ⟨bx, off, none⟩ v).size, fun k o' hB hk hc => ?_⟩
  have hkl := (Array.getElem?_eq_some_iff.1 hk).1
  have hsz := ka.size
  refine ((Turn.store w2 ⟨bx, off, none⟩ v).block k (Nat.lt_of_lt_of_le (Nat.lt_of_lt_of_le hkl ka.size) s.below.size) (by show k ≠ bx; omega)).trans ?_
  refine (s.blk k (Nat.lt_of_lt_of_le hkl ka.size) fun a ha e => ?_).trans ((ka.block k hkl).trans hk)
  obtain ⟨cur, hcur⟩ := ownR_cells h.own ha
  rw [e, hk] at hcur
  cases hcur
  cases hc
end
end Go.Proofs.Ytmmjannkfmiohaa

namespace Go.Proofs.Ytmmjannkfmiohaa
open Go.RowKit Go.Shelf Go.Maps
set_option linter.unusedVariables false
attribute [local go_sem] Oper.semAt_some

set_option maxRecDepth 100000 in
set_option maxHeartbeats 8000000 in
theorem iOwnersOf_ok (so : Option Addr) (sc : Nat) (L : List Wn) (w : World) (hL : Ws w 0 w.heap.size so L) (hn : L.length + wzs L ≤ 1048576) (h : stF (L.map Wn.ct) = 0) :
    Calls Try.prog 14 #[.slice so L.length sc] w (IsA w 0 (ownC (L.map Wn.ct))) := by
  have SF := fun w1 (kk : Below w.heap.size w w1) => iStack_any 0 w.heap.size so sc L w1 (hL.keep kk (Nat.le_refl _)) kk.size hn
  rw [h] at SF
  have SF' := hideP SF
  have OW := hideP (fun w1 (kk : Below w.heap.size w w1) => iOwners_any so sc L w1 ((hL.keep kk (Nat.le_refl _)).wide (Nat.le_refl _) kk.size) h)
  have HL := hideP hL
  have hn' : L.length ≤ 1048576 := by omega
  have hnI : (L.length : Int) ≤ 1048576 := by omega
  obtain ⟨i0, hi0, hz0, hz1, hz2⟩ := info_parts Try.infoO9
  obtain ⟨G, hG⟩ : ∃ G, ownP (L.map Wn.ct) = G := ⟨_, rfl⟩
  have HG := hideP hG
  have HR : Hid (ownC (L.map Wn.ct) = List.replicate 12 0 ++ (ptsOf stripR).map G) := hideP (by rw [← hG]; rfl)
  have HLen := hideP (ownC_len (L.map Wn.ct))
  clear SF hL h hG
  refine callsIn_wide.1 (callsIn_of_wp_marks (n := 3) Try.func14 rfl trivial ?_ rfl)
  simp only [Try.ntmps14, List.size_toArray, List.length_cons, List.length_nil, Nat.reduceAdd, Nat.reduceSub, Array.replicate_succ, Array.replicate_zero, List.push_toArray, List.append_toArray, List.nil_append, List.cons_append]
  refine wpIn_wide.2 ?_
  go_wp2_with fail
  refine Calls.mono (SF'.out _ (by go_grown)) ?_
  rintro e w1 ⟨rfl, k1⟩
  have n1 := k1.size
  simp only [World.size_alloc] at n1
  have K1 : Hid (Below w.heap.size w w1) := hideP (Below.trans (by go_grown) (k1.mono (by simp; omega)))
  have B0 : Hid (w1.cell? ⟨w.heap.size, 0, none⟩ = some (.slice so L.length sc)) := hideP ((k1.cell (p := ⟨w.heap.size, 0, none⟩) (by simp; omega)).trans (by simp [go_sem]))
  have X1 : Hid (Rb w1 (w.heap.size + 1) (.int .i64 0) (.slice none 0 0)) := hideP (Rb.keep ⟨by simp [go_sem], by simp [go_sem], by simp [go_sem], by simp [go_sem], by simp⟩ k1 (by simp))
  have b0 := B0.out
  have hl0 : w.heap.size < w1.heap.size := by omega
  clear k1 SF'
  go_wp2_with fail
  clear b0
  refine Calls.mono (OW.out w1 K1.out) ?_
  rintro e w2 ⟨mb, mn, rfl, hm1, hm2, OM, k2⟩
  have n2 := k2.size
  have K2 := hideP (K1.out.trans (k2.mono K1.out.size))
  have B2 := hideP ((k2.cell (p := ⟨w.heap.size, 0, none⟩) hl0).trans B0.out)
  have X2 := hideP (X1.out.keep k2 X1.out.lt)
  have M2 := hideP OM
  clear k2 OM OW B0 X1
  go_wp2_with (first | (at_make; refine wpList_make_full _ rfl _ _ 26 rfl (w2.heap.size + 1) 2 i0 (.int .i64 0) 1 Try.underlying26 hi0 hz0 hz1 .i64 .i64 _ _ 12 rfl rfl rfl rfl (by rw [hz2]; omega) (by unfold maxLen; omega) (by simp) ?_; intro w3 hown3 hgrow3; refine Hid.out ?_) | go_in)
  simp only [World.size_alloc] at hown3
  have O3 := hideP (ownR_zeros (w := w2.alloc (.cells #[.map (some mb)] 59)) (by simpa using hown3))
  have K3 : Hid (Below (w2.heap.size + 1) (w2.alloc (.cells #[.map (some mb)] 59)) w3) := hideP ⟨hgrow3.os, hgrow3.tape, hgrow3.output, hgrow3.size, fun k hk => hgrow3.block k (by simp; omega) (by simp)⟩
  have n3 : w2.heap.size + 1 < w3.heap.size := (World.ownsRow.lt hown3 (w2.heap.size + 1) rfl).2
  clear hown3 hgrow3
  refine hideP ?_
  go_wp2_with (first | (go_at_call 28; refine Calls.mono (rbs_any _) ?_; rintro e w4 ⟨rfl, k4⟩; replace k4 := hideP k4) | (go_at_call 27; refine Calls.mono (ptsOf_any _ _ _ _ _) ?_; rintro e w5 ⟨rfl, hw5⟩; subst hw5))
  obtain ⟨Wk, hWk⟩ : ∃ Wk, w4.alloc (.cells #[.int .i64 0, .int .i64 1, .int .i64 12, .int .i64 7] 45) = Wk := ⟨_, rfl⟩
  have n4 := k4.out.size
  simp only [World.size_alloc] at n4
  have hWs : Wk.heap.size = w4.heap.size + 1 := by rw [← hWk]; simp
  have BX : Hid (Wk.heap[w4.heap.size]? = some (.cells #[.int .i64 stripR.x, .int .i64 stripR.y, .int .i64 stripR.w, .int .i64 stripR.h] 45 (0, 0))) := hideP (by rw [← hWk]; exact heap_alloc_new w4 _)
  have K5 : Below (w2.heap.size + 1) (w2.alloc (.cells #[.map (some mb)] 59)) Wk := by
    rw [← hWk]
    refine ((K3.out.alloc (by omega) _).trans (k4.out.mono (by simp; omega))).alloc (by omega) _
  have K2k : Hid (Below w2.heap.size w2 Wk) := hideP (((Below.refl _ _).alloc (Nat.le_refl _) _).trans (K5.mono (by omega)))
  have Kk : Hid (Below w.heap.size w Wk) := hideP (K2.out.trans (K2k.out.mono K2.out.size))
  have Z4 : Hid (Wk.cell? ⟨w2.heap.size, 0, none⟩ = some (.map (some mb))) := hideP ((K5.cell (p := ⟨w2.heap.size, 0, none⟩) (by show w2.heap.size < _; omega)).trans (by simp [go_sem]))
  have Z1 := hideP ((K2k.out.cell (p := ⟨w.heap.size, 0, none⟩) (by show w.heap.size < _; omega)).trans B2.out)
  have X9 := hideP (X2.out.keep K2k.out X2.out.lt)
  have MM := hideP (M2.out.keep K2k.out hm2)
  have hbx : w3.heap.size < Wk.heap.size := by omega
  have hbn : w3.heap.size ≠ w2.heap.size + 1 := by omega
  have OS0 : Hid (OS Wk Wk (w2.heap.size + 1) (w2.heap.size + 1) w3.heap.size 0 (some ⟨w2.heap.size + 1, 0, none⟩) 12 (List.replicate 12 0)) := hideP (by
    have hk := k4.out
    have e1 : (w2.alloc (.cells #[.map (some mb)] 59)).heap.size = w2.heap.size + 1 := by simp
    have hO := O3.out
    rw [e1] at hO
    refine ⟨?_, fun a ha => by cases ha; exact .inl rfl, ?_, ?_, fun _ _ => rfl, fun _ _ _ _ => rfl, rfl, rfl, rfl, Nat.le_refl _⟩
    · rw [← hWk]; exact ((hO.alloc _).keep hk).alloc _
    · rw [← hWk]
      refine (Below.cell (kal5 w4 _) (p := ⟨w3.heap.size, 0, none⟩) (by show w3.heap.size < _; omega)).trans ((hk.cell (p := ⟨w3.heap.size, 0, none⟩) (by simp)).trans (by simp [go_sem]))
    · rw [← hWk]
      refine (Below.frozen (kal5 w4 _) (p := ⟨w3.heap.size, 0, none⟩) (by show w3.heap.size < _; omega)).trans ((hk.frozen (p := ⟨w3.heap.size, 0, none⟩) (by simp)).trans (by simp [go_sem])))
  try rw [hWk]
  clear hWk K5 k4 K3 O3 M2 X2 B2
  have hso : ∀ a : Addr, so = some a → True := fun _ _ => trivial
  refine (wpIn_wide (n := 3)).1 ?_
  refine wpIn_rangeFunc_ownH rfl (by omega) (gf := 48) (lb := #[.pointer (some ⟨w4.heap.size, 0, none⟩)]) rfl trivial (enters_of Try.func48 (by kernel_rfl) rfl)
    (pts_stopsM 2 w4.heap.size stripR rfl Wk (by omega) BX.out) (fun h k => k.trans h) (fun W l o o' hl _ _ _ => World.putObj_heap_other (by omega)) (Below.refl _ _) (fun _ => rfl)
    (fun pre W => ∃ s c, OS Wk W (w2.heap.size + 1) (w2.heap.size + 1) w3.heap.size 0 s c (List.replicate 12 0 ++ pre.map (fun p => G p.val)))
    (fun _ _ _ => False)
    (os_own Wk.heap.size (Nat.le_refl _) hbx (fun (pre : List { p : Int × Int // p ∈ ptsOf stripR }) => List.replicate 12 0 ++ pre.map (fun p => G p.val)))
    (fun _ _ _ _ _ hs _ _ => hs)
    ⟨_, _, by simpa using OS0.out⟩
    (fun x a' W => a' = { tmps := #[.slice so L.length sc, .pointer (some ⟨w.heap.size, 0, none⟩), .pointer (some ⟨w.heap.size + 1, 0, none⟩), .int .i64 0, .pointer (some ⟨w2.heap.size, 0, none⟩), .pointer (some ⟨w3.heap.size, 0, none⟩), .int .i64 x.val.1, .int .i64 x.val.2, undef, undef, undef, .slice so L.length sc, .int .i64 0, .int .i64 0, .bool false, undef, undef, .slice so L.length sc, .map (some mb), .slice (some ⟨w2.heap.size + 1, 0, none⟩) 12 12, .agg #[.int .i64 0, .int .i64 1, .int .i64 12, .int .i64 7], .func (.func 48) #[] #[.pointer (some ⟨w4.heap.size, 0, none⟩)], .int .i64 x.val.1, .int .i64 x.val.2, undef, undef, undef, undef, undef, undef, undef, undef, undef, undef, undef, undef, undef, undef, undef, undef, undef, undef, undef, undef], defers := [] })
    (fun x a' s X Y row h _ _ => h) ?assign ?body ?done ?stop
  case assign =>
    rintro l pre x W K hI hK
    simp only [encP]
    gi_wp2
    exact hK _ _ (KeepsFrom.refl _ _) rfl hI rfl
  case body =>
    rintro l pre ⟨⟨x, y⟩, hx⟩ a' W hl hrec ⟨s5, c5, O⟩ rfl hlen
    have hsub := mem_sub.1 hx
    have hin := hsub
    simp only [subB, decide_eq_true_eq] at hin
    have hwx : (Lit.int .i64 x).wf = true := wfP (by omega) (by omega)
    have hwy : (Lit.int .i64 y).wf = true := wfP (by omega) (by omega)
    have hlen' : pre.length < 84 := hlen
    have HO := hideP O
    have z4 := (O.at_ w2.heap.size 0 (by omega) (by omega) (by omega)).trans Z4.out
    have z5 := O.cell
    have hsz := O.size
    have hl4 : w2.heap.size < W.heap.size := by omega
    have hl5 : w3.heap.size < W.heap.size := by omega
    have HOM := hideP (MM.out.same (O.blk mb (by omega) (by omega) (by omega)))
    have hML : (List.replicate 12 (0 : Int) ++ pre.map (fun p => G p.val)).length ≤ 96 := by simp; omega
    obtain ⟨M, hM⟩ : ∃ M, List.replicate 12 (0 : Int) ++ pre.map (fun p => G p.val) = M := ⟨_, rfl⟩
    rw [hM] at HO z5 hML
    have HMM := hideP hM
    clear O hM hin
    rcases top_or x y L with hno | ⟨A, r, B, ht⟩
    · have FXY := ownF_none hno L.length
      have HZ : Hid (G (x, y) = 0) := hideP (by rw [← HG.out]; exact ownP_none hno)
      clear hno
      gi_wp2_with (first | (gi_at_lookup; refine wpListIn_ownAsk rfl _ _ rfl mb mn _ rfl HOM.out x y rfl hwx hwy ?_; rw [FXY]) | (gi_at_builtin; refine wpListIn_snoc rfl _ _ rfl (w2.heap.size + 1) s5 c5 M rfl (HO.out.keep (kal5 W (.cells #[.int .i64 0] 2)) hbx).own ⟨W.heap.size, 0, none⟩ 1 0 rfl (by simp [go_sem]) (by omega) (by simp; omega) ?_; intro s6 c6 w6 SN; replace SN := hideP SN; refine Hid.out ?_) | gi_in)
      have O6 := hideP (HO.out.keep (kal5 W (.cells #[.int .i64 0] 2)) hbx)
      obtain ⟨q1, q2, q3⟩ := O6.out.box hbx hbn SN.out
      have O7 := hideP (O6.out.put hbx hbn SN.out)
      have KF := hideP (HO.out.keepsFrom (B := Wk.heap.size) (v := .slice s6 (M ++ [0]).length c6) hbx SN.out)
      clear O6 SN z5 z4
      refine hideP ?_
      gi_wp2
      simp only [List.length_append, List.length_cons, List.length_nil] at O7 KF
      refine ⟨KF.out, (O7.out.blk w4.heap.size (by omega) (by omega) (by omega)).trans (HO.out.blk w4.heap.size (by omega) (by omega) (by omega)).symm, s6, c6, ?_⟩
      have h7 := O7.out
      rw [show M ++ [0] = List.replicate 12 0 ++ (pre ++ [(⟨(x, y), hx⟩ : { p : Int × Int // p ∈ ptsOf stripR })]).map (fun p => G p.val) by rw [List.map_append, ← List.append_assoc, HMM.out]; simp [HZ.out]] at h7
      exact h7
    · have FXY := ownF_top ht hsub
      have h0 := HL.out
      rw [ht.eq] at h0
      obtain ⟨g, o, rfl, hg, hc, _⟩ := Ws.at h0
      have hAl : (A.length : Int) < (L.length : Int) := by rw [ht.eq]; simp; omega
      have a0 : W.cell? ⟨g, o + A.length * 7, none⟩ = some (.int .i64 r.i) := (HO.out.at_ g _ (by omega) (by omega) (by omega)).trans ((Kk.out.cell (p := ⟨g, _, none⟩) hg).trans hc.seven.1)
      have z1 : W.cell? ⟨w.heap.size, 0, none⟩ = some (.slice (some ⟨g, o, none⟩) L.length sc) := (HO.out.at_ w.heap.size 0 (by omega) (by omega) (by omega)).trans Z1.out
      have hl1 : w.heap.size < W.heap.size := by omega
      have hlg : g < W.heap.size := by omega
      obtain ⟨ri, hri⟩ : ∃ ri, r.i = ri := ⟨_, rfl⟩
      rw [hri] at a0
      have HZ : Hid (G (x, y) = ri) := hideP (by rw [← HG.out, ← hri]; exact ownP_some ht)
      clear h0 hc ht hri
      gi_wp2_with (first | (gi_at_lookup; refine wpListIn_ownAsk rfl _ _ rfl mb mn _ rfl HOM.out x y rfl hwx hwy ?_; rw [FXY]) | (gi_at_builtin; refine wpListIn_snoc rfl _ _ rfl (w2.heap.size + 1) s5 c5 M rfl (HO.out.keep (kal5 W (.cells #[.int .i64 ri] 2)) hbx).own ⟨W.heap.size, 0, none⟩ 1 ri rfl (by simp [go_sem]) (by omega) (by simp; omega) ?_; intro s6 c6 w6 SN; replace SN := hideP SN; refine Hid.out ?_) | gi_in)
      have O6 := hideP (HO.out.keep (kal5 W (.cells #[.int .i64 ri] 2)) hbx)
      obtain ⟨q1, q2, q3⟩ := O6.out.box hbx hbn SN.out
      have O7 := hideP (O6.out.put hbx hbn SN.out)
      have KF := hideP (HO.out.keepsFrom (B := Wk.heap.size) (v := .slice s6 (M ++ [ri]).length c6) hbx SN.out)
      clear O6 SN z5 z4
      refine hideP ?_
      gi_wp2
      simp only [List.length_append, List.length_cons, List.length_nil] at O7 KF
      refine ⟨KF.out, (O7.out.blk w4.heap.size (by omega) (by omega) (by omega)).trans (HO.out.blk w4.heap.size (by omega) (by omega) (by omega)).symm, s6, c6, ?_⟩
      have h7 := O7.out
      rw [show M ++ [ri] = List.replicate 12 0 ++ (pre ++ [(⟨(x, y), hx⟩ : { p : Int × Int // p ∈ ptsOf stripR })]).map (fun p => G p.val) by rw [List.map_append, ← List.append_assoc, HMM.out]; simp [HZ.out]] at h7
      exact h7
  case done =>
    rintro D ys W hD hys ⟨s5, c5, O⟩ hK
    have hyl : ys.map (fun p => G p.val) = (ptsOf stripR).map G := by have h9 := congrArg (List.map G) hys; rw [List.map_map] at h9; exact h9
    rw [hyl, ← HR.out] at O
    have HO := hideP O
    have hsz := O.size
    have z5 := O.cell
    rw [HLen.out] at z5
    have X5 : Rb W (w.heap.size + 1) (.int .i64 0) (.slice none 0 0) := ⟨(O.at_ _ 0 (by omega) (by omega) (by omega)).trans X9.out.c0, (O.at_ _ 1 (by omega) (by omega) (by omega)).trans X9.out.c1, (O.at_f _ 0 (by omega) (by omega) (by omega)).trans X9.out.f0, (O.at_f _ 1 (by omega) (by omega) (by omega)).trans X9.out.f1, by omega⟩
    have HX5 := hideP X5
    obtain ⟨x0, x1, x2, x3, x4⟩ := X5
    have hl5 : w3.heap.size < W.heap.size := by omega
    have MK := hideP ((Mks.nil W Wk.heap.size).cons hK hD (fun E hE => by cases hE))
    have HKD := hideP hK
    have HBW := hideP (Kk.out.trans (O.below (B := w.heap.size) (by omega) (by omega) (by omega)))
    clear O hK
    go_wp2
    have T0 : Turn (w.heap.size + 1) W ((W.setCell ⟨w.heap.size + 1, 0, none⟩ (.int .i64 0)).setCell ⟨w.heap.size + 1, 1, none⟩ (.slice s5 96 c5)) := (Turn.store W ⟨w.heap.size + 1, 0, none⟩ _).trans (Turn.store _ ⟨w.heap.size + 1, 1, none⟩ _)
    show LeavesInM Fence.wide 3 Try.prog Try.f14 _ _ (marks [D]) .returning _
    refine leave_marksO Wk.heap.size [D] _ (MK.out.turn T0 (by omega)) (by simp; omega) fun w' k hk => ?_
    have e0 : w'.cell? ⟨w.heap.size + 1, 0, none⟩ = some (.int .i64 0) := by
      rw [k.cell (p := ⟨w.heap.size + 1, 0, none⟩) (by show w.heap.size + 1 < _; omega), cell_set_other (by omega)]; exact cell_set_same HX5.out.c0
    have e1 : w'.cell? ⟨w.heap.size + 1, 1, none⟩ = some (.slice s5 96 c5) := by
      rw [k.cell (p := ⟨w.heap.size + 1, 1, none⟩) (by show w.heap.size + 1 < _; omega)]; exact cell_set_same ((cell_set_other (by omega)).trans HX5.out.c1)
    refine ⟨.agg #[.int .i64 0, .slice s5 96 c5], ?_, ?_⟩
    · simp [results, Try.results14, go_sem, e0, e1]
    · refine ⟨s5, c5, by rw [HLen.out], ?_, ((HBW.out.setCell (p := ⟨w.heap.size + 1, 0, none⟩) (by show w.heap.size ≤ w.heap.size + 1; omega) _).setCell (p := ⟨w.heap.size + 1, 1, none⟩) (by show w.heap.size ≤ w.heap.size + 1; omega) _).trans (k.mono (by omega))⟩
      have h1 := (HO.out.own.set ⟨w.heap.size + 1, 0, none⟩ (.int .i64 0) (by show w.heap.size + 1 < _; omega)).set ⟨w.heap.size + 1, 1, none⟩ (.slice s5 96 c5) (by show w.heap.size + 1 < _; omega)
      refine (ownR_same h1 fun a ha => hk _ fun E hE e => ?_).le (by omega)
      obtain rfl : E = D := by simpa using hE
      obtain ⟨cur, hcur⟩ := ownR_cells HO.out.own ha
      rw [e, HKD.out] at hcur
      cases hcur
  case stop =>
    rintro D c pre W _ _ h _
    exact h.elim
end Go.Proofs.Ytmmjannkfmiohaa
