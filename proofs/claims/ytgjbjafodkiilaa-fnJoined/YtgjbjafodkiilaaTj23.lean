/- slices.Concat of two rows of bytes, by the library's own text. CutFrames of the program. -/
import Derived.Test.YtgjbjafodkiilaaTj22
import Derived.Lib.AppendZerosOnto
namespace Go.Proofs.Ytgjbjafodkiilaa
open Go.RowKit Go.Lib
set_option linter.unusedVariables false
attribute [local go_sem high] sl_upto

set_option maxRecDepth 100000 in
set_option maxHeartbeats 1000000 in
theorem grow_zero (w : World) : Calls Try.prog 47 #[.slice none 0 0, .int .i64 0] w fun e w' => e = .returned (.slice none 0 0) ∧ w' = w := by
  go_enter Try.func47, Try.ntmps47
  go_wp2
  go_returns
  exact ⟨rfl, rfl⟩

set_option maxRecDepth 100000 in
set_option maxHeartbeats 1000000 in
theorem grow_some (n : Nat) (w : World) (h0 : 0 < n) (h1 : n ≤ 1000) : Calls Try.prog 47 #[.slice none 0 0, .int .i64 n] w fun e w' => ∃ ao cap, e = .returned (.slice ao 0 cap) ∧ OwnR .u8 5 w' w.heap.size ao cap [] ∧ Below w.heap.size w w' := by
  obtain ⟨i0, hi0, hz0, hz1, hz2⟩ := info_parts Try.infoB
  have h0' : (0 : Int) < (n : Int) := by omega
  have h1' : (n : Int) ≤ 1000 := by omega
  have hrun := fun ty => Lib.run_append_grow_zeros (P := Try.prog) w 22 3 ty 5 i0 (.int .u8 0) .i64 .i64 Try.underlying22 Try.underlying3 hi0 hz0 none 0 0 [] (by rw [hz1]; exact run_firstCells_none w.drew 1 0 0 0) n h0 (by omega) (by omega) (by omega) (by rw [hz2]; omega) (by rw [hz2]; exact growslice_fits (by omega) (by omega))
  rw [Nat.zero_add] at hrun
  have hG := grownCap_ge w n 0 5
  have hGm := grownCap_le_maxLen w n 0 5 (by unfold maxLen; omega)
  generalize grownCap w n 0 5 = G at *
  have HO : Hid (OwnR .u8 5 (w.drew.alloc (.cells (([] : List Value).toArray ++ Builtin.zeroCells (Value.int .u8 0).cells n ++ Builtin.zeroCells (Value.int .u8 0).cells (G - n)) 5)) w.heap.size (some ⟨w.heap.size, 0, none⟩) G []) := hideP ⟨by simp, .inr ⟨w.heap.size, G, _, rfl, Nat.le_refl _, heap_alloc_new w.drew _, Nat.zero_le _, hGm, by simp [size_zeroCells, Value.cells]; omega, by simp⟩⟩
  have HK : Hid (Below w.heap.size w (w.drew.alloc (.cells (([] : List Value).toArray ++ Builtin.zeroCells (Value.int .u8 0).cells n ++ Builtin.zeroCells (Value.int .u8 0).cells (G - n)) 5))) := hideP ((Below.refl _ _).drew.alloc (Nat.le_refl _) _)
  generalize w.drew.alloc (.cells (([] : List Value).toArray ++ Builtin.zeroCells (Value.int .u8 0).cells n ++ Builtin.zeroCells (Value.int .u8 0).cells (G - n)) 5) = w1 at *
  have hG' : (0 : Int) ≤ (G : Int) := by omega
  clear hGm hi0 hz0 hz1 hz2
  go_enter Try.func47, Try.ntmps47
  go_wp2_with (at_builtin; refine Lib.wpList_append_run _ rfl _ _ _ _ rfl _ _ rfl rfl _ _ (hrun _) ?_)
  go_returns
  exact ⟨_, G, rfl, HO.out, HK.out⟩

/-- A row with room for n. -/
theorem grow_any (n : Nat) (w : World) (h1 : n ≤ 1000) : Calls Try.prog 47 #[.slice none 0 0, .int .i64 n] w fun e w' => ∃ ao cap, e = .returned (.slice ao 0 cap) ∧ OwnR .u8 5 w' w.heap.size ao cap [] ∧ Below w.heap.size w w' := by
  by_cases h : n = 0
  · subst h
    exact (grow_zero w).mono fun e w' ⟨he, hw⟩ => ⟨none, 0, he, by rw [hw]; exact OwnR.nil _ _ _ _, by rw [hw]; exact Below.refl _ _⟩
  · exact grow_some n w (by omega) h1

set_option maxRecDepth 100000 in
set_option maxHeartbeats 2000000 in
theorem concat_any (lo hi vb : Nat) (ao bo : Option Addr) (ca cb : Nat) (L M : List Int) (w : World) (hL : Row .u8 w lo hi ao L) (hM : Row .u8 w lo hi bo M) (hs : hi ≤ w.heap.size) (hc0 : w.cell? ⟨vb, 0, none⟩ = some (.slice ao L.length ca)) (hc1 : w.cell? ⟨vb, 1, none⟩ = some (.slice bo M.length cb)) (hv : vb < w.heap.size) (h1 : L.length ≤ 300) (h2 : M.length ≤ 300) :
    Calls Try.prog 25 #[.slice (some ⟨vb, 0, none⟩) 2 2] w fun e w' => ∃ so sc, e = .returned (.slice so (L ++ M).length sc) ∧ OwnR .u8 5 w' w.heap.size so sc (L ++ M) ∧ Below w.heap.size w w' := by
  have HL := hideP hL
  have HM := hideP hM
  have h1' : (L.length : Int) ≤ 300 := by omega
  have h2' : (M.length : Int) ≤ 300 := by omega
  clear hL hM
  go_enter Try.func25, Try.ntmps25
  go_wp2
  refine wp_loop_rounds 3 ?_
  rw [rounds_succ]
  go_wp2
  rw [rounds_succ]
  go_wp2
  rw [rounds_succ]
  go_wp2_with fail
  have G := grow_any (L.length + M.length) w (by omega)
  rw [Int.natCast_add] at G
  refine Calls.mono G ?_
  clear G
  rintro e w1 ⟨so, sc, rfl, O1, k1⟩
  have K1 := hideP k1
  have O1' := hideP O1
  have S1 := hideP ((HL.out.keep k1 hs).src)
  have n1 := k1.size
  have d0 := (k1.cell (p := ⟨vb, 0, none⟩) hv).trans hc0
  have d1 := (k1.cell (p := ⟨vb, 1, none⟩) hv).trans hc1
  clear k1 O1
  go_wp2
  refine wp_loop_rounds 3 ?_
  rw [rounds_succ]
  go_wp2_with (first | (at_builtin; refine wpList_app (k := .u8) (T := 5) (S := 22) (bytes := 1) Try.underlying22 Try.infoB (by omega) rfl _ _ rfl w.heap.size so sc [] rfl O1'.out ao ca L rfl S1.out (by simp; omega) n1 ?_; intro so2 sc2 w2 O2 k2; refine Hid.out ?_) | go_in)
  have K2 := hideP (K1.out.trans k2)
  have O2' := hideP O2
  have S2 := hideP ((HM.out.keep K2.out hs).src)
  have n2 := k2.size
  have e0 := (k2.cell (p := ⟨vb, 0, none⟩) hv).trans d0
  have e1 := (k2.cell (p := ⟨vb, 1, none⟩) hv).trans d1
  have n3 : w.heap.size ≤ w2.heap.size := by omega
  clear k2 O2 d0 d1
  refine hideP ?_
  go_wp2
  rw [rounds_succ]
  go_wp2_with (first | (at_builtin; refine wpList_app (k := .u8) (T := 5) (S := 22) (bytes := 1) Try.underlying22 Try.infoB (by omega) rfl _ _ rfl w.heap.size so2 sc2 L rfl O2'.out bo cb M rfl S2.out (by omega) n3 ?_; intro so3 sc3 w3 O3 k3; refine Hid.out ?_) | go_in)
  have K3 := hideP (K2.out.trans k3)
  have O3' := hideP O3
  clear k3 O3
  refine hideP ?_
  go_wp2
  rw [rounds_succ]
  go_wp2
  go_returns
  exact ⟨so3, sc3, by simp, O3'.out, K3.out⟩

end Go.Proofs.Ytgjbjafodkiilaa

namespace Go.Proofs.Ytgjbjafodkiilaa
open Go.RowKit
set_option linter.unusedVariables false

/-- The code of CutFrames, and the bytes that it cuts. -/
def frC (L M : List Int) : Int := if rsF L = 0 then if 300 < M.length then 2 else 0 else rsF L
def frA (L M : List Int) : List Int := if frC L M = 0 then L ++ M else []
theorem frC_no {L : List Int} (M : List Int) (h : rsF L ≠ 0) : frC L M = rsF L ∧ frA L M = [] := by
  have e : frC L M = rsF L := by unfold frC; rw [if_neg h]
  exact ⟨e, by unfold frA; rw [if_neg (by rw [e]; exact h)]⟩
theorem frC_many {L M : List Int} (h : rsF L = 0) (h1 : 300 < M.length) : frC L M = 2 ∧ frA L M = [] := by
  have e : frC L M = 2 := by unfold frC; rw [if_pos h, if_pos h1]
  exact ⟨e, by unfold frA; rw [if_neg (by rw [e]; decide)]⟩
theorem frC_yes {L M : List Int} (h : rsF L = 0) (h1 : ¬ 300 < M.length) : frC L M = 0 ∧ frA L M = L ++ M := by
  have e : frC L M = 0 := by unfold frC; rw [if_pos h, if_neg h1]
  exact ⟨e, by unfold frA; rw [if_pos e]⟩
theorem byts_app {L M : List Int} (h : byts L) (k : byts M) : byts (L ++ M) := fun i hi => by
  by_cases e : i < L.length
  · rw [List.getElem_append_left e]; exact h i e
  · rw [List.getElem_append_right (by omega)]; exact k _ _
theorem OwnR.room {k : IntKind} {T : TypeId} {w : World} {base : Nat} {ao : Option Addr} {cap : Nat} {L : List Int} (h : OwnR k T w base ao cap L) : L.length ≤ cap := by
  rcases h.2 with ⟨hx, h0⟩ | ⟨g', cap', cur, hv, _, _, hnc, _⟩
  · injection hx with _ h1 h2; omega
  · cases hv; exact hnc

/-- What is told of bytes that were cut, with a code. -/
def FrAns (w : World) (c : Int) (A : List Int) (e : Ending) (w' : World) : Prop :=
  ∃ so sc bs r, e = .returned (.agg #[.int .i64 c, .slice so bs.length sc, .int .i64 (nW (bs.map Bd.L)), .slice r.ao r.L.length r.cap]) ∧ Below w.heap.size w w' ∧ cut A = (bs.map Bd.L, r.L) ∧ Frm w' w.heap.size w'.heap.size so bs r
theorem ans_empty {w : World} {c : Int} {e : Ending} {w' : World} (he : e = .returned (.agg #[.int .i64 c, .slice none 0 0, .int .i64 0, .slice none 0 0])) (hb : Below w.heap.size w w') : FrAns w c [] e w' :=
  ⟨none, 0, [], ⟨none, 0, 0, []⟩, he, hb, cut_nil, hb.size, Nat.le_refl _, (Bods.nil _ _ _).snoc (Bd.on_nil _ _ rfl) (fun e => absurd rfl e) (Nat.le_refl _), .inl rfl⟩

set_option maxRecDepth 100000 in
set_option maxHeartbeats 2000000 in
theorem iCut_no (lo hi : Nat) (ao bo : Option Addr) (ca cb : Nat) (L M : List Int) (w : World) (hL : Row .u8 w lo hi ao L) (hs : hi ≤ w.heap.size) (hB : byts L) (hm : L.length ≤ 1048576) (h : rsF L ≠ 0) :
    Calls Try.prog 11 #[.slice ao L.length ca, .slice bo M.length cb] w (FrAns w (rsF L) []) := by
  have HR := iRest_any lo hi ao ca L
  obtain ⟨c, hc⟩ : ∃ c, rsF L = c := ⟨_, rfl⟩
  rw [hc] at HR ⊢
  have hne : (c != 0) = true := by rw [← hc]; simpa using h
  have HL := hideP hL
  have HB := hideP hB
  have HR' := hideP HR
  clear h hc hL hB HR
  go_enter Try.func11, Try.ntmps11
  go_wp2_with fail
  refine Calls.mono (HR'.out _ (HL.out.keep (B := w.heap.size) (by go_grown) hs) HB.out hm) ?_
  rintro e w1 ⟨rfl, rfl⟩
  go_wp2
  refine bodyPost_ret (v := .agg #[.int .i64 c, .slice none 0 0, .int .i64 0, .slice none 0 0]) (by simp [results, Try.results11, go_sem, *]) rfl (ans_empty rfl ?_)
  go_grown

set_option maxRecDepth 100000 in
set_option maxHeartbeats 2000000 in
theorem iCut_many (lo hi : Nat) (ao bo : Option Addr) (ca cb : Nat) (L M : List Int) (w : World) (hL : Row .u8 w lo hi ao L) (hs : hi ≤ w.heap.size) (hB : byts L) (hm : L.length ≤ 1048576) (hm2 : M.length ≤ 1048576) (h : rsF L = 0) (h1 : 300 < M.length) :
    Calls Try.prog 11 #[.slice ao L.length ca, .slice bo M.length cb] w (FrAns w 2 []) := by
  have HR := iRest_any lo hi ao ca L
  rw [h] at HR
  have HL := hideP hL
  have HB := hideP hB
  have HR' := hideP HR
  have h1' : (300 : Int) < (M.length : Int) := by omega
  clear h hL hB HR
  go_enter Try.func11, Try.ntmps11
  go_wp2_with fail
  refine Calls.mono (HR'.out _ (HL.out.keep (B := w.heap.size) (by go_grown) hs) HB.out hm) ?_
  rintro e w1 ⟨rfl, rfl⟩
  go_wp2
  refine bodyPost_ret (v := .agg #[.int .i64 2, .slice none 0 0, .int .i64 0, .slice none 0 0]) (by simp [results, Try.results11, go_sem, *]) rfl (ans_empty rfl ?_)
  go_grown

theorem Frm.set {w : World} {lo hi : Nat} {so : Option Addr} {bs : List Bd} {r : Bd} (h : Frm w lo hi so bs r) (p : Addr) (v : Value) (hp : p.block < lo) : Frm (w.setCell p v) lo hi so bs r := h.far (far_set w p v) (.inr hp)

set_option maxRecDepth 100000 in
set_option maxHeartbeats 2000000 in
theorem iCut_yes (lo hi : Nat) (ao bo : Option Addr) (ca cb : Nat) (L M : List Int) (w : World) (hL : Row .u8 w lo hi ao L) (hM : Row .u8 w lo hi bo M) (hs : hi ≤ w.heap.size) (hB : byts L) (hB2 : byts M) (h : rsF L = 0) (h1 : ¬ 300 < M.length) :
    Calls Try.prog 11 #[.slice ao L.length ca, .slice bo M.length cb] w (FrAns w 0 (L ++ M)) := by
  have hl25 := rsF_len h
  have HR := iRest_any lo hi ao ca L
  rw [h] at HR
  have CC := concat_any lo hi (w.heap.size + 1) ao bo ca cb L M
  have hBA := byts_app hB hB2
  have hAl : (L ++ M).length ≤ 1000 := by simp; omega
  generalize L ++ M = A at *
  have CC' := hideP CC
  have HBA := hideP hBA
  clear CC hBA
  have HL := hideP hL
  have HM := hideP hM
  have HB := hideP hB
  have HB2 := hideP hB2
  have HR' := hideP HR
  have h1' : (M.length : Int) ≤ 300 := by omega
  have h1 : M.length ≤ 300 := by omega
  clear h hL hM hB hB2 HR
  go_enter Try.func11, Try.ntmps11
  go_wp2_with fail
  refine Calls.mono (HR'.out _ (HL.out.keep (B := w.heap.size) (by go_grown) hs) HB.out (by omega)) ?_
  rintro e w1 ⟨rfl, hw1⟩
  subst w1
  go_wp2_with fail
  refine Calls.mono (CC'.out _ (HL.out.keep (B := w.heap.size) (by go_grown) hs) (HM.out.keep (B := w.heap.size) (by go_grown) hs) (by simp; omega) (by simp) (by simp) (by simp) (by omega) h1) ?_
  rintro e w2 ⟨so, sc, rfl, O2, k2⟩
  have R2 : R4 w2 w.heap.size (.int .i64 0) (.slice none 0 0) (.int .i64 0) (.slice none 0 0) := R4.keep ⟨by simp, by simp, by simp, by simp, by simp, by simp, by simp, by simp, by simp; omega⟩ k2 (by simp; omega)
  have K2 : Hid (Below w.heap.size w w2) := hideP (Below.trans (by go_grown) (k2.mono (by simp; omega)))
  have O2' := hideP O2
  have n2 := R2.lt
  have RR2 := hideP R2
  clear O2 k2 R2
  go_wp2_with fail
  refine Calls.mono (frames_any _ _ so sc A w2 O2'.out.wrt.row (Nat.le_refl _) O2'.out.room HBA.out hAl) ?_
  rintro e w3 ⟨so3, sc3, bs, r, rfl, k3, hcut, F3⟩
  have R3' := RR2.out.keep k3 n2
  have K3 := hideP (K2.out.trans (k3.mono (by omega)))
  have F3' := hideP F3
  have HC := hideP hcut
  have n3 := k3.size
  clear k3 F3 hcut
  obtain ⟨N, hN⟩ : ∃ N, nW (bs.map Bd.L) = N := ⟨_, rfl⟩
  rw [hN]
  have HN := hideP hN
  clear hN
  obtain ⟨r0, r1, r2, r3, r4, r5, r6, r7, r8⟩ := R3'
  go_wp2
  refine bodyPost_ret (v := .agg #[.int .i64 0, .slice so3 bs.length sc3, .int .i64 N, .slice r.ao r.L.length r.cap]) (by simp [results, Try.results11, go_sem, *]) rfl ⟨so3, sc3, bs, r, by rw [HN.out], ?_, HC.out, ?_⟩
  · repeat' (first | exact K3.out | (with_reducible refine Below.setCell ?_ ?_ _) | go_size)
  · have hp : ∀ o, (⟨w.heap.size, o, none⟩ : Addr).block < w2.heap.size := fun _ => n2
    exact ((((F3'.out.set _ _ (hp 0)).set _ _ (hp 1)).set _ _ (hp 2)).set _ _ (hp 3)).wide (by omega) (by simp) (Nat.le_refl _)

/-- CutFrames of the program at every pair of slices. -/
theorem iCut_any (lo hi : Nat) (ao bo : Option Addr) (ca cb : Nat) (L M : List Int) (w : World) (hL : Row .u8 w lo hi ao L) (hM : Row .u8 w lo hi bo M) (hs : hi ≤ w.heap.size) (hB : byts L) (hB2 : byts M) (hm : L.length ≤ 1048576) (hm2 : M.length ≤ 1048576) :
    Calls Try.prog 11 #[.slice ao L.length ca, .slice bo M.length cb] w (FrAns w (frC L M) (frA L M)) := by
  by_cases h : rsF L = 0
  · by_cases h1 : 300 < M.length
    · obtain ⟨e1, e2⟩ := frC_many h h1
      rw [e1, e2]; exact iCut_many lo hi ao bo ca cb L M w hL hs hB hm hm2 h h1
    · obtain ⟨e1, e2⟩ := frC_yes h h1
      rw [e1, e2]; exact iCut_yes lo hi ao bo ca cb L M w hL hM hs hB hB2 h h1
  · obtain ⟨e1, e2⟩ := frC_no M h
    rw [e1, e2]; exact iCut_no lo hi ao bo ca cb L M w hL hs hB hm h

end Go.Proofs.Ytgjbjafodkiilaa
