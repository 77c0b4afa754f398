/- CutFrames of the model. -/
import Derived.Test.YtgjbjafodkiilaaTj25
namespace Go.Proofs.Ytgjbjafodkiilaa
open Go.RowKit
set_option linter.unusedVariables false

set_option maxRecDepth 100000 in
set_option maxHeartbeats 2000000 in
theorem sCut_no (lo hi : Nat) (ao bo : Option Addr) (ca cb : Nat) (L M : List Int) (w : World) (hL : Row .u8 w lo hi ao L) (hs : hi ≤ w.heap.size) (hB : byts L) (hm : L.length ≤ 1048576) (h : rsF L ≠ 0) :
    Calls Try.prog 20 #[.slice ao L.length ca, .slice bo M.length cb] w (FrAns w (rsF L) []) := by
  have HR := sl4Rest_any lo hi ao ca L
  obtain ⟨c, hc⟩ : ∃ c, rsF L = c := ⟨_, rfl⟩
  rw [hc] at HR ⊢
  have hne : (c != 0) = true := by rw [← hc]; simpa using h
  have HL := hideP hL
  have HB := hideP hB
  have HR' := hideP HR
  clear h hc hL hB HR
  go_enter Try.func20, Try.ntmps20
  go_wp2_with fail
  refine Calls.mono (HR'.out _ (HL.out.keep (B := w.heap.size) (by go_grown) hs) HB.out hm) ?_
  rintro e w1 ⟨rfl, rfl⟩
  go_wp2
  refine bodyPost_ret (v := .agg #[.int .i64 c, .slice none 0 0, .int .i64 0, .slice none 0 0]) (by simp [results, Try.results20, go_sem, *]) rfl (ans_empty rfl ?_)
  go_grown

set_option maxRecDepth 100000 in
set_option maxHeartbeats 2000000 in
theorem sCut_many (lo hi : Nat) (ao bo : Option Addr) (ca cb : Nat) (L M : List Int) (w : World) (hL : Row .u8 w lo hi ao L) (hs : hi ≤ w.heap.size) (hB : byts L) (hm : L.length ≤ 1048576) (hm2 : M.length ≤ 1048576) (h : rsF L = 0) (h1 : 300 < M.length) :
    Calls Try.prog 20 #[.slice ao L.length ca, .slice bo M.length cb] w (FrAns w 2 []) := by
  have HR := sl4Rest_any lo hi ao ca L
  rw [h] at HR
  have HL := hideP hL
  have HB := hideP hB
  have HR' := hideP HR
  have h1' : (300 : Int) < (M.length : Int) := by omega
  clear h hL hB HR
  go_enter Try.func20, Try.ntmps20
  go_wp2_with fail
  refine Calls.mono (HR'.out _ (HL.out.keep (B := w.heap.size) (by go_grown) hs) HB.out hm) ?_
  rintro e w1 ⟨rfl, rfl⟩
  go_wp2
  refine bodyPost_ret (v := .agg #[.int .i64 2, .slice none 0 0, .int .i64 0, .slice none 0 0]) (by simp [results, Try.results20, go_sem, *]) rfl (ans_empty rfl ?_)
  go_grown

set_option maxRecDepth 100000 in
set_option maxHeartbeats 2000000 in
theorem sCut_yes (lo hi : Nat) (ao bo : Option Addr) (ca cb : Nat) (L M : List Int) (w : World) (hL : Row .u8 w lo hi ao L) (hM : Row .u8 w lo hi bo M) (hs : hi ≤ w.heap.size) (hB : byts L) (hB2 : byts M) (h : rsF L = 0) (h1 : ¬ 300 < M.length) :
    Calls Try.prog 20 #[.slice ao L.length ca, .slice bo M.length cb] w (FrAns w 0 (L ++ M)) := by
  have hl25 := rsF_len h
  have HR := sl4Rest_any lo hi ao ca L
  rw [h] at HR
  have CC := sl4_any lo hi ao bo ca cb L M
  generalize L ++ M = A at *
  have CC' := hideP CC
  clear CC
  have HL := hideP hL
  have HM := hideP hM
  have HB := hideP hB
  have HB2 := hideP hB2
  have HR' := hideP HR
  have h1' : (M.length : Int) ≤ 300 := by omega
  have h1 : M.length ≤ 300 := by omega
  clear h hL hM hB hB2 HR
  go_enter Try.func20, Try.ntmps20
  go_wp2_with fail
  refine Calls.mono (HR'.out _ (HL.out.keep (B := w.heap.size) (by go_grown) hs) HB.out (by omega)) ?_
  rintro e w1 ⟨rfl, hw1⟩
  subst w1
  go_wp2_with fail
  refine Calls.mono (CC'.out _ (HL.out.keep (B := w.heap.size) (by go_grown) hs) (HM.out.keep (B := w.heap.size) (by go_grown) hs) (by simp; omega) HB.out HB2.out (by omega) h1) ?_
  rintro e w3 ⟨so3, sc3, bs, r, rfl, k3, hcut, F3⟩
  have R3' : R4 w3 w.heap.size (.int .i64 0) (.slice none 0 0) (.int .i64 0) (.slice none 0 0) := R4.keep ⟨by simp, by simp, by simp, by simp, by simp, by simp, by simp, by simp, by simp⟩ k3 (by simp)
  have K3 : Hid (Below w.heap.size w w3) := hideP (Below.trans (by go_grown) (k3.mono (by simp)))
  have F3' := hideP F3
  have HC := hideP hcut
  have n3 := k3.size
  simp only [World.size_alloc] at n3 F3'
  clear k3 F3 hcut
  obtain ⟨N, hN⟩ : ∃ N, nW (bs.map Bd.L) = N := ⟨_, rfl⟩
  rw [hN]
  have HN := hideP hN
  clear hN
  obtain ⟨r0, r1, r2, r3, r4, r5, r6, r7, r8⟩ := R3'
  go_wp2
  refine bodyPost_ret (v := .agg #[.int .i64 0, .slice so3 bs.length sc3, .int .i64 N, .slice r.ao r.L.length r.cap]) (by simp [results, Try.results20, go_sem, *]) rfl ⟨so3, sc3, bs, r, by rw [HN.out], ?_, HC.out, ?_⟩
  · repeat' (first | exact K3.out | (with_reducible refine Below.setCell ?_ ?_ _) | go_size)
  · have hp : ∀ o, (⟨w.heap.size, o, none⟩ : Addr).block < w.heap.size + 1 := fun _ => Nat.lt_succ_self _
    exact ((((F3'.out.set _ _ (hp 0)).set _ _ (hp 1)).set _ _ (hp 2)).set _ _ (hp 3)).wide (by omega) (by simp) (Nat.le_refl _)

/-- CutFrames of the model at every pair of slices. -/
theorem sCut_any (lo hi : Nat) (ao bo : Option Addr) (ca cb : Nat) (L M : List Int) (w : World) (hL : Row .u8 w lo hi ao L) (hM : Row .u8 w lo hi bo M) (hs : hi ≤ w.heap.size) (hB : byts L) (hB2 : byts M) (hm : L.length ≤ 1048576) (hm2 : M.length ≤ 1048576) :
    Calls Try.prog 20 #[.slice ao L.length ca, .slice bo M.length cb] w (FrAns w (frC L M) (frA L M)) := by
  by_cases h : rsF L = 0
  · by_cases h1 : 300 < M.length
    · obtain ⟨e1, e2⟩ := frC_many h h1
      rw [e1, e2]; exact sCut_many lo hi ao bo ca cb L M w hL hs hB hm hm2 h h1
    · obtain ⟨e1, e2⟩ := frC_yes h h1
      rw [e1, e2]; exact sCut_yes lo hi ao bo ca cb L M w hL hM hs hB hB2 h h1
  · obtain ⟨e1, e2⟩ := frC_no M h
    rw [e1, e2]; exact sCut_no lo hi ao bo ca cb L M w hL hs hB hm h

end Go.Proofs.Ytgjbjafodkiilaa
