/- Messages held against each other by the laws' own functions. -/
import Derived.Test.YtngmiimendlleaaV16
namespace Go.Proofs.Ytngmiimendlleaa
open Go.RowKit
set_option linter.unusedVariables false

set_option maxHeartbeats 400000 in
theorem eqM_same (lo hi lo2 hi2 : Nat) (k : Int) (ao bo : Option Addr) (ca cb : Nat) (D : List Int) (w : World) (ha : Row .u8 w lo hi ao D) (hb : Row .u8 w lo2 hi2 bo D) (h1 : hi ≤ w.heap.size) (h2 : hi2 ≤ w.heap.size) (hl : D.length ≤ 1048576) :
    Calls Try.prog 35 #[.agg #[.int .i64 k, .slice ao D.length ca], .agg #[.int .i64 k, .slice bo D.length cb]] w fun e w' => e = .returned (.bool true) ∧ Below w.heap.size w w' := by
  have EQ := hideP (fun w1 (kk : Below w.heap.size w w1) => eqB_same lo hi lo2 hi2 ao bo ca cb D w1 (ha.keep kk h1) (hb.keep kk h2) (by have := kk.size; omega) (by have := kk.size; omega) hl)
  clear ha hb
  go_enter Try.func35, Try.ntmps35
  go_wp2_with fail
  refine Calls.mono (EQ.out _ (by go_grown)) ?_
  rintro e w1 ⟨rfl, k1⟩
  have K1 : Hid (Below w.heap.size w w1) := hideP (Below.trans (by go_grown) (k1.mono (by simp; omega)))
  clear k1
  go_wp2
  go_returns
  exact ⟨rfl, K1.out⟩

theorem ct_at {X Y : List Mg} {r : Mg} {M : List Mg} (h : M.map Mg.ct = (X ++ r :: Y).map Mg.ct) : ∃ Z W s, M = Z ++ s :: W ∧ Z.length = X.length ∧ s.k = r.k ∧ s.b.L = r.b.L := by
  have hl : M.length = X.length + Y.length + 1 := by have := congrArg List.length h; simp at this; omega
  have hlt : X.length < M.length := by omega
  have e : M = M.take X.length ++ M[X.length] :: M.drop (X.length + 1) := by simp
  have h2 : (M[X.length]).ct = r.ct := by
    have : (M.map Mg.ct)[X.length]'(by simpa using hlt) = ((X ++ r :: Y).map Mg.ct)[X.length]'(by simp) := by simp only [h]
    simpa using this
  simp only [Mg.ct, Prod.mk.injEq] at h2
  exact ⟨_, _, _, e, by simp; omega, h2.1, h2.2⟩

set_option maxHeartbeats 2000000 in
theorem eqMS_same (lo hi lo2 hi2 : Nat) (so so2 : Option Addr) (sc sc2 : Nat) (L M : List Mg) (w : World) (hE : M.map Mg.ct = L.map Mg.ct) (hL : Ms w lo hi so L) (hM : Ms w lo2 hi2 so2 M) (h1 : hi ≤ w.heap.size) (h2 : hi2 ≤ w.heap.size) (hn : L.length + mzs L ≤ 1048576) :
    Calls Try.prog 23 #[.slice so L.length sc, .slice so2 M.length sc2] w fun e w' => e = .returned (.bool true) ∧ Below w.heap.size w w' := by
  have hlen : M.length = L.length := len_ct hE
  rw [hlen]
  have hn' : (L.length : Int) ≤ 1048576 := by omega
  have HE := hideP hE
  have HL := hideP hL
  have HM := hideP hM
  clear hE hL hM hlen
  go_enter Try.func23, Try.ntmps23
  go_wp2
  go_loopw [5] (fun i wr => ∃ X Y : List Mg, X ++ Y = L ∧ i = .int .i64 (X.length : Nat) ∧ Below w.heap.size w wr) (fun i _ => L.length - (intOf i).toNat)
  case atStart => exact ⟨[], L, rfl, rfl, Below.refl _ _⟩
  case round =>
    obtain ⟨X, Y, hXY, rfl, kb⟩ := hrel
    have hlen : X.length + Y.length = L.length := by rw [← hXY]; simp
    have hz := kb.size
    cases Y with
    | cons r Y =>
      have hlt : (X.length : Int) < (L.length : Int) := by simp at hlen; omega
      have hsz : r.b.L.length ≤ mzs L := mzs_mem (m := r) (by rw [← hXY]; simp)
      have h0 := HL.out
      have e0 := HE.out
      rw [← hXY] at h0 e0
      obtain ⟨Z, V, s, hMe, hZ, sk, sD⟩ := ct_at e0
      have m0 := HM.out
      rw [hMe] at m0
      obtain ⟨g, o, rfl, hg, hc, rD⟩ := Ms.at h0
      obtain ⟨g2, o2, rfl, hg2, hc2, qD⟩ := Ms.at m0
      obtain ⟨a0, a1⟩ := hc.keep kb (by omega)
      obtain ⟨b0, b1⟩ := hc2.keep kb (by omega)
      rw [hZ] at b0 b1
      have hgl : g < wr.heap.size := by omega
      have hgl2 : g2 < wr.heap.size := by omega
      have HB := hideP kb
      have HXY := hideP hXY
      obtain ⟨k, ao, cap, gb, D⟩ := r
      obtain ⟨k2, ao2, cap2, gb2, D2⟩ := s
      unfold Mg.on at rD qD
      simp only at sk sD rD qD a0 a1 b0 b1 hsz
      subst sk sD
      have EQ := hideP (fun w1 (kk : Kept wr w1) => eqM_same lo hi lo2 hi2 k2 ao ao2 cap cap2 D2 w1 (rD.keep (HB.out.trans (Below.mono kk hz)) h1) (qD.keep (HB.out.trans (Below.mono kk hz)) h2) (by have := Below.size kk; omega) (by have := Below.size kk; omega) (by omega))
      clear h0 e0 m0 hc hc2 kb hXY hMe rD qD HL HM HE
      go_wp2
      refine wp_region_kept (by kernel_rfl) (by kernel_rfl) ?_
      repeat (refine kept_step (by rfl) ?_; apply Exists.intro; refine ⟨fun w1 k1 => ?_, fun K hK => ?_⟩; (focus (have hc := Kept.cell k1; go_simp; first | done | rfl | (go_at_call 35; exact kept_call k1 (EQ.out _ k1)))); (go_simp; refine hK _ ?_; clear hK K))
      refine wpQuiet_nil ?_
      intro w6 k6
      replace k6 := Kept.below k6
      have hc6 := Kept.cell k6
      have hf6 := Kept.frozen k6
      have hz6 := k6.size
      try simp only [World.size_alloc] at hz6
      try simp only [World.size_setCell] at hz6
      try simp only [World.size_drew] at hz6
      try (first | have hs6 := sz12 hz6 | have hs6 := sz11 hz6 | have hs6 := sz10 hz6 | have hs6 := sz9 hz6 | have hs6 := sz8 hz6 | have hs6 := sz7 hz6 | have hs6 := sz6 hz6 | have hs6 := sz5 hz6 | have hs6 := sz4 hz6 | have hs6 := sz3 hz6 | have hs6 := sz2 hz6 | have hs6 := sz1 hz6)
      go_wp2
      go_roundw
      case rel => exact ⟨X ++ [⟨k2, ao, cap, gb, D2⟩], Y, mid_in HXY.out, by simp, HB.out.trans (k6.mono HB.out.size)⟩
      case measure => simp [intOf]; omega
    | nil =>
      have HB := hideP kb
      have hX : X = L := by simpa using hXY
      subst hX
      clear kb hXY
      go_wp2
      go_returns
      exact ⟨rfl, HB.out⟩

set_option maxHeartbeats 400000 in
theorem eqQ_same (lo hi lo2 hi2 : Nat) (so so2 : Option Addr) (sc sc2 : Nat) (L M : List Mg) (v : Bool) (w : World) (hE : M.map Mg.ct = L.map Mg.ct) (hL : Ms w lo hi so L) (hM : Ms w lo2 hi2 so2 M) (h1 : hi ≤ w.heap.size) (h2 : hi2 ≤ w.heap.size) (hn : L.length + mzs L ≤ 1048576) :
    Calls Try.prog 9 #[.agg #[.slice so L.length sc, .bool v], .agg #[.slice so2 M.length sc2, .bool v]] w fun e w' => e = .returned (.bool true) ∧ Below w.heap.size w w' := by
  have EQ := hideP (fun w1 (kk : Below w.heap.size w w1) => eqMS_same lo hi lo2 hi2 so so2 sc sc2 L M w1 hE (hL.keep kk h1) (hM.keep kk h2) (by have := kk.size; omega) (by have := kk.size; omega) hn)
  have hvv : (v != v) = false := by simp
  clear hL hM hE
  generalize L.length = n1 at *
  generalize M.length = n2 at *
  go_enter Try.func9, Try.ntmps9
  go_wp2_with fail
  refine Calls.mono (EQ.out _ (by go_grown)) ?_
  rintro e w1 ⟨rfl, k1⟩
  have K1 : Hid (Below w.heap.size w w1) := hideP (Below.trans (by go_grown) (k1.mono (by simp; omega)))
  have X1 : Rb w1 w.heap.size (.slice so n1 sc) (.bool v) := Rb.keep ⟨by simp, by simp, by simp, by simp, by simp; omega⟩ k1 (by simp; omega)
  have Y1 : Rb w1 (w.heap.size + 1) (.slice so2 n2 sc2) (.bool v) := Rb.keep ⟨by simp, by simp, by simp, by simp, by simp⟩ k1 (by simp)
  clear k1
  obtain ⟨a0, a1, a2, a3, a4⟩ := X1
  obtain ⟨b0, b1, b2, b3, b4⟩ := Y1
  cases v
  all_goals
    go_wp2
    go_returns
    exact ⟨rfl, K1.out⟩

set_option maxHeartbeats 800000 in
theorem eqQR_same (lo hi lo2 hi2 : Nat) (s1 s2 t1 t2 : Option Addr) (c1 c2 d1 d2 : Nat) (L1 L2 M1 M2 : List Mg) (c : Int) (v : Bool) (w : World) (hE1 : M1.map Mg.ct = L1.map Mg.ct) (hE2 : M2.map Mg.ct = L2.map Mg.ct) (hL1 : Ms w lo hi s1 L1) (hL2 : Ms w lo hi s2 L2) (hM1 : Ms w lo2 hi2 t1 M1) (hM2 : Ms w lo2 hi2 t2 M2) (h1 : hi ≤ w.heap.size) (h2 : hi2 ≤ w.heap.size) (hn1 : L1.length + mzs L1 ≤ 1048576) (hn2 : L2.length + mzs L2 ≤ 1048576) :
    Calls Try.prog 8 #[.agg #[.int .i64 c, .slice s1 L1.length c1, .slice s2 L2.length c2, .bool v], .agg #[.int .i64 c, .slice t1 M1.length d1, .slice t2 M2.length d2, .bool v]] w fun e w' => e = .returned (.bool true) ∧ Below w.heap.size w w' := by
  have EQ := hideP (fun w1 (kk : Below w.heap.size w w1) => eqMS_same lo hi lo2 hi2 s1 t1 c1 d1 L1 M1 w1 hE1 (hL1.keep kk h1) (hM1.keep kk h2) (by have := kk.size; omega) (by have := kk.size; omega) hn1)
  have EQ2 := hideP (fun w1 (kk : Below w.heap.size w w1) => eqQ_same lo hi lo2 hi2 s2 t2 c2 d2 L2 M2 v w1 hE2 (hL2.keep kk h1) (hM2.keep kk h2) (by have := kk.size; omega) (by have := kk.size; omega) hn2)
  have hcc : (c != c) = false := by simp
  clear hL1 hL2 hM1 hM2 hE1 hE2
  generalize L1.length = n1 at *
  generalize M1.length = n2 at *
  generalize L2.length = n3 at *
  generalize M2.length = n4 at *
  go_enter Try.func8, Try.ntmps8
  go_wp2_with fail
  refine Calls.mono (EQ.out _ (by go_grown)) ?_
  rintro e w1 ⟨rfl, k1⟩
  have K1 : Hid (Below w.heap.size w w1) := hideP (Below.trans (by go_grown) (k1.mono (by simp; omega)))
  have X1 : R4 w1 w.heap.size (.int .i64 c) (.slice s1 n1 c1) (.slice s2 n3 c2) (.bool v) := R4.keep ⟨by simp, by simp, by simp, by simp, by simp, by simp, by simp, by simp, by simp; omega⟩ k1 (by simp; omega)
  have Y1 : R4 w1 (w.heap.size + 1) (.int .i64 c) (.slice t1 n2 d1) (.slice t2 n4 d2) (.bool v) := R4.keep ⟨by simp, by simp, by simp, by simp, by simp, by simp, by simp, by simp, by simp⟩ k1 (by simp)
  clear k1
  obtain ⟨a0, a1, a2, a3, a4, a5, a6, a7, a8⟩ := X1
  obtain ⟨b0, b1, b2, b3, b4, b5, b6, b7, b8⟩ := Y1
  go_wp2_with fail
  refine Calls.mono (EQ2.out _ K1.out) ?_
  rintro e w2 ⟨rfl, k2⟩
  have K2 := hideP (K1.out.trans (k2.mono K1.out.size))
  clear k2
  go_wp2
  go_returns
  exact ⟨rfl, K2.out⟩
end Go.Proofs.Ytngmiimendlleaa
