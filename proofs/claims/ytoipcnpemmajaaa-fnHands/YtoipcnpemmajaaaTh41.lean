/- RouteHand, by the model. InputFault and LoseFocus: the laws' walks. -/
import Derived.Test.YtoipcnpemmajaaaTh40
import Derived.Test.YtoipcnpemmajaaaTh17
import Derived.Test.YtoipcnpemmajaaaTh16
namespace Go.Proofs.Ytoipcnpemmajaaa
open Go.RowKit Go.Maps
set_option linter.unusedVariables false

set_option maxRecDepth 100000 in
set_option maxHeartbeats 4000000 in
theorem sRoute_c (g : Nat) (R : Rt) (f a b : Int) (so : Option Addr) (n sc : Nat) (w : World) (hh : H3 w g 2 a b)
    (hC : ∀ w1, Below w.heap.size w w1 → Calls Try.prog 80 #[.agg #[.bool false, .int .i64 f], .slice so n sc, .pointer (some ⟨g, 0, none⟩)] w1 (RtA R w1)) :
    Calls Try.prog 47 #[.agg #[.bool false, .int .i64 f], .slice so n sc, .pointer (some ⟨g, 0, none⟩)] w (RtA R w) := by
  have hg := hh.lt
  have hg2 : g < w.heap.size ∧ g < w.heap.size + 1 ∧ g < w.heap.size + 1 + 1 ∧ g < w.heap.size + 1 + 1 + 1 ∧ ¬ g = w.heap.size ∧ ¬ g = w.heap.size + 1 ∧ ¬ g = w.heap.size + 1 + 1 ∧ ¬ g = w.heap.size + 1 + 1 + 1 := by omega
  obtain ⟨c0, c1, c2⟩ := hh
  have HC := hideP hC
  clear hC
  go_enter Try.func47, Try.ntmps47
  go_wp2_with fail
  refine Calls.mono (HC.out _ (by repeat' (first | (with_reducible exact Below.refl _ _) | (with_reducible refine kept_below ?_ (by assumption) ?_) | (with_reducible refine Below.alloc ?_ ?_ _) | (with_reducible refine Below.drew ?_) | (with_reducible refine Below.setCell ?_ ?_ _) | go_size))) ?_
  rintro e w1 ⟨ao, ca, rfl, O1, k1⟩
  have X1 := hideP (((r6_new (w.alloc (.cells #[.bool false, .int .i64 f] 25)) (.int .i64 0) (.int .i64 0) (.int .i64 0) (.slice none 0 0) (.bool false) (.int .i64 0) 34).keep (kalH _ (.cells #[.int .i64 0, .int .i64 0, .int .i64 0, .slice none 0 0, .bool false, .int .i64 f] 34)) (by simp)).keep k1 (by simp))
  have K1 : Hid (Below w.heap.size w w1) := hideP (Below.trans (by repeat' (first | (with_reducible exact Below.refl _ _) | (with_reducible refine kept_below ?_ (by assumption) ?_) | (with_reducible refine Below.alloc ?_ ?_ _) | (with_reducible refine Below.drew ?_) | (with_reducible refine Below.setCell ?_ ?_ _) | go_size)) (k1.mono (by simp; omega)))
  have O3 := hideP O1
  simp only [World.size_alloc] at X1 O3
  clear k1 O1 HC c0 c1 c2
  obtain ⟨x0, x1, x2, x3, x4, x5, xf, xl⟩ := X1.out
  go_wp2
  exact bodyPost_ret (v := .agg #[.int .i64 R.z, .int .i64 R.tg, .int .i64 R.kd, .slice ao R.D.length ca, .bool R.tr, .int .i64 R.fo]) (by simp [results, Try.results47, go_sem, x0, x1, x2, x3, x4, x5]) rfl (rt_six O3.out (by omega) (by omega) K1.out)

set_option maxRecDepth 100000 in
set_option maxHeartbeats 4000000 in
theorem sRt_no (t : Bool) (f k a b : Int) (F : Int) (so : Option Addr) (n sc : Nat) (w : World)
    (hF : F ≠ 0)
    (hI : ∀ w1, I2 w1 w.heap.size t f → Below w.heap.size w w1 → Calls Try.prog 42 #[.pointer (some ⟨w.heap.size, 0, none⟩), .slice so n sc] w1 fun e w' => e = .returned (.int .i64 F) ∧ Below w1.heap.size w1 w') :
    Calls Try.prog 18 #[.agg #[.bool t, .int .i64 f], .slice so n sc, .agg #[.int .i64 k, .int .i64 a, .int .i64 b]] w (RtA (rtNo F) w) := by
  have e0 : (F != 0) = true := by simpa using hF
  have HI := hideP hI
  clear hI hF
  go_enter Try.func18, Try.ntmps18
  go_wp2_with fail
  have W0 := hideP (⟨by simp [go_sem], by simp [go_sem], by simp; omega⟩ : I2 (((w.alloc (.cells #[.bool t, .int .i64 f] 25)).alloc (.cells #[.int .i64 k, .int .i64 a, .int .i64 b] 28)).alloc (.cells #[.int .i64 0, .int .i64 0, .int .i64 0, .slice none 0 0, .bool false, .int .i64 0] 34)) w.heap.size t f)
  have V0 := hideP (⟨by simp [go_sem], by simp [go_sem], by simp [go_sem]⟩ : H3 (((w.alloc (.cells #[.bool t, .int .i64 f] 25)).alloc (.cells #[.int .i64 k, .int .i64 a, .int .i64 b] 28)).alloc (.cells #[.int .i64 0, .int .i64 0, .int .i64 0, .slice none 0 0, .bool false, .int .i64 0] 34)) (w.heap.size + 1) k a b)
  refine Calls.mono (HI.out _ W0.out (by go_grown)) ?_
  rintro e w1 ⟨rfl, k1⟩
  have X1 := hideP ((r6_new ((w.alloc (.cells #[.bool t, .int .i64 f] 25)).alloc (.cells #[.int .i64 k, .int .i64 a, .int .i64 b] 28)) (.int .i64 0) (.int .i64 0) (.int .i64 0) (.slice none 0 0) (.bool false) (.int .i64 0) 34).keep k1 (by simp))
  have W1 := hideP (W0.out.keep k1 (by simp; omega))
  have V1 := hideP (V0.out.keep k1)
  have K1 : Hid (Below w.heap.size w w1) := hideP (Below.trans (by go_grown) (k1.mono (by simp; omega)))
  simp only [World.size_alloc] at X1
  clear k1 HI W0 V0
  clear W1 V1
  obtain ⟨x0, x1, x2, x3, x4, x5, xf, xl⟩ := X1.out
  go_wp2
  exact bodyPost_ret (v := .agg #[.int .i64 F, .int .i64 0, .int .i64 0, .slice none 0 0, .bool false, .int .i64 0]) (by simp [results, Try.results18, go_sem, x0, x1, x2, x3, x4, x5]) rfl (rt_six (r := rtNo F) (base := w1.heap.size) (OwnR.nil _ _ _ _) (by omega) (by omega) K1.out)

set_option maxRecDepth 100000 in
set_option maxHeartbeats 4000000 in
theorem sRt_bad (t : Bool) (f k a b : Int) (F : Int) (so : Option Addr) (n sc : Nat) (w : World)
    (hF : F ≠ 0)
    (hI : ∀ w1, I2 w1 w.heap.size t f → Below w.heap.size w w1 → Calls Try.prog 42 #[.pointer (some ⟨w.heap.size, 0, none⟩), .slice so n sc] w1 fun e w' => e = .returned (.int .i64 0) ∧ Below w1.heap.size w1 w')
    (hH : ∀ w1, H3 w1 (w.heap.size + 1) k a b → Calls Try.prog 46 #[.pointer (some ⟨w.heap.size + 1, 0, none⟩)] w1 fun e w' => e = .returned (.int .i64 F) ∧ Below w1.heap.size w1 w') :
    Calls Try.prog 18 #[.agg #[.bool t, .int .i64 f], .slice so n sc, .agg #[.int .i64 k, .int .i64 a, .int .i64 b]] w (RtA (rtNo F) w) := by
  have e0 : (F != 0) = true := by simpa using hF
  have HI := hideP hI
  have HH := hideP hH
  clear hI hF hH
  go_enter Try.func18, Try.ntmps18
  go_wp2_with fail
  have W0 := hideP (⟨by simp [go_sem], by simp [go_sem], by simp; omega⟩ : I2 (((w.alloc (.cells #[.bool t, .int .i64 f] 25)).alloc (.cells #[.int .i64 k, .int .i64 a, .int .i64 b] 28)).alloc (.cells #[.int .i64 0, .int .i64 0, .int .i64 0, .slice none 0 0, .bool false, .int .i64 0] 34)) w.heap.size t f)
  have V0 := hideP (⟨by simp [go_sem], by simp [go_sem], by simp [go_sem]⟩ : H3 (((w.alloc (.cells #[.bool t, .int .i64 f] 25)).alloc (.cells #[.int .i64 k, .int .i64 a, .int .i64 b] 28)).alloc (.cells #[.int .i64 0, .int .i64 0, .int .i64 0, .slice none 0 0, .bool false, .int .i64 0] 34)) (w.heap.size + 1) k a b)
  refine Calls.mono (HI.out _ W0.out (by go_grown)) ?_
  rintro e w1 ⟨rfl, k1⟩
  have X1 := hideP ((r6_new ((w.alloc (.cells #[.bool t, .int .i64 f] 25)).alloc (.cells #[.int .i64 k, .int .i64 a, .int .i64 b] 28)) (.int .i64 0) (.int .i64 0) (.int .i64 0) (.slice none 0 0) (.bool false) (.int .i64 0) 34).keep k1 (by simp))
  have W1 := hideP (W0.out.keep k1 (by simp; omega))
  have V1 := hideP (V0.out.keep k1)
  have K1 : Hid (Below w.heap.size w w1) := hideP (Below.trans (by go_grown) (k1.mono (by simp; omega)))
  simp only [World.size_alloc] at X1
  clear k1 HI W0 V0
  go_wp2_with fail
  refine Calls.mono (HH.out w1 V1.out) ?_
  rintro e w2 ⟨rfl, k2⟩
  have X2 := hideP (X1.out.keep k2 X1.out.lt)
  have W2 := hideP (W1.out.keep k2 W1.out.lt)
  have V2 := hideP (V1.out.keep k2)
  have K2 := hideP (K1.out.trans (k2.mono K1.out.size))
  clear k2 HH X1 W1 V1 K1
  clear W2 V2
  obtain ⟨x0, x1, x2, x3, x4, x5, xf, xl⟩ := X2.out
  go_wp2
  exact bodyPost_ret (v := .agg #[.int .i64 F, .int .i64 0, .int .i64 0, .slice none 0 0, .bool false, .int .i64 0]) (by simp [results, Try.results18, go_sem, x0, x1, x2, x3, x4, x5]) rfl (rt_six (r := rtNo F) (base := w2.heap.size) (OwnR.nil _ _ _ _) (by omega) (by omega) K2.out)

set_option maxRecDepth 100000 in
set_option maxHeartbeats 4000000 in
theorem sRt_do (t : Bool) (f k a b : Int) (R : Rt) (so : Option Addr) (n sc : Nat) (w : World)
    (hI : ∀ w1, I2 w1 w.heap.size t f → Below w.heap.size w w1 → Calls Try.prog 42 #[.pointer (some ⟨w.heap.size, 0, none⟩), .slice so n sc] w1 fun e w' => e = .returned (.int .i64 0) ∧ Below w1.heap.size w1 w')
    (hH : ∀ w1, H3 w1 (w.heap.size + 1) k a b → Calls Try.prog 46 #[.pointer (some ⟨w.heap.size + 1, 0, none⟩)] w1 fun e w' => e = .returned (.int .i64 0) ∧ Below w1.heap.size w1 w')
    (hG : ∀ w1, H3 w1 (w.heap.size + 1) k a b → Below w.heap.size w w1 → Calls Try.prog 47 #[.agg #[.bool t, .int .i64 f], .slice so n sc, .pointer (some ⟨w.heap.size + 1, 0, none⟩)] w1 (RtA R w1)) :
    Calls Try.prog 18 #[.agg #[.bool t, .int .i64 f], .slice so n sc, .agg #[.int .i64 k, .int .i64 a, .int .i64 b]] w (RtA R w) := by
  have HI := hideP hI
  have HH := hideP hH
  have HG := hideP hG
  clear hI hH hG
  go_enter Try.func18, Try.ntmps18
  go_wp2_with fail
  have W0 := hideP (⟨by simp [go_sem], by simp [go_sem], by simp; omega⟩ : I2 (((w.alloc (.cells #[.bool t, .int .i64 f] 25)).alloc (.cells #[.int .i64 k, .int .i64 a, .int .i64 b] 28)).alloc (.cells #[.int .i64 0, .int .i64 0, .int .i64 0, .slice none 0 0, .bool false, .int .i64 0] 34)) w.heap.size t f)
  have V0 := hideP (⟨by simp [go_sem], by simp [go_sem], by simp [go_sem]⟩ : H3 (((w.alloc (.cells #[.bool t, .int .i64 f] 25)).alloc (.cells #[.int .i64 k, .int .i64 a, .int .i64 b] 28)).alloc (.cells #[.int .i64 0, .int .i64 0, .int .i64 0, .slice none 0 0, .bool false, .int .i64 0] 34)) (w.heap.size + 1) k a b)
  refine Calls.mono (HI.out _ W0.out (by go_grown)) ?_
  rintro e w1 ⟨rfl, k1⟩
  have X1 := hideP ((r6_new ((w.alloc (.cells #[.bool t, .int .i64 f] 25)).alloc (.cells #[.int .i64 k, .int .i64 a, .int .i64 b] 28)) (.int .i64 0) (.int .i64 0) (.int .i64 0) (.slice none 0 0) (.bool false) (.int .i64 0) 34).keep k1 (by simp))
  have W1 := hideP (W0.out.keep k1 (by simp; omega))
  have V1 := hideP (V0.out.keep k1)
  have K1 : Hid (Below w.heap.size w w1) := hideP (Below.trans (by go_grown) (k1.mono (by simp; omega)))
  simp only [World.size_alloc] at X1
  clear k1 HI W0 V0
  go_wp2_with fail
  refine Calls.mono (HH.out w1 V1.out) ?_
  rintro e w2 ⟨rfl, k2⟩
  have X2 := hideP (X1.out.keep k2 X1.out.lt)
  have W2 := hideP (W1.out.keep k2 W1.out.lt)
  have V2 := hideP (V1.out.keep k2)
  have K2 := hideP (K1.out.trans (k2.mono K1.out.size))
  clear k2 HH X1 W1 V1 K1
  obtain ⟨b0, b1, b2⟩ := W2.out
  go_wp2_with fail
  refine Calls.mono (HG.out w2 V2.out K2.out) ?_
  rintro e w3 ⟨ao, ca, rfl, O3, k3⟩
  have X3 := hideP (X2.out.keep k3 X2.out.lt)
  have K3 := hideP (K2.out.trans (k3.mono K2.out.size))
  have O5 := hideP O3
  have n3 := X2.out.lt
  clear k3 O3 HG X2 K2 W2 V2 b0 b1 b2
  obtain ⟨x0, x1, x2, x3, x4, x5, xf, xl⟩ := X3.out
  go_wp2
  exact bodyPost_ret (v := .agg #[.int .i64 R.z, .int .i64 R.tg, .int .i64 R.kd, .slice ao R.D.length ca, .bool R.tr, .int .i64 R.fo]) (by simp [results, Try.results18, go_sem, x0, x1, x2, x3, x4, x5]) rfl (rt_six O5.out (by omega) (by omega) K3.out)

theorem sRoute_any (t : Bool) (f k a b : Int) (so : Option Addr) (sc : Nat) (L : List Wn) (w : World) (hL : Ws w 0 w.heap.size so L) (hn : L.length + wzs L ≤ 1048576) :
    Calls Try.prog 18 #[.agg #[.bool t, .int .i64 f], .slice so L.length sc, .agg #[.int .i64 k, .int .i64 a, .int .i64 b]] w (RtA (rtR (L.map Wn.ct) t f k a b) w) := by
  have HI := fun w1 (h : I2 w1 w.heap.size t f) (kk : Below w.heap.size w w1) => l10Input_any 0 w.heap.size w.heap.size t f so sc L w1 h (hL.keep kk (Nat.le_refl _)) kk.size hn
  have HH := fun w1 (h : H3 w1 (w.heap.size + 1) k a b) => l10Hand_any (w.heap.size + 1) k a b w1 h
  by_cases h0 : inpF (L.map Wn.ct) f = 0
  · rw [h0] at HI
    by_cases h1 : hF k a b = 0
    · rw [h1] at HH
      rw [show rtR (L.map Wn.ct) t f k a b = rtA (L.map Wn.ct) t f k a b by unfold rtR; rw [if_pos h0, if_pos h1]]
      have hst : stF (L.map Wn.ct) = 0 := by
        unfold inpF at h0
        by_cases e : stF (L.map Wn.ct) = 0
        · exact e
        · rw [if_neg e] at h0; exact absurd h0 e
      have hk : 1 ≤ k ∧ k ≤ 4 ∧ (k = 1 → 0 ≤ a ∧ a ≤ 255) ∧ (k = 2 → 0 ≤ a ∧ a ≤ 11 ∧ 0 ≤ b ∧ b ≤ 7) := by
        unfold hF at h1
        split at h1
        · cases h1
        · split at h1
          · cases h1
          · omega
      refine sRt_do t f k a b _ so _ sc w HI HH fun w1 hh kk => ?_
      by_cases h3 : k = 3
      · subst h3
        exact sRoute_3 _ t f a b so _ sc w1 hh
      by_cases h4 : k = 4
      · subst h4
        exact sRoute_4 _ t f a b so _ sc w1 hh
      cases t
      · by_cases h2 : k = 2
        · subst h2
          rw [show rtA (L.map Wn.ct) false f 2 a b = clickR (if b = 0 then none else topC a b (L.map Wn.ct)) a b from rfl]
          refine sRoute_c _ _ f a b so _ sc w1 hh fun w2 k2 => ?_
          have kk2 := kk.trans (k2.mono kk.size)
          have hh2 := hh.keep k2
          have hrf := st_rect hst
          have hL2 : Ws w2 0 w.heap.size so L := hL.keep kk2 (Nat.le_refl _)
          rcases top_or a b L with hno | ⟨A, r, B, ht⟩
          · have hT := fun w3 (k3 : Below w2.heap.size w2 w3) => l7Top_none so sc L a b 0 w.heap.size w3 (hL2.keep k3 kk2.size) (Nat.le_trans kk2.size k3.size) (by omega) hrf hno
            rw [topC_none hno, show (if b = 0 then none else (none : Option Wc)) = none by split <;> rfl]
            exact sClick_out _ f 2 a b (-1) so _ sc w2 hh2 (by omega) hT
          · have hT := fun w3 (k3 : Below w2.heap.size w2 w3) => l7Top_some so sc L a b 0 w.heap.size w3 (hL2.keep k3 kk2.size) (Nat.le_trans kk2.size k3.size) (by omega) hrf A B r ht
            by_cases hb : b = 0
            · subst hb
              rw [if_pos rfl]
              exact sClick_row _ f 2 a _ so _ sc w2 hh2 (by omega) hT
            · rw [if_neg hb, topC_some ht]
              have TF := top_facts hst ht
              have h5 := hL2
              rw [ht.eq] at h5
              obtain ⟨gs, os, hso, hgs, hc, _⟩ := Ws.at h5
              subst hso
              have hAl : A.length < L.length := by rw [ht.eq]; simp
              exact sClick_some _ f 2 a b gs os A.length _ sc r w2 hh2 hb hAl (by omega) (Nat.lt_of_lt_of_le hgs kk2.size) hc TF.id TF.x TF.y hT
        · obtain rfl : k = 1 := by omega
          rw [show rtA (L.map Wn.ct) false f 1 a b = keyR f a from rfl]
          by_cases hf : f = 0
          · subst hf
            exact sRoute_k0 _ a b so _ sc w1 hh
          · rw [show keyR f a = ⟨0, f, 4, [a], false, f⟩ from if_neg hf]
            exact sRoute_k1 _ f a b so _ sc w1 hh hf (hk.2.2.1 rfl)
      · rw [show rtA (L.map Wn.ct) true f k a b = ⟨0, 0, 0, [], true, f⟩ by unfold rtA; rw [if_neg h3, if_neg h4]; rfl]
        exact sRoute_t _ f k a b so _ sc w1 hh h3 h4
    · rw [show rtR (L.map Wn.ct) t f k a b = rtNo (hF k a b) by unfold rtR; rw [if_pos h0, if_neg h1]]
      exact sRt_bad t f k a b _ so _ sc w h1 HI HH
  · rw [show rtR (L.map Wn.ct) t f k a b = rtNo (inpF (L.map Wn.ct) f) by unfold rtR; rw [if_neg h0]]
    exact sRt_no t f k a b _ so _ sc w h0 HI
end Go.Proofs.Ytoipcnpemmajaaa

namespace Go.Proofs.Ytoipcnpemmajaaa
open Go.RowKit Go.Maps
set_option linter.unusedVariables false

set_option maxHeartbeats 400000 in
theorem toInput_any (t : Bool) (f : Int) (w : World) : Calls Try.prog 27 #[.agg #[.bool t, .int .i64 f]] w fun e w' => e = .returned (.agg #[.bool t, .int .i64 f]) ∧ Below w.heap.size w w' := by
  go_enter Try.func27, Try.ntmps27
  go_wp2
  go_returns
  refine ⟨rfl, ?_⟩
  repeat' (first | (with_reducible exact Below.refl _ _) | (with_reducible refine kept_below ?_ (by assumption) ?_) | (with_reducible refine Below.alloc ?_ ?_ _) | (with_reducible refine Below.drew ?_) | (with_reducible refine Below.setCell ?_ ?_ _) | go_size)

set_option maxHeartbeats 400000 in
theorem eqInput_same (t : Bool) (f : Int) (w : World) : Calls Try.prog 34 #[.agg #[.bool t, .int .i64 f], .agg #[.bool t, .int .i64 f]] w fun e w' => e = .returned (.bool true) ∧ Below w.heap.size w w' := by
  have e1 : (t != t) = false := by simp
  have e2 : (f != f) = false := by simp
  go_enter Try.func34, Try.ntmps34
  go_wp2
  go_returns
  exact ⟨rfl, by go_grown⟩

set_option maxHeartbeats 400000 in
theorem big_InputFault (t : Bool) (f : Int) (so : Option Addr) (sc : Nat) (L : List Wn) (w : World) (hL : Ws w 0 w.heap.size so L) (hn : L.length ≤ maxLen) (hm : ∀ r ∈ L, r.b.L.length ≤ maxLen) (h : 1048576 < L.length + wzs L) :
    Calls Try.prog 7 #[.agg #[.bool t, .int .i64 f], .slice so L.length sc] w fun e w' => e = .returned (.bool true) ∧ Below w.heap.size w w' := by
  have SZ := fun w1 (kk : Below w.heap.size w w1) => szWS_any 0 w.heap.size so sc L 1048576 w1 (hL.keep kk (Nat.le_refl _)) kk.size hn hm (by omega) (by omega)
  rw [szV_no (by omega)] at SZ
  have SZ' := hideP SZ
  clear SZ hL hm hn h
  go_enter Try.func7, Try.ntmps7
  go_wp2_with fail
  refine Calls.mono (SZ'.out _ (by go_grown)) ?_
  rintro e w1 ⟨rfl, k1⟩
  have K1 : Hid (Below w.heap.size w w1) := hideP (Below.trans (by go_grown) (k1.mono (by simp)))
  clear k1
  go_wp2
  go_returns
  exact ⟨rfl, K1.out⟩

set_option maxRecDepth 100000 in
set_option maxHeartbeats 4000000 in
theorem small_InputFault (t : Bool) (f : Int) (so : Option Addr) (sc : Nat) (L : List Wn) (w : World) (hL : Ws w 0 w.heap.size so L) (h : L.length + wzs L ≤ 1048576) :
    Calls Try.prog 7 #[.agg #[.bool t, .int .i64 f], .slice so L.length sc] w fun e w' => e = .returned (.bool true) ∧ Below w.heap.size w w' := by
  have SZ := fun w1 (kk : Below w.heap.size w w1) => szW_n (sc := sc) (hL.keep kk (Nat.le_refl _)) kk.size h
  have TO := hideP (copyW 0 w.heap.size so sc L w hL (Nat.le_refl _) h)
  have SP := fun (M : List Wn) (hc : M.map Wn.ct = L.map Wn.ct) s W (a1 : Ws W 0 W.heap.size s M) => sInput_any 0 W.heap.size t f s M.length M W a1 (Nat.le_refl _) (by have := lenW hc; have := wzs_ct hc; omega)
  have IP := fun (M : List Wn) (hc : M.map Wn.ct = L.map Wn.ct) s W (a1 : Ws W 0 W.heap.size s M) => iInput_any 0 W.heap.size t f s M.length M W a1 (Nat.le_refl _) (by have := lenW hc; have := wzs_ct hc; omega)
  have hln := fun (M : List Wn) (hc : M.map Wn.ct = L.map Wn.ct) => lenW hc
  obtain ⟨n, hnL⟩ : ∃ n, L.length = n := ⟨_, rfl⟩
  obtain ⟨z, hzL⟩ : ∃ z, wzs L = z := ⟨_, rfl⟩
  obtain ⟨C, hC⟩ : ∃ C, L.map Wn.ct = C := ⟨_, rfl⟩
  obtain ⟨F, hF⟩ : ∃ F, inpF C f = F := ⟨_, rfl⟩
  rw [hnL, hzL, hC] at TO
  rw [hnL, hzL] at SZ h
  rw [hC] at hln
  have SP' : Hid (∀ (M : List Wn), M.map Wn.ct = C → ∀ s W, Ws W 0 W.heap.size s M → Calls Try.prog 16 #[.agg #[.bool t, .int .i64 f], .slice s n n] W fun e w' => e = .returned (.int .i64 F) ∧ Below W.heap.size W w') := hideP (fun M hc s W a1 => by
    have hh := SP M (hc.trans hC.symm) s W a1
    rw [hc, hln M hc, hnL, hF] at hh
    exact hh)
  have IP' : Hid (∀ (M : List Wn), M.map Wn.ct = C → ∀ s W, Ws W 0 W.heap.size s M → Calls Try.prog 15 #[.agg #[.bool t, .int .i64 f], .slice s n n] W fun e w' => e = .returned (.int .i64 F) ∧ Below W.heap.size W w') := hideP (fun M hc s W a1 => by
    have hh := IP M (hc.trans hC.symm) s W a1
    rw [hc, hln M hc, hnL, hF] at hh
    exact hh)
  have hFF : (F != F) = false := by simp
  have hz0 : ¬ (1048576 : Int) - ((n + z : Nat) : Int) < 0 := by omega
  rw [hnL]
  obtain ⟨q, hq⟩ : ∃ q, (1048576 : Int) - ((n + z : Nat) : Int) = q := ⟨_, rfl⟩
  rw [hq] at SZ hz0
  have SZ' := hideP SZ
  clear SP IP hF hC hzL hnL hL hln hq SZ
  go_enter Try.func7, Try.ntmps7
  go_wp2_with fail
  refine Calls.mono (SZ'.out _ (by go_grown)) ?_
  rintro e w1 ⟨rfl, k1⟩
  have K1 : Hid (Below w.heap.size w w1) := hideP (Below.trans (by go_grown) (k1.mono (by simp)))
  have B1 := hideP ((i2_new w t f 55).keep k1 (by simp))
  clear k1 SZ'
  obtain ⟨b0, b1, b2⟩ := B1.out
  go_wp2_with fail
  clear b0 b1 b2
  refine Calls.mono (toInput_any t f w1) ?_
  rintro e w2 ⟨rfl, k2⟩
  have K2 := hideP (K1.out.trans (k2.mono K1.out.size))
  have B2 := hideP (B1.out.keep k2 B1.out.lt)
  clear k2 K1 B1
  go_wp2_with fail
  refine Calls.mono (TO.out w2 K2.out) ?_
  rintro e w3 ⟨s3, M3, rfl, l3, z3, c3, Q3, k3⟩
  have K3 := hideP (K2.out.trans (k3.mono K2.out.size))
  have B3 := hideP (B2.out.keep k3 B2.out.lt)
  clear k3 K2 B2
  go_wp2_with fail
  refine Calls.mono (SP'.out M3 c3 s3 w3 (Q3.ws.wide (Nat.zero_le _) (Nat.le_refl _))) ?_
  rintro e w4 ⟨rfl, k4⟩
  have K4 := hideP (K3.out.trans (k4.mono K3.out.size))
  have B4 := hideP (B3.out.keep k4 B3.out.lt)
  clear k4 Q3 c3 l3 z3 K3 B3
  go_wp2_with fail
  refine Calls.mono (TO.out w4 K4.out) ?_
  rintro e w6 ⟨s6, M6, rfl, l6, z6, c6, Q6, k6⟩
  have C6 := hideP c6
  have L6 := hideP l6
  have Z6 := hideP z6
  have K6 := hideP (K4.out.trans (k6.mono K4.out.size))
  have B6 := hideP (B4.out.keep k6 B4.out.lt)
  clear K4 B4 k6
  have H6 := hideP Q6
  clear Q6 c6 l6 z6
  obtain ⟨b0, b1, b2⟩ := B6.out
  go_wp2_with fail
  clear b0 b1 b2
  refine Calls.mono (toInput_any t f w6) ?_
  rintro e w7 ⟨rfl, k7⟩
  have K7 := hideP (K6.out.trans (k7.mono K6.out.size))
  have B7 := hideP (B6.out.keep k7 B6.out.lt)
  have H7 := hideP (H6.out.keep k7 H6.out.hs)
  clear K6 B6 H6 k7
  go_wp2_with fail
  refine Calls.mono (IP'.out M6 C6.out s6 w7 (H7.out.ws.wide (Nat.zero_le _) H7.out.hs)) ?_
  rintro e w8 ⟨rfl, k8⟩
  have K8 := hideP (K7.out.trans (k8.mono K7.out.size))
  have B8 := hideP (B7.out.keep k8 B7.out.lt)
  have H8 := hideP (H7.out.keep k8 H7.out.hs)
  clear K7 B7 H7 k8
  go_wp2_with fail
  refine Calls.mono (TO.out w8 K8.out) ?_
  rintro e w11 ⟨s11, M11, rfl, l11, z11, c11, Q11, k11⟩
  have K11 := hideP (K8.out.trans (k11.mono K8.out.size))
  have H11 := hideP (H8.out.keep k11 H8.out.hs)
  clear K8 H8 k11
  have EQ := hideP (eqW_n (c := n) (d := n) n z L6.out Z6.out C6.out c11 H11.out Q11 h)
  go_wp2_with fail
  refine Calls.mono EQ.out ?_
  rintro e w12 ⟨rfl, k12⟩
  have K12 := hideP (K11.out.trans (k12.mono K11.out.size))
  clear K11 k12
  go_wp2
  go_returns
  exact ⟨rfl, K12.out⟩

theorem law_InputFault (t : Bool) (f : Int) (so : Option Addr) (sc : Nat) (L : List Wn) (w : World) (hn : L.length ≤ maxLen) (hL : Ws w 0 w.heap.size so L) (hm : ∀ r ∈ L, r.b.L.length ≤ maxLen) :
    Calls Try.prog 7 #[.agg #[.bool t, .int .i64 f], .slice so L.length sc] w fun e w' => e = .returned (.bool true) ∧ Below w.heap.size w w' := by
  by_cases h : L.length + wzs L ≤ 1048576
  · exact small_InputFault t f so sc L w hL h
  · exact big_InputFault t f so sc L w hL hn hm (by omega)

theorem kalI (w : World) (t : Bool) (f : Int) : Below w.heap.size w (w.alloc (.cells #[.bool t, .int .i64 f] 25)) := Below.alloc (Below.refl _ _) (Nat.le_refl _) _

set_option maxHeartbeats 400000 in
theorem big_LoseFocus (t : Bool) (f : Int) (so : Option Addr) (sc : Nat) (L : List Wn) (w : World) (hL : Ws w 0 w.heap.size so L) (hn : L.length ≤ maxLen) (hm : ∀ r ∈ L, r.b.L.length ≤ maxLen) (h : 1048576 < L.length + wzs L) :
    Calls Try.prog 8 #[.agg #[.bool t, .int .i64 f], .slice so L.length sc] w fun e w' => e = .returned (.bool true) ∧ Below w.heap.size w w' := by
  have SZ := fun w1 (kk : Below w.heap.size w w1) => szWS_any 0 w.heap.size so sc L 1048576 w1 (hL.keep kk (Nat.le_refl _)) kk.size hn hm (by omega) (by omega)
  rw [szV_no (by omega)] at SZ
  have SZ' := hideP SZ
  clear SZ hL hm hn h
  go_enter Try.func8, Try.ntmps8
  go_wp2_with fail
  refine Calls.mono (SZ'.out _ (by go_grown)) ?_
  rintro e w1 ⟨rfl, k1⟩
  have K1 : Hid (Below w.heap.size w w1) := hideP (Below.trans (by go_grown) (k1.mono (by simp)))
  clear k1
  go_wp2
  go_returns
  exact ⟨rfl, K1.out⟩

set_option maxRecDepth 100000 in
set_option maxHeartbeats 4000000 in
theorem small_LoseFocus (t : Bool) (f : Int) (so : Option Addr) (sc : Nat) (L : List Wn) (w : World) (hL : Ws w 0 w.heap.size so L) (h : L.length + wzs L ≤ 1048576) :
    Calls Try.prog 8 #[.agg #[.bool t, .int .i64 f], .slice so L.length sc] w fun e w' => e = .returned (.bool true) ∧ Below w.heap.size w w' := by
  have SZ := fun w1 (kk : Below w.heap.size w w1) => szW_n (sc := sc) (hL.keep kk (Nat.le_refl _)) kk.size h
  have TO := hideP (copyW 0 w.heap.size so sc L w hL (Nat.le_refl _) h)
  have SP := fun (M : List Wn) (hc : M.map Wn.ct = L.map Wn.ct) s W (a1 : Ws W 0 W.heap.size s M) => sLose_any 0 W.heap.size t f s M.length M W a1 (Nat.le_refl _) (by have := lenW hc; have := wzs_ct hc; omega)
  have IP := fun (M : List Wn) (hc : M.map Wn.ct = L.map Wn.ct) s W (a1 : Ws W 0 W.heap.size s M) => iLose_any 0 W.heap.size t f s M.length M W a1 (Nat.le_refl _) (by have := lenW hc; have := wzs_ct hc; omega)
  have hln := fun (M : List Wn) (hc : M.map Wn.ct = L.map Wn.ct) => lenW hc
  obtain ⟨n, hnL⟩ : ∃ n, L.length = n := ⟨_, rfl⟩
  obtain ⟨z, hzL⟩ : ∃ z, wzs L = z := ⟨_, rfl⟩
  obtain ⟨C, hC⟩ : ∃ C, L.map Wn.ct = C := ⟨_, rfl⟩
  obtain ⟨F, hF⟩ : ∃ F, loseF C f = F := ⟨_, rfl⟩
  rw [hnL, hzL, hC] at TO
  rw [hnL, hzL] at SZ h
  rw [hC] at hln
  have SP' : Hid (∀ (M : List Wn), M.map Wn.ct = C → ∀ s W, Ws W 0 W.heap.size s M → Calls Try.prog 14 #[.agg #[.bool t, .int .i64 f], .slice s n n] W fun e w' => e = .returned (.agg #[.bool t, .int .i64 F]) ∧ Below W.heap.size W w') := hideP (fun M hc s W a1 => by
    have hh := SP M (hc.trans hC.symm) s W a1
    rw [hc, hln M hc, hnL, hF] at hh
    exact hh)
  have IP' : Hid (∀ (M : List Wn), M.map Wn.ct = C → ∀ s W, Ws W 0 W.heap.size s M → Calls Try.prog 13 #[.agg #[.bool t, .int .i64 f], .slice s n n] W fun e w' => e = .returned (.agg #[.bool t, .int .i64 F]) ∧ Below W.heap.size W w') := hideP (fun M hc s W a1 => by
    have hh := IP M (hc.trans hC.symm) s W a1
    rw [hc, hln M hc, hnL, hF] at hh
    exact hh)
  have hFF : (F != F) = false := by simp
  have hz0 : ¬ (1048576 : Int) - ((n + z : Nat) : Int) < 0 := by omega
  rw [hnL]
  obtain ⟨q, hq⟩ : ∃ q, (1048576 : Int) - ((n + z : Nat) : Int) = q := ⟨_, rfl⟩
  rw [hq] at SZ hz0
  have SZ' := hideP SZ
  clear SP IP hF hC hzL hnL hL hln hq SZ
  go_enter Try.func8, Try.ntmps8
  go_wp2_with fail
  refine Calls.mono (SZ'.out _ (by go_grown)) ?_
  rintro e w1 ⟨rfl, k1⟩
  have K1 : Hid (Below w.heap.size w w1) := hideP (Below.trans (by go_grown) (k1.mono (by simp)))
  have B1 := hideP ((i2_new w t f 55).keep k1 (by simp))
  clear k1 SZ'
  obtain ⟨b0, b1, b2⟩ := B1.out
  go_wp2_with fail
  clear b0 b1 b2
  refine Calls.mono (toInput_any t f w1) ?_
  rintro e w2 ⟨rfl, k2⟩
  have K2 := hideP (K1.out.trans (k2.mono K1.out.size))
  have B2 := hideP (B1.out.keep k2 B1.out.lt)
  clear k2 K1 B1
  go_wp2_with fail
  refine Calls.mono (TO.out w2 K2.out) ?_
  rintro e w3 ⟨s3, M3, rfl, l3, z3, c3, Q3, k3⟩
  have K3 := hideP (K2.out.trans (k3.mono K2.out.size))
  have B3 := hideP (B2.out.keep k3 B2.out.lt)
  clear k3 K2 B2
  go_wp2_with fail
  refine Calls.mono (SP'.out M3 c3 s3 w3 (Q3.ws.wide (Nat.zero_le _) (Nat.le_refl _))) ?_
  rintro e w4 ⟨rfl, k4⟩
  have K4 := hideP (K3.out.trans (k4.mono K3.out.size))
  have B4 := hideP (B3.out.keep k4 B3.out.lt)
  clear k4 Q3 c3 l3 z3 K3 B3
  go_wp2_with fail
  have ka := kalI w4 t F
  have K5 := hideP (K4.out.trans (ka.mono K4.out.size))
  have B5 := hideP (B4.out.keep ka B4.out.lt)
  have R5 := hideP (i2_new w4 t F 25)
  clear ka K4 B4
  generalize w4.alloc (.cells #[.bool t, .int .i64 F] 25) = w5 at *
  generalize w4.heap.size = r5 at *
  refine Calls.mono (TO.out w5 K5.out) ?_
  rintro e w6 ⟨s6, M6, rfl, l6, z6, c6, Q6, k6⟩
  have C6 := hideP c6
  have L6 := hideP l6
  have Z6 := hideP z6
  have K6 := hideP (K5.out.trans (k6.mono K5.out.size))
  have B6 := hideP (B5.out.keep k6 B5.out.lt)
  have R6 := hideP (R5.out.keep k6 R5.out.lt)
  clear K5 B5 R5 k6
  have H6 := hideP Q6
  clear Q6 c6 l6 z6
  obtain ⟨b0, b1, b2⟩ := B6.out
  go_wp2_with fail
  clear b0 b1 b2
  refine Calls.mono (toInput_any t f w6) ?_
  rintro e w7 ⟨rfl, k7⟩
  have K7 := hideP (K6.out.trans (k7.mono K6.out.size))
  have B7 := hideP (B6.out.keep k7 B6.out.lt)
  have R7 := hideP (R6.out.keep k7 R6.out.lt)
  have H7 := hideP (H6.out.keep k7 H6.out.hs)
  clear K6 B6 R6 H6 k7
  go_wp2_with fail
  refine Calls.mono (IP'.out M6 C6.out s6 w7 (H7.out.ws.wide (Nat.zero_le _) H7.out.hs)) ?_
  rintro e w8 ⟨rfl, k8⟩
  have K8 := hideP (K7.out.trans (k8.mono K7.out.size))
  have B8 := hideP (B7.out.keep k8 B7.out.lt)
  have R8 := hideP (R7.out.keep k8 R7.out.lt)
  have H8 := hideP (H7.out.keep k8 H7.out.hs)
  clear K7 B7 R7 H7 k8
  obtain ⟨p0, p1, p2⟩ := R8.out
  go_wp2_with fail
  clear p0 p1 p2
  have k9 := kalI w8 t F
  have K9 := hideP (K8.out.trans (k9.mono K8.out.size))
  have B9 := hideP (B8.out.keep k9 B8.out.lt)
  have R9 := hideP (R8.out.keep k9 R8.out.lt)
  have H9 := hideP (H8.out.keep k9 H8.out.hs)
  clear K8 B8 R8 H8 k9
  clear B9 R9
  generalize w8.alloc (.cells #[.bool t, .int .i64 F] 25) = w9 at *
  refine Calls.mono (eqInput_same t F w9) ?_
  rintro e w10 ⟨rfl, k10⟩
  have K10 := hideP (K9.out.trans (k10.mono K9.out.size))
  have H10 := hideP (H9.out.keep k10 H9.out.hs)
  clear K9 H9 k10
  go_wp2_with fail
  refine Calls.mono (TO.out w10 K10.out) ?_
  rintro e w11 ⟨s11, M11, rfl, l11, z11, c11, Q11, k11⟩
  have K11 := hideP (K10.out.trans (k11.mono K10.out.size))
  have H11 := hideP (H10.out.keep k11 H10.out.hs)
  clear K10 H10 k11
  have EQ := hideP (eqW_n (c := n) (d := n) n z L6.out Z6.out C6.out c11 H11.out Q11 h)
  go_wp2_with fail
  refine Calls.mono EQ.out ?_
  rintro e w12 ⟨rfl, k12⟩
  have K12 := hideP (K11.out.trans (k12.mono K11.out.size))
  clear K11 k12
  go_wp2
  go_returns
  exact ⟨rfl, K12.out⟩

theorem law_LoseFocus (t : Bool) (f : Int) (so : Option Addr) (sc : Nat) (L : List Wn) (w : World) (hn : L.length ≤ maxLen) (hL : Ws w 0 w.heap.size so L) (hm : ∀ r ∈ L, r.b.L.length ≤ maxLen) :
    Calls Try.prog 8 #[.agg #[.bool t, .int .i64 f], .slice so L.length sc] w fun e w' => e = .returned (.bool true) ∧ Below w.heap.size w w' := by
  by_cases h : L.length + wzs L ≤ 1048576
  · exact small_LoseFocus t f so sc L w hL h
  · exact big_LoseFocus t f so sc L w hL hn hm (by omega)
end Go.Proofs.Ytoipcnpemmajaaa
