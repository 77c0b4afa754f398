/- RouteHand, by the model. InputFault and LoseFocus: the laws' walks. What RouteHand answers: held against each other, marked, in a box. -/
import Derived.Test.YtdigknenijmjcaaRr43
import Derived.Test.YtdigknenijmjcaaRr21
import Derived.Test.YtdigknenijmjcaaRr20
import Derived.Test.YtdigknenijmjcaaRr41
import Derived.Test.YtdigknenijmjcaaRr34
import Derived.Test.YtdigknenijmjcaaRr19
import Derived.Test.YtdigknenijmjcaaRr35
namespace Go.Proofs.Ytdigknenijmjcaa
open Go.RowKit Go.Maps
set_option linter.unusedVariables false

set_option maxRecDepth 100000 in
set_option maxHeartbeats 4000000 in
theorem sRoute_c (g : Nat) (R : Rt) (f a b : Int) (so : Option Addr) (n sc : Nat) (w : World) (hh : H3 w g 2 a b)
    (hC : ∀ w1, Below w.heap.size w w1 → Calls Try.prog 47 #[.agg #[.bool false, .int .i64 f], .slice so n sc, .pointer (some ⟨g, 0, none⟩)] w1 (RtA R w1)) :
    Calls Try.prog 34 #[.agg #[.bool false, .int .i64 f], .slice so n sc, .pointer (some ⟨g, 0, none⟩)] w (RtA R w) := by
  have hg := hh.lt
  have hg2 : g < w.heap.size ∧ g < w.heap.size + 1 ∧ g < w.heap.size + 1 + 1 ∧ g < w.heap.size + 1 + 1 + 1 ∧ ¬ g = w.heap.size ∧ ¬ g = w.heap.size + 1 ∧ ¬ g = w.heap.size + 1 + 1 ∧ ¬ g = w.heap.size + 1 + 1 + 1 := by omega
  obtain ⟨c0, c1, c2⟩ := hh
  have HC := hideP hC
  clear hC
  go_enter Try.func34, Try.ntmps34
  go_wp2_with fail
  refine Calls.mono (HC.out _ (by repeat' (first | (with_reducible exact Below.refl _ _) | (with_reducible refine kept_below ?_ (by assumption) ?_) | (with_reducible refine Below.alloc ?_ ?_ _) | (with_reducible refine Below.drew ?_) | (with_reducible refine Below.setCell ?_ ?_ _) | go_size))) ?_
  rintro e w1 ⟨ao, ca, rfl, O1, k1⟩
  have X1 := hideP (((r6_new (w.alloc (.cells #[.bool false, .int .i64 f] 32)) (.int .i64 0) (.int .i64 0) (.int .i64 0) (.slice none 0 0) (.bool false) (.int .i64 0) 56).keep (kalH _ (.cells #[.int .i64 0, .int .i64 0, .int .i64 0, .slice none 0 0, .bool false, .int .i64 f] 56)) (by simp)).keep k1 (by simp))
  have K1 : Hid (Below w.heap.size w w1) := hideP (Below.trans (by repeat' (first | (with_reducible exact Below.refl _ _) | (with_reducible refine kept_below ?_ (by assumption) ?_) | (with_reducible refine Below.alloc ?_ ?_ _) | (with_reducible refine Below.drew ?_) | (with_reducible refine Below.setCell ?_ ?_ _) | go_size)) (k1.mono (by simp; omega)))
  have O3 := hideP O1
  simp only [World.size_alloc] at X1 O3
  clear k1 O1 HC c0 c1 c2
  obtain ⟨x0, x1, x2, x3, x4, x5, xf, xl⟩ := X1.out
  go_wp2
  exact bodyPost_ret (v := .agg #[.int .i64 R.z, .int .i64 R.tg, .int .i64 R.kd, .slice ao R.D.length ca, .bool R.tr, .int .i64 R.fo]) (by simp [results, Try.results34, go_sem, x0, x1, x2, x3, x4, x5]) rfl (rt_six O3.out (by omega) (by omega) K1.out)

set_option maxRecDepth 100000 in
set_option maxHeartbeats 4000000 in
theorem sRt_no (t : Bool) (f k a b : Int) (F : Int) (so : Option Addr) (n sc : Nat) (w : World)
    (hF : F ≠ 0)
    (hI : ∀ w1, I2 w1 w.heap.size t f → Below w.heap.size w w1 → Calls Try.prog 19 #[.pointer (some ⟨w.heap.size, 0, none⟩), .slice so n sc] w1 fun e w' => e = .returned (.int .i64 F) ∧ Below w1.heap.size w1 w') :
    Calls Try.prog 20 #[.agg #[.bool t, .int .i64 f], .slice so n sc, .agg #[.int .i64 k, .int .i64 a, .int .i64 b]] w (RtA (rtNo F) w) := by
  have e0 : (F != 0) = true := by simpa using hF
  have HI := hideP hI
  clear hI hF
  go_enter Try.func20, Try.ntmps20
  go_wp2_with fail
  have W0 := hideP (⟨by simp [go_sem], by simp [go_sem], by simp; omega⟩ : I2 (((w.alloc (.cells #[.bool t, .int .i64 f] 32)).alloc (.cells #[.int .i64 k, .int .i64 a, .int .i64 b] 59)).alloc (.cells #[.int .i64 0, .int .i64 0, .int .i64 0, .slice none 0 0, .bool false, .int .i64 0] 56)) w.heap.size t f)
  have V0 := hideP (⟨by simp [go_sem], by simp [go_sem], by simp [go_sem]⟩ : H3 (((w.alloc (.cells #[.bool t, .int .i64 f] 32)).alloc (.cells #[.int .i64 k, .int .i64 a, .int .i64 b] 59)).alloc (.cells #[.int .i64 0, .int .i64 0, .int .i64 0, .slice none 0 0, .bool false, .int .i64 0] 56)) (w.heap.size + 1) k a b)
  refine Calls.mono (HI.out _ W0.out (by go_grown)) ?_
  rintro e w1 ⟨rfl, k1⟩
  have X1 := hideP ((r6_new ((w.alloc (.cells #[.bool t, .int .i64 f] 32)).alloc (.cells #[.int .i64 k, .int .i64 a, .int .i64 b] 59)) (.int .i64 0) (.int .i64 0) (.int .i64 0) (.slice none 0 0) (.bool false) (.int .i64 0) 56).keep k1 (by simp))
  have W1 := hideP (W0.out.keep k1 (by simp; omega))
  have V1 := hideP (V0.out.keep k1)
  have K1 : Hid (Below w.heap.size w w1) := hideP (Below.trans (by go_grown) (k1.mono (by simp; omega)))
  simp only [World.size_alloc] at X1
  clear k1 HI W0 V0
  clear W1 V1
  obtain ⟨x0, x1, x2, x3, x4, x5, xf, xl⟩ := X1.out
  go_wp2
  exact bodyPost_ret (v := .agg #[.int .i64 F, .int .i64 0, .int .i64 0, .slice none 0 0, .bool false, .int .i64 0]) (by simp [results, Try.results20, go_sem, x0, x1, x2, x3, x4, x5]) rfl (rt_six (r := rtNo F) (base := w1.heap.size) (OwnR.nil _ _ _ _) (by omega) (by omega) K1.out)

set_option maxRecDepth 100000 in
set_option maxHeartbeats 4000000 in
theorem sRt_bad (t : Bool) (f k a b : Int) (F : Int) (so : Option Addr) (n sc : Nat) (w : World)
    (hF : F ≠ 0)
    (hI : ∀ w1, I2 w1 w.heap.size t f → Below w.heap.size w w1 → Calls Try.prog 19 #[.pointer (some ⟨w.heap.size, 0, none⟩), .slice so n sc] w1 fun e w' => e = .returned (.int .i64 0) ∧ Below w1.heap.size w1 w')
    (hH : ∀ w1, H3 w1 (w.heap.size + 1) k a b → Calls Try.prog 33 #[.pointer (some ⟨w.heap.size + 1, 0, none⟩)] w1 fun e w' => e = .returned (.int .i64 F) ∧ Below w1.heap.size w1 w') :
    Calls Try.prog 20 #[.agg #[.bool t, .int .i64 f], .slice so n sc, .agg #[.int .i64 k, .int .i64 a, .int .i64 b]] w (RtA (rtNo F) w) := by
  have e0 : (F != 0) = true := by simpa using hF
  have HI := hideP hI
  have HH := hideP hH
  clear hI hF hH
  go_enter Try.func20, Try.ntmps20
  go_wp2_with fail
  have W0 := hideP (⟨by simp [go_sem], by simp [go_sem], by simp; omega⟩ : I2 (((w.alloc (.cells #[.bool t, .int .i64 f] 32)).alloc (.cells #[.int .i64 k, .int .i64 a, .int .i64 b] 59)).alloc (.cells #[.int .i64 0, .int .i64 0, .int .i64 0, .slice none 0 0, .bool false, .int .i64 0] 56)) w.heap.size t f)
  have V0 := hideP (⟨by simp [go_sem], by simp [go_sem], by simp [go_sem]⟩ : H3 (((w.alloc (.cells #[.bool t, .int .i64 f] 32)).alloc (.cells #[.int .i64 k, .int .i64 a, .int .i64 b] 59)).alloc (.cells #[.int .i64 0, .int .i64 0, .int .i64 0, .slice none 0 0, .bool false, .int .i64 0] 56)) (w.heap.size + 1) k a b)
  refine Calls.mono (HI.out _ W0.out (by go_grown)) ?_
  rintro e w1 ⟨rfl, k1⟩
  have X1 := hideP ((r6_new ((w.alloc (.cells #[.bool t, .int .i64 f] 32)).alloc (.cells #[.int .i64 k, .int .i64 a, .int .i64 b] 59)) (.int .i64 0) (.int .i64 0) (.int .i64 0) (.slice none 0 0) (.bool false) (.int .i64 0) 56).keep k1 (by simp))
  have W1 := hideP (W0.out.keep k1 (by simp; omega))
  have V1 := hideP (V0.out.keep k1)
  have K1 : Hid (Below w.heap.size w w1) := hideP (Below.trans (by go_grown) (k1.mono (by simp; omega)))
  simp only [World.size_alloc] at X1
  clear k1 HI W0 V0
  go_wp2_with fail
  refine Calls.mono (HH.out w1 V1.out) ?_
  rintro e w2 ⟨rfl, k2⟩
  have X2 := hideP (X1.out.keep k2 X1.out.lt)
  have W2 := hideP (W1.out.keep k2 W1.out.lt)
  have V2 := hideP (V1.out.keep k2)
  have K2 := hideP (K1.out.trans (k2.mono K1.out.size))
  clear k2 HH X1 W1 V1 K1
  clear W2 V2
  obtain ⟨x0, x1, x2, x3, x4, x5, xf, xl⟩ := X2.out
  go_wp2
  exact bodyPost_ret (v := .agg #[.int .i64 F, .int .i64 0, .int .i64 0, .slice none 0 0, .bool false, .int .i64 0]) (by simp [results, Try.results20, go_sem, x0, x1, x2, x3, x4, x5]) rfl (rt_six (r := rtNo F) (base := w2.heap.size) (OwnR.nil _ _ _ _) (by omega) (by omega) K2.out)

set_option maxRecDepth 100000 in
set_option maxHeartbeats 4000000 in
theorem sRt_do (t : Bool) (f k a b : Int) (R : Rt) (so : Option Addr) (n sc : Nat) (w : World)
    (hI : ∀ w1, I2 w1 w.heap.size t f → Below w.heap.size w w1 → Calls Try.prog 19 #[.pointer (some ⟨w.heap.size, 0, none⟩), .slice so n sc] w1 fun e w' => e = .returned (.int .i64 0) ∧ Below w1.heap.size w1 w')
    (hH : ∀ w1, H3 w1 (w.heap.size + 1) k a b → Calls Try.prog 33 #[.pointer (some ⟨w.heap.size + 1, 0, none⟩)] w1 fun e w' => e = .returned (.int .i64 0) ∧ Below w1.heap.size w1 w')
    (hG : ∀ w1, H3 w1 (w.heap.size + 1) k a b → Below w.heap.size w w1 → Calls Try.prog 34 #[.agg #[.bool t, .int .i64 f], .slice so n sc, .pointer (some ⟨w.heap.size + 1, 0, none⟩)] w1 (RtA R w1)) :
    Calls Try.prog 20 #[.agg #[.bool t, .int .i64 f], .slice so n sc, .agg #[.int .i64 k, .int .i64 a, .int .i64 b]] w (RtA R w) := by
  have HI := hideP hI
  have HH := hideP hH
  have HG := hideP hG
  clear hI hH hG
  go_enter Try.func20, Try.ntmps20
  go_wp2_with fail
  have W0 := hideP (⟨by simp [go_sem], by simp [go_sem], by simp; omega⟩ : I2 (((w.alloc (.cells #[.bool t, .int .i64 f] 32)).alloc (.cells #[.int .i64 k, .int .i64 a, .int .i64 b] 59)).alloc (.cells #[.int .i64 0, .int .i64 0, .int .i64 0, .slice none 0 0, .bool false, .int .i64 0] 56)) w.heap.size t f)
  have V0 := hideP (⟨by simp [go_sem], by simp [go_sem], by simp [go_sem]⟩ : H3 (((w.alloc (.cells #[.bool t, .int .i64 f] 32)).alloc (.cells #[.int .i64 k, .int .i64 a, .int .i64 b] 59)).alloc (.cells #[.int .i64 0, .int .i64 0, .int .i64 0, .slice none 0 0, .bool false, .int .i64 0] 56)) (w.heap.size + 1) k a b)
  refine Calls.mono (HI.out _ W0.out (by go_grown)) ?_
  rintro e w1 ⟨rfl, k1⟩
  have X1 := hideP ((r6_new ((w.alloc (.cells #[.bool t, .int .i64 f] 32)).alloc (.cells #[.int .i64 k, .int .i64 a, .int .i64 b] 59)) (.int .i64 0) (.int .i64 0) (.int .i64 0) (.slice none 0 0) (.bool false) (.int .i64 0) 56).keep k1 (by simp))
  have W1 := hideP (W0.out.keep k1 (by simp; omega))
  have V1 := hideP (V0.out.keep k1)
  have K1 : Hid (Below w.heap.size w w1) := hideP (Below.trans (by go_grown) (k1.mono (by simp; omega)))
  simp only [World.size_alloc] at X1
  clear k1 HI W0 V0
  go_wp2_with fail
  refine Calls.mono (HH.out w1 V1.out) ?_
  rintro e w2 ⟨rfl, k2⟩
  have X2 := hideP (X1.out.keep k2 X1.out.lt)
  have W2 := hideP (W1.out.keep k2 W1.out.lt)
  have V2 := hideP (V1.out.keep k2)
  have K2 := hideP (K1.out.trans (k2.mono K1.out.size))
  clear k2 HH X1 W1 V1 K1
  obtain ⟨b0, b1, b2⟩ := W2.out
  go_wp2_with fail
  refine Calls.mono (HG.out w2 V2.out K2.out) ?_
  rintro e w3 ⟨ao, ca, rfl, O3, k3⟩
  have X3 := hideP (X2.out.keep k3 X2.out.lt)
  have K3 := hideP (K2.out.trans (k3.mono K2.out.size))
  have O5 := hideP O3
  have n3 := X2.out.lt
  clear k3 O3 HG X2 K2 W2 V2 b0 b1 b2
  obtain ⟨x0, x1, x2, x3, x4, x5, xf, xl⟩ := X3.out
  go_wp2
  exact bodyPost_ret (v := .agg #[.int .i64 R.z, .int .i64 R.tg, .int .i64 R.kd, .slice ao R.D.length ca, .bool R.tr, .int .i64 R.fo]) (by simp [results, Try.results20, go_sem, x0, x1, x2, x3, x4, x5]) rfl (rt_six O5.out (by omega) (by omega) K3.out)

theorem sRoute_any (t : Bool) (f k a b : Int) (so : Option Addr) (sc : Nat) (L : List Wn) (w : World) (hL : Ws w 0 w.heap.size so L) (hn : L.length + wzs L ≤ 1048576) :
    Calls Try.prog 20 #[.agg #[.bool t, .int .i64 f], .slice so L.length sc, .agg #[.int .i64 k, .int .i64 a, .int .i64 b]] w (RtA (rtR (L.map Wn.ct) t f k a b) w) := by
  have HI := fun w1 (h : I2 w1 w.heap.size t f) (kk : Below w.heap.size w w1) => l10Input_any 0 w.heap.size w.heap.size t f so sc L w1 h (hL.keep kk (Nat.le_refl _)) kk.size hn
  have HH := fun w1 (h : H3 w1 (w.heap.size + 1) k a b) => l10Hand_any (w.heap.size + 1) k a b w1 h
  by_cases h0 : inpF (L.map Wn.ct) f = 0
  · rw [h0] at HI
    by_cases h1 : hF k a b = 0
    · rw [h1] at HH
      rw [show rtR (L.map Wn.ct) t f k a b = rtA (L.map Wn.ct) t f k a b by unfold rtR; rw [if_pos h0, if_pos h1]]
      have hst : stF (L.map Wn.ct) = 0 := by
        unfold inpF at h0
        by_cases e : stF (L.map Wn.ct) = 0
        · exact e
        · rw [if_neg e] at h0; exact absurd h0 e
      have hk : 1 ≤ k ∧ k ≤ 4 ∧ (k = 1 → 0 ≤ a ∧ a ≤ 255) ∧ (k = 2 → 0 ≤ a ∧ a ≤ 11 ∧ 0 ≤ b ∧ b ≤ 7) := by
        unfold hF at h1
        split at h1
        · cases h1
        · split at h1
          · cases h1
          · omega
      refine sRt_do t f k a b _ so _ sc w HI HH fun w1 hh kk => ?_
      by_cases h3 : k = 3
      · subst h3
        exact sRoute_3 _ t f a b so _ sc w1 hh
      by_cases h4 : k = 4
      · subst h4
        exact sRoute_4 _ t f a b so _ sc w1 hh
      cases t
      · by_cases h2 : k = 2
        · subst h2
          rw [show rtA (L.map Wn.ct) false f 2 a b = clickR (if b = 0 then none else topC a b (L.map Wn.ct)) a b from rfl]
          refine sRoute_c _ _ f a b so _ sc w1 hh fun w2 k2 => ?_
          have kk2 := kk.trans (k2.mono kk.size)
          have hh2 := hh.keep k2
          have hrf := st_rect hst
          have hL2 : Ws w2 0 w.heap.size so L := hL.keep kk2 (Nat.le_refl _)
          rcases top_or a b L with hno | ⟨A, r, B, ht⟩
          · have hT := fun w3 (k3 : Below w2.heap.size w2 w3) => l7Top_none so sc L a b 0 w.heap.size w3 (hL2.keep k3 kk2.size) (Nat.le_trans kk2.size k3.size) (by omega) hrf hno
            rw [topC_none hno, show (if b = 0 then none else (none : Option Wc)) = none by split <;> rfl]
            exact sClick_out _ f 2 a b (-1) so _ sc w2 hh2 (by omega) hT
          · have hT := fun w3 (k3 : Below w2.heap.size w2 w3) => l7Top_some so sc L a b 0 w.heap.size w3 (hL2.keep k3 kk2.size) (Nat.le_trans kk2.size k3.size) (by omega) hrf A B r ht
            by_cases hb : b = 0
            · subst hb
              rw [if_pos rfl]
              exact sClick_row _ f 2 a _ so _ sc w2 hh2 (by omega) hT
            · rw [if_neg hb, topC_some ht]
              have TF := top_facts hst ht
              have h5 := hL2
              rw [ht.eq] at h5
              obtain ⟨gs, os, hso, hgs, hc, _⟩ := Ws.at h5
              subst hso
              have hAl : A.length < L.length := by rw [ht.eq]; simp
              exact sClick_some _ f 2 a b gs os A.length _ sc r w2 hh2 hb hAl (by omega) (Nat.lt_of_lt_of_le hgs kk2.size) hc TF.id TF.x TF.y hT
        · obtain rfl : k = 1 := by omega
          rw [show rtA (L.map Wn.ct) false f 1 a b = keyR f a from rfl]
          by_cases hf : f = 0
          · subst hf
            exact sRoute_k0 _ a b so _ sc w1 hh
          · rw [show keyR f a = ⟨0, f, 4, [a], false, f⟩ from if_neg hf]
            exact sRoute_k1 _ f a b so _ sc w1 hh hf (hk.2.2.1 rfl)
      · rw [show rtA (L.map Wn.ct) true f k a b = ⟨0, 0, 0, [], true, f⟩ by unfold rtA; rw [if_neg h3, if_neg h4]; rfl]
        exact sRoute_t _ f k a b so _ sc w1 hh h3 h4
    · rw [show rtR (L.map Wn.ct) t f k a b = rtNo (hF k a b) by unfold rtR; rw [if_pos h0, if_neg h1]]
      exact sRt_bad t f k a b _ so _ sc w h1 HI HH
  · rw [show rtR (L.map Wn.ct) t f k a b = rtNo (inpF (L.map Wn.ct) f) by unfold rtR; rw [if_neg h0]]
    exact sRt_no t f k a b _ so _ sc w h0 HI
end Go.Proofs.Ytdigknenijmjcaa

namespace Go.Proofs.Ytdigknenijmjcaa
open Go.RowKit Go.Maps
set_option linter.unusedVariables false

set_option maxHeartbeats 400000 in
theorem toInput_any (t : Bool) (f : Int) (w : World) : Calls Try.prog 7 #[.agg #[.bool t, .int .i64 f]] w fun e w' => e = .returned (.agg #[.bool t, .int .i64 f]) ∧ Below w.heap.size w w' := by
  go_enter Try.func7, Try.ntmps7
  go_wp2
  go_returns
  refine ⟨rfl, ?_⟩
  repeat' (first | (with_reducible exact Below.refl _ _) | (with_reducible refine kept_below ?_ (by assumption) ?_) | (with_reducible refine Below.alloc ?_ ?_ _) | (with_reducible refine Below.drew ?_) | (with_reducible refine Below.setCell ?_ ?_ _) | go_size)

theorem kalI (w : World) (t : Bool) (f : Int) : Below w.heap.size w (w.alloc (.cells #[.bool t, .int .i64 f] 32)) := Below.alloc (Below.refl _ _) (Nat.le_refl _) _

end Go.Proofs.Ytdigknenijmjcaa

namespace Go.Proofs.Ytdigknenijmjcaa
open Go.RowKit Go.Maps
set_option linter.unusedVariables false

theorem I2.far {w w' : World} {g lo hi : Nat} {t : Bool} {f : Int} (h : I2 w g t f) (F : Far lo hi w w') (hd : g < lo ∨ hi ≤ g) : I2 w' g t f :=
  ⟨(F.cell g 0 h.lt hd).trans h.c0, (F.cell g 1 h.lt hd).trans h.c1, Nat.lt_of_lt_of_le h.lt F.size⟩
theorem H3.far {w w' : World} {g lo hi : Nat} {k a b : Int} (h : H3 w g k a b) (F : Far lo hi w w') (hd : g < lo ∨ hi ≤ g) : H3 w' g k a b :=
  ⟨(F.cell g 0 h.lt hd).trans h.c0, (F.cell g 1 h.lt hd).trans h.c1, (F.cell g 2 h.lt hd).trans h.c2⟩
theorem h3_new (w : World) (k a b : Int) (T : TypeId) : H3 (w.alloc (.cells #[.int .i64 k, .int .i64 a, .int .i64 b] T)) w.heap.size k a b := ⟨by simp, by simp, by simp⟩
theorem r6_at {w : World} {B : Nat} {v0 v1 v2 v3 v4 v5 : Value} {T : TypeId} (h : w.heap[B]? = some (.cells #[v0, v1, v2, v3, v4, v5] T)) : R6 w B v0 v1 v2 v3 v4 v5 := by
  have hB : B < w.heap.size := (Array.getElem?_eq_some_iff.1 h).1
  exact ⟨by simp [World.cell?, h], by simp [World.cell?, h], by simp [World.cell?, h], by simp [World.cell?, h], by simp [World.cell?, h], by simp [World.cell?, h], fun c => by simp [World.frozen?, h], hB⟩
theorem R6.put {w : World} {b : Nat} {v0 v1 v2 v3 v4 v5 : Value} (h : R6 w b v0 v1 v2 v3 v4 v5) (u0 u1 u2 u3 u4 u5 : Value) : R6 (six w b u0 u1 u2 u3 u4 u5) b u0 u1 u2 u3 u4 u5 := by
  refine ⟨?_, ?_, ?_, ?_, ?_, ?_, fun c => by simpa using h.fr c, by simpa using h.lt⟩
  · iterate 5 rw [cell_set_other (by omega)]
    exact cell_set_same h.c0
  · iterate 4 rw [cell_set_other (by omega)]
    exact cell_set_same ((cell_set_other (by omega)).trans h.c1)
  · iterate 3 rw [cell_set_other (by omega)]
    exact cell_set_same ((cell_set_other (by omega)).trans ((cell_set_other (by omega)).trans h.c2))
  · iterate 2 rw [cell_set_other (by omega)]
    exact cell_set_same ((cell_set_other (by omega)).trans ((cell_set_other (by omega)).trans ((cell_set_other (by omega)).trans h.c3)))
  · rw [cell_set_other (by omega)]
    exact cell_set_same ((cell_set_other (by omega)).trans ((cell_set_other (by omega)).trans ((cell_set_other (by omega)).trans ((cell_set_other (by omega)).trans h.c4))))
  · exact cell_set_same ((cell_set_other (by omega)).trans ((cell_set_other (by omega)).trans ((cell_set_other (by omega)).trans ((cell_set_other (by omega)).trans ((cell_set_other (by omega)).trans h.c5)))))
theorem far_sixR {w : World} {b : Nat} (u0 u1 u2 u3 u4 u5 : Value) : Far b (b + 1) w (six w b u0 u1 u2 u3 u4 u5) :=
  ((((((Far.refl b (b + 1) w).setCell (p := ⟨b, 0, none⟩) (Nat.le_refl _) (Nat.lt_succ_self _) u0).setCell (p := ⟨b, 1, none⟩) (Nat.le_refl _) (Nat.lt_succ_self _) u1).setCell (p := ⟨b, 2, none⟩) (Nat.le_refl _) (Nat.lt_succ_self _) u2).setCell (p := ⟨b, 3, none⟩) (Nat.le_refl _) (Nat.lt_succ_self _) u3).setCell (p := ⟨b, 4, none⟩) (Nat.le_refl _) (Nat.lt_succ_self _) u4).setCell (p := ⟨b, 5, none⟩) (Nat.le_refl _) (Nat.lt_succ_self _) u5

theorem clickR_len (o : Option Wc) (a b : Int) : (clickR o a b).D.length ≤ 3 := by cases o <;> simp [clickR]
theorem rtR_len (C : List Wc) (t : Bool) (f k a b : Int) : (rtR C t f k a b).D.length ≤ 3 := by
  unfold rtR rtA keyR rtNo
  repeat' split
  all_goals first | exact clickR_len _ _ _ | (simp; done)

/-- A result in its box, its bytes in memory of its own. -/
structure PR (W : World) (b lo hi : Nat) (r : Rt) (ao : Option Addr) (ca : Nat) : Prop where
  box : R6 W b (.int .i64 r.z) (.int .i64 r.tg) (.int .i64 r.kd) (.slice ao r.D.length ca) (.bool r.tr) (.int .i64 r.fo)
  row : Wrt .u8 W lo hi ao r.D
  le : lo ≤ hi
  hs : hi ≤ W.heap.size
theorem PR.keep {W W' : World} {b lo hi B : Nat} {r : Rt} {ao : Option Addr} {ca : Nat} (h : PR W b lo hi r ao ca) (k : Below B W W') (hb : b < B) (hh : hi ≤ B) : PR W' b lo hi r ao ca :=
  ⟨h.box.keep k hb, h.row.keep k hh, h.le, Nat.le_trans h.hs k.size⟩
theorem PR.far {W W' : World} {b lo hi lo' hi' : Nat} {r : Rt} {ao : Option Addr} {ca : Nat} (h : PR W b lo hi r ao ca) (f : Far lo' hi' W W') (hb : b < lo' ∨ hi' ≤ b) (hd : hi ≤ lo' ∨ hi' ≤ lo) : PR W' b lo hi r ao ca :=
  ⟨h.box.far f hb, h.row.far f hd h.hs, h.le, Nat.le_trans h.hs f.size⟩

theorem Far.afterR {lo hi : Nat} {w w1 w2 : World} (k : Below w.heap.size w w1) (f : Far lo hi w1 w2) : Far lo hi w w2 := (Far.of_below k).trans f

end Go.Proofs.Ytdigknenijmjcaa
