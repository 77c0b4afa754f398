/- RouteHand, by the program. -/
import Derived.Test.YtoipcnpemmajaaaTh38
namespace Go.Proofs.Ytoipcnpemmajaaa
open Go.RowKit Go.Maps
set_option linter.unusedVariables false

set_option maxRecDepth 100000 in
set_option maxHeartbeats 2000000 in
theorem route_no (t : Bool) (f k a b F : Int) (so : Option Addr) (n sc : Nat) (w : World) (hF : F ≠ 0)
    (hI : ∀ w1, Below w.heap.size w w1 → Calls Try.prog 15 #[.agg #[.bool t, .int .i64 f], .slice so n sc] w1 fun e w' => e = .returned (.int .i64 F) ∧ Below w1.heap.size w1 w') :
    Calls Try.prog 11 #[.agg #[.bool t, .int .i64 f], .slice so n sc, .agg #[.int .i64 k, .int .i64 a, .int .i64 b]] w (RtA (rtNo F) w) := by
  have e0 : (F != 0) = true := by simpa using hF
  have HI := hideP hI
  clear hI hF
  go_enter Try.func11, Try.ntmps11
  go_wp2_with fail
  refine Calls.mono (HI.out _ (by go_grown)) ?_
  rintro e w1 ⟨rfl, k1⟩
  have X1 := hideP ((r6_new ((w.alloc (.cells #[.bool t, .int .i64 f] 25)).alloc (.cells #[.int .i64 k, .int .i64 a, .int .i64 b] 28)) (.int .i64 0) (.int .i64 0) (.int .i64 0) (.slice none 0 0) (.bool false) (.int .i64 0) 34).keep k1 (by simp))
  have K1 : Hid (Below w.heap.size w w1) := hideP (Below.trans (by go_grown) (k1.mono (by simp; omega)))
  simp only [World.size_alloc] at X1
  clear k1 HI
  obtain ⟨x0, x1, x2, x3, x4, x5, xf, xl⟩ := X1.out
  go_wp2
  exact bodyPost_ret (v := .agg #[.int .i64 F, .int .i64 0, .int .i64 0, .slice none 0 0, .bool false, .int .i64 0]) (by simp [results, Try.results11, go_sem, x0, x1, x2, x3, x4, x5]) rfl (rt_six (r := rtNo F) (base := w1.heap.size) (OwnR.nil _ _ _ _) (by omega) (by omega) K1.out)

set_option maxRecDepth 100000 in
set_option maxHeartbeats 2000000 in
theorem route_bad (t : Bool) (f k a b F : Int) (so : Option Addr) (n sc : Nat) (w : World) (hF : F ≠ 0)
    (hI : ∀ w1, Below w.heap.size w w1 → Calls Try.prog 15 #[.agg #[.bool t, .int .i64 f], .slice so n sc] w1 fun e w' => e = .returned (.int .i64 0) ∧ Below w1.heap.size w1 w')
    (hH : ∀ w1, Calls Try.prog 19 #[.agg #[.int .i64 k, .int .i64 a, .int .i64 b]] w1 fun e w' => e = .returned (.int .i64 F) ∧ Below w1.heap.size w1 w') :
    Calls Try.prog 11 #[.agg #[.bool t, .int .i64 f], .slice so n sc, .agg #[.int .i64 k, .int .i64 a, .int .i64 b]] w (RtA (rtNo F) w) := by
  have e0 : (F != 0) = true := by simpa using hF
  have HI := hideP hI
  have HH := hideP hH
  clear hI hF hH
  go_enter Try.func11, Try.ntmps11
  go_wp2_with fail
  refine Calls.mono (HI.out _ (by go_grown)) ?_
  rintro e w1 ⟨rfl, k1⟩
  have hc1 := Kept.cell k1
  have d0 : w1.cell? ⟨w.heap.size + 1, 0, none⟩ = some (.int .i64 k) := (hc1 _ _ (by simp)).trans (by simp [go_sem])
  have d1 : w1.cell? ⟨w.heap.size + 1, 1, none⟩ = some (.int .i64 a) := (hc1 _ _ (by simp)).trans (by simp [go_sem])
  have d2 : w1.cell? ⟨w.heap.size + 1, 2, none⟩ = some (.int .i64 b) := (hc1 _ _ (by simp)).trans (by simp [go_sem])
  have X1 := hideP ((r6_new ((w.alloc (.cells #[.bool t, .int .i64 f] 25)).alloc (.cells #[.int .i64 k, .int .i64 a, .int .i64 b] 28)) (.int .i64 0) (.int .i64 0) (.int .i64 0) (.slice none 0 0) (.bool false) (.int .i64 0) 34).keep k1 (by simp))
  have K1 : Hid (Below w.heap.size w w1) := hideP (Below.trans (by go_grown) (k1.mono (by simp; omega)))
  simp only [World.size_alloc] at X1
  clear k1 HI hc1
  go_wp2_with fail
  refine Calls.mono (HH.out w1) ?_
  rintro e w2 ⟨rfl, k2⟩
  have X2 := hideP (X1.out.keep k2 X1.out.lt)
  have K2 := hideP (K1.out.trans (k2.mono K1.out.size))
  clear k2 HH X1 K1 d0 d1 d2
  obtain ⟨x0, x1, x2, x3, x4, x5, xf, xl⟩ := X2.out
  go_wp2
  exact bodyPost_ret (v := .agg #[.int .i64 F, .int .i64 0, .int .i64 0, .slice none 0 0, .bool false, .int .i64 0]) (by simp [results, Try.results11, go_sem, x0, x1, x2, x3, x4, x5]) rfl (rt_six (r := rtNo F) (base := w2.heap.size) (OwnR.nil _ _ _ _) (by omega) (by omega) K2.out)

set_option maxRecDepth 100000 in
set_option maxHeartbeats 2000000 in
theorem route_do3 (R : Rt) (t : Bool) (f k a b : Int) (so : Option Addr) (n sc : Nat) (w : World)
    (hI : ∀ w1, Below w.heap.size w w1 → Calls Try.prog 15 #[.agg #[.bool t, .int .i64 f], .slice so n sc] w1 fun e w' => e = .returned (.int .i64 0) ∧ Below w1.heap.size w1 w')
    (hH : ∀ w1, Calls Try.prog 19 #[.agg #[.int .i64 k, .int .i64 a, .int .i64 b]] w1 fun e w' => e = .returned (.int .i64 0) ∧ Below w1.heap.size w1 w')
    (hd : ∀ w1, Calls Try.prog 38 #[.int .i64 k, .bool t] w1 fun e w' => e = .returned (.func (.func 64) #[] #[]) ∧ w' = w1)
    (hg : ∀ w1, Below w.heap.size w w1 → Calls Try.prog 64 #[.agg #[.bool t, .int .i64 f], .slice so n sc, .agg #[.int .i64 k, .int .i64 a, .int .i64 b]] w1 (RtA R w1)) :
    Calls Try.prog 11 #[.agg #[.bool t, .int .i64 f], .slice so n sc, .agg #[.int .i64 k, .int .i64 a, .int .i64 b]] w (RtA R w) := by
  have HI := hideP hI
  have HH := hideP hH
  have HD := hideP hd
  have HG := hideP hg
  clear hI hH hd hg
  go_enter Try.func11, Try.ntmps11
  go_wp2_with fail
  refine Calls.mono (HI.out _ (by go_grown)) ?_
  rintro e w1 ⟨rfl, k1⟩
  have hc1 := Kept.cell k1
  have b0 : w1.cell? ⟨w.heap.size, 0, none⟩ = some (.bool t) := (hc1 _ _ (by first | (simp; done) | (simp; omega))).trans (by simp [go_sem])
  have b1 : w1.cell? ⟨w.heap.size, 1, none⟩ = some (.int .i64 f) := (hc1 _ _ (by first | (simp; done) | (simp; omega))).trans (by simp [go_sem])
  have d0 : w1.cell? ⟨w.heap.size + 1, 0, none⟩ = some (.int .i64 k) := (hc1 _ _ (by simp)).trans (by simp [go_sem])
  have d1 : w1.cell? ⟨w.heap.size + 1, 1, none⟩ = some (.int .i64 a) := (hc1 _ _ (by simp)).trans (by simp [go_sem])
  have d2 : w1.cell? ⟨w.heap.size + 1, 2, none⟩ = some (.int .i64 b) := (hc1 _ _ (by simp)).trans (by simp [go_sem])
  have X1 := hideP ((r6_new ((w.alloc (.cells #[.bool t, .int .i64 f] 25)).alloc (.cells #[.int .i64 k, .int .i64 a, .int .i64 b] 28)) (.int .i64 0) (.int .i64 0) (.int .i64 0) (.slice none 0 0) (.bool false) (.int .i64 0) 34).keep k1 (by simp))
  have K1 : Hid (Below w.heap.size w w1) := hideP (Below.trans (by go_grown) (k1.mono (by simp; omega)))
  have n1 := k1.size
  simp only [World.size_alloc] at X1 n1
  have IB := hideP (⟨b0, b1, by omega⟩ : I2 w1 w.heap.size t f)
  have HB := hideP (⟨d0, d1, d2⟩ : H3 w1 (w.heap.size + 1) k a b)
  clear k1 HI hc1 b0 b1
  go_wp2_with fail
  refine Calls.mono (HH.out w1) ?_
  rintro e w2 ⟨rfl, k2⟩
  have X2 := hideP (X1.out.keep k2 X1.out.lt)
  have K2 := hideP (K1.out.trans (k2.mono K1.out.size))
  have IB2 := hideP (IB.out.keep k2 IB.out.lt)
  have HB2 := hideP (HB.out.keep k2)
  clear k2 HH X1 K1 d0 d1 d2 IB HB
  obtain ⟨b0, b1, b2⟩ := IB2.out
  obtain ⟨d0, d1, d2⟩ := HB2.out
  go_wp2_with fail
  refine Calls.mono (HD.out w2) ?_
  rintro e w3 ⟨rfl, hw3⟩
  subst hw3
  go_wp2_with fail
  refine Calls.mono (HG.out _ K2.out) ?_
  rintro e w4 ⟨ao, ca, rfl, O4, k4⟩
  have X4 := hideP (X2.out.keep k4 X2.out.lt)
  have K4 := hideP (K2.out.trans (k4.mono K2.out.size))
  have O5 := hideP O4
  have n4 := X2.out.lt
  clear k4 O4 HD HG X2 K2 IB2 HB2 b0 b1 b2 d0 d1 d2
  obtain ⟨x0, x1, x2, x3, x4, x5, xf, xl⟩ := X4.out
  go_wp2
  exact bodyPost_ret (v := .agg #[.int .i64 R.z, .int .i64 R.tg, .int .i64 R.kd, .slice ao R.D.length ca, .bool R.tr, .int .i64 R.fo]) (by simp [results, Try.results11, go_sem, x0, x1, x2, x3, x4, x5]) rfl (rt_six O5.out (by omega) (by omega) K4.out)

set_option maxRecDepth 100000 in
set_option maxHeartbeats 2000000 in
theorem route_do4 (R : Rt) (t : Bool) (f k a b : Int) (so : Option Addr) (n sc : Nat) (w : World)
    (hI : ∀ w1, Below w.heap.size w w1 → Calls Try.prog 15 #[.agg #[.bool t, .int .i64 f], .slice so n sc] w1 fun e w' => e = .returned (.int .i64 0) ∧ Below w1.heap.size w1 w')
    (hH : ∀ w1, Calls Try.prog 19 #[.agg #[.int .i64 k, .int .i64 a, .int .i64 b]] w1 fun e w' => e = .returned (.int .i64 0) ∧ Below w1.heap.size w1 w')
    (hd : ∀ w1, Calls Try.prog 38 #[.int .i64 k, .bool t] w1 fun e w' => e = .returned (.func (.func 65) #[] #[]) ∧ w' = w1)
    (hg : ∀ w1, Below w.heap.size w w1 → Calls Try.prog 65 #[.agg #[.bool t, .int .i64 f], .slice so n sc, .agg #[.int .i64 k, .int .i64 a, .int .i64 b]] w1 (RtA R w1)) :
    Calls Try.prog 11 #[.agg #[.bool t, .int .i64 f], .slice so n sc, .agg #[.int .i64 k, .int .i64 a, .int .i64 b]] w (RtA R w) := by
  have HI := hideP hI
  have HH := hideP hH
  have HD := hideP hd
  have HG := hideP hg
  clear hI hH hd hg
  go_enter Try.func11, Try.ntmps11
  go_wp2_with fail
  refine Calls.mono (HI.out _ (by go_grown)) ?_
  rintro e w1 ⟨rfl, k1⟩
  have hc1 := Kept.cell k1
  have b0 : w1.cell? ⟨w.heap.size, 0, none⟩ = some (.bool t) := (hc1 _ _ (by first | (simp; done) | (simp; omega))).trans (by simp [go_sem])
  have b1 : w1.cell? ⟨w.heap.size, 1, none⟩ = some (.int .i64 f) := (hc1 _ _ (by first | (simp; done) | (simp; omega))).trans (by simp [go_sem])
  have d0 : w1.cell? ⟨w.heap.size + 1, 0, none⟩ = some (.int .i64 k) := (hc1 _ _ (by simp)).trans (by simp [go_sem])
  have d1 : w1.cell? ⟨w.heap.size + 1, 1, none⟩ = some (.int .i64 a) := (hc1 _ _ (by simp)).trans (by simp [go_sem])
  have d2 : w1.cell? ⟨w.heap.size + 1, 2, none⟩ = some (.int .i64 b) := (hc1 _ _ (by simp)).trans (by simp [go_sem])
  have X1 := hideP ((r6_new ((w.alloc (.cells #[.bool t, .int .i64 f] 25)).alloc (.cells #[.int .i64 k, .int .i64 a, .int .i64 b] 28)) (.int .i64 0) (.int .i64 0) (.int .i64 0) (.slice none 0 0) (.bool false) (.int .i64 0) 34).keep k1 (by simp))
  have K1 : Hid (Below w.heap.size w w1) := hideP (Below.trans (by go_grown) (k1.mono (by simp; omega)))
  have n1 := k1.size
  simp only [World.size_alloc] at X1 n1
  have IB := hideP (⟨b0, b1, by omega⟩ : I2 w1 w.heap.size t f)
  have HB := hideP (⟨d0, d1, d2⟩ : H3 w1 (w.heap.size + 1) k a b)
  clear k1 HI hc1 b0 b1
  go_wp2_with fail
  refine Calls.mono (HH.out w1) ?_
  rintro e w2 ⟨rfl, k2⟩
  have X2 := hideP (X1.out.keep k2 X1.out.lt)
  have K2 := hideP (K1.out.trans (k2.mono K1.out.size))
  have IB2 := hideP (IB.out.keep k2 IB.out.lt)
  have HB2 := hideP (HB.out.keep k2)
  clear k2 HH X1 K1 d0 d1 d2 IB HB
  obtain ⟨b0, b1, b2⟩ := IB2.out
  obtain ⟨d0, d1, d2⟩ := HB2.out
  go_wp2_with fail
  refine Calls.mono (HD.out w2) ?_
  rintro e w3 ⟨rfl, hw3⟩
  subst hw3
  go_wp2_with fail
  refine Calls.mono (HG.out _ K2.out) ?_
  rintro e w4 ⟨ao, ca, rfl, O4, k4⟩
  have X4 := hideP (X2.out.keep k4 X2.out.lt)
  have K4 := hideP (K2.out.trans (k4.mono K2.out.size))
  have O5 := hideP O4
  have n4 := X2.out.lt
  clear k4 O4 HD HG X2 K2 IB2 HB2 b0 b1 b2 d0 d1 d2
  obtain ⟨x0, x1, x2, x3, x4, x5, xf, xl⟩ := X4.out
  go_wp2
  exact bodyPost_ret (v := .agg #[.int .i64 R.z, .int .i64 R.tg, .int .i64 R.kd, .slice ao R.D.length ca, .bool R.tr, .int .i64 R.fo]) (by simp [results, Try.results11, go_sem, x0, x1, x2, x3, x4, x5]) rfl (rt_six O5.out (by omega) (by omega) K4.out)

set_option maxRecDepth 100000 in
set_option maxHeartbeats 2000000 in
theorem route_dot (R : Rt) (t : Bool) (f k a b : Int) (so : Option Addr) (n sc : Nat) (w : World)
    (hI : ∀ w1, Below w.heap.size w w1 → Calls Try.prog 15 #[.agg #[.bool t, .int .i64 f], .slice so n sc] w1 fun e w' => e = .returned (.int .i64 0) ∧ Below w1.heap.size w1 w')
    (hH : ∀ w1, Calls Try.prog 19 #[.agg #[.int .i64 k, .int .i64 a, .int .i64 b]] w1 fun e w' => e = .returned (.int .i64 0) ∧ Below w1.heap.size w1 w')
    (hd : ∀ w1, Calls Try.prog 38 #[.int .i64 k, .bool t] w1 fun e w' => e = .returned (.func (.func 66) #[] #[]) ∧ w' = w1)
    (hg : ∀ w1, Below w.heap.size w w1 → Calls Try.prog 66 #[.agg #[.bool t, .int .i64 f], .slice so n sc, .agg #[.int .i64 k, .int .i64 a, .int .i64 b]] w1 (RtA R w1)) :
    Calls Try.prog 11 #[.agg #[.bool t, .int .i64 f], .slice so n sc, .agg #[.int .i64 k, .int .i64 a, .int .i64 b]] w (RtA R w) := by
  have HI := hideP hI
  have HH := hideP hH
  have HD := hideP hd
  have HG := hideP hg
  clear hI hH hd hg
  go_enter Try.func11, Try.ntmps11
  go_wp2_with fail
  refine Calls.mono (HI.out _ (by go_grown)) ?_
  rintro e w1 ⟨rfl, k1⟩
  have hc1 := Kept.cell k1
  have b0 : w1.cell? ⟨w.heap.size, 0, none⟩ = some (.bool t) := (hc1 _ _ (by first | (simp; done) | (simp; omega))).trans (by simp [go_sem])
  have b1 : w1.cell? ⟨w.heap.size, 1, none⟩ = some (.int .i64 f) := (hc1 _ _ (by first | (simp; done) | (simp; omega))).trans (by simp [go_sem])
  have d0 : w1.cell? ⟨w.heap.size + 1, 0, none⟩ = some (.int .i64 k) := (hc1 _ _ (by simp)).trans (by simp [go_sem])
  have d1 : w1.cell? ⟨w.heap.size + 1, 1, none⟩ = some (.int .i64 a) := (hc1 _ _ (by simp)).trans (by simp [go_sem])
  have d2 : w1.cell? ⟨w.heap.size + 1, 2, none⟩ = some (.int .i64 b) := (hc1 _ _ (by simp)).trans (by simp [go_sem])
  have X1 := hideP ((r6_new ((w.alloc (.cells #[.bool t, .int .i64 f] 25)).alloc (.cells #[.int .i64 k, .int .i64 a, .int .i64 b] 28)) (.int .i64 0) (.int .i64 0) (.int .i64 0) (.slice none 0 0) (.bool false) (.int .i64 0) 34).keep k1 (by simp))
  have K1 : Hid (Below w.heap.size w w1) := hideP (Below.trans (by go_grown) (k1.mono (by simp; omega)))
  have n1 := k1.size
  simp only [World.size_alloc] at X1 n1
  have IB := hideP (⟨b0, b1, by omega⟩ : I2 w1 w.heap.size t f)
  have HB := hideP (⟨d0, d1, d2⟩ : H3 w1 (w.heap.size + 1) k a b)
  clear k1 HI hc1 b0 b1
  go_wp2_with fail
  refine Calls.mono (HH.out w1) ?_
  rintro e w2 ⟨rfl, k2⟩
  have X2 := hideP (X1.out.keep k2 X1.out.lt)
  have K2 := hideP (K1.out.trans (k2.mono K1.out.size))
  have IB2 := hideP (IB.out.keep k2 IB.out.lt)
  have HB2 := hideP (HB.out.keep k2)
  clear k2 HH X1 K1 d0 d1 d2 IB HB
  obtain ⟨b0, b1, b2⟩ := IB2.out
  obtain ⟨d0, d1, d2⟩ := HB2.out
  go_wp2_with fail
  refine Calls.mono (HD.out w2) ?_
  rintro e w3 ⟨rfl, hw3⟩
  subst hw3
  go_wp2_with fail
  refine Calls.mono (HG.out _ K2.out) ?_
  rintro e w4 ⟨ao, ca, rfl, O4, k4⟩
  have X4 := hideP (X2.out.keep k4 X2.out.lt)
  have K4 := hideP (K2.out.trans (k4.mono K2.out.size))
  have O5 := hideP O4
  have n4 := X2.out.lt
  clear k4 O4 HD HG X2 K2 IB2 HB2 b0 b1 b2 d0 d1 d2
  obtain ⟨x0, x1, x2, x3, x4, x5, xf, xl⟩ := X4.out
  go_wp2
  exact bodyPost_ret (v := .agg #[.int .i64 R.z, .int .i64 R.tg, .int .i64 R.kd, .slice ao R.D.length ca, .bool R.tr, .int .i64 R.fo]) (by simp [results, Try.results11, go_sem, x0, x1, x2, x3, x4, x5]) rfl (rt_six O5.out (by omega) (by omega) K4.out)

set_option maxRecDepth 100000 in
set_option maxHeartbeats 2000000 in
theorem route_do2 (R : Rt) (t : Bool) (f k a b : Int) (so : Option Addr) (n sc : Nat) (w : World)
    (hI : ∀ w1, Below w.heap.size w w1 → Calls Try.prog 15 #[.agg #[.bool t, .int .i64 f], .slice so n sc] w1 fun e w' => e = .returned (.int .i64 0) ∧ Below w1.heap.size w1 w')
    (hH : ∀ w1, Calls Try.prog 19 #[.agg #[.int .i64 k, .int .i64 a, .int .i64 b]] w1 fun e w' => e = .returned (.int .i64 0) ∧ Below w1.heap.size w1 w')
    (hd : ∀ w1, Calls Try.prog 38 #[.int .i64 k, .bool t] w1 fun e w' => e = .returned (.func (.func 67) #[] #[]) ∧ w' = w1)
    (hg : ∀ w1, Below w.heap.size w w1 → Calls Try.prog 67 #[.agg #[.bool t, .int .i64 f], .slice so n sc, .agg #[.int .i64 k, .int .i64 a, .int .i64 b]] w1 (RtA R w1)) :
    Calls Try.prog 11 #[.agg #[.bool t, .int .i64 f], .slice so n sc, .agg #[.int .i64 k, .int .i64 a, .int .i64 b]] w (RtA R w) := by
  have HI := hideP hI
  have HH := hideP hH
  have HD := hideP hd
  have HG := hideP hg
  clear hI hH hd hg
  go_enter Try.func11, Try.ntmps11
  go_wp2_with fail
  refine Calls.mono (HI.out _ (by go_grown)) ?_
  rintro e w1 ⟨rfl, k1⟩
  have hc1 := Kept.cell k1
  have b0 : w1.cell? ⟨w.heap.size, 0, none⟩ = some (.bool t) := (hc1 _ _ (by first | (simp; done) | (simp; omega))).trans (by simp [go_sem])
  have b1 : w1.cell? ⟨w.heap.size, 1, none⟩ = some (.int .i64 f) := (hc1 _ _ (by first | (simp; done) | (simp; omega))).trans (by simp [go_sem])
  have d0 : w1.cell? ⟨w.heap.size + 1, 0, none⟩ = some (.int .i64 k) := (hc1 _ _ (by simp)).trans (by simp [go_sem])
  have d1 : w1.cell? ⟨w.heap.size + 1, 1, none⟩ = some (.int .i64 a) := (hc1 _ _ (by simp)).trans (by simp [go_sem])
  have d2 : w1.cell? ⟨w.heap.size + 1, 2, none⟩ = some (.int .i64 b) := (hc1 _ _ (by simp)).trans (by simp [go_sem])
  have X1 := hideP ((r6_new ((w.alloc (.cells #[.bool t, .int .i64 f] 25)).alloc (.cells #[.int .i64 k, .int .i64 a, .int .i64 b] 28)) (.int .i64 0) (.int .i64 0) (.int .i64 0) (.slice none 0 0) (.bool false) (.int .i64 0) 34).keep k1 (by simp))
  have K1 : Hid (Below w.heap.size w w1) := hideP (Below.trans (by go_grown) (k1.mono (by simp; omega)))
  have n1 := k1.size
  simp only [World.size_alloc] at X1 n1
  have IB := hideP (⟨b0, b1, by omega⟩ : I2 w1 w.heap.size t f)
  have HB := hideP (⟨d0, d1, d2⟩ : H3 w1 (w.heap.size + 1) k a b)
  clear k1 HI hc1 b0 b1
  go_wp2_with fail
  refine Calls.mono (HH.out w1) ?_
  rintro e w2 ⟨rfl, k2⟩
  have X2 := hideP (X1.out.keep k2 X1.out.lt)
  have K2 := hideP (K1.out.trans (k2.mono K1.out.size))
  have IB2 := hideP (IB.out.keep k2 IB.out.lt)
  have HB2 := hideP (HB.out.keep k2)
  clear k2 HH X1 K1 d0 d1 d2 IB HB
  obtain ⟨b0, b1, b2⟩ := IB2.out
  obtain ⟨d0, d1, d2⟩ := HB2.out
  go_wp2_with fail
  refine Calls.mono (HD.out w2) ?_
  rintro e w3 ⟨rfl, hw3⟩
  subst hw3
  go_wp2_with fail
  refine Calls.mono (HG.out _ K2.out) ?_
  rintro e w4 ⟨ao, ca, rfl, O4, k4⟩
  have X4 := hideP (X2.out.keep k4 X2.out.lt)
  have K4 := hideP (K2.out.trans (k4.mono K2.out.size))
  have O5 := hideP O4
  have n4 := X2.out.lt
  clear k4 O4 HD HG X2 K2 IB2 HB2 b0 b1 b2 d0 d1 d2
  obtain ⟨x0, x1, x2, x3, x4, x5, xf, xl⟩ := X4.out
  go_wp2
  exact bodyPost_ret (v := .agg #[.int .i64 R.z, .int .i64 R.tg, .int .i64 R.kd, .slice ao R.D.length ca, .bool R.tr, .int .i64 R.fo]) (by simp [results, Try.results11, go_sem, x0, x1, x2, x3, x4, x5]) rfl (rt_six O5.out (by omega) (by omega) K4.out)

set_option maxRecDepth 100000 in
set_option maxHeartbeats 2000000 in
theorem route_do1 (R : Rt) (t : Bool) (f k a b : Int) (so : Option Addr) (n sc : Nat) (w : World)
    (hI : ∀ w1, Below w.heap.size w w1 → Calls Try.prog 15 #[.agg #[.bool t, .int .i64 f], .slice so n sc] w1 fun e w' => e = .returned (.int .i64 0) ∧ Below w1.heap.size w1 w')
    (hH : ∀ w1, Calls Try.prog 19 #[.agg #[.int .i64 k, .int .i64 a, .int .i64 b]] w1 fun e w' => e = .returned (.int .i64 0) ∧ Below w1.heap.size w1 w')
    (hd : ∀ w1, Calls Try.prog 38 #[.int .i64 k, .bool t] w1 fun e w' => e = .returned (.func (.func 68) #[] #[]) ∧ w' = w1)
    (hg : ∀ w1, Below w.heap.size w w1 → Calls Try.prog 68 #[.agg #[.bool t, .int .i64 f], .slice so n sc, .agg #[.int .i64 k, .int .i64 a, .int .i64 b]] w1 (RtA R w1)) :
    Calls Try.prog 11 #[.agg #[.bool t, .int .i64 f], .slice so n sc, .agg #[.int .i64 k, .int .i64 a, .int .i64 b]] w (RtA R w) := by
  have HI := hideP hI
  have HH := hideP hH
  have HD := hideP hd
  have HG := hideP hg
  clear hI hH hd hg
  go_enter Try.func11, Try.ntmps11
  go_wp2_with fail
  refine Calls.mono (HI.out _ (by go_grown)) ?_
  rintro e w1 ⟨rfl, k1⟩
  have hc1 := Kept.cell k1
  have b0 : w1.cell? ⟨w.heap.size, 0, none⟩ = some (.bool t) := (hc1 _ _ (by first | (simp; done) | (simp; omega))).trans (by simp [go_sem])
  have b1 : w1.cell? ⟨w.heap.size, 1, none⟩ = some (.int .i64 f) := (hc1 _ _ (by first | (simp; done) | (simp; omega))).trans (by simp [go_sem])
  have d0 : w1.cell? ⟨w.heap.size + 1, 0, none⟩ = some (.int .i64 k) := (hc1 _ _ (by simp)).trans (by simp [go_sem])
  have d1 : w1.cell? ⟨w.heap.size + 1, 1, none⟩ = some (.int .i64 a) := (hc1 _ _ (by simp)).trans (by simp [go_sem])
  have d2 : w1.cell? ⟨w.heap.size + 1, 2, none⟩ = some (.int .i64 b) := (hc1 _ _ (by simp)).trans (by simp [go_sem])
  have X1 := hideP ((r6_new ((w.alloc (.cells #[.bool t, .int .i64 f] 25)).alloc (.cells #[.int .i64 k, .int .i64 a, .int .i64 b] 28)) (.int .i64 0) (.int .i64 0) (.int .i64 0) (.slice none 0 0) (.bool false) (.int .i64 0) 34).keep k1 (by simp))
  have K1 : Hid (Below w.heap.size w w1) := hideP (Below.trans (by go_grown) (k1.mono (by simp; omega)))
  have n1 := k1.size
  simp only [World.size_alloc] at X1 n1
  have IB := hideP (⟨b0, b1, by omega⟩ : I2 w1 w.heap.size t f)
  have HB := hideP (⟨d0, d1, d2⟩ : H3 w1 (w.heap.size + 1) k a b)
  clear k1 HI hc1 b0 b1
  go_wp2_with fail
  refine Calls.mono (HH.out w1) ?_
  rintro e w2 ⟨rfl, k2⟩
  have X2 := hideP (X1.out.keep k2 X1.out.lt)
  have K2 := hideP (K1.out.trans (k2.mono K1.out.size))
  have IB2 := hideP (IB.out.keep k2 IB.out.lt)
  have HB2 := hideP (HB.out.keep k2)
  clear k2 HH X1 K1 d0 d1 d2 IB HB
  obtain ⟨b0, b1, b2⟩ := IB2.out
  obtain ⟨d0, d1, d2⟩ := HB2.out
  go_wp2_with fail
  refine Calls.mono (HD.out w2) ?_
  rintro e w3 ⟨rfl, hw3⟩
  subst hw3
  go_wp2_with fail
  refine Calls.mono (HG.out _ K2.out) ?_
  rintro e w4 ⟨ao, ca, rfl, O4, k4⟩
  have X4 := hideP (X2.out.keep k4 X2.out.lt)
  have K4 := hideP (K2.out.trans (k4.mono K2.out.size))
  have O5 := hideP O4
  have n4 := X2.out.lt
  clear k4 O4 HD HG X2 K2 IB2 HB2 b0 b1 b2 d0 d1 d2
  obtain ⟨x0, x1, x2, x3, x4, x5, xf, xl⟩ := X4.out
  go_wp2
  exact bodyPost_ret (v := .agg #[.int .i64 R.z, .int .i64 R.tg, .int .i64 R.kd, .slice ao R.D.length ca, .bool R.tr, .int .i64 R.fo]) (by simp [results, Try.results11, go_sem, x0, x1, x2, x3, x4, x5]) rfl (rt_six O5.out (by omega) (by omega) K4.out)

theorem iRoute_any (t : Bool) (f k a b : Int) (so : Option Addr) (sc : Nat) (L : List Wn) (w : World) (hL : Ws w 0 w.heap.size so L) (hn : L.length + wzs L ≤ 1048576) :
    Calls Try.prog 11 #[.agg #[.bool t, .int .i64 f], .slice so L.length sc, .agg #[.int .i64 k, .int .i64 a, .int .i64 b]] w (RtA (rtR (L.map Wn.ct) t f k a b) w) := by
  have HI := fun w1 (kk : Below w.heap.size w w1) => iInput_any 0 w.heap.size t f so sc L w1 (hL.keep kk (Nat.le_refl _)) kk.size hn
  have HH := fun w1 => iHand_any k a b w1
  by_cases h0 : inpF (L.map Wn.ct) f = 0
  · rw [h0] at HI
    by_cases h1 : hF k a b = 0
    · rw [h1] at HH
      rw [show rtR (L.map Wn.ct) t f k a b = rtA (L.map Wn.ct) t f k a b by unfold rtR; rw [if_pos h0, if_pos h1]]
      have hst : stF (L.map Wn.ct) = 0 := by
        unfold inpF at h0
        by_cases e : stF (L.map Wn.ct) = 0
        · exact e
        · rw [if_neg e] at h0; exact absurd h0 e
      have hk : 1 ≤ k ∧ k ≤ 4 ∧ (k = 1 → 0 ≤ a ∧ a ≤ 255) ∧ (k = 2 → 0 ≤ a ∧ a ≤ 11 ∧ 0 ≤ b ∧ b ≤ 7) := by
        unfold hF at h1
        split at h1
        · cases h1
        · split at h1
          · cases h1
          · omega
      by_cases h3 : k = 3
      · subst h3
        exact route_do3 _ t f 3 a b so _ sc w HI HH (deed_3 t) fun w1 _ => enter_any t f 3 a b so _ sc w1
      by_cases h4 : k = 4
      · subst h4
        exact route_do4 _ t f 4 a b so _ sc w HI HH (deed_4 t) fun w1 _ => leave_any t f 4 a b so _ sc w1
      cases t
      · by_cases h2 : k = 2
        · subst h2
          rw [show rtA (L.map Wn.ct) false f 2 a b = clickR (if b = 0 then none else topC a b (L.map Wn.ct)) a b from rfl]
          refine route_do2 _ false f 2 a b so _ sc w HI HH deed_2 fun w1 kk => ?_
          have hL1 : Ws w1 0 w1.heap.size so L := (hL.keep kk (Nat.le_refl _)).wide (Nat.le_refl _) kk.size
          by_cases hb : b = 0
          · rw [if_pos hb]
            exact click_none f 2 a b so _ sc w1 fun w2 _ => clicked_strip a b so _ sc w2 (by rw [hp_below, decide_eq_false_iff_not]; omega)
          · rw [if_neg hb]
            have hp : hpB 0 1 12 7 a b = true := by rw [hp_below, decide_eq_true_eq]; omega
            rcases top_or a b L with hno | ⟨A, r, B, ht⟩
            · rw [topC_none hno]
              exact click_none f 2 a b so _ sc w1 fun w2 k2 => clicked_none a b so sc L w2 ((hL1.keep k2 (Nat.le_refl _)).wide (Nat.le_refl _) k2.size) hn hst hp hno
            · rw [topC_some ht]
              have TF := top_facts hst ht
              exact click_some f 2 a b so _ sc r.i r.x r.y r.w r.h r.m r.b.ao r.b.L.length r.b.cap TF.id TF.x TF.y w1 fun w2 k2 => clicked_some a b so sc L A B r w2 ((hL1.keep k2 (Nat.le_refl _)).wide (Nat.le_refl _) k2.size) hn hst hp ht
        · obtain rfl : k = 1 := by omega
          exact route_do1 _ false f 1 a b so _ sc w HI HH deed_1 fun w1 _ => typeKey_any f 1 a b so _ sc w1 (by unfold byB; rw [decide_eq_true_eq]; omega)
      · rw [show rtA (L.map Wn.ct) true f k a b = ⟨0, 0, 0, [], true, f⟩ by unfold rtA; rw [if_neg h3, if_neg h4]; rfl]
        exact route_dot _ true f k a b so _ sc w HI HH (fun w1 => deed_t k w1 h3 h4) fun w1 _ => nobody_any true f k a b so _ sc w1
    · rw [show rtR (L.map Wn.ct) t f k a b = rtNo (hF k a b) by unfold rtR; rw [if_pos h0, if_neg h1]]
      exact route_bad t f k a b _ so _ sc w h1 HI HH
  · rw [show rtR (L.map Wn.ct) t f k a b = rtNo (inpF (L.map Wn.ct) f) by unfold rtR; rw [if_neg h0]]
    exact route_no t f k a b _ so _ sc w h0 HI
end Go.Proofs.Ytoipcnpemmajaaa
