/- The program's pushes. -/
import Derived.Test.YtefkngpceeclhaaV21
namespace Go.Proofs.Ytefkngpceeclhaa
open Go.RowKit
set_option linter.unusedVariables false

theorem r4_new (w : World) (v0 v1 v2 v3 : Value) (T : TypeId) : R4 (w.alloc (.cells #[v0, v1, v2, v3] T)) w.heap.size v0 v1 v2 v3 := ⟨by simp, by simp, by simp, by simp, by simp, by simp, by simp, by simp, by simp⟩
theorem r4_new3 (w : World) (o o2 : Obj) (v0 v1 v2 v3 : Value) (T : TypeId) : R4 (((w.alloc o).alloc o2).alloc (.cells #[v0, v1, v2, v3] T)) (w.heap.size + 1 + 1) v0 v1 v2 v3 := by
  have h := r4_new ((w.alloc o).alloc o2) v0 v1 v2 v3 T
  rwa [show ((w.alloc o).alloc o2).heap.size = w.heap.size + 1 + 1 by simp] at h
theorem rb_new1 (w : World) (o o2 : Obj) (v0 v1 : Value) (T : TypeId) : Rb (((w.alloc (.cells #[v0, v1] T)).alloc o).alloc o2) w.heap.size v0 v1 :=
  ((rb_new w v0 v1 T).keep (kal3 _ o) (by simp)).keep (kal3 _ o2) (by simp; omega)

set_option maxRecDepth 100000 in
set_option maxHeartbeats 1000000 in
theorem iPushEvent_any (lo hi : Nat) (so : Option Addr) (sc : Nat) (L : List Mg) (v : Bool) (k : Int) (ao : Option Addr) (ca : Nat) (D : List Int) (w : World) (hL : Ms w lo hi so L) (hs : hi ≤ w.heap.size) (hn : L.length + mzs L ≤ 1048576) (hR : Row .u8 w lo hi ao D) (hl : D.length ≤ 1048576) :
    Calls Try.prog 11 #[.agg #[.slice so L.length sc, .bool v], .agg #[.int .i64 k, .slice ao D.length ca]] w fun e w' => PutA (L.map Mg.ct) (k, D) false v w e w' := by
  have FP := hideP (fun w1 (kk : Below w.heap.size w w1) => fop_any lo hi so sc L v k ao ca D false w1 (hL.keep kk hs) (by have := kk.size; omega) hn hl)
  have PS := hideP (fun w1 (kk : Below w.heap.size w w1) => pushed_any lo hi so sc L v k ao ca D 6 w1 (hL.keep kk hs) (by have := kk.size; omega) hn (hR.keep kk hs) hl)
  generalize L.map Mg.ct = C at *
  generalize L.length = n at *
  obtain ⟨z, hz⟩ : ∃ z, puC C (k, D) false = z := ⟨_, rfl⟩
  obtain ⟨v', hv'⟩ : ∃ v', pcV 6 C v = v' := ⟨_, rfl⟩
  rw [hz] at FP
  rw [hv'] at PS
  have AN : Hid (z ≠ 0 → ∀ w', Below w.heap.size w w' → PutA C (k, D) false v w (.returned (.agg #[.int .i64 z, .slice none 0 0, .slice none 0 0, .bool false])) w') := hideP (fun h w' hb => by rw [← hz]; exact putA_no (by rw [hz]; exact h) hb)
  have AY : Hid (z = 0 → ∀ w' s c (N : List Mg), N.map Mg.ct = pcC 6 C (k, D) → Lin w' w.heap.size s c N → Below w.heap.size w w' → PutA C (k, D) false v w (.returned (.agg #[.int .i64 0, .slice none 0 0, .slice s N.length c, .bool v'])) w') := hideP (fun h w' s c N hN hl hb => by rw [← hv']; exact putA_yes (rep := false) (by rw [hz]; exact h) hN hl hb)
  obtain ⟨P, hP⟩ : ∃ P, PutA C (k, D) false v w = P := ⟨_, rfl⟩
  rw [hP] at AN AY ⊢
  clear hL hR hl hs hn hz hv' hP
  generalize D.length = dn at *
  go_enter Try.func11, Try.ntmps11
  go_wp2_with fail
  have K0 : Hid (Below w.heap.size w (((w.alloc (.cells #[.slice so n sc, .bool v] 26)).alloc (.cells #[.int .i64 k, .slice ao dn ca] 28)).alloc (.cells #[.int .i64 0, .slice none 0 0, .slice none 0 0, .bool false] 32))) := hideP (by go_grown)
  have X0 : Hid (Rb (((w.alloc (.cells #[.slice so n sc, .bool v] 26)).alloc (.cells #[.int .i64 k, .slice ao dn ca] 28)).alloc (.cells #[.int .i64 0, .slice none 0 0, .slice none 0 0, .bool false] 32)) (w.heap.size + 1) (.int .i64 k) (.slice ao dn ca)) := hideP (rb_new2 w _ _ _ _ _)
  have Y0 : Hid (Rb (((w.alloc (.cells #[.slice so n sc, .bool v] 26)).alloc (.cells #[.int .i64 k, .slice ao dn ca] 28)).alloc (.cells #[.int .i64 0, .slice none 0 0, .slice none 0 0, .bool false] 32)) w.heap.size (.slice so n sc) (.bool v)) := hideP (rb_new1 w _ _ _ _ _)
  have Z0 : Hid (R4 (((w.alloc (.cells #[.slice so n sc, .bool v] 26)).alloc (.cells #[.int .i64 k, .slice ao dn ca] 28)).alloc (.cells #[.int .i64 0, .slice none 0 0, .slice none 0 0, .bool false] 32)) (w.heap.size + 1 + 1) (.int .i64 0) (.slice none 0 0) (.slice none 0 0) (.bool false)) := hideP (r4_new3 w _ _ _ _ _ _ _)
  have n0 : (((w.alloc (.cells #[.slice so n sc, .bool v] 26)).alloc (.cells #[.int .i64 k, .slice ao dn ca] 28)).alloc (.cells #[.int .i64 0, .slice none 0 0, .slice none 0 0, .bool false] 32)).heap.size = w.heap.size + 3 := by simp
  generalize (((w.alloc (.cells #[.slice so n sc, .bool v] 26)).alloc (.cells #[.int .i64 k, .slice ao dn ca] 28)).alloc (.cells #[.int .i64 0, .slice none 0 0, .slice none 0 0, .bool false] 32)) = W at *
  refine Calls.mono (FP.out _ K0.out) ?_
  rintro e w1 ⟨rfl, k1⟩
  have K1 := hideP (K0.out.trans (k1.mono (by omega)))
  have X1 := hideP (X0.out.keep k1 (by omega))
  have Y1 := hideP (Y0.out.keep k1 (by omega))
  have Z1 := hideP (Z0.out.keep k1 (by omega))
  have n1 := k1.size
  clear k1 K0 X0 Y0 Z0 FP
  by_cases h0 : z = 0
  · have AY' := hideP (AY.out h0)
    subst h0
    clear AN AY
    obtain ⟨p0, p1, p2, p3, p4⟩ := X1.out
    obtain ⟨q0, q1, q2, q3, q4⟩ := Y1.out
    go_wp2_with fail
    clear p0 p1 p2 p3 p4 q0 q1 q2 q3 q4
    refine Calls.mono (PS.out _ K1.out) ?_
    rintro e w2 ⟨s, c, N, rfl, hN, LN, k2⟩
    have HN := hideP hN
    have HL := hideP LN
    have K2 := hideP (K1.out.trans (k2.mono (by omega)))
    have Z2 := Z1.out.keep k2 (by omega)
    have n2 := k2.size
    clear k2 LN hN K1 X1 Y1 Z1 PS
    obtain ⟨p0, p1, p2, p3, p4, p5, p6, p7, p8⟩ := Z2
    go_wp2
    refine bodyPost_ret (v := .agg #[.int .i64 0, .slice none 0 0, .slice s N.length c, .bool v']) (by simp [results, Try.results11, go_sem, *]) rfl (AY'.out _ s c N HN.out ?_ ?_)
    · refine Lin.le (base := w1.heap.size) ?_ (by omega)
      repeat' (first | exact HL.out | refine Lin.set ?_ _ _ (by dsimp only; omega))
    · repeat' (first | exact K2.out | (with_reducible refine Below.setCell ?_ ?_ _) | go_size)
  · have hne : (z != 0) = true := by simpa using h0
    have AN' := hideP (AN.out h0)
    clear AN AY h0 PS
    obtain ⟨p0, p1, p2, p3, p4, p5, p6, p7, p8⟩ := Z1.out
    go_wp2
    refine bodyPost_ret (v := .agg #[.int .i64 z, .slice none 0 0, .slice none 0 0, .bool false]) (by simp [results, Try.results11, go_sem, *]) rfl (AN'.out _ ?_)
    repeat' (first | exact K1.out | (with_reducible refine Below.setCell ?_ ?_ _) | go_size)

set_option maxRecDepth 100000 in
set_option maxHeartbeats 1000000 in
theorem iPushReply_any (lo hi : Nat) (so : Option Addr) (sc : Nat) (L : List Mg) (v : Bool) (k : Int) (ao : Option Addr) (ca : Nat) (D : List Int) (w : World) (hL : Ms w lo hi so L) (hs : hi ≤ w.heap.size) (hn : L.length + mzs L ≤ 1048576) (hR : Row .u8 w lo hi ao D) (hl : D.length ≤ 1048576) :
    Calls Try.prog 12 #[.agg #[.slice so L.length sc, .bool v], .agg #[.int .i64 k, .slice ao D.length ca]] w fun e w' => PutA (L.map Mg.ct) (k, D) true v w e w' := by
  have FP := hideP (fun w1 (kk : Below w.heap.size w w1) => fop_any lo hi so sc L v k ao ca D true w1 (hL.keep kk hs) (by have := kk.size; omega) hn hl)
  have PS := hideP (fun w1 (kk : Below w.heap.size w w1) => pushed_any lo hi so sc L v k ao ca D 10 w1 (hL.keep kk hs) (by have := kk.size; omega) hn (hR.keep kk hs) hl)
  generalize L.map Mg.ct = C at *
  generalize L.length = n at *
  obtain ⟨z, hz⟩ : ∃ z, puC C (k, D) true = z := ⟨_, rfl⟩
  obtain ⟨v', hv'⟩ : ∃ v', pcV 10 C v = v' := ⟨_, rfl⟩
  rw [hz] at FP
  rw [hv'] at PS
  have AN : Hid (z ≠ 0 → ∀ w', Below w.heap.size w w' → PutA C (k, D) true v w (.returned (.agg #[.int .i64 z, .slice none 0 0, .slice none 0 0, .bool false])) w') := hideP (fun h w' hb => by rw [← hz]; exact putA_no (by rw [hz]; exact h) hb)
  have AY : Hid (z = 0 → ∀ w' s c (N : List Mg), N.map Mg.ct = pcC 10 C (k, D) → Lin w' w.heap.size s c N → Below w.heap.size w w' → PutA C (k, D) true v w (.returned (.agg #[.int .i64 0, .slice none 0 0, .slice s N.length c, .bool v'])) w') := hideP (fun h w' s c N hN hl hb => by rw [← hv']; exact putA_yes (rep := true) (by rw [hz]; exact h) hN hl hb)
  obtain ⟨P, hP⟩ : ∃ P, PutA C (k, D) true v w = P := ⟨_, rfl⟩
  rw [hP] at AN AY ⊢
  clear hL hR hl hs hn hz hv' hP
  generalize D.length = dn at *
  go_enter Try.func12, Try.ntmps12
  go_wp2_with fail
  have K0 : Hid (Below w.heap.size w (((w.alloc (.cells #[.slice so n sc, .bool v] 26)).alloc (.cells #[.int .i64 k, .slice ao dn ca] 28)).alloc (.cells #[.int .i64 0, .slice none 0 0, .slice none 0 0, .bool false] 32))) := hideP (by go_grown)
  have X0 : Hid (Rb (((w.alloc (.cells #[.slice so n sc, .bool v] 26)).alloc (.cells #[.int .i64 k, .slice ao dn ca] 28)).alloc (.cells #[.int .i64 0, .slice none 0 0, .slice none 0 0, .bool false] 32)) (w.heap.size + 1) (.int .i64 k) (.slice ao dn ca)) := hideP (rb_new2 w _ _ _ _ _)
  have Y0 : Hid (Rb (((w.alloc (.cells #[.slice so n sc, .bool v] 26)).alloc (.cells #[.int .i64 k, .slice ao dn ca] 28)).alloc (.cells #[.int .i64 0, .slice none 0 0, .slice none 0 0, .bool false] 32)) w.heap.size (.slice so n sc) (.bool v)) := hideP (rb_new1 w _ _ _ _ _)
  have Z0 : Hid (R4 (((w.alloc (.cells #[.slice so n sc, .bool v] 26)).alloc (.cells #[.int .i64 k, .slice ao dn ca] 28)).alloc (.cells #[.int .i64 0, .slice none 0 0, .slice none 0 0, .bool false] 32)) (w.heap.size + 1 + 1) (.int .i64 0) (.slice none 0 0) (.slice none 0 0) (.bool false)) := hideP (r4_new3 w _ _ _ _ _ _ _)
  have n0 : (((w.alloc (.cells #[.slice so n sc, .bool v] 26)).alloc (.cells #[.int .i64 k, .slice ao dn ca] 28)).alloc (.cells #[.int .i64 0, .slice none 0 0, .slice none 0 0, .bool false] 32)).heap.size = w.heap.size + 3 := by simp
  generalize (((w.alloc (.cells #[.slice so n sc, .bool v] 26)).alloc (.cells #[.int .i64 k, .slice ao dn ca] 28)).alloc (.cells #[.int .i64 0, .slice none 0 0, .slice none 0 0, .bool false] 32)) = W at *
  refine Calls.mono (FP.out _ K0.out) ?_
  rintro e w1 ⟨rfl, k1⟩
  have K1 := hideP (K0.out.trans (k1.mono (by omega)))
  have X1 := hideP (X0.out.keep k1 (by omega))
  have Y1 := hideP (Y0.out.keep k1 (by omega))
  have Z1 := hideP (Z0.out.keep k1 (by omega))
  have n1 := k1.size
  clear k1 K0 X0 Y0 Z0 FP
  by_cases h0 : z = 0
  · have AY' := hideP (AY.out h0)
    subst h0
    clear AN AY
    obtain ⟨p0, p1, p2, p3, p4⟩ := X1.out
    obtain ⟨q0, q1, q2, q3, q4⟩ := Y1.out
    go_wp2_with fail
    clear p0 p1 p2 p3 p4 q0 q1 q2 q3 q4
    refine Calls.mono (PS.out _ K1.out) ?_
    rintro e w2 ⟨s, c, N, rfl, hN, LN, k2⟩
    have HN := hideP hN
    have HL := hideP LN
    have K2 := hideP (K1.out.trans (k2.mono (by omega)))
    have Z2 := Z1.out.keep k2 (by omega)
    have n2 := k2.size
    clear k2 LN hN K1 X1 Y1 Z1 PS
    obtain ⟨p0, p1, p2, p3, p4, p5, p6, p7, p8⟩ := Z2
    go_wp2
    refine bodyPost_ret (v := .agg #[.int .i64 0, .slice none 0 0, .slice s N.length c, .bool v']) (by simp [results, Try.results12, go_sem, *]) rfl (AY'.out _ s c N HN.out ?_ ?_)
    · refine Lin.le (base := w1.heap.size) ?_ (by omega)
      repeat' (first | exact HL.out | refine Lin.set ?_ _ _ (by dsimp only; omega))
    · repeat' (first | exact K2.out | (with_reducible refine Below.setCell ?_ ?_ _) | go_size)
  · have hne : (z != 0) = true := by simpa using h0
    have AN' := hideP (AN.out h0)
    clear AN AY h0 PS
    obtain ⟨p0, p1, p2, p3, p4, p5, p6, p7, p8⟩ := Z1.out
    go_wp2
    refine bodyPost_ret (v := .agg #[.int .i64 z, .slice none 0 0, .slice none 0 0, .bool false]) (by simp [results, Try.results12, go_sem, *]) rfl (AN'.out _ ?_)
    repeat' (first | exact K1.out | (with_reducible refine Below.setCell ?_ ?_ _) | go_size)
end Go.Proofs.Ytefkngpceeclhaa
