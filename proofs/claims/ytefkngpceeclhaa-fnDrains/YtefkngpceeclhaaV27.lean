/- The model's pushes. -/
import Derived.Test.YtefkngpceeclhaaV26
namespace Go.Proofs.Ytefkngpceeclhaa
open Go.RowKit
set_option linter.unusedVariables false

theorem push_rep (lo hi b base : Nat) (s : Option Addr) (c : Nat) (M : List Mg) (v : Bool) (k : Int) (ao : Option Addr) (ca : Nat) (D : List Int) (rep : Bool) (w : World) (hR : Rb w b (.slice s M.length c) (.bool v)) (hL : Lin w base s c M) (hD : Row .u8 w lo hi ao D) (hs : hi ≤ w.heap.size) (hb : base ≤ b) (hn : M.length ≤ 1048576) (hl : D.length ≤ 1048576) (hk : isRep k = rep) :
    Calls Try.prog 77 #[.pointer (some ⟨b, 0, none⟩), .agg #[.int .i64 k, .slice ao D.length ca]] w fun e w' => e = .returned (.tuple #[]) ∧ PshA b base (pcC (rmOf rep) (M.map Mg.ct) (k, D)) (pcV (rmOf rep) (M.map Mg.ct) v) w' ∧ Below base w w' := by
  cases rep with
  | true => exact push_true lo hi b base s c M v k ao ca D w hR hL hD hs hb hn hl hk
  | false => exact push_false lo hi b base s c M v k ao ca D w hR hL hD hs hb hn hl hk

set_option maxRecDepth 100000 in
set_option maxHeartbeats 2000000 in
theorem put_any (lo hi : Nat) (so : Option Addr) (sc : Nat) (L : List Mg) (v : Bool) (k : Int) (ao : Option Addr) (ca : Nat) (D : List Int) (rep : Bool) (w : World) (hL : Ms w lo hi so L) (hs : hi ≤ w.heap.size) (hn : L.length + mzs L ≤ 1048576) (hR : Row .u8 w lo hi ao D) (hl : D.length ≤ 1048576) :
    Calls Try.prog 49 #[.agg #[.slice so L.length sc, .bool v], .agg #[.int .i64 k, .slice ao D.length ca], .bool rep] w fun e w' => PutA (L.map Mg.ct) (k, D) rep v w e w' := by
  have QF := hideP (fun b w1 (kk : Below w.heap.size w w1) hb => l6F_any lo hi b so sc L w1 hb (hL.keep kk hs) (by have := kk.size; omega) hn)
  have MF := hideP (fun g w1 (hc : (⟨k, ⟨ao, ca, 0, D⟩⟩ : Mg).cells w1 g 0) => sMF_any g 0 ⟨k, ⟨ao, ca, 0, D⟩⟩ w1 hc hl)
  have CQ := hideP (fun w1 (kk : Below w.heap.size w w1) => copyQ_any lo hi so sc L v w1 (hL.keep kk hs) (by have := kk.size; omega) hn)
  have PP := hideP (fun b base s c M w1 (kk : Below w.heap.size w w1) a1 a2 a3 a4 a5 => push_rep lo hi b base s c M v k ao ca D rep w1 a1 a2 (hR.keep kk hs) (by have := kk.size; omega) a3 a4 hl a5)
  have hln : (L.map Mg.ct).length = L.length := by simp
  have MFs : Hid (mF (Mg.ct ⟨k, ⟨ao, ca, 0, D⟩⟩) = mF (k, D)) := hideP rfl
  generalize L.map Mg.ct = C at *
  generalize L.length = n at *
  have PQ := hideP (fun h => puC_q (C := C) (t := (k, D)) (rep := rep) h)
  have PM := hideP (fun h => puC_m (C := C) (t := (k, D)) (rep := rep) h)
  have PR := hideP (fun h => puC_r (C := C) (t := (k, D)) (rep := rep) h)
  have PO := hideP (fun h => puC_ok (C := C) (t := (k, D)) (rep := rep) h)
  obtain ⟨z, hz⟩ : ∃ z, puC C (k, D) rep = z := ⟨_, rfl⟩
  obtain ⟨v', hv'⟩ : ∃ v', pcV (rmOf rep) C v = v' := ⟨_, rfl⟩
  obtain ⟨C', hC'⟩ : ∃ C', pcC (rmOf rep) C (k, D) = C' := ⟨_, rfl⟩
  have AN : Hid (∀ c, z = c → c ≠ 0 → ∀ w', Below w.heap.size w w' → PutA C (k, D) rep v w (.returned (.agg #[.int .i64 c, .slice none 0 0, .slice none 0 0, .bool false])) w') := hideP (fun c hc h w' hb => by rw [← hc, ← hz]; exact putA_no (by rw [hz, hc]; exact h) hb)
  have AY : Hid (z = 0 → ∀ w' s c (N : List Mg), N.map Mg.ct = C' → Lin w' w.heap.size s c N → Below w.heap.size w w' → PutA C (k, D) rep v w (.returned (.agg #[.int .i64 0, .slice none 0 0, .slice s N.length c, .bool v'])) w') := hideP (fun h w' s c N hN hl hb => by rw [← hv']; exact putA_yes (rep := rep) (by rw [hz]; exact h) (hN.trans hC'.symm) hl hb)
  obtain ⟨P, hP⟩ : ∃ P, PutA C (k, D) rep v w = P := ⟨_, rfl⟩
  rw [hP] at AN AY ⊢
  rw [hz] at PQ PM PR PO
  have HC' := hideP hC'
  have HV' := hideP hv'
  rw [MFs.out] at MF
  have hnl : n ≤ 1048576 := by omega
  clear hL hR hs hn hz hv' hC' hP MFs hl
  obtain ⟨q, hq⟩ : ∃ q, qF C = q := ⟨_, rfl⟩
  obtain ⟨f, hf⟩ : ∃ f, mF (k, D) = f := ⟨_, rfl⟩
  rw [hq] at PQ PM PR PO QF
  rw [hf] at PM PR PO MF
  clear hq hf
  generalize hdn : D.length = dn at *
  go_enter Try.func49, Try.ntmps49
  go_wp2_with fail
  have K0 : Hid (Below w.heap.size w (((w.alloc (.cells #[.slice so n sc, .bool v] 26)).alloc (.cells #[.int .i64 k, .slice ao dn ca] 28)).alloc (.cells #[.int .i64 0, .slice none 0 0, .slice none 0 0, .bool false] 32))) := hideP (by go_grown)
  have X0 : Hid (Rb (((w.alloc (.cells #[.slice so n sc, .bool v] 26)).alloc (.cells #[.int .i64 k, .slice ao dn ca] 28)).alloc (.cells #[.int .i64 0, .slice none 0 0, .slice none 0 0, .bool false] 32)) (w.heap.size + 1) (.int .i64 k) (.slice ao dn ca)) := hideP (rb_new2 w _ _ _ _ _)
  have Y0 : Hid (Rb (((w.alloc (.cells #[.slice so n sc, .bool v] 26)).alloc (.cells #[.int .i64 k, .slice ao dn ca] 28)).alloc (.cells #[.int .i64 0, .slice none 0 0, .slice none 0 0, .bool false] 32)) w.heap.size (.slice so n sc) (.bool v)) := hideP (rb_new1 w _ _ _ _ _)
  have Z0 : Hid (R4 (((w.alloc (.cells #[.slice so n sc, .bool v] 26)).alloc (.cells #[.int .i64 k, .slice ao dn ca] 28)).alloc (.cells #[.int .i64 0, .slice none 0 0, .slice none 0 0, .bool false] 32)) (w.heap.size + 1 + 1) (.int .i64 0) (.slice none 0 0) (.slice none 0 0) (.bool false)) := hideP (r4_new3 w _ _ _ _ _ _ _)
  have n0 : (((w.alloc (.cells #[.slice so n sc, .bool v] 26)).alloc (.cells #[.int .i64 k, .slice ao dn ca] 28)).alloc (.cells #[.int .i64 0, .slice none 0 0, .slice none 0 0, .bool false] 32)).heap.size = w.heap.size + 3 := by simp
  generalize (((w.alloc (.cells #[.slice so n sc, .bool v] 26)).alloc (.cells #[.int .i64 k, .slice ao dn ca] 28)).alloc (.cells #[.int .i64 0, .slice none 0 0, .slice none 0 0, .bool false] 32)) = W at *
  refine Calls.mono (QF.out w.heap.size W K0.out Y0.out.c0) ?_
  rintro e w1 ⟨rfl, k1⟩
  have K1 := hideP (K0.out.trans (k1.mono (by omega)))
  have X1 := hideP (X0.out.keep k1 (by omega))
  have Y1 := hideP (Y0.out.keep k1 (by omega))
  have Z1 := hideP (Z0.out.keep k1 (by omega))
  have n1 := k1.size
  clear k1 K0 X0 Y0 Z0 QF
  by_cases h1 : q = 0
  · have PM1 := hideP (PM.out h1)
    have PR1 := hideP (PR.out h1)
    have PO1 := hideP (PO.out h1)
    clear PM PR PO PQ
    subst h1
    go_wp2_with fail
    refine Calls.mono (MF.out (w.heap.size + 1) w1 ⟨X1.out.c0, by simpa [hdn] using X1.out.c1⟩) ?_
    rintro e w2 ⟨rfl, k2⟩
    have K2 := hideP (K1.out.trans (k2.mono (by omega)))
    have X2 := hideP (X1.out.keep k2 (by omega))
    have Y2 := hideP (Y1.out.keep k2 (by omega))
    have Z2 := hideP (Z1.out.keep k2 (by omega))
    have n2 := k2.size
    clear k2 K1 X1 Y1 Z1 MF
    by_cases h2 : f = 0
    · have PR2 := hideP (PR1.out h2)
      have PO2 := hideP (PO1.out h2)
      clear PR1 PO1 PM1
      subst h2
      obtain ⟨p0, p1, p2, p3, p4⟩ := X2.out
      go_wp2_with fail
      clear p0 p1 p2 p3 p4
      refine Calls.mono (l6Rep_any k _) ?_
      rintro e w3 ⟨rfl, k3⟩
      have K3 := hideP (K2.out.trans (k3.mono (by omega)))
      have X3 := hideP (X2.out.keep k3 (by omega))
      have Y3 := hideP (Y2.out.keep k3 (by omega))
      have Z3 := hideP (Z2.out.keep k3 (by omega))
      have n3 := k3.size
      clear k3 K2 X2 Y2 Z2
      by_cases h3 : isRep k = rep
      · have h4 : (isRep k == rep) = true := by simp [h3]
        have hz0 := PO2.out h3
        have AY' := hideP (AY.out hz0)
        have PP' := hideP (fun b base s c M w1 kk a1 a2 a3 a4 => PP.out b base s c M w1 kk a1 a2 a3 a4 h3)
        clear h3 AN AY PP PO2 PR2 hz0
        obtain ⟨q0, q1, q2, q3, q4⟩ := Y3.out
        go_wp2_with fail
        clear q0 q1 q2 q3 q4
        refine Calls.mono (CQ.out w3 K3.out) ?_
        rintro e w4 ⟨s, c, M, rfl, hM, L4, k4⟩
        have L4' := hideP L4
        have K4 := hideP (K3.out.trans (k4.mono (by omega)))
        have X4 := hideP (X3.out.keep k4 (by omega))
        have Z4 := hideP (Z3.out.keep k4 (by omega))
        have HM := hideP hM
        have hMn : M.length ≤ 1048576 := by have := congrArg List.length hM; simp at this; omega
        have n4 := k4.size
        clear k4 L4 K3 X3 Y3 Z3 hM CQ
        obtain ⟨p0, p1, p2, p3, p4⟩ := X4.out
        go_wp2_with fail
        clear p0 p1 p2 p3 p4
        have ka := kal3 w4 (.cells #[.slice s M.length c, .bool v] 26)
        have Q5 := hideP (rb_new w4 (.slice s M.length c) (.bool v) 26)
        have L5 := hideP (L4'.out.keep ka)
        have K5 := hideP (K4.out.trans (ka.mono (by omega)))
        have X5 := hideP (X4.out.keep ka (by omega))
        have Z5 := hideP (Z4.out.keep ka (by omega))
        have n5 := ka.size
        clear ka L4' K4 X4 Z4
        generalize w4.alloc (.cells #[.slice s M.length c, .bool v] 26) = w5 at *
        have PU := PP'.out w4.heap.size w3.heap.size s c M w5 K5.out Q5.out L5.out (by omega) hMn
        rw [HM.out, HC'.out, HV'.out] at PU
        have PU' := hideP PU
        clear PU PP'
        refine Calls.mono PU'.out ?_
        rintro e w6 ⟨rfl, ⟨s6, c6, N, B6, hN⟩, k6⟩
        have HB6 := hideP B6
        have HN := hideP hN
        have K6 := hideP (K5.out.trans (k6.mono (by omega)))
        have Z6 := Z5.out.keep k6 (by omega)
        have n6 := k6.size
        clear k6 B6 hN K5 X5 Z5 Q5 L5 PU' HM
        obtain ⟨p0, p1, p2, p3, p4⟩ := HB6.out.box
        obtain ⟨q0, q1, q2, q3, q4, q5, q6, q7, q8⟩ := Z6
        go_wp2
        refine bodyPost_ret (v := .agg #[.int .i64 0, .slice none 0 0, .slice s6 N.length c6, .bool v']) (by simp [results, Try.results49, go_sem, *]) rfl (AY'.out _ s6 c6 N HN.out ?_ ?_)
        · refine Lin.le (base := w3.heap.size) ?_ (by omega)
          repeat' (first | exact HB6.out.lin | refine Lin.set ?_ _ _ (by dsimp only; omega))
        · repeat' (first | exact K6.out | (with_reducible refine Below.setCell ?_ ?_ _) | go_size)
      · have h4 : (isRep k == rep) = false := by simp [h3]
        have AN' := hideP (AN.out 1 (PR2.out h3) (by omega))
        clear h3 AN AY PP CQ
        obtain ⟨p0, p1, p2, p3, p4, p5, p6, p7, p8⟩ := Z3.out
        go_wp2
        refine bodyPost_ret (v := .agg #[.int .i64 1, .slice none 0 0, .slice none 0 0, .bool false]) (by simp [results, Try.results49, go_sem, *]) rfl (AN'.out _ ?_)
        repeat' (first | exact K3.out | (with_reducible refine Below.setCell ?_ ?_ _) | go_size)
    · have h3 : (f != 0) = true := by simpa using h2
      have AN' := hideP (AN.out f (PM1.out h2) h2)
      clear h2 AN AY PP CQ
      obtain ⟨p0, p1, p2, p3, p4, p5, p6, p7, p8⟩ := Z2.out
      go_wp2
      refine bodyPost_ret (v := .agg #[.int .i64 f, .slice none 0 0, .slice none 0 0, .bool false]) (by simp [results, Try.results49, go_sem, *]) rfl (AN'.out _ ?_)
      repeat' (first | exact K2.out | (with_reducible refine Below.setCell ?_ ?_ _) | go_size)
  · have h3 : (q != 0) = true := by simpa using h1
    have AN' := hideP (AN.out q (PQ.out h1) h1)
    clear h1 AN AY PP CQ
    obtain ⟨p0, p1, p2, p3, p4, p5, p6, p7, p8⟩ := Z1.out
    go_wp2
    refine bodyPost_ret (v := .agg #[.int .i64 q, .slice none 0 0, .slice none 0 0, .bool false]) (by simp [results, Try.results49, go_sem, *]) rfl (AN'.out _ ?_)
    repeat' (first | exact K1.out | (with_reducible refine Below.setCell ?_ ?_ _) | go_size)

set_option maxHeartbeats 1000000 in
theorem sPushEvent_any (lo hi : Nat) (so : Option Addr) (sc : Nat) (L : List Mg) (v : Bool) (k : Int) (ao : Option Addr) (ca : Nat) (D : List Int) (w : World) (hL : Ms w lo hi so L) (hs : hi ≤ w.heap.size) (hn : L.length + mzs L ≤ 1048576) (hR : Row .u8 w lo hi ao D) (hl : D.length ≤ 1048576) :
    Calls Try.prog 16 #[.agg #[.slice so L.length sc, .bool v], .agg #[.int .i64 k, .slice ao D.length ca]] w fun e w' => PutA (L.map Mg.ct) (k, D) false v w e w' := by
  have PT := hideP (fun w1 (kk : Below w.heap.size w w1) => put_any lo hi so sc L v k ao ca D false w1 (hL.keep kk hs) (by have := kk.size; omega) hn (hR.keep kk hs) hl)
  generalize L.map Mg.ct = C at *
  generalize L.length = n at *
  generalize D.length = dn at *
  clear hL hR hs hn hl
  go_enter Try.func16, Try.ntmps16
  go_wp2_with fail
  have K0 : Hid (Below w.heap.size w (((w.alloc (.cells #[.slice so n sc, .bool v] 26)).alloc (.cells #[.int .i64 k, .slice ao dn ca] 28)).alloc (.cells #[.int .i64 0, .slice none 0 0, .slice none 0 0, .bool false] 32))) := hideP (by go_grown)
  have Z0 : Hid (R4 (((w.alloc (.cells #[.slice so n sc, .bool v] 26)).alloc (.cells #[.int .i64 k, .slice ao dn ca] 28)).alloc (.cells #[.int .i64 0, .slice none 0 0, .slice none 0 0, .bool false] 32)) (w.heap.size + 1 + 1) (.int .i64 0) (.slice none 0 0) (.slice none 0 0) (.bool false)) := hideP (r4_new3 w _ _ _ _ _ _ _)
  have n0 : (((w.alloc (.cells #[.slice so n sc, .bool v] 26)).alloc (.cells #[.int .i64 k, .slice ao dn ca] 28)).alloc (.cells #[.int .i64 0, .slice none 0 0, .slice none 0 0, .bool false] 32)).heap.size = w.heap.size + 3 := by simp
  generalize (((w.alloc (.cells #[.slice so n sc, .bool v] 26)).alloc (.cells #[.int .i64 k, .slice ao dn ca] 28)).alloc (.cells #[.int .i64 0, .slice none 0 0, .slice none 0 0, .bool false] 32)) = W at *
  refine Calls.mono (PT.out W K0.out) ?_
  rintro e w1 ⟨s, c, N, rfl, hN, hL, k1⟩
  have K1 := hideP (K0.out.trans (k1.mono (by omega)))
  have HN := hideP hN
  have HL := hideP hL
  have Z1 := Z0.out.keep k1 (by omega)
  have n1 := k1.size
  clear k1 hN hL K0 Z0 PT
  obtain ⟨p0, p1, p2, p3, p4, p5, p6, p7, p8⟩ := Z1
  generalize hz : puC C (k, D) false = z at *
  generalize hv : puV C (k, D) false v = v' at *
  go_wp2
  refine bodyPost_ret (v := .agg #[.int .i64 z, .slice none 0 0, .slice s N.length c, .bool v']) (by simp [results, Try.results16, go_sem, *]) rfl ⟨s, c, N, by rw [hz, hv], HN.out, ?_, ?_⟩
  · refine Lin.le (base := W.heap.size) ?_ (by omega)
    repeat' (first | exact HL.out | refine Lin.set ?_ _ _ (by dsimp only; omega))
  · repeat' (first | exact K1.out | (with_reducible refine Below.setCell ?_ ?_ _) | go_size)

set_option maxHeartbeats 1000000 in
theorem sPushReply_any (lo hi : Nat) (so : Option Addr) (sc : Nat) (L : List Mg) (v : Bool) (k : Int) (ao : Option Addr) (ca : Nat) (D : List Int) (w : World) (hL : Ms w lo hi so L) (hs : hi ≤ w.heap.size) (hn : L.length + mzs L ≤ 1048576) (hR : Row .u8 w lo hi ao D) (hl : D.length ≤ 1048576) :
    Calls Try.prog 17 #[.agg #[.slice so L.length sc, .bool v], .agg #[.int .i64 k, .slice ao D.length ca]] w fun e w' => PutA (L.map Mg.ct) (k, D) true v w e w' := by
  have PT := hideP (fun w1 (kk : Below w.heap.size w w1) => put_any lo hi so sc L v k ao ca D true w1 (hL.keep kk hs) (by have := kk.size; omega) hn (hR.keep kk hs) hl)
  generalize L.map Mg.ct = C at *
  generalize L.length = n at *
  generalize D.length = dn at *
  clear hL hR hs hn hl
  go_enter Try.func17, Try.ntmps17
  go_wp2_with fail
  have K0 : Hid (Below w.heap.size w (((w.alloc (.cells #[.slice so n sc, .bool v] 26)).alloc (.cells #[.int .i64 k, .slice ao dn ca] 28)).alloc (.cells #[.int .i64 0, .slice none 0 0, .slice none 0 0, .bool false] 32))) := hideP (by go_grown)
  have Z0 : Hid (R4 (((w.alloc (.cells #[.slice so n sc, .bool v] 26)).alloc (.cells #[.int .i64 k, .slice ao dn ca] 28)).alloc (.cells #[.int .i64 0, .slice none 0 0, .slice none 0 0, .bool false] 32)) (w.heap.size + 1 + 1) (.int .i64 0) (.slice none 0 0) (.slice none 0 0) (.bool false)) := hideP (r4_new3 w _ _ _ _ _ _ _)
  have n0 : (((w.alloc (.cells #[.slice so n sc, .bool v] 26)).alloc (.cells #[.int .i64 k, .slice ao dn ca] 28)).alloc (.cells #[.int .i64 0, .slice none 0 0, .slice none 0 0, .bool false] 32)).heap.size = w.heap.size + 3 := by simp
  generalize (((w.alloc (.cells #[.slice so n sc, .bool v] 26)).alloc (.cells #[.int .i64 k, .slice ao dn ca] 28)).alloc (.cells #[.int .i64 0, .slice none 0 0, .slice none 0 0, .bool false] 32)) = W at *
  refine Calls.mono (PT.out W K0.out) ?_
  rintro e w1 ⟨s, c, N, rfl, hN, hL, k1⟩
  have K1 := hideP (K0.out.trans (k1.mono (by omega)))
  have HN := hideP hN
  have HL := hideP hL
  have Z1 := Z0.out.keep k1 (by omega)
  have n1 := k1.size
  clear k1 hN hL K0 Z0 PT
  obtain ⟨p0, p1, p2, p3, p4, p5, p6, p7, p8⟩ := Z1
  generalize hz : puC C (k, D) true = z at *
  generalize hv : puV C (k, D) true v = v' at *
  go_wp2
  refine bodyPost_ret (v := .agg #[.int .i64 z, .slice none 0 0, .slice s N.length c, .bool v']) (by simp [results, Try.results17, go_sem, *]) rfl ⟨s, c, N, by rw [hz, hv], HN.out, ?_, ?_⟩
  · refine Lin.le (base := W.heap.size) ?_ (by omega)
    repeat' (first | exact HL.out | refine Lin.set ?_ _ _ (by dsimp only; omega))
  · repeat' (first | exact K1.out | (with_reducible refine Below.setCell ?_ ?_ _) | go_size)
end Go.Proofs.Ytefkngpceeclhaa
