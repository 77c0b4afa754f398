/- Messages drawn. Queues drawn, right ones. -/
import Derived.Test.YtefkngpceeclhaaV7
import Derived.Test.YtefkngpceeclhaaV27
namespace Go.Proofs.Ytefkngpceeclhaa
open Go.RowKit
set_option linter.unusedVariables false
attribute [local go_sem] growUpon growAt

theorem Turn.asFar {b : Nat} {w w' : World} (h : Turn b w w') : Far b (b + 1) w w' := ⟨h.os, h.tape, h.output, h.size, fun q hq hd => h.block q hq (by omega)⟩
theorem Far.asGrown {b : Nat} {w w' : World} (h : Far b (b + 1) w w') : w.grownBy w' (some b) := ⟨h.os, h.tape, h.output, h.size, fun q hq hd => h.block q hq (by
  have : q ≠ b := fun e => hd (by rw [e])
  omega)⟩
theorem OwnM.far1 {w w' : World} {base b : Nat} {so : Option Addr} {sc : Nat} {L : List Mg} (h : OwnM w base so sc L) (f : Far b (b + 1) w w') (hb : b < base) : OwnM w' base so sc L := by
  refine ⟨World.ownsRow.kept h.row f.asGrown ?_, h.z⟩
  cases hv : Value.ownBlock (.slice so L.length sc) with
  | none => exact .inl rfl
  | some q =>
    refine .inr fun e => ?_
    injection e with e
    have := (World.ownsRow.lt h.row q hv).1
    omega
theorem Lin.far1 {w w' : World} {base b : Nat} {so : Option Addr} {sc : Nat} {L : List Mg} (h : Lin w base so sc L) (f : Far b (b + 1) w w') (hb : b < base) : Lin w' base so sc L :=
  ⟨h.own.far1 f hb, (h.bods.far f (.inr (by omega))).wide (Nat.le_refl _) f.size⟩

/-- A message was drawn. -/
def DrM (w : World) (B b : Nat) (a : Option Addr) (len cap : Nat) (f : Nat → Int) (t : Int) (e : Ending) (w' : World) : Prop :=
  ∃ (k : Int) (d : Bd) (D : List Int) (t' : Int), e = .returned (.agg #[.int .i64 k, .slice d.ao D.length d.cap]) ∧ d.L = D ∧ 1 ≤ k ∧ k ≤ 7 ∧ D.length ≤ 3 ∧ byts D ∧ Turn b w w' ∧ 0 ≤ t' ∧ t' ≤ t + 10 ∧ Src w' B b a len cap f t' ∧ NewB w w' D d

set_option maxRecDepth 100000 in
set_option maxHeartbeats 2000000 in
theorem drawM_any (w : World) (B b : Nat) (a : Option Addr) (len cap : Nat) (f : Nat → Int) (t : Int) (S : Src w B b a len cap f t) (t0 : 0 ≤ t) (t1 : t ≤ 80000) :
    Calls Try.prog 42 #[.pointer (some ⟨b, 0, none⟩)] w (DrM w B b a len cap f t) := by
  have hlt := S.lt
  have ka := kal3 w (.cells #[.int .i64 0, .slice none 0 0] 28)
  have S1 := hideP (S.grow ka)
  have Z1 := hideP (rb_new w (.int .i64 0) (.slice none 0 0) 28)
  have T1 := hideP (Turn.of_below (b := b) ka)
  clear S ka
  go_enter Try.func42, Try.ntmps42
  go_wp2_with fail
  have n1 : w.heap.size < (w.alloc (.cells #[.int .i64 0, .slice none 0 0] 28)).heap.size := by simp
  generalize w.alloc (.cells #[.int .i64 0, .slice none 0 0] 28) = w1 at *
  refine Calls.mono (next_any w1 B b a len cap f t 7 S1.out t0 (by omega) (by omega) (by omega)) ?_
  rintro e w2 ⟨r, rfl, r0, r7, h2, S2⟩
  have S2' := hideP S2
  have T2 := hideP (T1.out.trans h2)
  have Z2 := hideP (Z1.out.far h2.asFar (by omega))
  have n2 := h2.size
  clear S2 h2 S1 T1 Z1
  go_wp2_with fail
  refine Calls.mono (next_any w2 B b a len cap f (t + 1) 4 S2'.out (by omega) (by omega) (by omega) (by omega)) ?_
  rintro e w3 ⟨q, rfl, q0, q4, h3, S3⟩
  have S3' := hideP S3
  have T3 := hideP (T2.out.trans h3)
  have Z3 := hideP (Z2.out.far h3.asFar (by omega))
  have n3 := h3.size
  obtain ⟨n, rfl⟩ : ∃ n : Nat, q = (n : Int) := ⟨q.toNat, by omega⟩
  clear S3 h3 S2' T2 Z2
  go_wp2_with fail
  refine Calls.mono (some_any w3 B b a len cap f (t + 1 + 1) n S3'.out (by omega) (by omega) (by omega)) ?_
  rintro e w4 ⟨ao, ca, D, rfl, hD, hby, h4, S4, O4⟩
  have S4' := hideP S4
  have T4 := hideP (T3.out.trans h4)
  have Z4 := Z3.out.far h4.asFar (by omega)
  have n4 := h4.size
  obtain ⟨g, N4⟩ := NewB.of_own O4
  have HN := hideP N4
  have HBY := hideP hby
  have hDl : D.length ≤ 3 := by omega
  have hnn : Hid (D.length = n) := hideP hD
  clear S4 h4 S3' T3 Z3 O4 N4 hby hD
  obtain ⟨p0, p1, p2, p3, p4⟩ := Z4
  go_wp2
  refine bodyPost_ret (v := .agg #[.int .i64 (1 + r), .slice ao D.length ca]) (by simp [results, Try.results42, go_sem, *]) rfl ⟨1 + r, ⟨ao, ca, g, D⟩, D, t + 1 + 1 + n, rfl, rfl, by omega, by omega, hDl, HBY.out, ?_, by omega, by omega, ?_, ?_⟩
  · repeat' (first | (with_reducible exact Turn.refl _ _) | (with_reducible refine Turn.setCell ?_ ?_ _) | (with_reducible refine Turn.alloc ?_ _) | (with_reducible refine Turn.drew ?_) | (with_reducible refine Turn.trans ?_ (by assumption)) | go_size)
    exact T4.out
  · repeat' (first | (with_reducible exact S4'.out) | refine Src.store ?_ _ _ (by dsimp only; omega))
  · have hg : D ≠ [] → w3.heap.size ≤ g ∧ g < w4.heap.size := HN.out.inn
    refine ⟨rfl, ?_, fun e => ?_⟩
    · repeat' (first | (with_reducible exact HN.out.on) | refine Bd.on_set ?_ _ _ (fun e => by have := (hg e).1; show w.heap.size ≠ g; omega))
    · have := hg e
      simp only [World.size_setCell]
      show w.heap.size ≤ g ∧ g < w4.heap.size
      omega
end Go.Proofs.Ytefkngpceeclhaa

namespace Go.Proofs.Ytefkngpceeclhaa
open Go.RowKit
set_option linter.unusedVariables false
attribute [local go_sem] growUpon growAt

/-- All messages are right. -/
def okM (C : List (Int × List Int)) : Prop := ∀ t ∈ C, 1 ≤ t.1 ∧ t.1 ≤ 7 ∧ t.2.length ≤ 3
theorem okM_snoc {C : List (Int × List Int)} {t : Int × List Int} (h : okM C) (h1 : 1 ≤ t.1) (h2 : t.1 ≤ 7) (h3 : t.2.length ≤ 3) (room : Int) : okM (pcC room C t) := by
  unfold pcC
  split
  · exact h
  · intro u hu
    rcases List.mem_append.1 hu with hu | hu
    · exact h u hu
    · simp at hu; subst hu; exact ⟨h1, h2, h3⟩
theorem pcC_len (room : Int) (C : List (Int × List Int)) (t : Int × List Int) : (pcC room C t).length ≤ C.length + 1 := by
  unfold pcC
  split
  · omega
  · simp
/-- Bodies are bytes. -/
def byM (C : List (Int × List Int)) : Prop := ∀ t ∈ C, byts t.2
theorem byM_snoc {C : List (Int × List Int)} {t : Int × List Int} (h : byM C) (h1 : byts t.2) (room : Int) : byM (pcC room C t) := by
  unfold pcC
  split
  · exact h
  · intro u hu
    rcases List.mem_append.1 hu with hu | hu
    · exact h u hu
    · simp at hu; subst hu; exact h1

theorem Turn.upon {b B : Nat} {w w1 w2 : World} (h : Turn b w w1) (k : Below B w1 w2) (hB : w.heap.size ≤ B) : Turn b w w2 :=
  ⟨k.os.trans h.os, k.tape.trans h.tape, k.output.trans h.output, Nat.le_trans h.size k.size, fun i hi hb => (k.block i (by omega)).trans (h.block i hi hb)⟩

/-- A queue was drawn. -/
def DrQ (w : World) (B b : Nat) (a : Option Addr) (len cap : Nat) (f : Nat → Int) (t d : Int) (n : Nat) (P : List (Int × List Int) → Prop) (e : Ending) (w' : World) : Prop :=
  ∃ (s : Option Addr) (c : Nat) (M : List Mg) (v : Bool) (t' : Int), e = .returned (.agg #[.slice s M.length c, .bool v]) ∧ P (M.map Mg.ct) ∧ byM (M.map Mg.ct) ∧ M.length ≤ n ∧ Turn b w w' ∧ 0 ≤ t' ∧ t' ≤ t + d ∧ Src w' B b a len cap f t' ∧ Lin w' w.heap.size s c M

set_option maxRecDepth 100000 in
set_option maxHeartbeats 4000000 in
theorem drawQ_any (w : World) (B b : Nat) (a : Option Addr) (len cap : Nat) (f : Nat → Int) (t : Int) (S : Src w B b a len cap f t) (t0 : 0 ≤ t) (t1 : t ≤ 60000) :
    Calls Try.prog 73 #[.pointer (some ⟨b, 0, none⟩)] w (DrQ w B b a len cap f t 200 12 okM) := by
  have hlt := S.lt
  have k2 : Below w.heap.size w ((w.alloc (.cells #[.slice none 0 0, .bool false] 26)).alloc (.cells #[.slice none 0 0, .bool false] 26)) := ((Below.refl _ _).alloc (Nat.le_refl _) _).alloc (by simp) _
  have S1 := hideP (S.grow k2)
  have Z1 : Hid (Rb ((w.alloc (.cells #[.slice none 0 0, .bool false] 26)).alloc (.cells #[.slice none 0 0, .bool false] 26)) w.heap.size (.slice none 0 0) (.bool false)) := hideP ((rb_new w _ _ _).keep (kal3 _ _) (by simp))
  have Y1 : Hid (Rb ((w.alloc (.cells #[.slice none 0 0, .bool false] 26)).alloc (.cells #[.slice none 0 0, .bool false] 26)) (w.heap.size + 1) (.slice none 0 0) (.bool false)) := hideP (by have h := rb_new (w.alloc (.cells #[.slice none 0 0, .bool false] 26)) (.slice none 0 0) (.bool false) 26; rwa [show (w.alloc (.cells #[.slice none 0 0, .bool false] 26)).heap.size = w.heap.size + 1 by simp] at h)
  have T1 := hideP (Turn.of_below (b := b) k2)
  clear S k2
  go_enter Try.func73, Try.ntmps73
  go_wp2_with fail
  have n1 : ((w.alloc (.cells #[.slice none 0 0, .bool false] 26)).alloc (.cells #[.slice none 0 0, .bool false] 26)).heap.size = w.heap.size + 2 := by simp
  generalize (w.alloc (.cells #[.slice none 0 0, .bool false] 26)).alloc (.cells #[.slice none 0 0, .bool false] 26) = w1 at *
  refine Calls.mono (next_any w1 B b a len cap f t 13 S1.out t0 (by omega) (by omega) (by omega)) ?_
  rintro e w2 ⟨r, rfl, r0, r7, h2, S2⟩
  have S2' := hideP S2
  have T2 := hideP (T1.out.trans h2)
  have Z2 := hideP (Z1.out.far h2.asFar (by omega))
  have Y2 := hideP (Y1.out.far h2.asFar (by omega))
  have n2 := h2.size
  obtain ⟨n, rfl⟩ : ∃ n : Nat, r = (n : Int) := ⟨r.toNat, by omega⟩
  clear S2 h2 S1 T1 Z1 Y1
  go_wp2
  go_loopw [4] (fun i wr => ∃ (j : Nat) (s : Option Addr) (c : Nat) (M : List Mg) (v : Bool) (t' : Int), j ≤ n ∧ i = .int .i64 ((n : Int) - (j : Nat)) ∧ M.length ≤ j ∧ okM (M.map Mg.ct) ∧ byM (M.map Mg.ct) ∧ Turn b w wr ∧ 0 ≤ t' ∧ t' ≤ t + 1 + 12 * (j : Int) ∧ Src wr B b a len cap f t' ∧ Rb wr w.heap.size (.slice none 0 0) (.bool false) ∧ Rb wr (w.heap.size + 1) (.slice s M.length c) (.bool v) ∧ Lin wr (w.heap.size + 1) s c M) (fun i _ => (intOf i).toNat)
  case atStart => exact ⟨0, none, 0, [], false, t + 1, Nat.zero_le _, by simp, Nat.le_refl _, fun t h => by simp at h, fun t h => by simp at h, T2.out, by omega, by omega, S2'.out, Z2.out, Y2.out, Lin.nil _ _⟩
  case round =>
    obtain ⟨j, s, c, M, v, t', hj, rfl, hMj, hok, hby, hT, ht0, ht1, hS, hZ, hY, hL⟩ := hrel
    have HT := hideP hT
    have HS := hideP hS
    have HZ := hideP hZ
    have HY := hideP hY
    have HL := hideP hL
    have HOK := hideP hok
    have HBY := hideP hby
    have hz := hY.lt
    clear hT hS hZ hY hL hok hby S2' T2 Z2 Y2
    by_cases hlt' : j < n
    · have hpos : (0 : Int) < (n : Int) - (j : Nat) := by omega
      go_wp2_with fail
      refine Calls.mono (drawM_any wr B b a len cap f t' HS.out ht0 (by omega)) ?_
      rintro e w3 ⟨k, d, D, t3, rfl, hd, hk1, hk7, hD3, hbyD, h3, ht30, ht31, S3, N3⟩
      have HS3 := hideP S3
      have HT3 := hideP (HT.out.trans h3)
      have HZ3 := hideP (HZ.out.far h3.asFar (by omega))
      have HY3 := hideP (HY.out.far h3.asFar (by omega))
      have HL3 := hideP (HL.out.far1 h3.asFar (by omega))
      have n3 := h3.size
      obtain ⟨lo, hi, hrow, hhi⟩ := Bd.row N3.on
      rw [hd] at hrow
      have HRW := hideP hrow
      have HBD := hideP hbyD
      clear S3 h3 HS HT HZ HY HL N3 hrow hbyD
      obtain ⟨rep, hrep⟩ : ∃ rep, isRep k = rep := ⟨_, rfl⟩
      have PU := push_rep lo hi (w.heap.size + 1) (w.heap.size + 1) s c M v k d.ao d.cap D rep w3 HY3.out HL3.out HRW.out hhi (Nat.le_refl _) (by omega) (by omega) hrep
      have PU' := hideP PU
      clear PU HRW hrep
      go_wp2_with fail
      refine Calls.mono PU'.out ?_
      rintro e w4 ⟨rfl, ⟨s4, c4, N, B4, hN⟩, k4⟩
      have HS4 := hideP (HS3.out.below k4 (by omega))
      have HT4 := hideP (HT3.out.upon k4 (by omega))
      have HZ4 := hideP (HZ3.out.keep k4 (by omega))
      have HB4 := hideP B4
      have HNN := hideP hN
      have hl4 : N.length ≤ j + 1 := by
        have h1 := congrArg List.length hN
        have h2 := pcC_len (rmOf rep) (M.map Mg.ct) (k, D)
        simp at h1 h2
        omega
      clear k4 B4 hN HS3 HT3 HZ3 HY3 HL3 PU'
      go_wp2
      go_roundw
      case rel =>
        refine ⟨j + 1, s4, c4, N, _, t3, by omega, by go_num, hl4, ?_, ?_, HT4.out, ht30, by push_cast; omega, HS4.out, HZ4.out, HB4.out.box, HB4.out.lin⟩
        · rw [HNN.out]; exact okM_snoc HOK.out hk1 hk7 hD3 _
        · rw [HNN.out]; exact byM_snoc HBY.out HBD.out _
      case measure => simp [intOf]; omega
    · have hnn : ¬ (0 : Int) < (n : Int) - (j : Nat) := by omega
      obtain ⟨p0, p1, p2, p3, p4⟩ := HZ.out
      obtain ⟨q0, q1, q2, q3, q4⟩ := HY.out
      go_wp2
      refine bodyPost_ret (v := .agg #[.slice s M.length c, .bool v]) (by simp [results, Try.results73, go_sem, *]) rfl ⟨s, c, M, v, t', rfl, HOK.out, HBY.out, by omega, ?_, ht0, by omega, ?_, ?_⟩
      · repeat' (first | (with_reducible exact Turn.refl _ _) | (with_reducible refine Turn.setCell ?_ ?_ _) | (with_reducible refine Turn.alloc ?_ _) | (with_reducible refine Turn.drew ?_) | (with_reducible refine Turn.trans ?_ (by assumption)) | go_size)
        exact HT.out
      · repeat' (first | (with_reducible exact HS.out) | refine Src.store ?_ _ _ (by dsimp only; omega))
      · refine Lin.le (base := w.heap.size + 1) ?_ (by omega)
        repeat' (first | (with_reducible exact HL.out) | refine Lin.set ?_ _ _ (by dsimp only; omega))
end Go.Proofs.Ytefkngpceeclhaa
