/- ReadBody of the program: where there is a request. -/
import Derived.Test.YtgjbjafodkiilaaTj28
namespace Go.Proofs.Ytgjbjafodkiilaa
open Go.RowKit
set_option linter.unusedVariables false
attribute [local go_sem high] sl_from sl_upto
attribute [local go_sem] growUpon growAt

set_option maxHeartbeats 4000000 in
theorem iRead_ok (lo hi g o ca : Nat) (k : Int) (r : List Int) (w : World) (hR : Row .u8 w lo hi (some ⟨g, o, none⟩) (k :: r)) (hs : hi ≤ w.heap.size) (hn : r.length + 1 ≤ ca) (hB : byts (k :: r)) (h1 : 1 ≤ k) (h2 : k ≤ 13) (h : aN k ≤ r.length) (h' : r.length - aN k ≤ mD k) :
    Calls Try.prog 13 #[.slice (some ⟨g, o, none⟩) (r.length + 1) ca] w fun e w' => ∃ ao' ca' bo' cb' mid, e = .returned (.agg #[.int .i64 0, .int .i64 k, .slice ao' (r.take (aN k)).length ca', .slice bo' (r.drop (aN k)).length cb']) ∧ Below w.heap.size w w' ∧ w.heap.size ≤ mid ∧ mid ≤ w'.heap.size ∧ Wrt .i64 w' w.heap.size mid ao' (r.take (aN k)) ∧ Wrt .u8 w' mid w'.heap.size bo' (r.drop (aN k)) := by
  have hc0 : w.cell? ⟨g, o, none⟩ = some (.int .u8 k) := by
    rcases hR with e | ⟨g', o', e, _, _, hc⟩
    · cases e
    · cases e; exact hc 0 (by simp)
  have hlt : g < w.heap.size := World.block_lt_of_cell? w _ hc0
  have HQ := hideP (hR.from 1 (cap := ca) (by simpa using hn))
  have HBy := hideP (byts_drop hB 1)
  simp only [List.drop_succ_cons, List.drop_zero] at HQ HBy
  have hk7 := aN_le k
  have hk24 := mD_le k
  obtain ⟨c, hcn⟩ : ∃ c, aN k = c := ⟨_, rfl⟩
  obtain ⟨m, hmd⟩ : ∃ m, mD k = m := ⟨_, rfl⟩
  have CA := iArgs_yes k
  have CM := most_any k
  rw [hcn] at h h' hk7 CA ⊢
  rw [hmd] at h' hk24 CM
  have CA' := hideP CA
  have CM' := hideP CM
  have HK := hideP (And.intro h1 h2)
  have hn0 : ((r.length : Int) + 1 == 0) = false := by simp; omega
  have hn1 : (1 : Int) ≤ (r.length : Int) + 1 := by omega
  have hwk : IntKind.i64.wrap k = k := IntWalk.i64_in _ (by omega)
  have hle3 : ¬ r.length < c := by omega
  have hwr : IntKind.i64.wrap ((r.length : Int) - (c : Int)) = (r.length : Int) - (c : Int) := IntWalk.i64_in _ (by omega)
  have hgt : ¬ (m : Int) < (r.length : Int) - (c : Int) := by omega
  have hcap : (c : Int) ≤ ((ca - 1 : Nat) : Int) := by omega
  have hlen : (r.take c).length = c := by simp; omega
  have hdl : (r.drop c).length = r.length - c := by simp
  have HL := hideP hlen
  have HDL := hideP hdl
  clear CA CM hcn hmd h1 h2 hR hB hlen hdl
  go_enter Try.func13, Try.ntmps13
  go_wp2
  refine wp_region_kept (by kernel_rfl) (by kernel_rfl) ?_
  repeat (refine kept_step (by rfl) ?_; apply Exists.intro; refine ⟨fun w1 k1 => ?_, fun K hK => ?_⟩; (focus (have hc := Kept.cell k1; go_simp; first | done | rfl)); (go_simp; refine hK _ ?_; clear hK K))
  refine wpQuiet_nil ?_
  intro w5 k5
  replace k5 := Kept.below k5
  have hc5 := Kept.cell k5
  have hf5 := Kept.frozen k5
  have hz5 := k5.size
  try simp only [World.size_alloc] at hz5
  try simp only [World.size_setCell] at hz5
  try simp only [World.size_drew] at hz5
  have hb5_0 : w.heap.size < w5.heap.size ∧ w.heap.size ≤ w5.heap.size ∧ w.heap.size ≤ w5.heap.size + 1 ∧ ¬ w.heap.size = w5.heap.size ∧ ¬ w.heap.size = w5.heap.size + 1 := by omega
  go_wp2_with (first | (go_at_call 28; refine Calls.mono (CA'.out _ HK.out.1 HK.out.2) ?_; (all_goals try (first | (with_reducible assumption) | omega)); rintro e w1 ⟨rfl, k1⟩; (try replace k1 := kept_join (by assumption) k1); have hc1 := Kept.cell k1; have hf1 := Kept.frozen k1; have hz1 := k1.size; (try simp only [World.size_alloc] at hz1); (try simp only [World.size_setCell] at hz1); (try simp only [World.size_drew] at hz1); (have hb1_0 : w.heap.size < w1.heap.size ∧ w.heap.size ≤ w1.heap.size ∧ w.heap.size ≤ w1.heap.size + 1 ∧ ¬ w.heap.size = w1.heap.size ∧ ¬ w.heap.size = w1.heap.size + 1 := by omega)))
  refine wp_region_wq (by kernel_rfl) (by kernel_rfl) ?_
  repeat (first | (refine wq_up _ (by first | exact wanted_free rfl | exact wanted_yes rfl rfl | exact wanted_no rfl rfl | exact wanted_lost rfl rfl) (by first | with_reducible rfl | decide) ?_; apply Exists.intro; refine ⟨fun w1 k1 => ?_, fun K hK => ?_⟩; (focus (have hc := Kept.cell k1; go_simp; first | done | rfl | (go_at_call 29; exact kept_call_same k1 (CM'.out _)))); (go_simp; refine hK _ ?_; clear hK K)) | (refine wq_off _ (by first | exact wanted_free rfl | exact wanted_yes rfl rfl | exact wanted_no rfl rfl | exact wanted_lost rfl rfl) (by first | with_reducible rfl | decide) ?_; intro K hK; go_simp; refine hK _ ?_; clear hK K))
  refine wq_nil ?_
  intro w6 k6
  replace k6 := Kept.below k6
  have hc6 := Kept.cell k6
  have hf6 := Kept.frozen k6
  have hz6 := k6.size
  try simp only [World.size_alloc] at hz6
  try simp only [World.size_setCell] at hz6
  try simp only [World.size_drew] at hz6
  have hb6_0 : w.heap.size < w6.heap.size ∧ w.heap.size ≤ w6.heap.size ∧ w.heap.size ≤ w6.heap.size + 1 ∧ ¬ w.heap.size = w6.heap.size ∧ ¬ w.heap.size = w6.heap.size + 1 := by omega
  have R1 : R4 w1 w.heap.size (.int .i64 0) (.int .i64 0) (.slice none 0 0) (.slice none 0 0) := R4.keep ⟨by simp, by simp, by simp, by simp, by simp, by simp, by simp, by simp, by simp⟩ k1 (by simp)
  have k16 : Below w1.heap.size w1 w6 := Below.trans (by go_grown) (k6.mono (by simp))
  have R6 := hideP (R1.keep k16 R1.lt)
  have C6 : Hid (Rb w6 w1.heap.size (.int .i64 0) (.int .i64 c)) := hideP (Rb.keep ⟨by simp, by simp, by simp, by simp, by simp⟩ k6 (by simp))
  have K6 : Hid (Below w.heap.size w w6) := hideP ((Below.trans (by go_grown) (k1.mono (by simp)) : Below w.heap.size w w1).trans (k16.mono (by have := R1.lt; omega)))
  have n1 := R1.lt
  have n6 := C6.out.lt
  clear k1 hc1 hf1 hz1 hb1_0 k6 hc6 hf6 hz6 hb6_0 k5 hc5 hf5 hz5 hb5_0 k16 R1
  obtain ⟨s0, s1, s2, s3, s4⟩ := C6.out
  go_wp2
  clear s0 s1 s2 s3 s4
  have ka : Below w6.heap.size w6 (w6.alloc (.cells #[.int .i64 k, .slice none 0 0, .slice none 0 0] 42)) := (Below.refl _ _).alloc (Nat.le_refl _) _
  have B7 : Hid (R3 (w6.alloc (.cells #[.int .i64 k, .slice none 0 0, .slice none 0 0] 42)) w6.heap.size (.int .i64 k) (.slice none 0 0) (.slice none 0 0)) := hideP ⟨by simp, by simp, by simp, by simp, by simp, by simp, by simp⟩
  have K7 := hideP (K6.out.trans (ka.mono (by omega)))
  have R7 := hideP (R6.out.keep ka R6.out.lt)
  have C7 := hideP (C6.out.keep ka C6.out.lt)
  have n7 : (w6.alloc (.cells #[.int .i64 k, .slice none 0 0, .slice none 0 0] 42)).heap.size = w6.heap.size + 1 := by simp
  clear ka K6 R6 C6
  generalize w6.alloc (.cells #[.int .i64 k, .slice none 0 0, .slice none 0 0] 42) = w7 at *
  have N7 := hideP n7
  have hc' : (c : Int) ≤ 7 := by omega
  clear n7
  go_loopw [49] (fun i wr => ∃ (j : Nat) (ao' : Option Addr) (cap' : Nat), j ≤ c ∧ i = .int .i64 j ∧ R3 wr w6.heap.size (.int .i64 k) (.slice ao' (r.take j).length cap') (.slice none 0 0) ∧ OwnR .i64 2 wr (w6.heap.size + 1) ao' cap' (r.take j) ∧ Below (w6.heap.size) w7 wr) (fun i _ => c - (intOf i).toNat)
  case atStart => exact ⟨0, none, 0, Nat.zero_le _, rfl, by simpa using B7.out, by simpa using OwnR.nil .i64 2 w7 (w6.heap.size + 1), Below.refl _ _⟩
  case round =>
    obtain ⟨j, ao1, cap1, hj, rfl, X1, O1, K1⟩ := hrel
    have HX1 := hideP X1
    have HO1 := hideP O1
    have HK1 := hideP K1
    have hz := K1.size
    rw [N7.out] at hz
    obtain ⟨s0, s1, s2, s3, s4, s5, s6⟩ := X1
    clear O1 K1
    by_cases hlt : j < c
    · have hlt' : (j : Int) < (c : Int) := by omega
      have hjr : j < r.length := by omega
      have hne : r ≠ [] := fun e => by rw [e] at hjr; simp at hjr
      rcases HQ.out with e | ⟨g', o', e, _, hg, hc⟩
      · exact absurd e hne
      cases e
      have a0 := (HK1.out.cell (p := ⟨g, sOff o ca 1 + j, none⟩) (by show g < _; omega)).trans ((K7.out.cell (p := ⟨g, sOff o ca 1 + j, none⟩) (by show g < _; omega)).trans (hc j hjr))
      have hx := HBy.out j hjr
      have HT : Hid (r.take (j + 1) = r.take j ++ [r[j]]) := hideP (by rw [List.take_succ_eq_append_getElem hjr])
      have HL1 := hideP (show (r.take j).length ≤ 1000 by simp; omega)
      clear hc hne
      generalize r[j] = x at *
      obtain ⟨x0, x1⟩ := hx
      have hm : IntKind.i64.wrap x = x := IntWalk.i64_in _ (by omega)
      generalize r.take j = M1 at *
      go_wp2_with (first | (at_builtin; refine wpList_app (k := .i64) (T := 2) (S := 40) (bytes := 8) Try.underlying40 Try.infoI (by omega) rfl _ _ rfl (w6.heap.size + 1) ao1 cap1 M1 rfl (HO1.out.alloc _) _ 1 [x] rfl (src_one .i64 wr x 2) (by have := HL1.out; simp; omega) (by simp; omega) ?_; intro ao2 cap2 w2 O2 K2; refine Hid.out ?_) | go_in)
      have X2 := HX1.out.keep ((Below.refl (w6.heap.size + 1) wr).alloc (by omega) (.cells #[.int .i64 x] 2) |>.trans K2) (by omega)
      have HX2 := hideP X2
      have HO2 := hideP O2
      have HK2 : Hid (Below w6.heap.size w7 w2) := hideP ((HK1.out.alloc (by omega) _).trans (K2.mono (by omega)))
      clear O2 K2 s0 s1 s2 s3 s4 s5 s6
      obtain ⟨s0, s1, s2, s3, s4, s5, s6⟩ := X2
      refine hideP ?_
      go_wp2
      clear s0 s1 s2 s3 s4 s5 s6
      go_roundw
      case rel =>
        refine ⟨j + 1, ao2, cap2, by omega, by go_num, ?_, ?_, ?_⟩
        · rw [HT.out]; simpa using HX2.out.put1 (.slice ao2 (M1 ++ [x]).length cap2)
        · rw [HT.out]; exact HO2.out.set _ _ (by simp)
        · exact HK2.out.setCell (by simp) _
      case measure => simp [intOf]; omega
    · obtain rfl : j = c := by omega
      have C8 := C7.out.keep HK1.out (by omega)
      have R8 := hideP (R7.out.keep HK1.out (by omega))
      have HS8 := hideP (((HQ.out.from j (cap := ca - 1) (by omega)).keep K7.out hs).keep HK1.out (by omega))
      obtain ⟨t0, t1, t2, t3, t4⟩ := C8
      have K8 := hideP (K7.out.trans (HK1.out.mono (by omega)))
      have hjl : (j : Int) ≤ (r.length : Int) := by omega
      clear R7 C7 B7 HK1
      go_wp2
      refine wp_region_made 6 (by kernel_rfl) (by kernel_rfl) ?_
      simp only [List.take_succ_cons, List.take_zero, List.drop_succ_cons, List.drop_zero]
      repeat (refine grow_step (by rfl) ?_; apply Exists.intro; refine ⟨fun w1 k1 => ?_, fun K hK => ?_⟩; (focus (have hc := Kept.cell k1; go_simp; first | done | rfl)); (go_simp; refine hK _ ?_; clear hK K))
      refine grow_nil ?_
      intro op hop
      cases hop
      refine ⟨by rfl, fun w8 k8 => ?_⟩
      refine made_app_nil (k := .u8) (T := 5) (S := 22) (bytes := 1) Try.underlying22 Try.infoB (by omega) (.tmp 62) (.tmp 66) rfl rfl _ _ (r.drop j) (by rw [HDL.out]; rfl) (HS8.out.keep k8 (by omega)).src (by rw [HDL.out]; omega) ?_
      intro ao9 cap9 w9 O9 k9 w10 k10
      have kk : Below wr.heap.size wr w10 := (Below.trans k8 (k9.mono (Below.size k8))).trans (k10.mono (Nat.le_trans (Below.size k8) k9.size))
      have X10 := HX1.out.keep kk HX1.out.lt
      have HX10 := hideP X10
      have R10 := hideP (R8.out.keep kk R8.out.lt)
      have W10 : Hid (Wrt .u8 w10 wr.heap.size w10.heap.size ao9 (r.drop j)) := hideP ((O9.wrt.keep k10 (Nat.le_refl _)).wide (Below.size k8) k10.size)
      have A10 : Hid (Wrt .i64 w10 (w6.heap.size + 1) wr.heap.size ao1 (r.take j)) := hideP (HO1.out.wrt.keep kk (Nat.le_refl _))
      have K10 := hideP (K8.out.trans (kk.mono (by omega)))
      have n10 := kk.size
      clear O9 k9 k10 k8 kk s0 s1 s2 s3 s4 s5 s6 t0 t1 t2 t3 t4 HX1
      obtain ⟨s0, s1, s2, s3, s4, s5, s6⟩ := X10
      obtain ⟨r0, r1, r2, r3, r4, r5, r6, r7, r8⟩ := R10.out
      have hne1 : ¬ w.heap.size = w6.heap.size := by omega
      have hne2 : ¬ w6.heap.size = w.heap.size := by omega
      go_simp
      go_wp2
      refine bodyPost_ret (v := .agg #[.int .i64 0, .int .i64 k, .slice ao1 j cap1, .slice ao9 (r.length - j) cap9]) (by simp [results, Try.results13, go_sem, *]) rfl ⟨ao1, cap1, ao9, cap9, wr.heap.size, by rw [HL.out, HDL.out], ?_, ?_, ?_, ?_, ?_⟩
      · repeat' (first | exact K10.out | (with_reducible refine Below.setCell ?_ ?_ _) | go_size)
      · omega
      · simp; omega
      · refine Wrt.wide (lo := w6.heap.size + 1) (hi := wr.heap.size) ?_ (by omega) (Nat.le_refl _)
        repeat (refine Wrt.set ?_ _ _ (by dsimp only; omega))
        exact A10.out
      · simp only [World.size_setCell]
        repeat (refine Wrt.set ?_ _ _ (by dsimp only; omega))
        exact W10.out

/-- What ReadBody leaves: a code, and a request's lists, each in blocks of its own. -/
def ReadAns (w : World) (L : List Int) (e : Ending) (w' : World) : Prop :=
  ∃ ao' ca' bo' cb' mid, e = .returned (.agg #[.int .i64 (rdC L), .int .i64 (rdK L), .slice ao' (rdA L).length ca', .slice bo' (rdD L).length cb']) ∧ Below w.heap.size w w' ∧ w.heap.size ≤ mid ∧ mid ≤ w'.heap.size ∧ Wrt .i64 w' w.heap.size mid ao' (rdA L) ∧ Wrt .u8 w' mid w'.heap.size bo' (rdD L)

theorem rd_no {k : Int} {r : List Int} (h : ¬ (aC k = 0 ∧ aN k ≤ r.length ∧ r.length - aN k ≤ mD k)) : rdC (k :: r) = 5 ∧ rdK (k :: r) = 0 ∧ rdA (k :: r) = [] ∧ rdD (k :: r) = [] := by
  have hc : rdC (k :: r) = 5 := by simp only [rdC]; rw [if_neg h]
  refine ⟨hc, ?_, ?_, ?_⟩
  · simp only [rdK]; rw [hc, if_neg (by decide)]
  · simp only [rdA]; rw [hc, if_neg (by decide)]
  · simp only [rdD]; rw [hc, if_neg (by decide)]
theorem rd_yes {k : Int} {r : List Int} (h : aC k = 0 ∧ aN k ≤ r.length ∧ r.length - aN k ≤ mD k) : rdC (k :: r) = 0 ∧ rdK (k :: r) = k ∧ rdA (k :: r) = r.take (aN k) ∧ rdD (k :: r) = r.drop (aN k) := by
  have hc : rdC (k :: r) = 0 := by simp only [rdC]; rw [if_pos h]
  refine ⟨hc, ?_, ?_, ?_⟩
  · simp only [rdK]; rw [hc, if_pos rfl]
  · simp only [rdA]; rw [hc, if_pos rfl]
  · simp only [rdD]; rw [hc, if_pos rfl]
theorem ans_no {w : World} {L : List Int} {e : Ending} {w' : World} (hL : rdC L = 5 ∧ rdK L = 0 ∧ rdA L = [] ∧ rdD L = []) (he : e = .returned (.agg #[.int .i64 5, .int .i64 0, .slice none 0 0, .slice none 0 0])) (hb : Below w.heap.size w w') : ReadAns w L e w' := by
  obtain ⟨h1, h2, h3, h4⟩ := hL
  exact ⟨none, 0, none, 0, w.heap.size, by rw [he, h1, h2, h3, h4]; rfl, hb, Nat.le_refl _, hb.size, by rw [h3]; exact .inl rfl, by rw [h4]; exact .inl rfl⟩
theorem rd_five {L : List Int} (h : rdC L = 5) : rdC L = 5 ∧ rdK L = 0 ∧ rdA L = [] ∧ rdD L = [] := by
  cases L with
  | nil => exact ⟨rfl, rfl, rfl, rfl⟩
  | cons k r =>
    refine rd_no fun hh => ?_
    rw [(rd_yes hh).1] at h
    omega
theorem aC_iff {k : Int} : aC k = 0 ↔ 1 ≤ k ∧ k ≤ 13 := by
  constructor
  · intro h
    by_cases hk : 1 ≤ k ∧ k ≤ 13
    · exact hk
    · rw [aC_no (by omega)] at h; omega
  · intro h; exact aC_yes h.1 h.2

theorem row_head {k : IntKind} {w : World} {lo hi : Nat} {ao : Option Addr} {x : Int} {r : List Int} (h : Row k w lo hi ao (x :: r)) : ∃ g o, ao = some ⟨g, o, none⟩ ∧ w.cell? ⟨g, o, none⟩ = some (.int k x) := by
  rcases h with e | ⟨g, o, rfl, _, _, hc⟩
  · cases e
  · exact ⟨g, o, rfl, hc 0 (by simp)⟩

/-- ReadBody of the program at every body. -/
theorem iRead_any (lo hi : Nat) (ao : Option Addr) (ca : Nat) (L : List Int) (w : World) (hR : Row .u8 w lo hi ao L) (hs : hi ≤ w.heap.size) (hn : L.length ≤ ca) (hl : L.length ≤ 2097152) (hB : byts L) :
    Calls Try.prog 13 #[.slice ao L.length ca] w (ReadAns w L) := by
  cases L with
  | nil => exact (iRead_nil ao ca w).mono fun e w' ⟨he, hb⟩ => ans_no ⟨rfl, rfl, rfl, rfl⟩ he hb
  | cons k r =>
    obtain ⟨g, o, rfl, hc⟩ := row_head hR
    have hk : 0 ≤ k ∧ k ≤ 255 := hB 0 (by simp)
    simp only [List.length_cons] at hn hl ⊢
    by_cases h1 : aC k = 0
    · have h1' := aC_iff.1 h1
      by_cases h2 : aN k ≤ r.length
      · by_cases h3 : r.length - aN k ≤ mD k
        · obtain ⟨e1, e2, e3, e4⟩ := rd_yes (k := k) (r := r) ⟨h1, h2, h3⟩
          refine (iRead_ok lo hi g o ca k r w hR hs hn hB h1'.1 h1'.2 h2 h3).mono fun e w' hh => ?_
          unfold ReadAns
          rw [e1, e2, e3, e4]
          exact hh
        · exact (iRead_long g o r.length ca k w hc hn hl hk.1 hk.2 h1'.1 h1'.2 h2 (by omega)).mono fun e w' ⟨he, hb⟩ => ans_no (rd_no fun hh => h3 hh.2.2) he hb
      · exact (iRead_short g o r.length ca k w hc hn hl hk.1 hk.2 h1'.1 h1'.2 (by omega)).mono fun e w' ⟨he, hb⟩ => ans_no (rd_no fun hh => h2 hh.2.1) he hb
    · exact (iRead_kind g o r.length ca k w hc hn hl hk.1 hk.2 (by have := mt aC_iff.2 h1; omega)).mono fun e w' ⟨he, hb⟩ => ans_no (rd_no fun hh => h1 hh.1) he hb

end Go.Proofs.Ytgjbjafodkiilaa
