/- The program's drain: a line that holds something. -/
import Derived.Test.YtngmiimendlleaaV32
namespace Go.Proofs.Ytngmiimendlleaa
open Go.RowKit
set_option linter.unusedVariables false
attribute [local go_sem] growUpon growAt
attribute [local go_sem high] run_min_mnQ smg_from_some smg_upto_some

theorem mcs_take (M : List Mg) (k : Nat) : (mcs M).take (k * 2) = mcs (M.take k) := by
  induction M generalizing k with
  | nil => simp [mcs]
  | cons m M ih =>
    cases k with
    | zero => simp [mcs]
    | succ k =>
      have e : (k + 1) * 2 = k * 2 + 1 + 1 := by omega
      simp only [mcs, List.flatMap_cons, List.take_succ_cons] at ih ⊢
      rw [e]
      simp only [Mg.vals, List.cons_append, List.nil_append, List.take_succ_cons, List.cons.injEq, true_and]
      exact ih k
theorem mcs_drop (M : List Mg) (k : Nat) : (mcs M).drop (k * 2) = mcs (M.drop k) := by
  induction M generalizing k with
  | nil => simp [mcs]
  | cons m M ih =>
    cases k with
    | zero => simp
    | succ k =>
      have e : (k + 1) * 2 = k * 2 + 1 + 1 := by omega
      simp only [mcs, List.flatMap_cons, List.drop_succ_cons] at ih ⊢
      rw [e]
      simp only [Mg.vals, List.cons_append, List.nil_append, List.drop_succ_cons]
      exact ih k
theorem mcs_one (M : List Mg) : ∀ v ∈ mcs M, v.oneCell' = true := by
  intro v hv
  simp only [mcs, List.mem_flatMap, Mg.vals] at hv
  obtain ⟨m, _, hv⟩ := hv
  simp at hv
  rcases hv with rfl | rfl <;> rfl
/-- The rest of a row, read where a cut begins. -/
theorem row_src {w : World} {g c : Nat} {M : List Mg} (hc : ∀ i (h : i < M.length), M[i].cells w g (i * 2)) (k : Nat) (hk : k ≤ M.length) (hcap : M.length ≤ c) :
    ∀ j v, (mcs (M.drop k))[j]? = some v → w.cell? ((⟨g, oIdx c k, none⟩ : Addr).add j) = some v := by
  intro j v hj
  have hj' : j < (M.drop k).length * 2 := by have := (List.getElem?_eq_some_iff.1 hj).1; rwa [mcs_len] at this
  have hl : (M.drop k).length = M.length - k := by simp
  have hi : j / 2 < (M.drop k).length := by omega
  have ho : oIdx c k = k * 2 := by unfold oIdx; rw [if_neg (by omega)]
  rw [ho, add_none]
  have hm := mcs_at (M.drop k) (j / 2) hi (j % 2) (by omega)
  rw [show j / 2 * 2 + j % 2 = j by omega, hj] at hm
  obtain ⟨c0, c1⟩ := hc (k + j / 2) (by omega)
  have hg : (M.drop k)[j / 2] = M[k + j / 2]'(by omega) := by simp
  rw [hg] at hm
  have h2 : j % 2 = 0 ∨ j % 2 = 1 := by omega
  rcases h2 with h2 | h2
  · rw [h2] at hm
    simp [Mg.vals] at hm
    rw [hm, ← c0]
    congr 2; omega
  · rw [h2] at hm
    simp [Mg.vals] at hm
    rw [hm, ← c1]
    congr 2; omega

/-- What a row holds, its cells told. -/
structure RowM (w : World) (base g c : Nat) (M : List Mg) (cur : Array Value) : Prop where
  le : base ≤ g
  heap : w.heap[g]? = some (.cells cur 52 (0, 0))
  cap : M.length ≤ c
  most : c ≤ maxLen
  size : cur.size = c * 2
  cells : cur.toList.take (M.length * 2) = mcs M
theorem RowM.row {w : World} {base g c : Nat} {M : List Mg} {cur : Array Value} (h : RowM w base g c M cur) : w.ownsRow base 52 2 (.slice (some ⟨g, 0, none⟩) M.length c) M.length (mcs M) :=
  ⟨mcs_len M, .inr ⟨g, c, cur, rfl, h.le, h.heap, h.cap, h.most, h.size, h.cells⟩⟩
theorem RowM.of {w : World} {base g c : Nat} {M : List Mg} (h : w.ownsRow base 52 2 (.slice (some ⟨g, 0, none⟩) M.length c) M.length (mcs M)) : ∃ cur, RowM w base g c M cur := by
  rcases h.2 with ⟨hv, _⟩ | ⟨g', c', cur, hv, h1, h2, h3, h4, h5, h6⟩
  · cases hv
  · cases hv
    exact ⟨cur, h1, h2, h3, h4, h5, h6⟩
theorem RowM.keep {w w' : World} {base g c : Nat} {M : List Mg} {cur : Array Value} (h : RowM w base g c M cur) (k : Below w.heap.size w w') : RowM w' base g c M cur :=
  ⟨h.le, (k.block g (Array.getElem?_eq_some_iff.1 h.heap).1).trans h.heap, h.cap, h.most, h.size, h.cells⟩
theorem RowM.lt {w : World} {base g c : Nat} {M : List Mg} {cur : Array Value} (h : RowM w base g c M cur) : g < w.heap.size := (Array.getElem?_eq_some_iff.1 h.heap).1
theorem RowM.sp {w : World} {base g c : Nat} {M : List Mg} {cur : Array Value} (h : RowM w base g c M cur) : SpM w base w.heap.size (some ⟨g, 0, none⟩) M := sp_row h.row
theorem RowM.at {w : World} {base g c : Nat} {M : List Mg} {cur : Array Value} (h : RowM w base g c M cur) : ∀ i (h : i < M.length), M[i].cells w g (i * 2) := by
  rcases h.sp with e | ⟨g', e, _, _, hc, _⟩
  · intro i hi; rw [e] at hi; simp at hi
  · cases e; exact hc
/-- The rest copied to the front: so many cells. -/
theorem RowM.front {w : World} {base g c : Nat} {M : List Mg} {cur : Array Value} (h : RowM w base g c M cur) (k : Nat) (hk : k ≤ M.length) :
    RowM (w.setRow g (cur.toList.take 0 ++ mcs (M.drop k) ++ cur.toList.drop (0 + (mcs (M.drop k)).length)).toArray) base g c (M.drop k) (cur.toList.take 0 ++ mcs (M.drop k) ++ cur.toList.drop (0 + (mcs (M.drop k)).length)).toArray := by
  have hl : (M.drop k).length = M.length - k := by simp
  have hc := h.cap
  have hz := h.size
  have hm : (mcs (M.drop k)).length = (M.drop k).length * 2 := mcs_len _
  refine ⟨h.le, setRow_heap w g cur _ _ _ h.heap, by omega, h.most, ?_, ?_⟩
  · simp only [List.size_toArray, List.take_zero, List.nil_append, List.length_append, List.length_drop, Array.length_toList, Nat.zero_add]
    rw [hm, hl]; omega
  · simp only [List.take_zero, List.nil_append, Nat.zero_add]
    rw [← hm, List.take_left]
theorem RowM.clear {w : World} {base g c : Nat} {M : List Mg} {cur : Array Value} (h : RowM w base g c M cur) (k : Nat) (hk : M.length + k ≤ c) :
    RowM (w.setRow g (cur.toList.take (M.length * 2) ++ zrs k ++ cur.toList.drop (M.length * 2 + k * 2)).toArray) base g c M (cur.toList.take (M.length * 2) ++ zrs k ++ cur.toList.drop (M.length * 2 + k * 2)).toArray := by
  have hz := h.size
  refine ⟨h.le, setRow_heap w g cur _ _ _ h.heap, h.cap, h.most, ?_, ?_⟩
  · simp only [List.size_toArray, List.length_append, List.length_drop, Array.length_toList, List.length_take, zrs_len]
    omega
  · have hcl : cur.toList.length = c * 2 := by simpa using hz
    have hcp := h.cap
    have hl : (cur.toList.take (M.length * 2)).length = M.length * 2 := by rw [List.length_take, hcl]; omega
    show ((cur.toList.take (M.length * 2) ++ zrs k ++ cur.toList.drop (M.length * 2 + k * 2)).toArray.toList.take (M.length * 2)) = _
    rw [List.append_assoc, List.take_append_of_le_length (by rw [hl]; exact Nat.le_refl _), List.take_of_length_le (by rw [hl]; exact Nat.le_refl _)]
    exact h.cells

set_option maxRecDepth 100000 in
set_option maxHeartbeats 2000000 in
theorem drain_some (b base g c : Nat) (M : List Mg) (v : Bool) (n : Int) (k : Nat) (w : World) (hR : Rb w b (.slice (some ⟨g, 0, none⟩) M.length c) (.bool v)) (hO : w.ownsRow base 52 2 (.slice (some ⟨g, 0, none⟩) M.length c) M.length (mcs M)) (hB : Bods w base w.heap.size (M.map Mg.b)) (hb : base ≤ b) (hne : M ≠ []) (hM : M.length ≤ 1000) (m : Nat) (hm : M.length = k + m) (hn : mnQ n (M.length : Int) = (k : Int)) :
    Calls Try.prog 21 #[.pointer (some ⟨b, 0, none⟩), .int .i64 n] w fun e w' => ∃ s1 c1, e = .returned (.slice s1 k c1) ∧ Rb w' b (.slice (some ⟨g, 0, none⟩) m c) (.bool v) ∧ SpM w' w.heap.size w'.heap.size s1 (M.take k) ∧ SpM w' base w.heap.size (some ⟨g, 0, none⟩) (M.drop k) ∧ Bods w' base w.heap.size (M.map Mg.b) ∧ Below base w w' := by
  obtain ⟨cur, RM⟩ := RowM.of hO
  have hcap := RM.cap
  have hgl := RM.lt
  have hg0 := RM.le
  have hM' : (M.length : Int) ≤ 1000 := by omega
  have hk : k ≤ M.length := by omega
  have hk' : (k : Int) ≤ (M.length : Int) := by omega
  have hmk : M.length - k = m := by omega
  have hkm : M.length - m = k := by omega
  have hm' : (m : Int) ≤ (M.length : Int) := by omega
  have hmc : (m : Int) ≤ (c : Int) := by have := RM.cap; omega
  have hml : (M.drop k).length = m := by simp; omega
  have hcap' : (M.length : Int) ≤ (c : Int) := by omega
  have hkl : (M.take k).length = k := by simp; omega
  have hlt := hR.lt
  have hbg : b ≠ g := fun e => by
    have h0 := (RM.at 0 (List.length_pos_iff.2 hne)).c0
    rw [Nat.zero_mul, ← e, hR.c0] at h0
    simp at h0
  have hdg : ∀ d ∈ M.map Mg.b, d.L ≠ [] → d.g ≠ g := fun d hd e e' => SpM.ne' RM.at hne (hB.each d hd) e e'.symm
  have CL := hideP (fun w1 (kk : Below w.heap.size w w1) => cloneM_some g c (M.take k) w1 (fun i hi => by simp only [List.getElem_take]; exact (RM.at i (by omega)).keep kk hgl) (by have := kk.size; omega) (by omega))
  rw [hkl] at CL
  have HR := hideP hR
  have HRM := hideP RM
  have HB := hideP hB
  have HDG := hideP hdg
  obtain ⟨p0, p1, p2, p3, p4⟩ := hR
  clear hO hB RM hdg hm
  go_enter Try.func21, Try.ntmps21
  go_wp2_with fail
  clear p0 p1 p2 p3 p4
  refine Calls.mono (CL.out _ (Below.refl _ _)) ?_
  rintro e w1 ⟨s1, c1, rfl, S1, k1⟩
  have R1 := hideP (HR.out.keep k1 hlt)
  have M1 := hideP (HRM.out.keep k1)
  have B1 := hideP (HB.out.keep k1 (Nat.le_refl _))
  have D1 := hideP S1
  have K1 := hideP k1
  have n1 := k1.size
  clear k1 S1 HR HRM HB CL
  obtain ⟨p0, p1, p2, p3, p4⟩ := R1.out
  go_wp2_with fail
  refine wp_region_kept_tail 10 (by kernel_rfl) (by kernel_rfl) ?_
  simp only [List.take_succ_cons, List.take_zero, List.drop_succ_cons, List.drop_zero]
  repeat (refine kept_step (by rfl) ?_; apply Exists.intro; refine ⟨fun w1 k1 => ?_, fun K hK => ?_⟩; (focus (have hc := Kept.cell k1; go_simp; first | done | rfl)); (go_simp; refine hK _ ?_; clear hK K))
  refine wpQuiet_nil ?_
  intro w2 k2
  have kk2 := Kept.below k2
  have R2 := hideP (R1.out.keep kk2 p4)
  have M2 := hideP (M1.out.keep kk2)
  have B2 := hideP (B1.out.keep kk2 (by omega))
  have D2 := hideP ((D1.out.keep kk2 (Nat.le_refl _)).wide (Nat.le_refl _) kk2.size)
  have K2 := hideP (K1.out.trans (kk2.mono n1))
  have n2 := kk2.size
  clear k2 kk2 p0 p1 p2 p3 p4 R1 M1 B1 D1 K1
  obtain ⟨i0, hi0, hz0, hz1, hz2⟩ := info_parts Try.infoM
  have hsz : (Try.prog.info? 52).map (·.size) = some 2 := by rw [hi0]; simp [hz1]
  have hcsz := M2.out.size
  have hmn : Nat.min m M.length = m := Nat.min_eq_left (by omega)
  have hrun := fun ty => cells_copy w2 26 26 ty 52 2 g 0 M.length c ⟨g, oIdx c k, none⟩ m (c - k) cur 52 (mcs (M.drop k)) Try.underlying26 hsz M2.out.heap (by rw [mcs_len, hml, hmn]) (row_src M2.out.at k hk hcap) (by rw [mcs_len, hml, hcsz]; omega) (mcs_one _)
  rw [hmn] at hrun
  have M3 := hideP (M2.out.front k hk)
  have G3 := grown_setRow w2 g (cur.toList.take 0 ++ mcs (M.drop k) ++ cur.toList.drop (0 + (mcs (M.drop k)).length)).toArray
  have F3 := far_setRow w2 g (cur.toList.take 0 ++ mcs (M.drop k) ++ cur.toList.drop (0 + (mcs (M.drop k)).length)).toArray
  have R3 := hideP (R2.out.grown G3 (fun e => hbg (Option.some.inj e)))
  have B3 := hideP (B2.out.farG F3 HDG.out)
  have D3 := hideP ((D2.out.far F3 (by omega) (Nat.le_refl _)).wide (Nat.le_refl _) F3.size)
  have K3 := hideP ((K2.out.mono (show base ≤ w.heap.size by omega)).grown G3 (by omega) (fun q hq => by cases hq; exact hg0))
  have n3 := F3.size
  clear G3 F3 R2 M2 B2 D2 K2 hcsz hsz hmn hi0 hz0 hz1 hz2
  generalize w2.setRow g (cur.toList.take 0 ++ mcs (M.drop k) ++ cur.toList.drop (0 + (mcs (M.drop k)).length)).toArray = w3 at hrun M3 R3 B3 D3 K3 n3
  generalize (cur.toList.take 0 ++ mcs (M.drop k) ++ cur.toList.drop (0 + (mcs (M.drop k)).length)).toArray = cur3 at *
  obtain ⟨w4, hclr, M4, R4, B4, D4, K4, n4⟩ : ∃ w4, (∀ ty, (Builtin.clear_ #[26] ty #[.slice (some ⟨g, oIdx c m, none⟩) k (c - m)]).run Try.prog w3 = .ok (.tuple #[]) w4) ∧ Hid (SpM w4 base w.heap.size (some ⟨g, 0, none⟩) (M.drop k)) ∧ Hid (Rb w4 b (.slice (some ⟨g, 0, none⟩) M.length c) (.bool v)) ∧ Hid (Bods w4 base w.heap.size (M.map Mg.b)) ∧ Hid (SpM w4 w.heap.size w4.heap.size s1 (M.take k)) ∧ Hid (Below base w w4) ∧ w3.heap.size ≤ w4.heap.size := by
    have spn : ∀ W cu, RowM W base g c (M.drop k) cu → SpM W base w.heap.size (some ⟨g, 0, none⟩) (M.drop k) := fun W cu h => by
      rcases h.sp with e | ⟨g', e, h1, h2, h3, h4⟩
      · exact .inl e
      · cases e; exact .inr ⟨g, rfl, h1, hgl, h3, h4⟩
    by_cases hk0 : k = 0
    · exact ⟨w3, fun ty => by rw [hk0]; simp [Builtin.clear_, run_underlying Try.underlying26], spn w3 _ M3.out, R3, B3, D3, K3, Nat.le_refl _⟩
    · have ho : oIdx c m = m * 2 := by unfold oIdx; rw [if_neg (by omega)]
      have hcsz := M3.out.size
      have M4 := M3.out.clear k (by omega)
      have hc := fun ty => cells_clear w3 ty g (m * 2) k (c - m) cur3 52 (by omega) M3.out.heap (by omega)
      rw [hml] at M4
      have G4 := grown_setRow w3 g (cur3.toList.take (m * 2) ++ zrs k ++ cur3.toList.drop (m * 2 + k * 2)).toArray
      have F4 := far_setRow w3 g (cur3.toList.take (m * 2) ++ zrs k ++ cur3.toList.drop (m * 2 + k * 2)).toArray
      refine ⟨_, fun ty => by rw [ho]; exact hc ty, spn _ _ M4, R3.out.grown G4 (fun e => hbg (Option.some.inj e)), B3.out.farG F4 HDG.out, (D3.out.far F4 (by omega) (Nat.le_refl _)).wide (Nat.le_refl _) F4.size, K3.out.grown G4 (by omega) (fun q hq => by cases hq; exact hg0), F4.size⟩
  obtain ⟨p0, p1, p2, p3, p4⟩ := R3.out
  obtain ⟨q0, q1, q2, q3, q4⟩ := R4.out
  go_wp2_with fail
  go_returns
  have FB := (Far.refl b (b + 1) w4).setCell (p := ⟨b, 0, none⟩) (Nat.le_refl _) (Nat.lt_succ_self _) (.slice (some ⟨g, 0, none⟩) m c)
  refine ⟨s1, c1, rfl, R4.out.set0 _, (SpM.far D4.out FB (.inr (by omega)) (Nat.le_refl _)).wide (Nat.le_refl _) FB.size, SpM.otherSet M4.out (fun _ e => hbg (by cases e; rfl)), B4.out.setBox R4.out.c0, K4.out.setCell (p := ⟨b, 0, none⟩) hb _⟩
end Go.Proofs.Ytngmiimendlleaa
