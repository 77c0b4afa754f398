/- Windows of a slot dropped: the program. -/
import Derived.Test.YtejgcheddloffaaTr22
import Derived.Test.YtejgcheddloffaaTr29
import Derived.Test.YtejgcheddloffaaTr14
namespace Go.Proofs.Ytejgcheddloffaa
open Go.RowKit Go.Maps
set_option linter.unusedVariables false

/-- What both ask of a stack and a slot. -/
def askS (C : List Wc) (s : Int) : Int := if stF C = 0 then (if 0 ≤ s ∧ s ≤ 3 then 0 else 3) else stF C
def offW (s : Int) (C : List Wc) : List Wc := C.filter fun c => !(slV c.i == s)
def slotP (C : List Wc) (s : Int) : List Wc := if askS C s = 0 then offW s C else []
def slotV (C : List Wc) (s : Int) : Int := if askS C s = 0 then (C.length : Int) - ((offW s C).length : Int) else 0
theorem askS_bad {C : List Wc} {s : Int} (h : ¬ stF C = 0) : askS C s = stF C := by unfold askS; rw [if_neg h]
theorem askS_out {C : List Wc} {s : Int} (h : stF C = 0) (hs : ¬ (0 ≤ s ∧ s ≤ 3)) : askS C s = 3 := by unfold askS; rw [if_pos h, if_neg hs]
theorem askS_yes {C : List Wc} {s : Int} (h : stF C = 0) (hs : 0 ≤ s ∧ s ≤ 3) : askS C s = 0 := by unfold askS; rw [if_pos h, if_pos hs]
theorem askS_ok {C : List Wc} {s : Int} (h : askS C s = 0) : stF C = 0 ∧ 0 ≤ s ∧ s ≤ 3 := by
  by_cases h1 : stF C = 0
  · by_cases h2 : 0 ≤ s ∧ s ≤ 3
    · exact ⟨h1, h2⟩
    · rw [askS_out h1 h2] at h; exact absurd h (by decide)
  · rw [askS_bad h1] at h; exact absurd h h1
theorem slotP_no {C : List Wc} {s : Int} (h : askS C s ≠ 0) : slotP C s = [] := by unfold slotP; rw [if_neg h]
theorem slotV_no {C : List Wc} {s : Int} (h : askS C s ≠ 0) : slotV C s = 0 := by unfold slotV; rw [if_neg h]
theorem slotP_yes {C : List Wc} {s : Int} (h : askS C s = 0) : slotP C s = offW s C := by unfold slotP; rw [if_pos h]
theorem slotV_yes {C : List Wc} {s : Int} (h : askS C s = 0) : slotV C s = (C.length : Int) - ((offW s C).length : Int) := by unfold slotV; rw [if_pos h]
theorem offW_small (s : Int) (C : List Wc) : (offW s C).length ≤ C.length ∧ cz (offW s C) ≤ cz C := by
  induction C with
  | nil => exact ⟨Nat.le_refl _, Nat.le_refl _⟩
  | cons c C ih =>
    unfold offW at ih ⊢
    rw [List.filter_cons]
    split
    · simp only [List.length_cons, cz]; omega
    · simp only [List.length_cons, cz]; omega
theorem small_slot {L : List Wn} (s : Int) (h : L.length + wzs L ≤ 1048576) : ∀ N : List Wn, N.map Wn.ct = slotP (L.map Wn.ct) s → N.length + wzs N ≤ 1048576 :=
  small_of (L := L) (by
    have := offW_small s (L.map Wn.ct)
    rw [cz_wzs, List.length_map] at this
    unfold slotP
    split
    · omega
    · simp [cz])
def offN (s : Int) (L : List Wn) : List Wn := L.filter fun v => !(slV v.i == s)
theorem offN_ct (s : Int) (L : List Wn) : (offN s L).map Wn.ct = offW s (L.map Wn.ct) := by
  unfold offN offW
  rw [List.filter_map]
  rfl
theorem keep_slot (s : Int) (L : List Wn) : L.filter (keepI (ownL (L.map Wn.i) s)) = offN s L := by
  unfold offN
  apply List.filter_congr
  intro v hv
  have hm : v.i ∈ L.map Wn.i := List.mem_map_of_mem hv
  unfold keepI hasI ownL
  cases e : (slV v.i == s)
  · have : ¬ v.i ∈ (L.map Wn.i).filter fun x => slV x == s := fun h => by
      have := (List.mem_filter.1 h).2
      rw [e] at this
      exact absurd this (by decide)
    rw [List.contains_eq_mem, decide_eq_false this]
  · have : v.i ∈ (L.map Wn.i).filter fun x => slV x == s := List.mem_filter.2 ⟨hm, e⟩
    rw [List.contains_eq_mem, decide_eq_true this]
theorem own_count (s : Int) (L : List Wn) : (ownL (L.map Wn.i) s).length + (offN s L).length = L.length := by
  induction L with
  | nil => rfl
  | cons v L ih =>
    unfold ownL offN at ih ⊢
    rw [List.map_cons, List.filter_cons, List.filter_cons]
    cases (slV v.i == s)
    · simp only [Bool.not_false, if_true, List.length_cons, Bool.false_eq_true, if_false]; omega
    · simp only [Bool.not_true, if_true, List.length_cons, Bool.false_eq_true, if_false]; omega

set_option maxHeartbeats 400000 in
theorem fos_any (lo hi : Nat) (so : Option Addr) (sc : Nat) (L : List Wn) (s : Int) (w : World) (hL : Ws w lo hi so L) (hs : hi ≤ w.heap.size) (hn : L.length + wzs L ≤ 1048576) :
    Calls Try.prog 22 #[.slice so L.length sc, .int .i64 s] w fun e w' => e = .returned (.int .i64 (askS (L.map Wn.ct) s)) ∧ Below w.heap.size w w' := by
  have SF := iStack_any lo hi so sc L w hL hs hn
  by_cases h : stF (L.map Wn.ct) = 0
  · rw [h] at SF
    have SF' := hideP SF
    by_cases h2 : 0 ≤ s ∧ s ≤ 3
    · rw [askS_yes h h2]
      have hd : decide (0 ≤ s ∧ s ≤ 3) = true := decide_eq_true h2
      clear SF hL h h2
      go_enter Try.func22, Try.ntmps22
      go_wp2_with fail
      refine Calls.mono SF'.out ?_
      rintro e w1 ⟨rfl, k1⟩
      have K1 := hideP k1
      clear k1
      go_wp2_with fail
      refine Calls.mono (isSlot_any s w1) ?_
      rintro e w2 ⟨rfl, hw⟩
      subst hw
      rw [hd]
      go_wp2
      go_returns
      exact ⟨rfl, K1.out⟩
    · rw [askS_out h h2]
      have hd : decide (0 ≤ s ∧ s ≤ 3) = false := decide_eq_false h2
      clear SF hL h h2
      go_enter Try.func22, Try.ntmps22
      go_wp2_with fail
      refine Calls.mono SF'.out ?_
      rintro e w1 ⟨rfl, k1⟩
      have K1 := hideP k1
      clear k1
      go_wp2_with fail
      refine Calls.mono (isSlot_any s w1) ?_
      rintro e w2 ⟨rfl, hw⟩
      subst hw
      rw [hd]
      go_wp2
      go_returns
      exact ⟨rfl, K1.out⟩
  · rw [askS_bad h]
    obtain ⟨F, hF⟩ : ∃ F, stF (L.map Wn.ct) = F := ⟨_, rfl⟩
    rw [hF] at SF h ⊢
    have hne : (F != 0) = true := by simpa using h
    have SF' := hideP SF
    clear SF hL h hF
    go_enter Try.func22, Try.ntmps22
    go_wp2_with fail
    refine Calls.mono SF'.out ?_
    rintro e w1 ⟨rfl, k1⟩
    have K1 := hideP k1
    clear k1
    go_wp2
    go_returns
    exact ⟨rfl, K1.out⟩

set_option maxHeartbeats 400000 in
theorem without_none (lo2 hi2 : Nat) (io : Option Addr) (ic : Nat) (I : List Int) (w : World) (hR : Row .i64 w lo2 hi2 io I) (hR2 : hi2 ≤ w.heap.size) (hI : I.length ≤ 1048576) :
    Calls Try.prog 31 #[.slice none 0 0, .slice io I.length ic] w fun e w' => e = .returned (.slice none 0 0) ∧ Below w.heap.size w w' := by
  have ka := kalC w (.cells #[.slice io I.length ic] 36)
  have B0 : Box1 (w.alloc (.cells #[.slice io I.length ic] 36)) w.heap.size lo2 hi2 io ic I := ⟨by simp, hR.keep ka hR2, by simp; omega⟩
  have DEL := del_none w.heap.size 0 0 lo2 hi2 io ic I none 0 [] _ B0 hI (.inl rfl) (Nat.zero_le _) (Nat.zero_le _) (fun v h => by simp at h)
  simp only [List.length_nil] at DEL
  have HD := hideP DEL
  have KA := hideP ka
  clear hR B0 ka DEL
  go_enter Try.func31, Try.ntmps31
  go_wp2_with fail
  refine Calls.mono HD.out ?_
  rintro e w1 ⟨rfl, k1⟩
  have K1 := hideP (KA.out.trans (k1.mono KA.out.size))
  clear k1 HD KA
  go_wp2
  go_returns
  exact ⟨rfl, K1.out⟩
/-- .. of panes of one's own. -/
theorem without_lin (base lo2 hi2 : Nat) (io : Option Addr) (ic : Nat) (I : List Int) (so : Option Addr) (sc : Nat) (M : List Wn) (w : World) (LN : LinV Wn.pals 51 w base so sc M) (hb : base ≤ w.heap.size) (hR : Row .i64 w lo2 hi2 io I) (h2 : hi2 ≤ base) (hI : I.length ≤ 1048576) (hn : M.length ≤ 1048576) :
    Calls Try.prog 31 #[.slice so M.length sc, .slice io I.length ic] w fun e w' => e = .returned (.slice so (M.filter (keepI I)).length sc) ∧ Pan w' base w'.heap.size so (M.filter (keepI I)) ∧ Below base w w' := by
  rcases LN.own.2 with ⟨hv, h0⟩ | ⟨g, cap, cur, hv, hg, _⟩
  · injection hv with hv1 hv2 hv3
    subst hv1 hv3
    have hM : M = [] := List.length_eq_zero_iff.1 h0
    subst hM
    refine (without_none lo2 hi2 io ic I w hR (by omega) hI).mono ?_
    rintro e w' ⟨rfl, k⟩
    exact ⟨rfl, ⟨(wq_none k).wide hb (Nat.le_refl _) (Nat.le_refl _), fun b h => by simp at h⟩, k.mono hb⟩
  · injection hv with hv1 hv2 hv3
    subst hv1 hv3
    obtain ⟨hbl, hlc, hcm, _⟩ := LN.own.blk
    have PN := LN.pan hb
    have hgl : g < w.heap.size := hbl.lt
    refine (without_any base w.heap.size lo2 hi2 g io ic I sc M M.length w hR (by omega) hI (.inl (by omega)) PN.q.sp hbl hlc (Nat.le_refl _) hgl rfl hn).mono ?_
    rintro e w' ⟨rfl, C⟩
    exact ⟨rfl, PN.cut hg C List.filter_sublist, C.far.below hg hb⟩
end Go.Proofs.Ytejgcheddloffaa
