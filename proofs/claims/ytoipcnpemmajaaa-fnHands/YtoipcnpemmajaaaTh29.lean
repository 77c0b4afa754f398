/- Windows dropped. Ids of a slot, in order: the program's, the model's; OwnOf. Windows of a slot dropped: the program. The lowest free id of a slot: walks, one for each slot and each case. (Written by genid.py.) -/
import Derived.Test.YtoipcnpemmajaaaTh28
import Derived.Test.YtoipcnpemmajaaaTh11
namespace Go.Proofs.Ytoipcnpemmajaaa
open Go.RowKit Go.Maps
set_option linter.unusedVariables false

/-- Without the first one of an id. -/
def cutW (id : Int) : List Wc → List Wc
  | [] => []
  | c :: C => if c.i = id then C else c :: cutW id C
theorem cutW_at {id : Int} {L X Y : List Wn} {r : Wn} (h : Fst id L X r Y) : cutW id (L.map Wn.ct) = X.map Wn.ct ++ Y.map Wn.ct := by
  rw [h.eq]
  have hno := h.no
  have hat := h.at'
  clear h
  induction X with
  | nil => simp only [List.nil_append, List.map_cons, List.map_nil, cutW]; rw [if_pos (by exact hat)]
  | cons v X ih =>
    simp only [List.cons_append, List.map_cons, cutW]
    rw [if_neg (by exact hno v (by simp)), ih fun u hu => hno u (by simp [hu])]
theorem cutW_small (id : Int) (C : List Wc) : (cutW id C).length ≤ C.length ∧ cz (cutW id C) ≤ cz C := by
  induction C with
  | nil => exact ⟨Nat.le_refl _, Nat.le_refl _⟩
  | cons c C ih =>
    unfold cutW
    split
    · simp only [List.length_cons, cz]; omega
    · simp only [List.length_cons, cz]; omega
def dropP (C : List Wc) (id : Int) : List Wc := if askW C id = 0 then cutW id C else []
theorem dropP_yes {L X Y : List Wn} {r : Wn} {id : Int} (h : stF (L.map Wn.ct) = 0) (hf : Fst id L X r Y) : dropP (L.map Wn.ct) id = X.map Wn.ct ++ Y.map Wn.ct := by
  unfold dropP; rw [if_pos (askW_yes h hf), cutW_at hf]
theorem dropP_no {C : List Wc} {id : Int} (h : askW C id ≠ 0) : dropP C id = [] := by unfold dropP; rw [if_neg h]
theorem small_drop {L : List Wn} (id : Int) (h : L.length + wzs L ≤ 1048576) : ∀ N : List Wn, N.map Wn.ct = dropP (L.map Wn.ct) id → N.length + wzs N ≤ 1048576 :=
  small_of (L := L) (by
    have := cutW_small id (L.map Wn.ct)
    rw [cz_wzs, List.length_map] at this
    unfold dropP
    split
    · omega
    · simp [cz])
/-- A stack without a fault has each id once. -/
theorem fst_once {L X Y : List Wn} {r : Wn} {id : Int} (h : stF (L.map Wn.ct) = 0) (hf : Fst id L X r Y) : ∀ v ∈ Y, v.i ≠ id := by
  intro v hv e
  have hI : idsF ((L.map Wn.ct).map Wc.i) = 0 := by
    unfold stF at h
    split at h
    · assumption
    · exact absurd h (by assumption)
  have hN := (idsF_ok hI).2
  have e2 : (L.map Wn.ct).map Wc.i = X.map Wn.i ++ r.i :: Y.map Wn.i := by
    rw [hf.eq, List.map_map, List.map_append, List.map_cons]
    rfl
  rw [e2] at hN
  have h3 := (List.nodup_append.1 hN).2.1
  rw [List.nodup_cons] at h3
  exact h3.1 (by rw [hf.at', ← e]; exact List.mem_map_of_mem hv)
theorem keep_one {L X Y : List Wn} {r : Wn} {id : Int} (h : stF (L.map Wn.ct) = 0) (hf : Fst id L X r Y) : L.filter (keepI [id]) = X ++ Y := by
  have h1 : ∀ v ∈ X, hasI [id] v.i = false := fun v hv => by have := hf.no v hv; unfold hasI; simpa using this
  have h2 : ∀ v ∈ Y, hasI [id] v.i = false := fun v hv => by have := fst_once h hf v hv; unfold hasI; simpa using this
  have h3 : hasI [id] r.i = true := by rw [hf.at']; unfold hasI; simp
  rw [hf.eq, List.filter_append, keep_all h1, List.filter_cons_of_neg (by unfold keepI; rw [h3]; decide), keep_all h2]

end Go.Proofs.Ytoipcnpemmajaaa

namespace Go.Proofs.Ytoipcnpemmajaaa
open Go.RowKit Go.Maps
set_option linter.unusedVariables false
attribute [local go_sem high] fI0 fI1

theorem offL_yes {L : List Int} {s : Int} {k : Nat} (h : k < L.length) (h2 : (slV L[k] == s) = false) : offL (L.take (k + 1)) s = offL (L.take k) s ++ [L[k]] := by
  unfold offL; rw [take_snoc h, List.filter_append]; simp [h2]

theorem offL_no {L : List Int} {s : Int} {k : Nat} (h : k < L.length) (h2 : (slV L[k] == s) = true) : offL (L.take (k + 1)) s = offL (L.take k) s := by
  unfold offL; rw [take_snoc h, List.filter_append]; simp [h2]

theorem slV_at {L : List Int} (h : ∀ x ∈ L, okId x = true) {k : Nat} (hk : k < L.length) : 0 ≤ L[k] ∧ L[k] ≤ 255 ∧ L[k] / 64 = slV L[k] := by
  have h1 := h L[k] (List.getElem_mem hk)
  have h2 := okId_iff.1 h1
  exact ⟨h2.1, h2.2.1, (slV_yes h1).symm⟩

end Go.Proofs.Ytoipcnpemmajaaa

namespace Go.Proofs.Ytoipcnpemmajaaa
open Go.RowKit Go.Maps
set_option linter.unusedVariables false

/-- What both ask of a stack and a slot. -/
def askS (C : List Wc) (s : Int) : Int := if stF C = 0 then (if 0 ≤ s ∧ s ≤ 3 then 0 else 3) else stF C
def offW (s : Int) (C : List Wc) : List Wc := C.filter fun c => !(slV c.i == s)
def slotP (C : List Wc) (s : Int) : List Wc := if askS C s = 0 then offW s C else []
def slotV (C : List Wc) (s : Int) : Int := if askS C s = 0 then (C.length : Int) - ((offW s C).length : Int) else 0
theorem askS_bad {C : List Wc} {s : Int} (h : ¬ stF C = 0) : askS C s = stF C := by unfold askS; rw [if_neg h]
theorem askS_out {C : List Wc} {s : Int} (h : stF C = 0) (hs : ¬ (0 ≤ s ∧ s ≤ 3)) : askS C s = 3 := by unfold askS; rw [if_pos h, if_neg hs]
theorem askS_yes {C : List Wc} {s : Int} (h : stF C = 0) (hs : 0 ≤ s ∧ s ≤ 3) : askS C s = 0 := by unfold askS; rw [if_pos h, if_pos hs]
theorem askS_ok {C : List Wc} {s : Int} (h : askS C s = 0) : stF C = 0 ∧ 0 ≤ s ∧ s ≤ 3 := by
  by_cases h1 : stF C = 0
  · by_cases h2 : 0 ≤ s ∧ s ≤ 3
    · exact ⟨h1, h2⟩
    · rw [askS_out h1 h2] at h; exact absurd h (by decide)
  · rw [askS_bad h1] at h; exact absurd h h1
theorem slotP_no {C : List Wc} {s : Int} (h : askS C s ≠ 0) : slotP C s = [] := by unfold slotP; rw [if_neg h]
theorem slotV_no {C : List Wc} {s : Int} (h : askS C s ≠ 0) : slotV C s = 0 := by unfold slotV; rw [if_neg h]
theorem slotP_yes {C : List Wc} {s : Int} (h : askS C s = 0) : slotP C s = offW s C := by unfold slotP; rw [if_pos h]
theorem slotV_yes {C : List Wc} {s : Int} (h : askS C s = 0) : slotV C s = (C.length : Int) - ((offW s C).length : Int) := by unfold slotV; rw [if_pos h]
theorem offW_small (s : Int) (C : List Wc) : (offW s C).length ≤ C.length ∧ cz (offW s C) ≤ cz C := by
  induction C with
  | nil => exact ⟨Nat.le_refl _, Nat.le_refl _⟩
  | cons c C ih =>
    unfold offW at ih ⊢
    rw [List.filter_cons]
    split
    · simp only [List.length_cons, cz]; omega
    · simp only [List.length_cons, cz]; omega
theorem small_slot {L : List Wn} (s : Int) (h : L.length + wzs L ≤ 1048576) : ∀ N : List Wn, N.map Wn.ct = slotP (L.map Wn.ct) s → N.length + wzs N ≤ 1048576 :=
  small_of (L := L) (by
    have := offW_small s (L.map Wn.ct)
    rw [cz_wzs, List.length_map] at this
    unfold slotP
    split
    · omega
    · simp [cz])
def offN (s : Int) (L : List Wn) : List Wn := L.filter fun v => !(slV v.i == s)
theorem offN_ct (s : Int) (L : List Wn) : (offN s L).map Wn.ct = offW s (L.map Wn.ct) := by
  unfold offN offW
  rw [List.filter_map]
  rfl
theorem keep_slot (s : Int) (L : List Wn) : L.filter (keepI (ownL (L.map Wn.i) s)) = offN s L := by
  unfold offN
  apply List.filter_congr
  intro v hv
  have hm : v.i ∈ L.map Wn.i := List.mem_map_of_mem hv
  unfold keepI hasI ownL
  cases e : (slV v.i == s)
  · have : ¬ v.i ∈ (L.map Wn.i).filter fun x => slV x == s := fun h => by
      have := (List.mem_filter.1 h).2
      rw [e] at this
      exact absurd this (by decide)
    rw [List.contains_eq_mem, decide_eq_false this]
  · have : v.i ∈ (L.map Wn.i).filter fun x => slV x == s := List.mem_filter.2 ⟨hm, e⟩
    rw [List.contains_eq_mem, decide_eq_true this]
theorem own_count (s : Int) (L : List Wn) : (ownL (L.map Wn.i) s).length + (offN s L).length = L.length := by
  induction L with
  | nil => rfl
  | cons v L ih =>
    unfold ownL offN at ih ⊢
    rw [List.map_cons, List.filter_cons, List.filter_cons]
    cases (slV v.i == s)
    · simp only [Bool.not_false, if_true, List.length_cons, Bool.false_eq_true, if_false]; omega
    · simp only [Bool.not_true, if_true, List.length_cons, Bool.false_eq_true, if_false]; omega

end Go.Proofs.Ytoipcnpemmajaaa

namespace Go.Proofs.Ytoipcnpemmajaaa
open Go.RowKit Go.Maps
set_option linter.unusedVariables false
attribute [local go_sem high] fI0 fI1

set_option maxHeartbeats 1000000 in
theorem sNext_0 (lo hi : Nat) (ao : Option Addr) (ca : Nat) (L : List Int) (w : World) (ha : Row .i64 w lo hi ao L) (hl : L.length ≤ 1048576) :
    Calls Try.prog 111 #[.slice ao L.length ca, .int .i64 0] w fun e w' => e = .returned (.int .i64 (nxt L 0)) ∧ w' = w := by
  have C := hideP (fun v => sHas_any lo hi ao ca L v w ha hl)
  clear ha
  cases b1 : hasI L 1
  · have E : Hid (1 = nxt L 0) := (nxt_1 (s := 0) b1).symm
    generalize nxt L 0 = N at *
    go_enter Try.func111, Try.ntmps111
    go_wp2
    refine wp_loop_rounds 4 ?_
    rw [rounds_succ]
    go_wp2_with (go_at_call 98; refine Calls.mono (C.out _) ?_; rintro e w1 ⟨rfl, rfl⟩; rw [b1])
    go_returns
    exact ⟨congrArg (fun x => Ending.returned (.int .i64 x)) E.out, rfl⟩
  cases b2 : hasI L 2
  · have E : Hid (2 = nxt L 0) := (nxt_2 (s := 0) b1 b2).symm
    generalize nxt L 0 = N at *
    go_enter Try.func111, Try.ntmps111
    go_wp2
    refine wp_loop_rounds 4 ?_
    rw [rounds_succ]
    go_wp2_with (go_at_call 98; refine Calls.mono (C.out _) ?_; rintro e w1 ⟨rfl, rfl⟩; rw [b1])
    rw [rounds_succ]
    go_wp2_with (go_at_call 98; refine Calls.mono (C.out _) ?_; rintro e w1 ⟨rfl, rfl⟩; rw [b2])
    go_returns
    exact ⟨congrArg (fun x => Ending.returned (.int .i64 x)) E.out, rfl⟩
  cases b3 : hasI L 3
  · have E : Hid (3 = nxt L 0) := (nxt_3 (s := 0) b1 b2 b3).symm
    generalize nxt L 0 = N at *
    go_enter Try.func111, Try.ntmps111
    go_wp2
    refine wp_loop_rounds 4 ?_
    rw [rounds_succ]
    go_wp2_with (go_at_call 98; refine Calls.mono (C.out _) ?_; rintro e w1 ⟨rfl, rfl⟩; rw [b1])
    rw [rounds_succ]
    go_wp2_with (go_at_call 98; refine Calls.mono (C.out _) ?_; rintro e w1 ⟨rfl, rfl⟩; rw [b2])
    rw [rounds_succ]
    go_wp2_with (go_at_call 98; refine Calls.mono (C.out _) ?_; rintro e w1 ⟨rfl, rfl⟩; rw [b3])
    go_returns
    exact ⟨congrArg (fun x => Ending.returned (.int .i64 x)) E.out, rfl⟩
  have E : Hid (-1 = nxt L 0) := (nxt_4 (s := 0) b1 b2 b3).symm
  generalize nxt L 0 = N at *
  go_enter Try.func111, Try.ntmps111
  go_wp2
  refine wp_loop_rounds 4 ?_
  rw [rounds_succ]
  go_wp2_with (go_at_call 98; refine Calls.mono (C.out _) ?_; rintro e w1 ⟨rfl, rfl⟩; rw [b1])
  rw [rounds_succ]
  go_wp2_with (go_at_call 98; refine Calls.mono (C.out _) ?_; rintro e w1 ⟨rfl, rfl⟩; rw [b2])
  rw [rounds_succ]
  go_wp2_with (go_at_call 98; refine Calls.mono (C.out _) ?_; rintro e w1 ⟨rfl, rfl⟩; rw [b3])
  rw [rounds_succ]
  go_wp2
  go_returns
  exact ⟨congrArg (fun x => Ending.returned (.int .i64 x)) E.out, rfl⟩

set_option maxHeartbeats 1000000 in
theorem sNext_1 (lo hi : Nat) (ao : Option Addr) (ca : Nat) (L : List Int) (w : World) (ha : Row .i64 w lo hi ao L) (hl : L.length ≤ 1048576) :
    Calls Try.prog 111 #[.slice ao L.length ca, .int .i64 1] w fun e w' => e = .returned (.int .i64 (nxt L 1)) ∧ w' = w := by
  have C := hideP (fun v => sHas_any lo hi ao ca L v w ha hl)
  clear ha
  cases b1 : hasI L 65
  · have E : Hid (65 = nxt L 1) := (nxt_1 (s := 1) b1).symm
    generalize nxt L 1 = N at *
    go_enter Try.func111, Try.ntmps111
    go_wp2
    refine wp_loop_rounds 4 ?_
    rw [rounds_succ]
    go_wp2_with (go_at_call 98; refine Calls.mono (C.out _) ?_; rintro e w1 ⟨rfl, rfl⟩; rw [b1])
    go_returns
    exact ⟨congrArg (fun x => Ending.returned (.int .i64 x)) E.out, rfl⟩
  cases b2 : hasI L 66
  · have E : Hid (66 = nxt L 1) := (nxt_2 (s := 1) b1 b2).symm
    generalize nxt L 1 = N at *
    go_enter Try.func111, Try.ntmps111
    go_wp2
    refine wp_loop_rounds 4 ?_
    rw [rounds_succ]
    go_wp2_with (go_at_call 98; refine Calls.mono (C.out _) ?_; rintro e w1 ⟨rfl, rfl⟩; rw [b1])
    rw [rounds_succ]
    go_wp2_with (go_at_call 98; refine Calls.mono (C.out _) ?_; rintro e w1 ⟨rfl, rfl⟩; rw [b2])
    go_returns
    exact ⟨congrArg (fun x => Ending.returned (.int .i64 x)) E.out, rfl⟩
  cases b3 : hasI L 67
  · have E : Hid (67 = nxt L 1) := (nxt_3 (s := 1) b1 b2 b3).symm
    generalize nxt L 1 = N at *
    go_enter Try.func111, Try.ntmps111
    go_wp2
    refine wp_loop_rounds 4 ?_
    rw [rounds_succ]
    go_wp2_with (go_at_call 98; refine Calls.mono (C.out _) ?_; rintro e w1 ⟨rfl, rfl⟩; rw [b1])
    rw [rounds_succ]
    go_wp2_with (go_at_call 98; refine Calls.mono (C.out _) ?_; rintro e w1 ⟨rfl, rfl⟩; rw [b2])
    rw [rounds_succ]
    go_wp2_with (go_at_call 98; refine Calls.mono (C.out _) ?_; rintro e w1 ⟨rfl, rfl⟩; rw [b3])
    go_returns
    exact ⟨congrArg (fun x => Ending.returned (.int .i64 x)) E.out, rfl⟩
  have E : Hid (-1 = nxt L 1) := (nxt_4 (s := 1) b1 b2 b3).symm
  generalize nxt L 1 = N at *
  go_enter Try.func111, Try.ntmps111
  go_wp2
  refine wp_loop_rounds 4 ?_
  rw [rounds_succ]
  go_wp2_with (go_at_call 98; refine Calls.mono (C.out _) ?_; rintro e w1 ⟨rfl, rfl⟩; rw [b1])
  rw [rounds_succ]
  go_wp2_with (go_at_call 98; refine Calls.mono (C.out _) ?_; rintro e w1 ⟨rfl, rfl⟩; rw [b2])
  rw [rounds_succ]
  go_wp2_with (go_at_call 98; refine Calls.mono (C.out _) ?_; rintro e w1 ⟨rfl, rfl⟩; rw [b3])
  rw [rounds_succ]
  go_wp2
  go_returns
  exact ⟨congrArg (fun x => Ending.returned (.int .i64 x)) E.out, rfl⟩

set_option maxHeartbeats 1000000 in
theorem sNext_2 (lo hi : Nat) (ao : Option Addr) (ca : Nat) (L : List Int) (w : World) (ha : Row .i64 w lo hi ao L) (hl : L.length ≤ 1048576) :
    Calls Try.prog 111 #[.slice ao L.length ca, .int .i64 2] w fun e w' => e = .returned (.int .i64 (nxt L 2)) ∧ w' = w := by
  have C := hideP (fun v => sHas_any lo hi ao ca L v w ha hl)
  clear ha
  cases b1 : hasI L 129
  · have E : Hid (129 = nxt L 2) := (nxt_1 (s := 2) b1).symm
    generalize nxt L 2 = N at *
    go_enter Try.func111, Try.ntmps111
    go_wp2
    refine wp_loop_rounds 4 ?_
    rw [rounds_succ]
    go_wp2_with (go_at_call 98; refine Calls.mono (C.out _) ?_; rintro e w1 ⟨rfl, rfl⟩; rw [b1])
    go_returns
    exact ⟨congrArg (fun x => Ending.returned (.int .i64 x)) E.out, rfl⟩
  cases b2 : hasI L 130
  · have E : Hid (130 = nxt L 2) := (nxt_2 (s := 2) b1 b2).symm
    generalize nxt L 2 = N at *
    go_enter Try.func111, Try.ntmps111
    go_wp2
    refine wp_loop_rounds 4 ?_
    rw [rounds_succ]
    go_wp2_with (go_at_call 98; refine Calls.mono (C.out _) ?_; rintro e w1 ⟨rfl, rfl⟩; rw [b1])
    rw [rounds_succ]
    go_wp2_with (go_at_call 98; refine Calls.mono (C.out _) ?_; rintro e w1 ⟨rfl, rfl⟩; rw [b2])
    go_returns
    exact ⟨congrArg (fun x => Ending.returned (.int .i64 x)) E.out, rfl⟩
  cases b3 : hasI L 131
  · have E : Hid (131 = nxt L 2) := (nxt_3 (s := 2) b1 b2 b3).symm
    generalize nxt L 2 = N at *
    go_enter Try.func111, Try.ntmps111
    go_wp2
    refine wp_loop_rounds 4 ?_
    rw [rounds_succ]
    go_wp2_with (go_at_call 98; refine Calls.mono (C.out _) ?_; rintro e w1 ⟨rfl, rfl⟩; rw [b1])
    rw [rounds_succ]
    go_wp2_with (go_at_call 98; refine Calls.mono (C.out _) ?_; rintro e w1 ⟨rfl, rfl⟩; rw [b2])
    rw [rounds_succ]
    go_wp2_with (go_at_call 98; refine Calls.mono (C.out _) ?_; rintro e w1 ⟨rfl, rfl⟩; rw [b3])
    go_returns
    exact ⟨congrArg (fun x => Ending.returned (.int .i64 x)) E.out, rfl⟩
  have E : Hid (-1 = nxt L 2) := (nxt_4 (s := 2) b1 b2 b3).symm
  generalize nxt L 2 = N at *
  go_enter Try.func111, Try.ntmps111
  go_wp2
  refine wp_loop_rounds 4 ?_
  rw [rounds_succ]
  go_wp2_with (go_at_call 98; refine Calls.mono (C.out _) ?_; rintro e w1 ⟨rfl, rfl⟩; rw [b1])
  rw [rounds_succ]
  go_wp2_with (go_at_call 98; refine Calls.mono (C.out _) ?_; rintro e w1 ⟨rfl, rfl⟩; rw [b2])
  rw [rounds_succ]
  go_wp2_with (go_at_call 98; refine Calls.mono (C.out _) ?_; rintro e w1 ⟨rfl, rfl⟩; rw [b3])
  rw [rounds_succ]
  go_wp2
  go_returns
  exact ⟨congrArg (fun x => Ending.returned (.int .i64 x)) E.out, rfl⟩

set_option maxHeartbeats 1000000 in
theorem sNext_3 (lo hi : Nat) (ao : Option Addr) (ca : Nat) (L : List Int) (w : World) (ha : Row .i64 w lo hi ao L) (hl : L.length ≤ 1048576) :
    Calls Try.prog 111 #[.slice ao L.length ca, .int .i64 3] w fun e w' => e = .returned (.int .i64 (nxt L 3)) ∧ w' = w := by
  have C := hideP (fun v => sHas_any lo hi ao ca L v w ha hl)
  clear ha
  cases b1 : hasI L 193
  · have E : Hid (193 = nxt L 3) := (nxt_1 (s := 3) b1).symm
    generalize nxt L 3 = N at *
    go_enter Try.func111, Try.ntmps111
    go_wp2
    refine wp_loop_rounds 4 ?_
    rw [rounds_succ]
    go_wp2_with (go_at_call 98; refine Calls.mono (C.out _) ?_; rintro e w1 ⟨rfl, rfl⟩; rw [b1])
    go_returns
    exact ⟨congrArg (fun x => Ending.returned (.int .i64 x)) E.out, rfl⟩
  cases b2 : hasI L 194
  · have E : Hid (194 = nxt L 3) := (nxt_2 (s := 3) b1 b2).symm
    generalize nxt L 3 = N at *
    go_enter Try.func111, Try.ntmps111
    go_wp2
    refine wp_loop_rounds 4 ?_
    rw [rounds_succ]
    go_wp2_with (go_at_call 98; refine Calls.mono (C.out _) ?_; rintro e w1 ⟨rfl, rfl⟩; rw [b1])
    rw [rounds_succ]
    go_wp2_with (go_at_call 98; refine Calls.mono (C.out _) ?_; rintro e w1 ⟨rfl, rfl⟩; rw [b2])
    go_returns
    exact ⟨congrArg (fun x => Ending.returned (.int .i64 x)) E.out, rfl⟩
  cases b3 : hasI L 195
  · have E : Hid (195 = nxt L 3) := (nxt_3 (s := 3) b1 b2 b3).symm
    generalize nxt L 3 = N at *
    go_enter Try.func111, Try.ntmps111
    go_wp2
    refine wp_loop_rounds 4 ?_
    rw [rounds_succ]
    go_wp2_with (go_at_call 98; refine Calls.mono (C.out _) ?_; rintro e w1 ⟨rfl, rfl⟩; rw [b1])
    rw [rounds_succ]
    go_wp2_with (go_at_call 98; refine Calls.mono (C.out _) ?_; rintro e w1 ⟨rfl, rfl⟩; rw [b2])
    rw [rounds_succ]
    go_wp2_with (go_at_call 98; refine Calls.mono (C.out _) ?_; rintro e w1 ⟨rfl, rfl⟩; rw [b3])
    go_returns
    exact ⟨congrArg (fun x => Ending.returned (.int .i64 x)) E.out, rfl⟩
  have E : Hid (-1 = nxt L 3) := (nxt_4 (s := 3) b1 b2 b3).symm
  generalize nxt L 3 = N at *
  go_enter Try.func111, Try.ntmps111
  go_wp2
  refine wp_loop_rounds 4 ?_
  rw [rounds_succ]
  go_wp2_with (go_at_call 98; refine Calls.mono (C.out _) ?_; rintro e w1 ⟨rfl, rfl⟩; rw [b1])
  rw [rounds_succ]
  go_wp2_with (go_at_call 98; refine Calls.mono (C.out _) ?_; rintro e w1 ⟨rfl, rfl⟩; rw [b2])
  rw [rounds_succ]
  go_wp2_with (go_at_call 98; refine Calls.mono (C.out _) ?_; rintro e w1 ⟨rfl, rfl⟩; rw [b3])
  rw [rounds_succ]
  go_wp2
  go_returns
  exact ⟨congrArg (fun x => Ending.returned (.int .i64 x)) E.out, rfl⟩

theorem sNext_any (lo hi : Nat) (ao : Option Addr) (ca : Nat) (L : List Int) (s : Int) (w : World) (ha : Row .i64 w lo hi ao L) (hl : L.length ≤ 1048576) (h0 : 0 ≤ s) (h3 : s ≤ 3) :
    Calls Try.prog 111 #[.slice ao L.length ca, .int .i64 s] w fun e w' => e = .returned (.int .i64 (nxt L s)) ∧ w' = w := by
  obtain rfl | rfl | rfl | rfl : s = 0 ∨ s = 1 ∨ s = 2 ∨ s = 3 := by omega
  · exact sNext_0 lo hi ao ca L w ha hl
  · exact sNext_1 lo hi ao ca L w ha hl
  · exact sNext_2 lo hi ao ca L w ha hl
  · exact sNext_3 lo hi ao ca L w ha hl

end Go.Proofs.Ytoipcnpemmajaaa
