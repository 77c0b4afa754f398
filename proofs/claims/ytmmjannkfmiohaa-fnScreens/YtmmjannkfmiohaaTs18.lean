/- Panes taken out: DeleteFunc, and what calls it. Windows dropped. Ids of a slot, in order: the program's, the model's; OwnOf. Windows of a slot dropped: the program. -/
import Derived.Test.YtmmjannkfmiohaaTs17
import Derived.Test.YtmmjannkfmiohaaTs13
namespace Go.Proofs.Ytmmjannkfmiohaa
open Go.RowKit Go.Maps
set_option linter.unusedVariables false

def keepI (I : List Int) (v : Wn) : Bool := !hasI I v.i
/-- One whole element written anew. -/
theorem SpV.whole {w : World} {lo hi g : Nat} {X Y : List Wn} {r s : Wn} (h : SpV Wn.pals w lo hi (some ⟨g, 0, none⟩) (X ++ r :: Y)) :
    SpV Wn.pals (((((((w.setCell ⟨g, X.length * 7, none⟩ (.int .i64 s.x)).setCell ⟨g, X.length * 7 + 1, none⟩ (.int .i64 s.y)).setCell ⟨g, X.length * 7 + 2, none⟩ (.int .i64 s.w)).setCell ⟨g, X.length * 7 + 3, none⟩ (.int .i64 s.h)).setCell ⟨g, X.length * 7 + 4, none⟩ (.int .i64 s.i)).setCell ⟨g, X.length * 7 + 5, none⟩ (.bool s.m)).setCell ⟨g, X.length * 7 + 6, none⟩ (.slice s.b.ao s.b.L.length s.b.cap)) lo hi (some ⟨g, 0, none⟩) (X ++ s :: Y) := by
  rcases h with h | ⟨g', ha, g1, g2, hc, hf⟩
  · simp at h
  · cases ha
    have hr := hc X.length (by simp)
    simp only [List.getElem_append_right (Nat.le_refl _), Nat.sub_self, List.getElem_cons_zero] at hr
    have P := put7 (w := w) (g := g) (o := X.length * 7) (.int .i64 s.x) (.int .i64 s.y) (.int .i64 s.w) (.int .i64 s.h) (.int .i64 s.i) (.bool s.m) (.slice s.b.ao s.b.L.length s.b.cap) (fun j hj => by
      rw [hr j hj]
      match j, hj with
      | 0, _ | 1, _ | 2, _ | 3, _ | 4, _ | 5, _ | 6, _ => exact ⟨_, rfl⟩)
    obtain ⟨P1, P2, P3⟩ := P
    refine .inr ⟨g, rfl, g1, g2, fun i hi => ?_, fun c => by simpa using hf c⟩
    have hi' : i < (X ++ r :: Y).length := by simpa using hi
    by_cases e : i = X.length
    · subst e
      simp only [List.getElem_append_right (Nat.le_refl _), Nat.sub_self, List.getElem_cons_zero]
      exact Cl.mkP P1
    · have e2 : (X ++ s :: Y)[i] = (X ++ r :: Y)[i] := by
        by_cases hx : i < X.length
        · rw [List.getElem_append_left hx, List.getElem_append_left hx]
        · obtain ⟨j, rfl⟩ : ∃ j, i = X.length + (j + 1) := ⟨i - X.length - 1, by omega⟩
          simp
      rw [e2]
      intro j hj
      rw [P2 _ (by omega)]
      exact hc i hi' j hj

/-- The first one that is meant. -/
theorem del_or (I : List Int) (L : List Wn) : (∀ v ∈ L, hasI I v.i = false) ∨ ∃ X r Y, L = X ++ r :: Y ∧ (∀ v ∈ X, hasI I v.i = false) ∧ hasI I r.i = true := by
  induction L with
  | nil => exact .inl fun v h => by simp at h
  | cons r L ih =>
    cases hr : hasI I r.i
    · rcases ih with h | ⟨X, s, Y, h1, h2, h3⟩
      · refine .inl fun v hv => ?_
        rcases List.mem_cons.1 hv with rfl | hv
        · exact hr
        · exact h v hv
      · refine .inr ⟨r :: X, s, Y, by rw [h1]; rfl, fun v hv => ?_, h3⟩
        rcases List.mem_cons.1 hv with rfl | hv
        · exact hr
        · exact h2 v hv
    · exact .inr ⟨[], r, L, rfl, fun v hv => by simp at hv, hr⟩
theorem keep_all {I : List Int} {L : List Wn} (h : ∀ v ∈ L, hasI I v.i = false) : L.filter (keepI I) = L :=
  List.filter_eq_self.2 fun v hv => by unfold keepI; rw [h v hv]; rfl

end Go.Proofs.Ytmmjannkfmiohaa

namespace Go.Proofs.Ytmmjannkfmiohaa
open Go.RowKit Go.Maps
set_option linter.unusedVariables false

/-- Without the first one of an id. -/
def cutW (id : Int) : List Wc → List Wc
  | [] => []
  | c :: C => if c.i = id then C else c :: cutW id C
theorem cutW_at {id : Int} {L X Y : List Wn} {r : Wn} (h : Fst id L X r Y) : cutW id (L.map Wn.ct) = X.map Wn.ct ++ Y.map Wn.ct := by
  rw [h.eq]
  have hno := h.no
  have hat := h.at'
  clear h
  induction X with
  | nil => simp only [List.nil_append, List.map_cons, List.map_nil, cutW]; rw [if_pos (by exact hat)]
  | cons v X ih =>
    simp only [List.cons_append, List.map_cons, cutW]
    rw [if_neg (by exact hno v (by simp)), ih fun u hu => hno u (by simp [hu])]
theorem cutW_small (id : Int) (C : List Wc) : (cutW id C).length ≤ C.length ∧ cz (cutW id C) ≤ cz C := by
  induction C with
  | nil => exact ⟨Nat.le_refl _, Nat.le_refl _⟩
  | cons c C ih =>
    unfold cutW
    split
    · simp only [List.length_cons, cz]; omega
    · simp only [List.length_cons, cz]; omega
def dropP (C : List Wc) (id : Int) : List Wc := if askW C id = 0 then cutW id C else []
theorem dropP_yes {L X Y : List Wn} {r : Wn} {id : Int} (h : stF (L.map Wn.ct) = 0) (hf : Fst id L X r Y) : dropP (L.map Wn.ct) id = X.map Wn.ct ++ Y.map Wn.ct := by
  unfold dropP; rw [if_pos (askW_yes h hf), cutW_at hf]
theorem dropP_no {C : List Wc} {id : Int} (h : askW C id ≠ 0) : dropP C id = [] := by unfold dropP; rw [if_neg h]
theorem small_drop {L : List Wn} (id : Int) (h : L.length + wzs L ≤ 1048576) : ∀ N : List Wn, N.map Wn.ct = dropP (L.map Wn.ct) id → N.length + wzs N ≤ 1048576 :=
  small_of (L := L) (by
    have := cutW_small id (L.map Wn.ct)
    rw [cz_wzs, List.length_map] at this
    unfold dropP
    split
    · omega
    · simp [cz])
/-- A stack without a fault has each id once. -/
theorem fst_once {L X Y : List Wn} {r : Wn} {id : Int} (h : stF (L.map Wn.ct) = 0) (hf : Fst id L X r Y) : ∀ v ∈ Y, v.i ≠ id := by
  intro v hv e
  have hI : idsF ((L.map Wn.ct).map Wc.i) = 0 := by
    unfold stF at h
    split at h
    · assumption
    · exact absurd h (by assumption)
  have hN := (idsF_ok hI).2
  have e2 : (L.map Wn.ct).map Wc.i = X.map Wn.i ++ r.i :: Y.map Wn.i := by
    rw [hf.eq, List.map_map, List.map_append, List.map_cons]
    rfl
  rw [e2] at hN
  have h3 := (List.nodup_append.1 hN).2.1
  rw [List.nodup_cons] at h3
  exact h3.1 (by rw [hf.at', ← e]; exact List.mem_map_of_mem hv)
theorem keep_one {L X Y : List Wn} {r : Wn} {id : Int} (h : stF (L.map Wn.ct) = 0) (hf : Fst id L X r Y) : L.filter (keepI [id]) = X ++ Y := by
  have h1 : ∀ v ∈ X, hasI [id] v.i = false := fun v hv => by have := hf.no v hv; unfold hasI; simpa using this
  have h2 : ∀ v ∈ Y, hasI [id] v.i = false := fun v hv => by have := fst_once h hf v hv; unfold hasI; simpa using this
  have h3 : hasI [id] r.i = true := by rw [hf.at']; unfold hasI; simp
  rw [hf.eq, List.filter_append, keep_all h1, List.filter_cons_of_neg (by unfold keepI; rw [h3]; decide), keep_all h2]

end Go.Proofs.Ytmmjannkfmiohaa

namespace Go.Proofs.Ytmmjannkfmiohaa
open Go.RowKit Go.Maps
set_option linter.unusedVariables false
attribute [local go_sem high] fI0 fI1

theorem offL_yes {L : List Int} {s : Int} {k : Nat} (h : k < L.length) (h2 : (slV L[k] == s) = false) : offL (L.take (k + 1)) s = offL (L.take k) s ++ [L[k]] := by
  unfold offL; rw [take_snoc h, List.filter_append]; simp [h2]

theorem offL_no {L : List Int} {s : Int} {k : Nat} (h : k < L.length) (h2 : (slV L[k] == s) = true) : offL (L.take (k + 1)) s = offL (L.take k) s := by
  unfold offL; rw [take_snoc h, List.filter_append]; simp [h2]

theorem slV_at {L : List Int} (h : ∀ x ∈ L, okId x = true) {k : Nat} (hk : k < L.length) : 0 ≤ L[k] ∧ L[k] ≤ 255 ∧ L[k] / 64 = slV L[k] := by
  have h1 := h L[k] (List.getElem_mem hk)
  have h2 := okId_iff.1 h1
  exact ⟨h2.1, h2.2.1, (slV_yes h1).symm⟩

end Go.Proofs.Ytmmjannkfmiohaa

namespace Go.Proofs.Ytmmjannkfmiohaa
open Go.RowKit Go.Maps
set_option linter.unusedVariables false

/-- What both ask of a stack and a slot. -/
def askS (C : List Wc) (s : Int) : Int := if stF C = 0 then (if 0 ≤ s ∧ s ≤ 3 then 0 else 3) else stF C
def offW (s : Int) (C : List Wc) : List Wc := C.filter fun c => !(slV c.i == s)
def slotP (C : List Wc) (s : Int) : List Wc := if askS C s = 0 then offW s C else []
def slotV (C : List Wc) (s : Int) : Int := if askS C s = 0 then (C.length : Int) - ((offW s C).length : Int) else 0
theorem askS_bad {C : List Wc} {s : Int} (h : ¬ stF C = 0) : askS C s = stF C := by unfold askS; rw [if_neg h]
theorem askS_out {C : List Wc} {s : Int} (h : stF C = 0) (hs : ¬ (0 ≤ s ∧ s ≤ 3)) : askS C s = 3 := by unfold askS; rw [if_pos h, if_neg hs]
theorem askS_yes {C : List Wc} {s : Int} (h : stF C = 0) (hs : 0 ≤ s ∧ s ≤ 3) : askS C s = 0 := by unfold askS; rw [if_pos h, if_pos hs]
theorem askS_ok {C : List Wc} {s : Int} (h : askS C s = 0) : stF C = 0 ∧ 0 ≤ s ∧ s ≤ 3 := by
  by_cases h1 : stF C = 0
  · by_cases h2 : 0 ≤ s ∧ s ≤ 3
    · exact ⟨h1, h2⟩
    · rw [askS_out h1 h2] at h; exact absurd h (by decide)
  · rw [askS_bad h1] at h; exact absurd h h1
theorem slotP_no {C : List Wc} {s : Int} (h : askS C s ≠ 0) : slotP C s = [] := by unfold slotP; rw [if_neg h]
theorem slotV_no {C : List Wc} {s : Int} (h : askS C s ≠ 0) : slotV C s = 0 := by unfold slotV; rw [if_neg h]
theorem slotP_yes {C : List Wc} {s : Int} (h : askS C s = 0) : slotP C s = offW s C := by unfold slotP; rw [if_pos h]
theorem slotV_yes {C : List Wc} {s : Int} (h : askS C s = 0) : slotV C s = (C.length : Int) - ((offW s C).length : Int) := by unfold slotV; rw [if_pos h]
theorem offW_small (s : Int) (C : List Wc) : (offW s C).length ≤ C.length ∧ cz (offW s C) ≤ cz C := by
  induction C with
  | nil => exact ⟨Nat.le_refl _, Nat.le_refl _⟩
  | cons c C ih =>
    unfold offW at ih ⊢
    rw [List.filter_cons]
    split
    · simp only [List.length_cons, cz]; omega
    · simp only [List.length_cons, cz]; omega
theorem small_slot {L : List Wn} (s : Int) (h : L.length + wzs L ≤ 1048576) : ∀ N : List Wn, N.map Wn.ct = slotP (L.map Wn.ct) s → N.length + wzs N ≤ 1048576 :=
  small_of (L := L) (by
    have := offW_small s (L.map Wn.ct)
    rw [cz_wzs, List.length_map] at this
    unfold slotP
    split
    · omega
    · simp [cz])
def offN (s : Int) (L : List Wn) : List Wn := L.filter fun v => !(slV v.i == s)
theorem offN_ct (s : Int) (L : List Wn) : (offN s L).map Wn.ct = offW s (L.map Wn.ct) := by
  unfold offN offW
  rw [List.filter_map]
  rfl
theorem keep_slot (s : Int) (L : List Wn) : L.filter (keepI (ownL (L.map Wn.i) s)) = offN s L := by
  unfold offN
  apply List.filter_congr
  intro v hv
  have hm : v.i ∈ L.map Wn.i := List.mem_map_of_mem hv
  unfold keepI hasI ownL
  cases e : (slV v.i == s)
  · have : ¬ v.i ∈ (L.map Wn.i).filter fun x => slV x == s := fun h => by
      have := (List.mem_filter.1 h).2
      rw [e] at this
      exact absurd this (by decide)
    rw [List.contains_eq_mem, decide_eq_false this]
  · have : v.i ∈ (L.map Wn.i).filter fun x => slV x == s := List.mem_filter.2 ⟨hm, e⟩
    rw [List.contains_eq_mem, decide_eq_true this]
theorem own_count (s : Int) (L : List Wn) : (ownL (L.map Wn.i) s).length + (offN s L).length = L.length := by
  induction L with
  | nil => rfl
  | cons v L ih =>
    unfold ownL offN at ih ⊢
    rw [List.map_cons, List.filter_cons, List.filter_cons]
    cases (slV v.i == s)
    · simp only [Bool.not_false, if_true, List.length_cons, Bool.false_eq_true, if_false]; omega
    · simp only [Bool.not_true, if_true, List.length_cons, Bool.false_eq_true, if_false]; omega

end Go.Proofs.Ytmmjannkfmiohaa
