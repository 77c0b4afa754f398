/- Windows dropped. -/
import Derived.Test.YtfklmpfjllonpabWd5
namespace Go.Proofs.Ytfklmpfjllonpab
open Go.RowKit Go.Maps
set_option linter.unusedVariables false

/-- Without the first one of an id. -/
def cutW (id : Int) : List Wc → List Wc
  | [] => []
  | c :: C => if c.i = id then C else c :: cutW id C
theorem cutW_at {id : Int} {L X Y : List Wn} {r : Wn} (h : Fst id L X r Y) : cutW id (L.map Wn.ct) = X.map Wn.ct ++ Y.map Wn.ct := by
  rw [h.eq]
  have hno := h.no
  have hat := h.at'
  clear h
  induction X with
  | nil => simp only [List.nil_append, List.map_cons, List.map_nil, cutW]; rw [if_pos (by exact hat)]
  | cons v X ih =>
    simp only [List.cons_append, List.map_cons, cutW]
    rw [if_neg (by exact hno v (by simp)), ih fun u hu => hno u (by simp [hu])]
theorem cutW_small (id : Int) (C : List Wc) : (cutW id C).length ≤ C.length ∧ cz (cutW id C) ≤ cz C := by
  induction C with
  | nil => exact ⟨Nat.le_refl _, Nat.le_refl _⟩
  | cons c C ih =>
    unfold cutW
    split
    · simp only [List.length_cons, cz]; omega
    · simp only [List.length_cons, cz]; omega
def dropP (C : List Wc) (id : Int) : List Wc := if askW C id = 0 then cutW id C else []
theorem dropP_yes {L X Y : List Wn} {r : Wn} {id : Int} (h : stF (L.map Wn.ct) = 0) (hf : Fst id L X r Y) : dropP (L.map Wn.ct) id = X.map Wn.ct ++ Y.map Wn.ct := by
  unfold dropP; rw [if_pos (askW_yes h hf), cutW_at hf]
theorem dropP_no {C : List Wc} {id : Int} (h : askW C id ≠ 0) : dropP C id = [] := by unfold dropP; rw [if_neg h]
theorem small_drop {L : List Wn} (id : Int) (h : L.length + wzs L ≤ 1048576) : ∀ N : List Wn, N.map Wn.ct = dropP (L.map Wn.ct) id → N.length + wzs N ≤ 1048576 :=
  small_of (L := L) (by
    have := cutW_small id (L.map Wn.ct)
    rw [cz_wzs, List.length_map] at this
    unfold dropP
    split
    · omega
    · simp [cz])
/-- A stack without a fault has each id once. -/
theorem fst_once {L X Y : List Wn} {r : Wn} {id : Int} (h : stF (L.map Wn.ct) = 0) (hf : Fst id L X r Y) : ∀ v ∈ Y, v.i ≠ id := by
  intro v hv e
  have hI : idsF ((L.map Wn.ct).map Wc.i) = 0 := by
    unfold stF at h
    split at h
    · assumption
    · exact absurd h (by assumption)
  have hN := (idsF_ok hI).2
  have e2 : (L.map Wn.ct).map Wc.i = X.map Wn.i ++ r.i :: Y.map Wn.i := by
    rw [hf.eq, List.map_map, List.map_append, List.map_cons]
    rfl
  rw [e2] at hN
  have h3 := (List.nodup_append.1 hN).2.1
  rw [List.nodup_cons] at h3
  exact h3.1 (by rw [hf.at', ← e]; exact List.mem_map_of_mem hv)
theorem keep_one {L X Y : List Wn} {r : Wn} {id : Int} (h : stF (L.map Wn.ct) = 0) (hf : Fst id L X r Y) : L.filter (keepI [id]) = X ++ Y := by
  have h1 : ∀ v ∈ X, hasI [id] v.i = false := fun v hv => by have := hf.no v hv; unfold hasI; simpa using this
  have h2 : ∀ v ∈ Y, hasI [id] v.i = false := fun v hv => by have := fst_once h hf v hv; unfold hasI; simpa using this
  have h3 : hasI [id] r.i = true := by rw [hf.at']; unfold hasI; simp
  rw [hf.eq, List.filter_append, keep_all h1, List.filter_cons_of_neg (by unfold keepI; rw [h3]; decide), keep_all h2]

end Go.Proofs.Ytfklmpfjllonpab
