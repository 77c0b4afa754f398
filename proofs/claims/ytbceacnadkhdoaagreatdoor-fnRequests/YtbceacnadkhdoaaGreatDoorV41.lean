/- Requests read back: from their bytes, from their texts. -/
import Derived.Test.YtbceacnadkhdoaaGreatDoorV40
import Derived.Test.YtbceacnadkhdoaaGreatDoorV28
import Derived.Test.YtbceacnadkhdoaaGreatDoorV34
namespace Go.Proofs.YtbceacnadkhdoaaGreatDoor
open Go.RowKit
set_option linter.unusedVariables false

/-- A body that is one is the body of what it reads as. -/
theorem bod_read {L : List Int} (hB : byts L) (h : rdC L = 0) : bod (rdK L) (rdA L) (rdD L) = L ∧ rF (rdK L) (rdA L) (rdD L).length = 0 := by
  cases L with
  | nil => simp [rdC] at h
  | cons k r =>
    by_cases hc : aC k = 0 ∧ aN k ≤ r.length ∧ r.length - aN k ≤ mD k
    · obtain ⟨_, h2, h3, h4⟩ := rd_yes hc
      obtain ⟨c1, c2, c3⟩ := hc
      have hk := aC_iff.1 c1
      rw [h2, h3, h4]
      refine ⟨by unfold bod; simp, ?_⟩
      rw [rF_read hk.1 hk.2 c2 (fun i hi => by have := hB (i + 1) (by simp; omega); simpa using this), if_pos c3]
    · have := (rd_no hc).1
      rw [h] at this; cases this
/-- A request without a fault is what its body reads as. -/
theorem read_bod {k : Int} {A D : List Int} (h : rF k A D.length = 0) : rdC (bod k A D) = 0 ∧ rdK (bod k A D) = k ∧ rdA (bod k A D) = A ∧ rdD (bod k A D) = D := by
  obtain ⟨h1, h2, h3, h4⟩ := rF_ok h
  have e : bod k A D = k :: (A ++ D) := rfl
  rw [e]
  have hc : aC k = 0 ∧ aN k ≤ (A ++ D).length ∧ (A ++ D).length - aN k ≤ mD k := ⟨aC_iff.2 h1, by simp; omega, by simp; omega⟩
  obtain ⟨a, b, c, d⟩ := rd_yes hc
  refine ⟨a, b, ?_, ?_⟩
  · rw [c, ← h2, List.take_left']; rfl
  · rw [d, ← h2, List.drop_left']; rfl
/-- A text that is one is the text of what it reads as. -/
theorem text_read {l : List UInt8} (h : rdC (prL l) = 0) : tX (rdK (prL l)) (rdA (prL l)) (rdD (prL l)) = ⟨l.toArray⟩ := by
  cases hp : psT l with
  | none => rw [prL_none hp] at h; simp [rdC] at h
  | some L =>
    obtain ⟨ht, hb⟩ := txt_psT hp
    rw [prL_some hp] at h ⊢
    obtain ⟨e, hf⟩ := bod_read (fun i hi => hb _ (List.getElem_mem _)) h
    rw [tX_yes hf, e]
    unfold tS
    rw [ht]
/-- A request without a fault is what its text reads as. -/
theorem read_text {k : Int} {A D : List Int} (h : rF k A D.length = 0) (hD : D.all isB = true) : prL (tX k A D).data.toList = bod k A D := by
  obtain ⟨_, _, q1, q2, q3⟩ := rF_lens h
  rw [tX_yes h]
  refine prL_some ?_
  show psT (txt (bod k A D)) = _
  refine psT_txt (by unfold bod; simp) fun n hn => ?_
  have e : bod k A D = k :: (A ++ D) := rfl
  rw [e] at hn
  rcases List.mem_cons.1 hn with rfl | hn
  · omega
  · rcases List.mem_append.1 hn with hn | hn
    · exact isB_yes (List.all_eq_true.1 q3 n hn)
    · exact isB_yes (List.all_eq_true.1 hD n hn)

end Go.Proofs.YtbceacnadkhdoaaGreatDoor
