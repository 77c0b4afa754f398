/- FnJoined: the mathematics; what its walk carries along. -/
import Derived.Test.YtgjbjafodkiilaaTj14
import Derived.Test.YtgjbjafodkiilaaTj27
import Derived.Test.YtgjbjafodkiilaaTj30
import Derived.Test.YtgjbjafodkiilaaTj32
import Derived.Test.YtgjbjafodkiilaaTj41
import Derived.Test.YtgjbjafodkiilaaTj42
namespace Go.Proofs.Ytgjbjafodkiilaa
open Go.RowKit
set_option linter.unusedVariables false

/-- A request without a fault is what its body reads as. -/
theorem read_bodJ {k : Int} {A D : List Int} (h : rF k A D.length = 0) : rdC (bod k A D) = 0 ∧ rdK (bod k A D) = k ∧ rdA (bod k A D) = A ∧ rdD (bod k A D) = D := by
  obtain ⟨h1, h2, h3, h4⟩ := rF_ok h
  have e : bod k A D = k :: (A ++ D) := rfl
  rw [e]
  have hc : aC k = 0 ∧ aN k ≤ (A ++ D).length ∧ (A ++ D).length - aN k ≤ mD k := ⟨aC_iff.2 h1, by simp; omega, by simp; omega⟩
  obtain ⟨a, b, c, d⟩ := rd_yes hc
  refine ⟨a, b, ?_, ?_⟩
  · rw [c, ← h2, List.take_left']; rfl
  · rw [d, ← h2, List.drop_left']; rfl
def bodT (t : Int × List Int × List Int) : List Int := bod t.1 t.2.1 t.2.2
theorem jF_all {C : List (Int × List Int × List Int)} (h : jF C = 0) : ∀ t ∈ C, tF t = 0 := by
  induction C with
  | nil => intro t m; simp at m
  | cons s C ih =>
    intro t m
    unfold jF at h
    by_cases e : tF s = 0
    · rw [if_pos e] at h
      rcases List.mem_cons.1 m with rfl | m
      · exact e
      · exact ih h t m
    · rw [if_neg e] at h; exact absurd h e
theorem tP_yes {t : Int × List Int × List Int} (h : tF t = 0) : tP t = ((bodT t).length : Int) :: bodT t ∧ 1 ≤ (bodT t).length ∧ (bodT t).length ≤ 25 := by
  obtain ⟨k, A, D⟩ := t
  refine ⟨pkL_yes h, ?_, ?_⟩
  · simp [bodT, bod]
  · have := bod_len k A D
    obtain ⟨h3, h4, h5, h6⟩ := rF_ok (k := k) (A := A) (nd := D.length) h
    have h7 := aN_le k
    show (bod k A D).length ≤ 25
    by_cases h11 : k = 11
    · subst h11
      have e1 : aN 11 = 0 := rfl
      have e2 : mD 11 = 24 := rfl
      omega
    · rw [mD_no h11] at h5
      omega
theorem cut_jL {C : List (Int × List Int × List Int)} (h : ∀ t ∈ C, tF t = 0) : cut (jL C) = (C.map bodT, []) ∧ (jL C).length ≤ 26 * C.length := by
  induction C with
  | nil => exact ⟨cut_nil, by simp [jL]⟩
  | cons t C ih =>
    obtain ⟨i1, i2⟩ := ih fun s m => h s (by simp [m])
    obtain ⟨p1, p2, p3⟩ := tP_yes (h t (by simp))
    have e : jL (t :: C) = ((bodT t).length : Int) :: (bodT t ++ jL C) := by
      show tP t ++ jL C = _
      rw [p1]; rfl
    rw [e]
    have hw : isW ((bodT t).length : Int) = false := by
      unfold isW
      simp only [Bool.or_eq_false_iff, beq_eq_false_iff_ne, decide_eq_false_iff_not]
      omega
    refine ⟨?_, ?_⟩
    · rw [cut_whole hw (by simp; omega), Int.toNat_natCast]
      have e1 : (bodT t ++ jL C).take (bodT t).length = bodT t := List.take_left' rfl
      have e2 : (bodT t ++ jL C).drop (bodT t).length = jL C := List.drop_left' rfl
      rw [e1, e2, i1]
      rfl
    · simp only [List.length_cons, List.length_append]; omega
theorem nW_bodT {C : List (Int × List Int × List Int)} : nW (C.map bodT) = 0 := by
  unfold nW
  have : (C.map bodT).filter (fun b => b.isEmpty) = [] := by
    rw [List.filter_eq_nil_iff]
    intro b m
    obtain ⟨t, -, rfl⟩ := List.mem_map.1 m
    simp [bodT, bod]
  rw [this]; rfl
structure JoinM (C : List (Int × List Int × List Int)) : Prop where
  len : C.length ≤ 10
  all : ∀ t ∈ C, tF t = 0
  b : jB C = jL C
  size : (jL C).length ≤ 260
  cut : cut (jL C) = (C.map bodT, [])
  c : frC [] (jL C) = 0
  a : frA [] (jL C) = jL C
  v : cnV (jL C) = C.length
theorem join_ok {C : List (Int × List Int × List Int)} (h : jC C = 0) : JoinM C := by
  have hl : ¬ 10 < C.length := fun hl => by rw [(jC_many hl).1] at h; exact absurd h (by decide)
  rw [jC_few hl] at h
  have ha := jF_all h
  obtain ⟨c1, c2⟩ := cut_jL ha
  obtain ⟨q1, q2⟩ := frC_yes (L := []) (M := jL C) rfl (by omega)
  refine ⟨by omega, ha, (jC_all hl h).2, by omega, c1, q1, q2, ?_⟩
  unfold cnV
  rw [q2]
  show ((cut (jL C)).1.length : Int) - nW (cut (jL C)).1 = _
  rw [c1, nW_bodT]
  simp
theorem byts_jL {C : List (Int × List Int × List Int)} (h : ∀ t ∈ C, tF t = 0) (hd : ∀ t ∈ C, byts t.2.2) : byts (jL C) := by
  induction C with
  | nil => intro i hi; simp [jL] at hi
  | cons t C ih => exact byts_app (byts_pkL (h t (by simp)) (hd t (by simp))) (ih (fun s m => h s (by simp [m])) fun s m => hd s (by simp [m]))
theorem byts_bodT {t : Int × List Int × List Int} (h : tF t = 0) (hd : byts t.2.2) : byts (bodT t) := by
  have h1 := byts_pkL h hd
  have e : pkL t.1 t.2.1 t.2.2 = _ := (tP_yes h).1
  rw [e] at h1
  intro i hi
  have := h1 (i + 1) (by simp; omega)
  simpa using this
theorem sameQ_self (k : Int) (A D : List Int) : sameQ k k A A D D = true := by unfold sameQ; simp
end Go.Proofs.Ytgjbjafodkiilaa
