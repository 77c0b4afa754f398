/- What a push answers; the program's push. The program's pushes. -/
import Derived.Test.YtngmiimendlleaaV30
namespace Go.Proofs.Ytngmiimendlleaa
open Go.RowKit
set_option linter.unusedVariables false

/-- What a push answers, in contents. -/
def puC (C : List (Int × List Int)) (t : Int × List Int) (rep : Bool) : Int := if qF C = 0 then (if mF t = 0 then (if isRep t.1 = rep then 0 else 1) else mF t) else qF C
def pcC (room : Int) (C : List (Int × List Int)) (t : Int × List Int) : List (Int × List Int) := if room ≤ (C.length : Int) then C else C ++ [t]
def pcV (room : Int) (C : List (Int × List Int)) (v : Bool) : Bool := if room ≤ (C.length : Int) then true else v
def rmOf (rep : Bool) : Int := if rep then 10 else 6
def puL (C : List (Int × List Int)) (t : Int × List Int) (rep : Bool) : List (Int × List Int) := if puC C t rep = 0 then pcC (rmOf rep) C t else []
def puV (C : List (Int × List Int)) (t : Int × List Int) (rep v : Bool) : Bool := if puC C t rep = 0 then pcV (rmOf rep) C v else false
theorem puC_q {C : List (Int × List Int)} {t : Int × List Int} {rep : Bool} (h : qF C ≠ 0) : puC C t rep = qF C := by unfold puC; rw [if_neg h]
theorem puC_m {C : List (Int × List Int)} {t : Int × List Int} {rep : Bool} (h : qF C = 0) (h2 : mF t ≠ 0) : puC C t rep = mF t := by unfold puC; rw [if_pos h, if_neg h2]
theorem puC_r {C : List (Int × List Int)} {t : Int × List Int} {rep : Bool} (h : qF C = 0) (h2 : mF t = 0) (h3 : isRep t.1 ≠ rep) : puC C t rep = 1 := by unfold puC; rw [if_pos h, if_pos h2, if_neg h3]
theorem puC_ok {C : List (Int × List Int)} {t : Int × List Int} {rep : Bool} (h : qF C = 0) (h2 : mF t = 0) (h3 : isRep t.1 = rep) : puC C t rep = 0 := by unfold puC; rw [if_pos h, if_pos h2, if_pos h3]
theorem qF_nn (C : List (Int × List Int)) (h : qF C = 0) : C.length ≤ 10 ∧ msF C = 0 := by
  by_cases h10 : 10 < C.length
  · rw [qF_many h10] at h; simp at h
  · rw [qF_few h10] at h; exact ⟨by omega, h⟩
theorem puC_zero {C : List (Int × List Int)} {t : Int × List Int} {rep : Bool} (h : puC C t rep = 0) : qF C = 0 ∧ mF t = 0 ∧ isRep t.1 = rep := by
  unfold puC at h
  by_cases h1 : qF C = 0
  · rw [if_pos h1] at h
    by_cases h2 : mF t = 0
    · rw [if_pos h2] at h
      by_cases h3 : isRep t.1 = rep
      · exact ⟨h1, h2, h3⟩
      · rw [if_neg h3] at h; simp at h
    · rw [if_neg h2] at h; exact absurd h h2
  · rw [if_neg h1] at h; exact absurd h h1
theorem psh_ct (room : Int) (M : List Mg) (m : Mg) : (psh room M m).map Mg.ct = pcC room (M.map Mg.ct) m.ct := by
  unfold psh pcC
  rw [List.length_map]
  split
  · rfl
  · simp
theorem psh_v (room : Int) (M : List Mg) (v : Bool) : pshV room M v = pcV room (M.map Mg.ct) v := by unfold pshV pcV; rw [List.length_map]
/-- All bodies are small. -/
theorem mzs_le (L : List Mg) (h : ∀ m ∈ L, m.b.L.length ≤ 30) : mzs L ≤ 30 * L.length := by
  induction L with
  | nil => simp [mzs_nil]
  | cons m L ih => have := ih fun x hx => h x (by simp [hx]); have := h m (by simp); rw [mzs_cons, List.length_cons]; omega
theorem pu_small {C : List (Int × List Int)} {t : Int × List Int} {rep : Bool} {N : List Mg} (h : N.map Mg.ct = puL C t rep) : N.length ≤ 11 ∧ mzs N ≤ 330 := by
  unfold puL at h
  by_cases h0 : puC C t rep = 0
  · rw [if_pos h0] at h
    obtain ⟨h1, h2, h3⟩ := puC_zero h0
    obtain ⟨h4, h5⟩ := qF_nn C h1
    have hall : ∀ x ∈ pcC (rmOf rep) C t, mF x = 0 := by
      unfold pcC
      intro x hx
      split at hx
      · exact msF_mem h5 x hx
      · rcases List.mem_append.1 hx with hx | hx
        · exact msF_mem h5 x hx
        · simp at hx; rw [hx]; exact h2
    have hlen : (pcC (rmOf rep) C t).length ≤ 11 := by
      unfold pcC
      split
      · omega
      · simp; omega
    have hN : N.length ≤ 11 := by have := congrArg List.length h; simp at this; omega
    have := mzs_le N fun m hm => by
      have := mF_len (hall m.ct (by rw [← h]; exact List.mem_map_of_mem hm))
      simpa [Mg.ct] using this.1
    exact ⟨hN, by omega⟩
  · rw [if_neg h0] at h
    have : N = [] := by simpa using h
    subst this
    exact ⟨by simp, by simp [mzs_nil]⟩

theorem Lin.le {w : World} {base base' : Nat} {so : Option Addr} {sc : Nat} {L : List Mg} (h : Lin w base so sc L) (hb : base' ≤ base) : Lin w base' so sc L := ⟨h.own.le hb, h.bods.wide hb (Nat.le_refl _)⟩
/-- An answer of a push. -/
def PutA (C : List (Int × List Int)) (t : Int × List Int) (rep v : Bool) (w : World) (e : Ending) (w' : World) : Prop :=
  ∃ (s : Option Addr) (c : Nat) (N : List Mg), e = .returned (.agg #[.int .i64 (puC C t rep), .slice none 0 0, .slice s N.length c, .bool (puV C t rep v)]) ∧ N.map Mg.ct = puL C t rep ∧ Lin w' w.heap.size s c N ∧ Below w.heap.size w w'
theorem putA_no {C : List (Int × List Int)} {t : Int × List Int} {rep v : Bool} {w w' : World} (h : puC C t rep ≠ 0) (hb : Below w.heap.size w w') : PutA C t rep v w (.returned (.agg #[.int .i64 (puC C t rep), .slice none 0 0, .slice none 0 0, .bool false])) w' :=
  ⟨none, 0, [], by unfold puV; rw [if_neg h]; rfl, by unfold puL; rw [if_neg h]; rfl, Lin.nil _ _, hb⟩
theorem putA_yes {C : List (Int × List Int)} {t : Int × List Int} {rep v : Bool} {w w' : World} {s : Option Addr} {c : Nat} {N : List Mg} (h : puC C t rep = 0) (hN : N.map Mg.ct = pcC (rmOf rep) C t) (hl : Lin w' w.heap.size s c N) (hb : Below w.heap.size w w') : PutA C t rep v w (.returned (.agg #[.int .i64 0, .slice none 0 0, .slice s N.length c, .bool (pcV (rmOf rep) C v)])) w' :=
  ⟨s, c, N, by unfold puV; rw [if_pos h, h], by unfold puL; rw [if_pos h]; exact hN, hl, hb⟩

end Go.Proofs.Ytngmiimendlleaa

namespace Go.Proofs.Ytngmiimendlleaa
open Go.RowKit
set_option linter.unusedVariables false

theorem r4_new (w : World) (v0 v1 v2 v3 : Value) (T : TypeId) : R4 (w.alloc (.cells #[v0, v1, v2, v3] T)) w.heap.size v0 v1 v2 v3 := ⟨by simp, by simp, by simp, by simp, by simp, by simp, by simp, by simp, by simp⟩
theorem r4_new3 (w : World) (o o2 : Obj) (v0 v1 v2 v3 : Value) (T : TypeId) : R4 (((w.alloc o).alloc o2).alloc (.cells #[v0, v1, v2, v3] T)) (w.heap.size + 1 + 1) v0 v1 v2 v3 := by
  have h := r4_new ((w.alloc o).alloc o2) v0 v1 v2 v3 T
  rwa [show ((w.alloc o).alloc o2).heap.size = w.heap.size + 1 + 1 by simp] at h
theorem rb_new1 (w : World) (o o2 : Obj) (v0 v1 : Value) (T : TypeId) : Rb (((w.alloc (.cells #[v0, v1] T)).alloc o).alloc o2) w.heap.size v0 v1 :=
  ((rb_new w v0 v1 T).keep (kal3 _ o) (by simp)).keep (kal3 _ o2) (by simp; omega)

end Go.Proofs.Ytngmiimendlleaa
