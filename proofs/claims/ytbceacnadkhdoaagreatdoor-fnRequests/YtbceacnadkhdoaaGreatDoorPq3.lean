/- A text as a body, by the model. -/
import Derived.Test.YtbceacnadkhdoaaGreatDoorPq2
import Derived.Test.YtbceacnadkhdoaaGreatDoorRd0
import Derived.Test.YtbceacnadkhdoaaGreatDoorReqMath
namespace Go.Proofs.YtbceacnadkhdoaaGreatDoor
open Go.RowKit
set_option linter.unusedVariables false

/-- The body of a text; nothing, where it is none. -/
def prL (l : List UInt8) : List Int := (psT l).getD []
theorem prL_some {l : List UInt8} {L : List Int} (h : psT l = some L) : prL l = L := by unfold prL; rw [h]; rfl
theorem prL_none {l : List UInt8} (h : psT l = none) : prL l = [] := by unfold prL; rw [h]; rfl

set_option maxHeartbeats 400000 in
theorem in_any (n : Int) (w : World) : Calls Tryz.prog 53 #[.int .i64 n, .int .i64 0, .int .i64 255] w fun e w' => e = .returned (.bool (isB n)) ∧ Below w.heap.size w w' := by
  by_cases h1 : 0 ≤ n
  · by_cases h2 : n ≤ 255
    · have hb : isB n = true := by simp [isB, h1, h2]
      rw [hb]
      go_enter Tryz.func53, Tryz.ntmps53
      go_wp2
      go_returns
      exact ⟨rfl, Below.refl _ _⟩
    · have hb : isB n = false := by simp [isB, h2]
      rw [hb]
      go_enter Tryz.func53, Tryz.ntmps53
      go_wp2
      go_returns
      exact ⟨congrArg (fun b => Ending.returned (.bool b)) (by first | rfl | (simp; omega)), Below.refl _ _⟩
  · have hb : isB n = false := by simp [isB, h1]
    rw [hb]
    go_enter Tryz.func53, Tryz.ntmps53
    go_wp2
    go_returns
    exact ⟨congrArg (fun b => Ending.returned (.bool b)) (by first | rfl | (simp; omega)), Below.refl _ _⟩

/-- The first j words are numbers; what they are. -/
def Wst (ws : List (List UInt8)) (j : Nat) (L : List Int) : Prop := psW (ws.take j) = some L
theorem Wst.start (ws : List (List UInt8)) : Wst ws 0 [] := rfl
theorem rb_isB {l : List UInt8} (h : isB (l3N l) = true) : rb l = some (l3N l).toNat := by rw [rb_l3N, if_pos (isB_yes h)]
theorem rb_not {l : List UInt8} (h : isB (l3N l) = false) : rb l = none := by
  rw [rb_l3N, if_neg]
  intro e
  simp [isB, e] at h
theorem Wst.on {ws : List (List UInt8)} {j : Nat} {L : List Int} (h : Wst ws j L) (hj : j < ws.length) (hb : isB (l3N ws[j]) = true) : Wst ws (j + 1) (L ++ [l3N ws[j]]) := by
  unfold Wst at *
  rw [List.take_succ_eq_append_getElem hj, psW_snoc, h, rb_isB hb]
  have := (isB_yes hb).1
  simp only [Option.some.injEq, List.append_cancel_left_eq, List.cons.injEq, and_true]
  omega
theorem Wst.no {ws : List (List UInt8)} {j : Nat} {L : List Int} (h : Wst ws j L) (hj : j < ws.length) (hb : isB (l3N ws[j]) = false) : psW ws = none := by
  unfold Wst at h
  have e : psW (ws.take (j + 1)) = none := by rw [List.take_succ_eq_append_getElem hj, psW_snoc, h, rb_not hb]
  have := psW_stop _ (ws.drop (j + 1)) e
  rwa [List.take_append_drop] at this
theorem Wst.fin {ws : List (List UInt8)} {L : List Int} (h : Wst ws ws.length L) : psW ws = some L := by
  unfold Wst at h
  rwa [List.take_length] at h
theorem Wst.len {ws : List (List UInt8)} {j : Nat} {L : List Int} (h : Wst ws j L) : L.length ≤ ws.length := by
  have := psW_len h
  simp at this
  omega
theorem Wst.byts {ws : List (List UInt8)} {j : Nat} {L : List Int} (h : Wst ws j L) : byts L := fun i hi => (psW_back h).2 _ (List.getElem_mem _)

end Go.Proofs.YtbceacnadkhdoaaGreatDoor
