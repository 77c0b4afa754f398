/- LessRect: the numbers, and the model's function at every two rectangles. -/
import Derived.Test.YtbceacnadkhdoaaCut3
namespace Go.Proofs.Ytbceacnadkhdoaa
open Go.RowKit
set_option linter.unusedVariables false

theorem putR_congr {L : List Rc} {x y r b x' y' r' b' : Int} (h : ((r ≤ x ∨ b ≤ y) ∧ (r' ≤ x' ∨ b' ≤ y')) ∨ (x = x' ∧ y = y' ∧ r = r' ∧ b = b')) : putR L x y r b = putR L x' y' r' b' := by
  rcases h with ⟨h1, h2⟩ | ⟨rfl, rfl, rfl, rfl⟩
  · rw [putR_no h1, putR_no h2]
  · rfl

def topI (a b : Rc) : Int := mnI (a.y + a.h) (mxI a.y b.y)
def lowI (a b : Rc) : Int := mxI (topI a b) (mnI (a.y + a.h) (b.y + b.h))
def lessM1 (a b : Rc) : List Rc := putR [] a.x a.y (a.x + a.w) (topI a b)
def lessM2 (a b : Rc) : List Rc := putR (lessM1 a b) a.x (topI a b) (mnI (a.x + a.w) b.x) (lowI a b)
def lessM3 (a b : Rc) : List Rc := putR (lessM2 a b) (mxI a.x (b.x + b.w)) (topI a b) (a.x + a.w) (lowI a b)
def lessL (a b : Rc) : List Rc := putR (lessM3 a b) a.x (lowI a b) (a.x + a.w) (a.y + a.h)
def lessI1 (a b : Rc) : List Rc := putR [] a.x a.y (a.x + a.w) (mnI (a.y + a.h) b.y)
def lessI2 (a b : Rc) : List Rc := putR (lessI1 a b) a.x (mxI a.y b.y) (mnI (a.x + a.w) b.x) (mnI (a.y + a.h) (b.y + b.h))
def lessI3 (a b : Rc) : List Rc := putR (lessI2 a b) (mxI a.x (b.x + b.w)) (mxI a.y b.y) (a.x + a.w) (mnI (a.y + a.h) (b.y + b.h))
def lessI (a b : Rc) : List Rc := putR (lessI3 a b) a.x (mxI a.y (b.y + b.h)) (a.x + a.w) (a.y + a.h)
def lessR (a b : Rc) : List Rc := if a.flt || b.flt then [] else lessL a b

theorem top_low (a b : Rc) (h1 : 1 ≤ a.h) (h2 : 1 ≤ b.h) : (mxI a.y b.y < mnI (a.y + a.h) (b.y + b.h) ∧ topI a b = mxI a.y b.y ∧ lowI a b = mnI (a.y + a.h) (b.y + b.h)) ∨
    (mnI (a.y + a.h) (b.y + b.h) ≤ mxI a.y b.y ∧ lowI a b = topI a b) := by
  have e1 := mxI_eq a.y b.y
  have e2 := mnI_eq (a.y + a.h) (b.y + b.h)
  have e3 := mnI_eq (a.y + a.h) (mxI a.y b.y)
  have e4 := mxI_eq (topI a b) (mnI (a.y + a.h) (b.y + b.h))
  unfold lowI
  have e5 : topI a b = mnI (a.y + a.h) (mxI a.y b.y) := rfl
  omega

theorem less_eq (a b : Rc) (h : (a.flt || b.flt) = false) : lessI a b = lessL a b := by
  obtain ⟨ha, hb⟩ := rfB_of h
  obtain ⟨h1, h2, h3, h4⟩ := rfB_no ha
  obtain ⟨g1, g2, g3, g4⟩ := rfB_no hb
  have e1 := mxI_eq a.y b.y
  have e2 := mnI_eq (a.y + a.h) (b.y + b.h)
  have e3 := mnI_eq (a.y + a.h) (mxI a.y b.y)
  have e5 : topI a b = mnI (a.y + a.h) (mxI a.y b.y) := rfl
  have e6 := mnI_eq (a.y + a.h) b.y
  have e7 := mxI_eq a.y (b.y + b.h)
  have tl := top_low a b h4.1 g4.1
  have s1 : lessI1 a b = lessM1 a b := putR_congr (by omega)
  have s2 : lessI2 a b = lessM2 a b := by unfold lessI2 lessM2; rw [s1]; exact putR_congr (by omega)
  have s3 : lessI3 a b = lessM3 a b := by unfold lessI3 lessM3; rw [s2]; exact putR_congr (by omega)
  unfold lessI lessL
  rw [s3]
  exact putR_congr (by omega)

theorem bnd (a b : Rc) (h : (a.flt || b.flt) = false) : (-1000 ≤ topI a b ∧ topI a b ≤ 1000) ∧ (-1000 ≤ lowI a b ∧ lowI a b ≤ 1000) ∧ (-1000 ≤ mnI (a.x + a.w) b.x ∧ mnI (a.x + a.w) b.x ≤ 1000) ∧ (-1000 ≤ mxI a.x (b.x + b.w) ∧ mxI a.x (b.x + b.w) ≤ 1000) ∧
    (-1000 ≤ mxI a.y b.y ∧ mxI a.y b.y ≤ 1000) ∧ (-1000 ≤ mnI (a.y + a.h) (b.y + b.h) ∧ mnI (a.y + a.h) (b.y + b.h) ≤ 1000) ∧ (-1000 ≤ mnI (a.y + a.h) b.y ∧ mnI (a.y + a.h) b.y ≤ 1000) ∧ (-1000 ≤ mxI a.y (b.y + b.h) ∧ mxI a.y (b.y + b.h) ≤ 1000) := by
  obtain ⟨ha, hb⟩ := rfB_of h
  obtain ⟨h1, h2, h3, h4⟩ := rfB_no ha
  obtain ⟨g1, g2, g3, g4⟩ := rfB_no hb
  have e1 := mxI_eq a.y b.y
  have e2 := mnI_eq (a.y + a.h) (b.y + b.h)
  have e3 := mnI_eq (a.y + a.h) (mxI a.y b.y)
  have e4 := mxI_eq (topI a b) (mnI (a.y + a.h) (b.y + b.h))
  have e5 : topI a b = mnI (a.y + a.h) (mxI a.y b.y) := rfl
  have e6 : lowI a b = mxI (topI a b) (mnI (a.y + a.h) (b.y + b.h)) := rfl
  have e7 := mnI_eq (a.x + a.w) b.x
  have e8 := mxI_eq a.x (b.x + b.w)
  have e9 := mnI_eq (a.y + a.h) b.y
  have e10 := mxI_eq a.y (b.y + b.h)
  refine ⟨?_, ?_, ?_, ?_, ?_, ?_, ?_, ?_⟩ <;> omega

theorem lessL_len (a b : Rc) : (lessM1 a b).length ≤ 1 ∧ (lessM2 a b).length ≤ 2 ∧ (lessM3 a b).length ≤ 3 ∧ (lessL a b).length ≤ 4 := by
  have h1 : (lessM1 a b).length ≤ _ := putR_len _ _ _ _ _
  have h2 : (lessM2 a b).length ≤ _ := putR_len _ _ _ _ _
  have h3 : (lessM3 a b).length ≤ _ := putR_len _ _ _ _ _
  have h4 : (lessL a b).length ≤ _ := putR_len _ _ _ _ _
  simp only [List.length_nil] at h1
  omega
theorem lessI_len (a b : Rc) : (lessI1 a b).length ≤ 1 ∧ (lessI2 a b).length ≤ 2 ∧ (lessI3 a b).length ≤ 3 ∧ (lessI a b).length ≤ 4 := by
  have h1 : (lessI1 a b).length ≤ _ := putR_len _ _ _ _ _
  have h2 : (lessI2 a b).length ≤ _ := putR_len _ _ _ _ _
  have h3 : (lessI3 a b).length ≤ _ := putR_len _ _ _ _ _
  have h4 : (lessI a b).length ≤ _ := putR_len _ _ _ _ _
  simp only [List.length_nil] at h1
  omega

/-- Between two calls: the arguments' boxes and the result's. -/
structure Fr (w X : World) (a b : Rc) : Prop where
  kb : Below w.heap.size w X
  sz : w.heap.size + 3 ≤ X.heap.size
  ra : IsRect X w.heap.size 0 a.x a.y a.w a.h
  rb : IsRect X (w.heap.size + 1) 0 b.x b.y b.w b.h
  r0 : X.cell? ⟨w.heap.size + 2, 0, none⟩ = some (.int .i64 0)
  r1 : X.cell? ⟨w.heap.size + 2, 1, none⟩ = some (.slice none 0 0)
  z0 : X.frozen? ⟨w.heap.size + 2, 0, none⟩ = false
  z1 : X.frozen? ⟨w.heap.size + 2, 1, none⟩ = false

theorem Fr.keep {w X X' : World} {a b : Rc} (h : Fr w X a b) {n : Nat} (k : Below n X X') (hn : w.heap.size + 3 ≤ n) : Fr w X' a b := by
  obtain ⟨kb, sz, ra, rb, r0, r1, z0, z1⟩ := h
  exact ⟨kb.trans (k.mono (by omega)), Nat.le_trans sz k.size, ra.keep k (by omega), rb.keep k (by omega), (k.cell (p := ⟨w.heap.size + 2, 0, none⟩) (show w.heap.size + 2 < n by omega)).trans r0, (k.cell (p := ⟨w.heap.size + 2, 1, none⟩) (show w.heap.size + 2 < n by omega)).trans r1,
    (k.frozen (p := ⟨w.heap.size + 2, 0, none⟩) (show w.heap.size + 2 < n by omega)).trans z0, (k.frozen (p := ⟨w.heap.size + 2, 1, none⟩) (show w.heap.size + 2 < n by omega)).trans z1⟩

theorem fr_new (w : World) (a b : Rc) : Fr w (((w.alloc (.cells #[.int .i64 a.x, .int .i64 a.y, .int .i64 a.w, .int .i64 a.h] 25)).alloc (.cells #[.int .i64 b.x, .int .i64 b.y, .int .i64 b.w, .int .i64 b.h] 25)).alloc (.cells #[.int .i64 0, .slice none 0 0] 30)) a b :=
  ⟨by go_grown, by simp, ⟨by simp [go_sem], by simp [go_sem], by simp [go_sem], by simp [go_sem]⟩, ⟨by simp [go_sem], by simp [go_sem], by simp [go_sem], by simp [go_sem]⟩, by simp [go_sem], by simp [go_sem], by simp [go_sem], by simp [go_sem]⟩

end Go.Proofs.Ytbceacnadkhdoaa
