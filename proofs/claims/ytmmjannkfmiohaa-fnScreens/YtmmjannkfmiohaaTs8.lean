/- Numbers of chapter 2: faults of rectangles, points, what both have, what one has alone. -/
import Derived.WalkKit
namespace Go.Proofs.Ytmmjannkfmiohaa

def rfB (x y w h : Int) : Bool := decide (x < -20 ∨ 20 < x ∨ y < -20 ∨ 20 < y ∨ w < 1 ∨ 20 < w ∨ h < 1 ∨ 20 < h)
theorem rfB_no {x y w h : Int} (e : rfB x y w h = false) : (-20 ≤ x ∧ x ≤ 20) ∧ (-20 ≤ y ∧ y ≤ 20) ∧ (1 ≤ w ∧ w ≤ 20) ∧ (1 ≤ h ∧ h ≤ 20) := by
  unfold rfB at e; simp at e; omega
theorem rfB_yes {x y w h : Int} (e : rfB x y w h = true) : x < -20 ∨ (-20 ≤ x ∧ 20 < x) ∨ ((-20 ≤ x ∧ x ≤ 20) ∧ y < -20) ∨ ((-20 ≤ x ∧ x ≤ 20) ∧ -20 ≤ y ∧ 20 < y) ∨
    ((-20 ≤ x ∧ x ≤ 20) ∧ (-20 ≤ y ∧ y ≤ 20) ∧ w < 1) ∨ ((-20 ≤ x ∧ x ≤ 20) ∧ (-20 ≤ y ∧ y ≤ 20) ∧ 1 ≤ w ∧ 20 < w) ∨
    ((-20 ≤ x ∧ x ≤ 20) ∧ (-20 ≤ y ∧ y ≤ 20) ∧ (1 ≤ w ∧ w ≤ 20) ∧ h < 1) ∨ ((-20 ≤ x ∧ x ≤ 20) ∧ (-20 ≤ y ∧ y ≤ 20) ∧ (1 ≤ w ∧ w ≤ 20) ∧ 1 ≤ h ∧ 20 < h) := by
  unfold rfB at e; simp at e; omega

def rfOf (b : Bool) : Int := if b then 3 else 0

/-- Is p, q a point of the rectangle? -/
def inB (x y w h p q : Int) : Bool := decide (x ≤ p ∧ p < x + w ∧ y ≤ q ∧ q < y + h)
/-- .. of one without a fault? -/
def hpB (x y w h p q : Int) : Bool := !rfB x y w h && inB x y w h p q

end Go.Proofs.Ytmmjannkfmiohaa
