/- Numbers of chapter 1: faults of labels, and bits of parts from 0 to 15. -/
import Derived.WalkKit
namespace Go.Proofs.Ytoipcnpemmajaaa

def fltB (l p : Int) : Bool := decide (l < 0 ∨ 3 < l ∨ p < 0 ∨ 15 < p)
theorem fltB_no {l p : Int} (h : fltB l p = false) : 0 ≤ l ∧ l ≤ 3 ∧ 0 ≤ p ∧ p ≤ 15 := by
  unfold fltB at h; simp at h; omega
theorem fltB_yes {l p : Int} (h : fltB l p = true) : l < 0 ∨ (0 ≤ l ∧ 3 < l) ∨ (0 ≤ l ∧ l ≤ 3 ∧ p < 0) ∨ (0 ≤ l ∧ l ≤ 3 ∧ 0 ≤ p ∧ 15 < p) := by
  unfold fltB at h; simp at h; omega

theorem fin16 (P : Int → Int → Prop) (h : ∀ a b : Fin 16, P (a.val : Int) (b.val : Int)) (a b : Int) (h1 : 0 ≤ a) (h2 : a ≤ 15) (h3 : 0 ≤ b) (h4 : b ≤ 15) : P a b := by
  have := h ⟨a.toNat, by omega⟩ ⟨b.toNat, by omega⟩
  simpa [Int.toNat_of_nonneg h1, Int.toNat_of_nonneg h3] using this

theorem sub16_dec : ∀ a b : Fin 16, (bits .andNot .u8 (b.val : Int) (a.val : Int) == 0) = (bits .and .i64 (a.val : Int) (b.val : Int) == (b.val : Int)) := by decide +kernel
theorem or16_dec : ∀ a b : Fin 16, bits .or .u8 (a.val : Int) (b.val : Int) = bits .or .i64 (a.val : Int) (b.val : Int) ∧ 0 ≤ bits .or .i64 (a.val : Int) (b.val : Int) ∧ bits .or .i64 (a.val : Int) (b.val : Int) ≤ 15 := by decide +kernel
theorem and16_dec : ∀ a b : Fin 16, bits .and .u8 (a.val : Int) (b.val : Int) = bits .and .i64 (a.val : Int) (b.val : Int) ∧ 0 ≤ bits .and .i64 (a.val : Int) (b.val : Int) ∧ bits .and .i64 (a.val : Int) (b.val : Int) ≤ 15 := by decide +kernel

theorem sub16 (a b : Int) (h1 : 0 ≤ a) (h2 : a ≤ 15) (h3 : 0 ≤ b) (h4 : b ≤ 15) : (bits .andNot .u8 b a == 0) = (bits .and .i64 a b == b) :=
  fin16 (fun a b => (bits .andNot .u8 b a == 0) = (bits .and .i64 a b == b)) sub16_dec a b h1 h2 h3 h4
theorem or16 (a b : Int) (h1 : 0 ≤ a) (h2 : a ≤ 15) (h3 : 0 ≤ b) (h4 : b ≤ 15) : bits .or .u8 a b = bits .or .i64 a b ∧ 0 ≤ bits .or .i64 a b ∧ bits .or .i64 a b ≤ 15 :=
  fin16 (fun a b => bits .or .u8 a b = bits .or .i64 a b ∧ 0 ≤ bits .or .i64 a b ∧ bits .or .i64 a b ≤ 15) or16_dec a b h1 h2 h3 h4
theorem and16 (a b : Int) (h1 : 0 ≤ a) (h2 : a ≤ 15) (h3 : 0 ≤ b) (h4 : b ≤ 15) : bits .and .u8 a b = bits .and .i64 a b ∧ 0 ≤ bits .and .i64 a b ∧ bits .and .i64 a b ≤ 15 :=
  fin16 (fun a b => bits .and .u8 a b = bits .and .i64 a b ∧ 0 ≤ bits .and .i64 a b ∧ bits .and .i64 a b ≤ 15) and16_dec a b h1 h2 h3 h4
end Go.Proofs.Ytoipcnpemmajaaa
