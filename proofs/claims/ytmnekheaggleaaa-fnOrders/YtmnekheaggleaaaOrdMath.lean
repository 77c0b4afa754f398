/- Above is an order; joined and met: numbers alone. -/
import Derived.Test.YtmnekheaggleaaaLab6
namespace Go.Proofs.Ytmnekheaggleaaa

theorem fin16c (P : Int → Int → Int → Prop) (h : ∀ a b c : Fin 16, P (a.val : Int) (b.val : Int) (c.val : Int)) (a b c : Int) (h1 : 0 ≤ a) (h2 : a ≤ 15) (h3 : 0 ≤ b) (h4 : b ≤ 15) (h5 : 0 ≤ c) (h6 : c ≤ 15) : P a b c := by
  have := h ⟨a.toNat, by omega⟩ ⟨b.toNat, by omega⟩ ⟨c.toNat, by omega⟩
  simpa [Int.toNat_of_nonneg h1, Int.toNat_of_nonneg h3, Int.toNat_of_nonneg h5] using this

theorem two_dec : ∀ x y : Fin 16, bits .and .i64 (x.val : Int) (x.val : Int) = (x.val : Int) ∧ (bits .and .i64 (x.val : Int) (y.val : Int) = (y.val : Int) → bits .and .i64 (y.val : Int) (x.val : Int) = (x.val : Int) → (x.val : Int) = (y.val : Int))
    ∧ bits .and .i64 (bits .or .i64 (x.val : Int) (y.val : Int)) (x.val : Int) = (x.val : Int) ∧ bits .and .i64 (bits .or .i64 (x.val : Int) (y.val : Int)) (y.val : Int) = (y.val : Int)
    ∧ bits .and .i64 (x.val : Int) (bits .and .i64 (x.val : Int) (y.val : Int)) = bits .and .i64 (x.val : Int) (y.val : Int) ∧ bits .and .i64 (y.val : Int) (bits .and .i64 (x.val : Int) (y.val : Int)) = bits .and .i64 (x.val : Int) (y.val : Int) := by decide +kernel

theorem three_dec : ∀ x y z : Fin 16, (bits .and .i64 (x.val : Int) (y.val : Int) = (y.val : Int) → bits .and .i64 (y.val : Int) (z.val : Int) = (z.val : Int) → bits .and .i64 (x.val : Int) (z.val : Int) = (z.val : Int))
    ∧ (bits .and .i64 (z.val : Int) (x.val : Int) = (x.val : Int) → bits .and .i64 (z.val : Int) (y.val : Int) = (y.val : Int) → bits .and .i64 (z.val : Int) (bits .or .i64 (x.val : Int) (y.val : Int)) = bits .or .i64 (x.val : Int) (y.val : Int))
    ∧ (bits .and .i64 (x.val : Int) (z.val : Int) = (z.val : Int) → bits .and .i64 (y.val : Int) (z.val : Int) = (z.val : Int) → bits .and .i64 (bits .and .i64 (x.val : Int) (y.val : Int)) (z.val : Int) = (z.val : Int)) := by decide +kernel

theorem two16 (x y : Int) (h1 : 0 ≤ x) (h2 : x ≤ 15) (h3 : 0 ≤ y) (h4 : y ≤ 15) : bits .and .i64 x x = x ∧ (bits .and .i64 x y = y → bits .and .i64 y x = x → x = y)
    ∧ bits .and .i64 (bits .or .i64 x y) x = x ∧ bits .and .i64 (bits .or .i64 x y) y = y ∧ bits .and .i64 x (bits .and .i64 x y) = bits .and .i64 x y ∧ bits .and .i64 y (bits .and .i64 x y) = bits .and .i64 x y :=
  fin16 (fun x y => bits .and .i64 x x = x ∧ (bits .and .i64 x y = y → bits .and .i64 y x = x → x = y) ∧ bits .and .i64 (bits .or .i64 x y) x = x ∧ bits .and .i64 (bits .or .i64 x y) y = y ∧ bits .and .i64 x (bits .and .i64 x y) = bits .and .i64 x y ∧ bits .and .i64 y (bits .and .i64 x y) = bits .and .i64 x y) two_dec x y h1 h2 h3 h4
theorem three16 (x y z : Int) (h1 : 0 ≤ x) (h2 : x ≤ 15) (h3 : 0 ≤ y) (h4 : y ≤ 15) (h5 : 0 ≤ z) (h6 : z ≤ 15) : (bits .and .i64 x y = y → bits .and .i64 y z = z → bits .and .i64 x z = z)
    ∧ (bits .and .i64 z x = x → bits .and .i64 z y = y → bits .and .i64 z (bits .or .i64 x y) = bits .or .i64 x y) ∧ (bits .and .i64 x z = z → bits .and .i64 y z = z → bits .and .i64 (bits .and .i64 x y) z = z) :=
  fin16c (fun x y z => (bits .and .i64 x y = y → bits .and .i64 y z = z → bits .and .i64 x z = z) ∧ (bits .and .i64 z x = x → bits .and .i64 z y = y → bits .and .i64 z (bits .or .i64 x y) = bits .or .i64 x y) ∧ (bits .and .i64 x z = z → bits .and .i64 y z = z → bits .and .i64 (bits .and .i64 x y) z = z)) three_dec x y z h1 h2 h3 h4 h5 h6

theorem flt_ok {l p : Int} (h1 : 0 ≤ l) (h2 : l ≤ 3) (h3 : 0 ≤ p) (h4 : p ≤ 15) : fltB l p = false := by unfold fltB; simp; omega

theorem dom_iff {al ap bl bp : Int} (h : fltB al ap = false) (h2 : fltB bl bp = false) : domB al ap bl bp = true ↔ bl ≤ al ∧ bits .and .i64 ap bp = bp := by
  unfold domB; simp [h, h2]

/-- What the law says, all tests written out. -/
theorem order_law (al ap bl bp cl cp : Int) (h : fltB al ap = false) (h2 : fltB bl bp = false) (h3 : fltB cl cp = false) :
    domB al ap al ap = true ∧ (domB al ap bl bp = true → domB bl bp al ap = true → al = bl ∧ ap = bp) ∧ (domB al ap bl bp = true → domB bl bp cl cp = true → domB al ap cl cp = true)
    ∧ domB (mx al bl) (bits .or .i64 ap bp) al ap = true ∧ domB (mx al bl) (bits .or .i64 ap bp) bl bp = true ∧ domB al ap (mn al bl) (bits .and .i64 ap bp) = true ∧ domB bl bp (mn al bl) (bits .and .i64 ap bp) = true
    ∧ (domB cl cp al ap = true → domB cl cp bl bp = true → domB cl cp (mx al bl) (bits .or .i64 ap bp) = true) ∧ (domB al ap cl cp = true → domB bl bp cl cp = true → domB (mn al bl) (bits .and .i64 ap bp) cl cp = true) := by
  obtain ⟨a1, a2, a3, a4⟩ := fltB_no h
  obtain ⟨b1, b2, b3, b4⟩ := fltB_no h2
  obtain ⟨c1, c2, c3, c4⟩ := fltB_no h3
  obtain ⟨_, o2, o3⟩ := or16 ap bp a3 a4 b3 b4
  obtain ⟨_, n2, n3⟩ := and16 ap bp a3 a4 b3 b4
  have mx1 : al ≤ mx al bl ∧ bl ≤ mx al bl ∧ 0 ≤ mx al bl ∧ mx al bl ≤ 3 ∧ (∀ c, al ≤ c → bl ≤ c → mx al bl ≤ c) := by
    unfold mx; split <;> exact ⟨by omega, by omega, by omega, by omega, fun c _ _ => by omega⟩
  have mn1 : mn al bl ≤ al ∧ mn al bl ≤ bl ∧ 0 ≤ mn al bl ∧ mn al bl ≤ 3 ∧ (∀ c, c ≤ al → c ≤ bl → c ≤ mn al bl) := by
    unfold mn; split <;> exact ⟨by omega, by omega, by omega, by omega, fun c _ _ => by omega⟩
  have vj : fltB (mx al bl) (bits .or .i64 ap bp) = false := flt_ok mx1.2.2.1 mx1.2.2.2.1 o2 o3
  have vm : fltB (mn al bl) (bits .and .i64 ap bp) = false := flt_ok mn1.2.2.1 mn1.2.2.2.1 n2 n3
  obtain ⟨t1, t2, t3, t4, t5, t6⟩ := two16 ap bp a3 a4 b3 b4
  obtain ⟨s1, s2, s3⟩ := three16 ap bp cp a3 a4 b3 b4 c3 c4
  simp only [dom_iff h h, dom_iff h h2, dom_iff h2 h, dom_iff h2 h3, dom_iff h h3, dom_iff vj h, dom_iff vj h2, dom_iff h vm, dom_iff h2 vm, dom_iff h3 h, dom_iff h3 h2, dom_iff h3 vj, dom_iff vm h3]
  refine ⟨⟨Int.le_refl _, t1⟩, fun x y => ⟨by omega, t2 x.2 y.2⟩, fun x y => ⟨by omega, s1 x.2 y.2⟩, ⟨mx1.1, t3⟩, ⟨mx1.2.1, t4⟩, ⟨mn1.1, t5⟩, ⟨mn1.2.1, t6⟩, fun x y => ⟨mx1.2.2.2.2 _ x.1 y.1, s2 x.2 y.2⟩, fun x y => ⟨mn1.2.2.2.2 _ x.1 y.1, s3 x.2 y.2⟩⟩

end Go.Proofs.Ytmnekheaggleaaa
