/- What is drawn in chapter 2: two rectangles; a list of rectangles and a point. -/
import Derived.Test.YtbceacnadkhdoaaDrawR
import Derived.Test.YtbceacnadkhdoaaCut2
namespace Go.Proofs.Ytbceacnadkhdoaa
open Go.RowKit
set_option linter.unusedVariables false

theorem Turn.grownBy {b : Nat} {w w' : World} (t : Turn b w w') : w.grownBy w' (some b) := ⟨t.os, t.tape, t.output, t.size, fun k hk hne => t.block k hk (fun e => hne (by rw [e]))⟩
theorem Own.turn {w w' : World} {B b : Nat} {ao : Option Addr} {cap : Nat} {L : List Rc} (h : Own w B ao cap L) (t : Turn b w w') (hb : b < B) : Own w' B ao cap L :=
  World.ownsRow.kept h t.grownBy (by
    cases e : Value.ownBlock (.slice ao L.length cap) with
    | none => exact .inl rfl
    | some g => right; have := (World.ownsRow.lt h g e).1; intro h'; simp at h'; omega)
theorem Turn.ofGrown {b B : Nat} {w w' : World} {row : Option Nat} (hg : w.grownBy w' row) (hr : ∀ k, row = some k → w.heap.size ≤ k ∨ True) (hB : ∀ k, row = some k → B ≤ k) (w0 : World) (h0 : Turn b w0 w) (hw : w0.heap.size ≤ B) : Turn b w0 w' :=
  ⟨hg.os.trans h0.os, hg.tape.trans h0.tape, hg.output.trans h0.output, Nat.le_trans h0.size hg.size, fun k hk hb => (hg.block k (Nat.lt_of_lt_of_le hk h0.size) (fun e => by have := hB k e.symm; omega)).trans (h0.block k hk hb)⟩
theorem Src.grown {w w' : World} {B b : Nat} {a : Option Addr} {len cap : Nat} {f : Nat → Int} {t : Int} {row : Option Nat} (h : Src w B b a len cap f t) (hg : w.grownBy w' row) (hr : ∀ k, row = some k → b < k) : Src w' B b a len cap f t := by
  cases row with
  | none => exact h.grow ⟨hg.os, hg.tape, hg.output, hg.size, fun i hi => hg.block i hi (by simp)⟩
  | some k =>
    have hk := hr k rfl
    exact h.turn (c := k) ⟨hg.os, hg.tape, hg.output, hg.size, fun i hi hb => hg.block i hi (by simpa using hb)⟩ (by have := h.le; omega) (by omega)

/-- A rectangle stored. -/
def set4 (w : World) (b : Nat) (x y ww hh : Int) : World := (((w.setCell ⟨b, 0, none⟩ (.int .i64 x)).setCell ⟨b, 1, none⟩ (.int .i64 y)).setCell ⟨b, 2, none⟩ (.int .i64 ww)).setCell ⟨b, 3, none⟩ (.int .i64 hh)
theorem turn_set4 (w : World) (b : Nat) (x y ww hh : Int) : Turn b w (set4 w b x y ww hh) := (((Turn.store w ⟨b, 0, none⟩ _).trans (Turn.store _ ⟨b, 1, none⟩ _)).trans (Turn.store _ ⟨b, 2, none⟩ _)).trans (Turn.store _ ⟨b, 3, none⟩ _)
theorem Bx4.set {w : World} {b : Nat} {x0 y0 w0 h0 : Int} (h : Bx4 w b x0 y0 w0 h0) (x y ww hh : Int) : Bx4 (set4 w b x y ww hh) b x y ww hh := by
  obtain ⟨l, c0, c1, c2, c3, z0, z1, z2, z3⟩ := h
  have so : ∀ {W : World} {c d : Nat} {v : Value}, d ≠ c → (W.setCell ⟨b, c, none⟩ v).cell? ⟨b, d, none⟩ = W.cell? ⟨b, d, none⟩ := fun hn => World.cell?_setCell_other _ _ _ _ (by intro e; cases e; exact hn rfl)
  unfold set4
  refine ⟨by simpa using l, ?_, ?_, ?_, ?_, by simpa using z0, by simpa using z1, by simpa using z2, by simpa using z3⟩
  · rw [so (by omega), so (by omega), so (by omega)]; exact World.cell?_setCell_same _ _ _ c0
  · rw [so (by omega), so (by omega)]; exact World.cell?_setCell_same _ _ _ ((so (by omega)).trans c1)
  · rw [so (by omega)]; exact World.cell?_setCell_same _ _ _ ((so (by omega)).trans ((so (by omega)).trans c2))
  · exact World.cell?_setCell_same _ _ _ ((so (by omega)).trans ((so (by omega)).trans ((so (by omega)).trans c3)))
theorem below_set4 {n : Nat} {w w' : World} (h : Below n w w') (b : Nat) (x y ww hh : Int) (hb : n ≤ b) : Below n w (set4 w' b x y ww hh) :=
  (((h.setCell (p := ⟨b, 0, none⟩) hb _).setCell (p := ⟨b, 1, none⟩) hb _).setCell (p := ⟨b, 2, none⟩) hb _).setCell (p := ⟨b, 3, none⟩) hb _

set_option maxHeartbeats 2000000 in
theorem rtwo_any (w : World) (a : Option Addr) (len cap : Nat) (f : Nat → Int) (hB : Bytes w w.heap.size a len f) (hl : len ≤ 1048576) :
    Calls Try.prog 36 #[.slice a len cap] w fun e w' => ∃ r1 r2 : Rc, e = .returned (.tuple #[.agg #[.int .i64 r1.x, .int .i64 r1.y, .int .i64 r1.w, .int .i64 r1.h], .agg #[.int .i64 r2.x, .int .i64 r2.y, .int .i64 r2.w, .int .i64 r2.h]]) ∧ Below w.heap.size w w' := by
  have hsz : Below w.heap.size w ((w.alloc (.cells #[.int .i64 0, .int .i64 0, .int .i64 0, .int .i64 0] 25)).alloc (.cells #[.int .i64 0, .int .i64 0, .int .i64 0, .int .i64 0] 25)) := by go_grown
  have S0 := Src.fresh w _ (w.heap.size + 1 + 1) a len cap f 101 hB hl hsz (by simp)
  have P0 := ((Bx4.new w 0 0 0 0 25 _ rfl).grow (w' := (w.alloc (.cells #[.int .i64 0, .int .i64 0, .int .i64 0, .int .i64 0] 25)).alloc (.cells #[.int .i64 0, .int .i64 0, .int .i64 0, .int .i64 0] 25)) (by go_grown)).grow (w' := ((w.alloc (.cells #[.int .i64 0, .int .i64 0, .int .i64 0, .int .i64 0] 25)).alloc (.cells #[.int .i64 0, .int .i64 0, .int .i64 0, .int .i64 0] 25)).alloc (.cells #[.slice a len cap, .int .i64 0] 101)) (by go_grown)
  have P1 := (Bx4.new (w.alloc (.cells #[.int .i64 0, .int .i64 0, .int .i64 0, .int .i64 0] 25)) 0 0 0 0 25 (w.heap.size + 1) (by simp)).grow (w' := ((w.alloc (.cells #[.int .i64 0, .int .i64 0, .int .i64 0, .int .i64 0] 25)).alloc (.cells #[.int .i64 0, .int .i64 0, .int .i64 0, .int .i64 0] 25)).alloc (.cells #[.slice a len cap, .int .i64 0] 101)) (by go_grown)
  have HS0 := hideP S0
  have HP0 := hideP P0
  have HP1 := hideP P1
  have HZ := hideP hsz
  clear S0 P0 P1 hsz hB
  go_enter Try.func36, Try.ntmps36
  go_wp2_with (first | (go_at_call 41; go_in))
  refine Calls.mono (rbent_any _ w.heap.size (w.heap.size + 1 + 1) a len cap f 0 HS0.out (by omega) (by omega)) ?_
  rintro e w1 ⟨r1, t1, rfl, ht1, a1, b1, hs1⟩
  go_wp2_with fail
  refine Calls.mono (rbent_any _ w.heap.size (w.heap.size + 1 + 1) a len cap f t1 hs1 (by omega) (by omega)) ?_
  rintro e w2 ⟨r2, t2, rfl, ht2, a2, b2, hs2⟩
  have T := ht1.trans ht2
  obtain ⟨l0, g0, g1, g2, g3, z0, z1, z2, z3⟩ := HP0.out.turn T (by omega)
  obtain ⟨l1, d0, d1, d2, d3, y0, y1, y2, y3⟩ := HP1.out.turn T (by omega)
  have HB := hideP (Turn.below (HZ.out.alloc (by simp; omega) (.cells #[.slice a len cap, .int .i64 0] 101)) (by omega) (by simp; omega) T)
  have E0 := hideP (((HP0.out.turn T (by omega)).set r1.x r1.y r1.w r1.h).turn (turn_set4 _ (w.heap.size + 1) r2.x r2.y r2.w r2.h) (by omega))
  have E1 := hideP (((HP1.out.turn T (by omega)).turn (turn_set4 _ w.heap.size r1.x r1.y r1.w r1.h) (by omega)).set r2.x r2.y r2.w r2.h)
  have EB := hideP (below_set4 (below_set4 HB.out w.heap.size r1.x r1.y r1.w r1.h (Nat.le_refl _)) (w.heap.size + 1) r2.x r2.y r2.w r2.h (by omega))
  clear T ht1 ht2 hs1 hs2 HS0 HP0 HP1
  go_wp2
  clear g0 g1 g2 g3 z0 z1 z2 z3 d0 d1 d2 d3 y0 y1 y2 y3
  show bodyPost Try.prog Try.f36 _ Exit.ret _ (set4 (set4 w2 w.heap.size r1.x r1.y r1.w r1.h) (w.heap.size + 1) r2.x r2.y r2.w r2.h)
  obtain ⟨_, g0, g1, g2, g3, _, _, _, _⟩ := E0.out
  obtain ⟨_, d0, d1, d2, d3, _, _, _, _⟩ := E1.out
  have h0 := EB.out
  clear E0 E1 EB
  generalize set4 (set4 w2 w.heap.size r1.x r1.y r1.w r1.h) (w.heap.size + 1) r2.x r2.y r2.w r2.h = Wf at *
  refine bodyPost_ret (v := .tuple #[.agg #[.int .i64 r1.x, .int .i64 r1.y, .int .i64 r1.w, .int .i64 r1.h], .agg #[.int .i64 r2.x, .int .i64 r2.y, .int .i64 r2.w, .int .i64 r2.h]]) (by simp [results, Try.results36, go_sem, g0, g1, g2, g3, d0, d1, d2, d3]) rfl ⟨r1, r2, rfl, h0⟩

set_option maxHeartbeats 1000000 in
theorem rless_any (w : World) (a : Option Addr) (len cap : Nat) (f : Nat → Int) (hB : Bytes w w.heap.size a len f) (hl : len ≤ 1048576) :
    Calls Try.prog 9 #[.slice a len cap] w fun e w' => ∃ r1 r2 : Rc, e = .returned (.tuple #[.agg #[.int .i64 r1.x, .int .i64 r1.y, .int .i64 r1.w, .int .i64 r1.h], .agg #[.int .i64 r2.x, .int .i64 r2.y, .int .i64 r2.w, .int .i64 r2.h]]) ∧ Below w.heap.size w w' := by
  have P0 := hideP ((Bx4.new w 0 0 0 0 25 _ rfl).grow (w' := (w.alloc (.cells #[.int .i64 0, .int .i64 0, .int .i64 0, .int .i64 0] 25)).alloc (.cells #[.int .i64 0, .int .i64 0, .int .i64 0, .int .i64 0] 25)) (by go_grown))
  have P1 := hideP (Bx4.new (w.alloc (.cells #[.int .i64 0, .int .i64 0, .int .i64 0, .int .i64 0] 25)) 0 0 0 0 25 (w.heap.size + 1) (by simp))
  have HY := hideP hB
  clear hB
  go_enter Try.func9, Try.ntmps9
  go_wp2_with fail
  refine Calls.mono (rtwo_any _ a len cap f (by
    rcases HY.out.stay (Nat.le_refl _) (Turn.of_below (b := w.heap.size) (w' := (w.alloc (.cells #[.int .i64 0, .int .i64 0, .int .i64 0, .int .i64 0] 25)).alloc (.cells #[.int .i64 0, .int .i64 0, .int .i64 0, .int .i64 0] 25)) (by go_grown)) (Nat.le_refl _) with h | ⟨xb, xo, ha, hx, hc⟩
    · exact .inl h
    · exact .inr ⟨xb, xo, ha, by simp; omega, hc⟩) hl) ?_
  rintro e w1 ⟨r1, r2, rfl, k1⟩
  obtain ⟨l0, g0, g1, g2, g3, z0, z1, z2, z3⟩ := P0.out.grow k1
  obtain ⟨l1, d0, d1, d2, d3, y0, y1, y2, y3⟩ := P1.out.grow k1
  have HB := hideP (Below.trans (by go_grown : Below w.heap.size w ((w.alloc (.cells #[.int .i64 0, .int .i64 0, .int .i64 0, .int .i64 0] 25)).alloc (.cells #[.int .i64 0, .int .i64 0, .int .i64 0, .int .i64 0] 25))) (k1.mono (by simp; omega)))
  have E0 := hideP (((P0.out.grow k1).set r1.x r1.y r1.w r1.h).turn (turn_set4 _ (w.heap.size + 1) r2.x r2.y r2.w r2.h) (by omega))
  have E1 := hideP (((P1.out.grow k1).turn (turn_set4 _ w.heap.size r1.x r1.y r1.w r1.h) (by omega)).set r2.x r2.y r2.w r2.h)
  have EB := hideP (below_set4 (below_set4 HB.out w.heap.size r1.x r1.y r1.w r1.h (Nat.le_refl _)) (w.heap.size + 1) r2.x r2.y r2.w r2.h (by omega))
  clear k1 P0 P1 HY
  go_wp2
  clear g0 g1 g2 g3 z0 z1 z2 z3 d0 d1 d2 d3 y0 y1 y2 y3
  show bodyPost Try.prog Try.f9 _ Exit.ret _ (set4 (set4 w1 w.heap.size r1.x r1.y r1.w r1.h) (w.heap.size + 1) r2.x r2.y r2.w r2.h)
  obtain ⟨_, g0, g1, g2, g3, _, _, _, _⟩ := E0.out
  obtain ⟨_, d0, d1, d2, d3, _, _, _, _⟩ := E1.out
  have h0 := EB.out
  clear E0 E1 EB
  generalize set4 (set4 w1 w.heap.size r1.x r1.y r1.w r1.h) (w.heap.size + 1) r2.x r2.y r2.w r2.h = Wf at *
  refine bodyPost_ret (v := .tuple #[.agg #[.int .i64 r1.x, .int .i64 r1.y, .int .i64 r1.w, .int .i64 r1.h], .agg #[.int .i64 r2.x, .int .i64 r2.y, .int .i64 r2.w, .int .i64 r2.h]]) (by simp [results, Try.results9, go_sem, g0, g1, g2, g3, d0, d1, d2, d3]) rfl ⟨r1, r2, rfl, h0⟩

end Go.Proofs.Ytbceacnadkhdoaa
