/- CutRects: the model's and the program's, at every two rectangles. -/
import Derived.Test.YtbceacnadkhdoaaCut1
namespace Go.Proofs.Ytbceacnadkhdoaa
open Go.RowKit
set_option linter.unusedVariables false

theorem own_new (W : World) (n : Nat) (h : n = W.heap.size) : Own (W.alloc (.cells #[] 25)) n (some ⟨n, 0, none⟩) 0 [] := by
  subst h
  exact World.ownsRow_lit W #[] 0 (Nat.le_refl _) (by unfold maxLen; omega) rfl
theorem own_nil (W : World) (n : Nat) : Own W n none 0 [] := World.ownsRow_nil _ _ _ _
theorem Own.base {w : World} {B B' : Nat} {ao : Option Addr} {cap : Nat} {L : List Rc} (h : Own w B ao cap L) (hb : B' ≤ B) : Own w B' ao cap L := by
  refine ⟨h.1, ?_⟩
  rcases h.2 with h0 | ⟨g, cap', cur, hv, h1, h2⟩
  · exact .inl h0
  · exact .inr ⟨g, cap', cur, hv, by omega, h2⟩
theorem Own.keep {w w' : World} {B : Nat} {ao : Option Addr} {cap : Nat} {L : List Rc} (h : Own w B ao cap L) (k : Below w.heap.size w w') : Own w' B ao cap L :=
  World.ownsRow.kept (row := none) h ⟨k.os, k.tape, k.output, k.size, fun i hi _ => k.block i hi⟩ (by cases Value.ownBlock (.slice ao L.length cap) <;> simp)
theorem Own.set {w : World} {B : Nat} {ao : Option Addr} {cap : Nat} {L : List Rc} (h : Own w B ao cap L) (b o : Nat) (v : Value) (hb : b < B) : Own (w.setCell ⟨b, o, none⟩ v) B ao cap L :=
  World.ownsRow.kept (row := some b) h ⟨rfl, rfl, rfl, by simp, fun i hi hne => Below.heap_setCell _ ⟨b, o, none⟩ _ _ (fun e => hne (by rw [e]))⟩ (by
    cases e : Value.ownBlock (.slice ao L.length cap) with
    | none => exact .inl rfl
    | some g => right; have := (World.ownsRow.lt h g e).1; intro h'; simp at h'; omega)

set_option maxHeartbeats 1000000 in
theorem sCut_no (a b : Rc) (w : World) (h : (a.flt || b.flt) = true) :
    Calls Try.prog 15 #[.agg #[.int .i64 a.x, .int .i64 a.y, .int .i64 a.w, .int .i64 a.h], .agg #[.int .i64 b.x, .int .i64 b.y, .int .i64 b.w, .int .i64 b.h]] w fun e w' => ∃ v, e = .returned v ∧ Below w.heap.size w w' ∧ Res 3 [] w v w' := by
  have H := hideP h
  clear h
  go_enter Try.func15, Try.ntmps15
  go_wp2_with fail
  refine Calls.mono (l2B_any w.heap.size 0 (w.heap.size + 1) 0 a b _ ⟨by simp [go_sem], by simp [go_sem], by simp [go_sem], by simp [go_sem]⟩ ⟨by simp [go_sem], by simp [go_sem], by simp [go_sem], by simp [go_sem]⟩) ?_
  rintro e w1 ⟨rfl, rfl⟩
  rw [H.out]
  simp only [rfOf, if_true]
  go_wp2
  refine bodyPost_ret (v := .agg #[.int .i64 3, .slice none 0 0]) (by simp [results, Try.results15, go_sem]) rfl ⟨_, rfl, by go_grown, none, 0, rfl, own_nil _ _⟩

set_option maxHeartbeats 2000000 in
theorem sCut_ok (a b : Rc) (w : World) (h : (a.flt || b.flt) = false) :
    Calls Try.prog 15 #[.agg #[.int .i64 a.x, .int .i64 a.y, .int .i64 a.w, .int .i64 a.h], .agg #[.int .i64 b.x, .int .i64 b.y, .int .i64 b.w, .int .i64 b.h]] w fun e w' => ∃ v, e = .returned v ∧ Below w.heap.size w w' ∧ Res 0 (cutL a b) w v w' := by
  have H := hideP h
  obtain ⟨ha, hb⟩ := rfB_of h
  obtain ⟨⟨h1, h2⟩, ⟨h3, h4⟩, ⟨h5, h6⟩, h7, h8⟩ := rfB_no ha
  obtain ⟨⟨g1, g2⟩, ⟨g3, g4⟩, ⟨g5, g6⟩, g7, g8⟩ := rfB_no hb
  have M1 := hideP (mxI_eq a.x b.x)
  have M2 := hideP (mxI_eq a.y b.y)
  have M3 := hideP (mnI_eq (a.x + a.w) (b.x + b.w))
  have M4 := hideP (mnI_eq (a.y + a.h) (b.y + b.h))
  clear h ha hb
  go_enter Try.func15, Try.ntmps15
  go_wp2_with fail
  refine Calls.mono (l2B_any w.heap.size 0 (w.heap.size + 1) 0 a b _ ⟨by simp [go_sem], by simp [go_sem], by simp [go_sem], by simp [go_sem]⟩ ⟨by simp [go_sem], by simp [go_sem], by simp [go_sem], by simp [go_sem]⟩) ?_
  rintro e w1 ⟨rfl, rfl⟩
  rw [H.out]
  simp only [rfOf]
  go_wp2_with (first | (go_at_call 49; refine Calls.mono (max_any _ _ _) ?_; rintro e w1 ⟨rfl, rfl⟩) | (go_at_call 50; refine Calls.mono (min_any _ _ _) ?_; rintro e w1 ⟨rfl, rfl⟩))
  refine Calls.mono (sPut_any (w.heap.size + 3) _ 0 [] (cutL a b) _ _ _ _ _ rfl (own_new _ _ (by first | (simp; done) | (simp; omega) | omega)) (by first | (simp; done) | (simp; omega) | omega) (by first | (simp; done) | (simp; omega) | omega) (by have := M1.out; omega) (by have := M2.out; omega) (by have := M3.out; omega) (by have := M4.out; omega)) ?_
  rintro e w1 ⟨ao, cap, rfl, O1, k1⟩
  have hz := k1.size
  simp only [World.size_alloc] at hz
  have O2 := hideP O1
  have KB : Hid (Below w.heap.size w w1) := Below.trans (by go_grown) (k1.mono (by omega))
  have hlt : w.heap.size + 2 < w1.heap.size := by omega
  have r0 : w1.cell? ⟨w.heap.size + 2, 0, none⟩ = some (.int .i64 0) := by rw [k1.cell (p := ⟨w.heap.size + 2, 0, none⟩) (by first | (simp; done) | (simp; omega) | omega)]; simp [go_sem]
  have r1 : w1.cell? ⟨w.heap.size + 2, 1, none⟩ = some (.slice none 0 0) := by rw [k1.cell (p := ⟨w.heap.size + 2, 1, none⟩) (by first | (simp; done) | (simp; omega) | omega)]; simp [go_sem]
  have z0 : w1.frozen? ⟨w.heap.size + 2, 0, none⟩ = false := by rw [k1.frozen (p := ⟨w.heap.size + 2, 0, none⟩) (by first | (simp; done) | (simp; omega) | omega)]; simp [go_sem]
  have z1 : w1.frozen? ⟨w.heap.size + 2, 1, none⟩ = false := by rw [k1.frozen (p := ⟨w.heap.size + 2, 1, none⟩) (by first | (simp; done) | (simp; omega) | omega)]; simp [go_sem]
  clear O1 k1
  go_wp2
  refine bodyPost_ret (v := .agg #[.int .i64 0, .slice ao (cutL a b).length cap]) (by simp [results, Try.results15, go_sem, *]; done) rfl ⟨_, rfl, ?_, ao, cap, rfl, ?_⟩
  · exact (KB.out.setCell (by first | (simp; done) | (simp; omega) | omega) _).setCell (by first | (simp; done) | (simp; omega) | omega) _
  · exact ((O2.out.set _ 0 _ (by omega)).set _ 1 _ (by omega)).base (by omega)

end Go.Proofs.Ytbceacnadkhdoaa
