/- What a click reaches, by the program. A key and a click, by the program. A click, by the program: the window that is clicked gets the focus and the message. -/
import Derived.Test.YtoipcnpemmajaaaTh37
namespace Go.Proofs.Ytoipcnpemmajaaa
open Go.RowKit Go.Maps
set_option linter.unusedVariables false
attribute [local go_sem] growUpon growAt growUponR growAtR

theorem fTop1 (c v : Int) (w : World) : Sem.run Try.prog (Instr.field 43 (.agg #[.int .i64 c, .int .i64 v]) 1) w = .ok (.int .i64 v) w := by kernel_rfl
attribute [local go_sem high] fTop1

theorem rbsH_any (w : World) : Calls Try.prog 105 #[] w fun e w' => e = .returned (.agg #[.int .i64 0, .int .i64 1, .int .i64 12, .int .i64 7]) ∧ Below w.heap.size w w' := by
  go_enter Try.func105, Try.ntmps105
  go_wp2
  go_returns
  exact ⟨rfl, by go_grown⟩
theorem hp_below (a b : Int) : hpB 0 1 12 7 a b = decide (0 ≤ a ∧ a ≤ 11 ∧ 1 ≤ b ∧ b ≤ 7) := by
  unfold hpB
  rw [show rfB 0 1 12 7 = false from rfl]
  unfold inB
  rw [Bool.not_false, Bool.true_and]
  congr 1
  apply propext
  omega

/-- Nothing is clicked. -/
def NoWin (W : World) : Ending → World → Prop := fun e w' => e = .returned (.agg #[.int .i64 0, .int .i64 0, .int .i64 0, .int .i64 0, .int .i64 0, .bool false, .slice none 0 0]) ∧ Below W.heap.size W w'

set_option maxRecDepth 100000 in
set_option maxHeartbeats 800000 in
theorem clicked_strip (a b : Int) (so : Option Addr) (n sc : Nat) (w : World) (h : hpB 0 1 12 7 a b = false) :
    Calls Try.prog 94 #[.slice so n sc, .int .i64 a, .int .i64 b] w (NoWin w) := by
  have HP := hideP (fun w1 => h ▸ hp_any 0 1 12 7 a b w1)
  clear h
  go_enter Try.func94, Try.ntmps94
  go_wp2_with (first | (go_at_call 105; refine Calls.mono (rbsH_any _) ?_; (all_goals try (first | (with_reducible assumption) | omega)); rintro e w1 ⟨rfl, k1⟩; (try replace k1 := kept_join (by assumption) k1); have hc1 := Kept.cell k1; have hf1 := Kept.frozen k1; have hz1 := k1.size; (try simp only [World.size_alloc] at hz1); (try simp only [World.size_setCell] at hz1); (try simp only [World.size_drew] at hz1); (try (first | have hs1 := sz12 hz1 | have hs1 := sz11 hz1 | have hs1 := sz10 hz1 | have hs1 := sz9 hz1 | have hs1 := sz8 hz1 | have hs1 := sz7 hz1 | have hs1 := sz6 hz1 | have hs1 := sz5 hz1 | have hs1 := sz4 hz1 | have hs1 := sz3 hz1 | have hs1 := sz2 hz1 | have hs1 := sz1 hz1))) | (go_at_call 51; refine Calls.mono (HP.out _) ?_; (all_goals try (first | (with_reducible assumption) | omega)); rintro e w1 ⟨rfl, k1⟩; (try replace k1 := kept_join (by assumption) k1); have hc1 := Kept.cell k1; have hf1 := Kept.frozen k1; have hz1 := k1.size; (try simp only [World.size_alloc] at hz1); (try simp only [World.size_setCell] at hz1); (try simp only [World.size_drew] at hz1); (try (first | have hs1 := sz12 hz1 | have hs1 := sz11 hz1 | have hs1 := sz10 hz1 | have hs1 := sz9 hz1 | have hs1 := sz8 hz1 | have hs1 := sz7 hz1 | have hs1 := sz6 hz1 | have hs1 := sz5 hz1 | have hs1 := sz4 hz1 | have hs1 := sz3 hz1 | have hs1 := sz2 hz1 | have hs1 := sz1 hz1))))
  have x := fun c => hc1 w.heap.size c (by simp)
  have xf := fun c => hf1 w.heap.size c (by simp)
  obtain ⟨x0, x1, x2, x3, x4, x5, x6⟩ : w1.cell? ⟨w.heap.size, 0, none⟩ = some (.int .i64 0) ∧ w1.cell? ⟨w.heap.size, 1, none⟩ = some (.int .i64 0) ∧ w1.cell? ⟨w.heap.size, 2, none⟩ = some (.int .i64 0) ∧ w1.cell? ⟨w.heap.size, 3, none⟩ = some (.int .i64 0) ∧ w1.cell? ⟨w.heap.size, 4, none⟩ = some (.int .i64 0) ∧ w1.cell? ⟨w.heap.size, 5, none⟩ = some (.bool false) ∧ w1.cell? ⟨w.heap.size, 6, none⟩ = some (.slice none 0 0) := by
    exact ⟨by rw [x 0]; simp, by rw [x 1]; simp, by rw [x 2]; simp, by rw [x 3]; simp, by rw [x 4]; simp, by rw [x 5]; simp, by rw [x 6]; simp⟩
  refine bodyPost_ret (v := .agg #[.int .i64 0, .int .i64 0, .int .i64 0, .int .i64 0, .int .i64 0, .bool false, .slice none 0 0]) (by simp [results, Try.results94, go_sem, x0, x1, x2, x3, x4, x5, x6]) rfl ⟨rfl, ?_⟩
  repeat' (first | (with_reducible exact Below.refl _ _) | (with_reducible refine kept_below ?_ (by assumption) ?_) | (with_reducible refine Below.alloc ?_ ?_ _) | (with_reducible refine Below.drew ?_) | (with_reducible refine Below.setCell ?_ ?_ _) | go_size)

set_option maxRecDepth 100000 in
set_option maxHeartbeats 800000 in
theorem clicked_none (a b : Int) (so : Option Addr) (sc : Nat) (L : List Wn) (w : World) (hL : Ws w 0 w.heap.size so L) (hn : L.length + wzs L ≤ 1048576) (hst : stF (L.map Wn.ct) = 0) (hp : hpB 0 1 12 7 a b = true) (hno : ∀ v ∈ L, hitW a b v = false) :
    Calls Try.prog 94 #[.slice so L.length sc, .int .i64 a, .int .i64 b] w (NoWin w) := by
  have HP := hideP (fun w1 => hp ▸ hp_any 0 1 12 7 a b w1)
  have TP := hideP (fun w1 (kk : Below w.heap.size w w1) => by
    have h := iTop_any so sc L a b w1 ((hL.keep kk (Nat.le_refl _)).wide (Nat.le_refl _) kk.size) hn
    rw [(top_none hst hno).1, (top_none hst hno).2] at h
    exact h)
  have PL := hideP (fun w1 (kk : Below w.heap.size w w1) => by
    have h := place_none 0 w.heap.size so sc L 0 w1 (hL.keep kk (Nat.le_refl _)) kk.size hn hst (no_zero hst)
    rw [askW_none hst (no_zero hst)] at h
    exact h)
  clear hp hst hno hn hL
  generalize L.length = n at *
  go_enter Try.func94, Try.ntmps94
  go_wp2_with (first | (go_at_call 105; refine Calls.mono (rbsH_any _) ?_; (all_goals try (first | (with_reducible assumption) | omega)); rintro e w1 ⟨rfl, k1⟩; (try replace k1 := kept_join (by assumption) k1); have hc1 := Kept.cell k1; have hf1 := Kept.frozen k1; have hz1 := k1.size; (try simp only [World.size_alloc] at hz1); (try simp only [World.size_setCell] at hz1); (try simp only [World.size_drew] at hz1); (try (first | have hs1 := sz12 hz1 | have hs1 := sz11 hz1 | have hs1 := sz10 hz1 | have hs1 := sz9 hz1 | have hs1 := sz8 hz1 | have hs1 := sz7 hz1 | have hs1 := sz6 hz1 | have hs1 := sz5 hz1 | have hs1 := sz4 hz1 | have hs1 := sz3 hz1 | have hs1 := sz2 hz1 | have hs1 := sz1 hz1))) | (go_at_call 51; refine Calls.mono (HP.out _) ?_; (all_goals try (first | (with_reducible assumption) | omega)); rintro e w1 ⟨rfl, k1⟩; (try replace k1 := kept_join (by assumption) k1); have hc1 := Kept.cell k1; have hf1 := Kept.frozen k1; have hz1 := k1.size; (try simp only [World.size_alloc] at hz1); (try simp only [World.size_setCell] at hz1); (try simp only [World.size_drew] at hz1); (try (first | have hs1 := sz12 hz1 | have hs1 := sz11 hz1 | have hs1 := sz10 hz1 | have hs1 := sz9 hz1 | have hs1 := sz8 hz1 | have hs1 := sz7 hz1 | have hs1 := sz6 hz1 | have hs1 := sz5 hz1 | have hs1 := sz4 hz1 | have hs1 := sz3 hz1 | have hs1 := sz2 hz1 | have hs1 := sz1 hz1))) | (go_at_call 21; refine Calls.mono (TP.out _ (by repeat' (first | (with_reducible exact Below.refl _ _) | (with_reducible refine kept_below ?_ (by assumption) ?_) | (with_reducible refine Below.alloc ?_ ?_ _) | (with_reducible refine Below.drew ?_) | (with_reducible refine Below.setCell ?_ ?_ _) | go_size))) ?_; (all_goals try (first | (with_reducible assumption) | omega)); rintro e w1 ⟨rfl, k1⟩; (try replace k1 := kept_join (by assumption) k1); have hc1 := Kept.cell k1; have hf1 := Kept.frozen k1; have hz1 := k1.size; (try simp only [World.size_alloc] at hz1); (try simp only [World.size_setCell] at hz1); (try simp only [World.size_drew] at hz1); (try (first | have hs1 := sz12 hz1 | have hs1 := sz11 hz1 | have hs1 := sz10 hz1 | have hs1 := sz9 hz1 | have hs1 := sz8 hz1 | have hs1 := sz7 hz1 | have hs1 := sz6 hz1 | have hs1 := sz5 hz1 | have hs1 := sz4 hz1 | have hs1 := sz3 hz1 | have hs1 := sz2 hz1 | have hs1 := sz1 hz1))) | (go_at_call 106; refine Calls.mono (PL.out _ (by repeat' (first | (with_reducible exact Below.refl _ _) | (with_reducible refine kept_below ?_ (by assumption) ?_) | (with_reducible refine Below.alloc ?_ ?_ _) | (with_reducible refine Below.drew ?_) | (with_reducible refine Below.setCell ?_ ?_ _) | go_size))) ?_; (all_goals try (first | (with_reducible assumption) | omega)); rintro e w1 ⟨rfl, k1⟩; (try replace k1 := kept_join (by assumption) k1); have hc1 := Kept.cell k1; have hf1 := Kept.frozen k1; have hz1 := k1.size; (try simp only [World.size_alloc] at hz1); (try simp only [World.size_setCell] at hz1); (try simp only [World.size_drew] at hz1); (try (first | have hs1 := sz12 hz1 | have hs1 := sz11 hz1 | have hs1 := sz10 hz1 | have hs1 := sz9 hz1 | have hs1 := sz8 hz1 | have hs1 := sz7 hz1 | have hs1 := sz6 hz1 | have hs1 := sz5 hz1 | have hs1 := sz4 hz1 | have hs1 := sz3 hz1 | have hs1 := sz2 hz1 | have hs1 := sz1 hz1))))
  have x := fun c => hc1 w.heap.size c (by simp)
  have xf := fun c => hf1 w.heap.size c (by simp)
  obtain ⟨x0, x1, x2, x3, x4, x5, x6⟩ : w1.cell? ⟨w.heap.size, 0, none⟩ = some (.int .i64 0) ∧ w1.cell? ⟨w.heap.size, 1, none⟩ = some (.int .i64 0) ∧ w1.cell? ⟨w.heap.size, 2, none⟩ = some (.int .i64 0) ∧ w1.cell? ⟨w.heap.size, 3, none⟩ = some (.int .i64 0) ∧ w1.cell? ⟨w.heap.size, 4, none⟩ = some (.int .i64 0) ∧ w1.cell? ⟨w.heap.size, 5, none⟩ = some (.bool false) ∧ w1.cell? ⟨w.heap.size, 6, none⟩ = some (.slice none 0 0) := by
    exact ⟨by rw [x 0]; simp, by rw [x 1]; simp, by rw [x 2]; simp, by rw [x 3]; simp, by rw [x 4]; simp, by rw [x 5]; simp, by rw [x 6]; simp⟩
  refine bodyPost_ret (v := .agg #[.int .i64 0, .int .i64 0, .int .i64 0, .int .i64 0, .int .i64 0, .bool false, .slice none 0 0]) (by simp [results, Try.results94, go_sem, x0, x1, x2, x3, x4, x5, x6]) rfl ⟨rfl, ?_⟩
  repeat' (first | (with_reducible exact Below.refl _ _) | (with_reducible refine kept_below ?_ (by assumption) ?_) | (with_reducible refine Below.alloc ?_ ?_ _) | (with_reducible refine Below.drew ?_) | (with_reducible refine Below.setCell ?_ ?_ _) | go_size)

set_option maxRecDepth 100000 in
set_option maxHeartbeats 800000 in
theorem clicked_some (a b : Int) (so : Option Addr) (sc : Nat) (L A B : List Wn) (r : Wn) (w : World) (hL : Ws w 0 w.heap.size so L) (hn : L.length + wzs L ≤ 1048576) (hst : stF (L.map Wn.ct) = 0) (hp : hpB 0 1 12 7 a b = true) (ht : Top a b L A r B) :
    Calls Try.prog 94 #[.slice so L.length sc, .int .i64 a, .int .i64 b] w fun e w' => e = .returned (.agg #[.int .i64 r.i, .int .i64 r.x, .int .i64 r.y, .int .i64 r.w, .int .i64 r.h, .bool r.m, .slice r.b.ao r.b.L.length r.b.cap]) ∧ Below w.heap.size w w' := by
  have TF := top_facts hst ht
  have HP := hideP (fun w1 => hp ▸ hp_any 0 1 12 7 a b w1)
  have TP := hideP (fun w1 (kk : Below w.heap.size w w1) => by
    have h := iTop_any so sc L a b w1 ((hL.keep kk (Nat.le_refl _)).wide (Nat.le_refl _) kk.size) hn
    rw [(top_some hst ht).1, (top_some hst ht).2] at h
    exact h)
  have PL := hideP (fun w1 (kk : Below w.heap.size w w1) => place_yes 0 w.heap.size so sc L A B r r.i w1 (hL.keep kk (Nat.le_refl _)) kk.size hn hst TF.fst)
  have h0 := hL
  rw [ht.eq] at h0
  obtain ⟨g, o, hso, hg, hc, _⟩ := Ws.at h0
  have hAl : (A.length : Int) < (L.length : Int) := by rw [ht.eq]; simp; omega
  have hn' : (L.length : Int) ≤ 1048576 := by omega
  have HC := hideP (fun w1 (kk : Below w.heap.size w w1) => (hc.keep kk hg).seven)
  clear hp hst hn hL TF ht h0 hc
  subst hso
  generalize L.length = n at *
  generalize A.length = j at *
  obtain ⟨ri, rx, ry, rw', rh, rm, rb⟩ := r
  simp only at HC TP PL ⊢
  go_enter Try.func94, Try.ntmps94
  go_wp2_with (first | (go_at_call 105; refine Calls.mono (rbsH_any _) ?_; (all_goals try (first | (with_reducible assumption) | omega)); rintro e w1 ⟨rfl, k1⟩; (try replace k1 := kept_join (by assumption) k1); have hc1 := Kept.cell k1; have hf1 := Kept.frozen k1; have hz1 := k1.size; (try simp only [World.size_alloc] at hz1); (try simp only [World.size_setCell] at hz1); (try simp only [World.size_drew] at hz1); (try (first | have hs1 := sz12 hz1 | have hs1 := sz11 hz1 | have hs1 := sz10 hz1 | have hs1 := sz9 hz1 | have hs1 := sz8 hz1 | have hs1 := sz7 hz1 | have hs1 := sz6 hz1 | have hs1 := sz5 hz1 | have hs1 := sz4 hz1 | have hs1 := sz3 hz1 | have hs1 := sz2 hz1 | have hs1 := sz1 hz1))) | (go_at_call 51; refine Calls.mono (HP.out _) ?_; (all_goals try (first | (with_reducible assumption) | omega)); rintro e w1 ⟨rfl, k1⟩; (try replace k1 := kept_join (by assumption) k1); have hc1 := Kept.cell k1; have hf1 := Kept.frozen k1; have hz1 := k1.size; (try simp only [World.size_alloc] at hz1); (try simp only [World.size_setCell] at hz1); (try simp only [World.size_drew] at hz1); (try (first | have hs1 := sz12 hz1 | have hs1 := sz11 hz1 | have hs1 := sz10 hz1 | have hs1 := sz9 hz1 | have hs1 := sz8 hz1 | have hs1 := sz7 hz1 | have hs1 := sz6 hz1 | have hs1 := sz5 hz1 | have hs1 := sz4 hz1 | have hs1 := sz3 hz1 | have hs1 := sz2 hz1 | have hs1 := sz1 hz1))) | (go_at_call 21; refine Calls.mono (TP.out _ (by repeat' (first | (with_reducible exact Below.refl _ _) | (with_reducible refine kept_below ?_ (by assumption) ?_) | (with_reducible refine Below.alloc ?_ ?_ _) | (with_reducible refine Below.drew ?_) | (with_reducible refine Below.setCell ?_ ?_ _) | go_size))) ?_; (all_goals try (first | (with_reducible assumption) | omega)); rintro e w1 ⟨rfl, k1⟩; (try replace k1 := kept_join (by assumption) k1); have hc1 := Kept.cell k1; have hf1 := Kept.frozen k1; have hz1 := k1.size; (try simp only [World.size_alloc] at hz1); (try simp only [World.size_setCell] at hz1); (try simp only [World.size_drew] at hz1); (try (first | have hs1 := sz12 hz1 | have hs1 := sz11 hz1 | have hs1 := sz10 hz1 | have hs1 := sz9 hz1 | have hs1 := sz8 hz1 | have hs1 := sz7 hz1 | have hs1 := sz6 hz1 | have hs1 := sz5 hz1 | have hs1 := sz4 hz1 | have hs1 := sz3 hz1 | have hs1 := sz2 hz1 | have hs1 := sz1 hz1))))
  refine Calls.mono (PL.out _ (by repeat' (first | (with_reducible exact Below.refl _ _) | (with_reducible refine kept_below ?_ (by assumption) ?_) | (with_reducible refine Below.alloc ?_ ?_ _) | (with_reducible refine Below.drew ?_) | (with_reducible refine Below.setCell ?_ ?_ _) | go_size))) ?_
  rintro e w2 ⟨rfl, k2⟩
  replace k2 := kept_join k1 k2
  have K2 : Hid (Below w.heap.size w w2) := hideP (Below.trans (by go_grown) (k2.mono (by simp)))
  have hc2 := Kept.cell k2
  have hf2 := Kept.frozen k2
  have hz2 := k2.size
  simp only [World.size_alloc] at hz2
  have x := fun c => hc2 w.heap.size c (by simp)
  have xf : ∀ c, w2.frozen? ⟨w.heap.size, c, none⟩ = false := fun c => by rw [hf2 w.heap.size c (by simp)]; simp
  obtain ⟨x0, x1, x2, x3, x4, x5, x6⟩ : w2.cell? ⟨w.heap.size, 0, none⟩ = some (.int .i64 0) ∧ w2.cell? ⟨w.heap.size, 1, none⟩ = some (.int .i64 0) ∧ w2.cell? ⟨w.heap.size, 2, none⟩ = some (.int .i64 0) ∧ w2.cell? ⟨w.heap.size, 3, none⟩ = some (.int .i64 0) ∧ w2.cell? ⟨w.heap.size, 4, none⟩ = some (.int .i64 0) ∧ w2.cell? ⟨w.heap.size, 5, none⟩ = some (.bool false) ∧ w2.cell? ⟨w.heap.size, 6, none⟩ = some (.slice none 0 0) := by
    exact ⟨by rw [x 0]; simp, by rw [x 1]; simp, by rw [x 2]; simp, by rw [x 3]; simp, by rw [x 4]; simp, by rw [x 5]; simp, by rw [x 6]; simp⟩
  obtain ⟨a0, a1, a2, a3, a4, a5, a6⟩ := HC.out w2 K2.out
  have hg2 : g < w2.heap.size := by omega
  clear hc2 hf2 x hc1 hf1 hz1 k1 k2 TP PL HC
  go_wp2
  refine bodyPost_ret (v := .agg #[.int .i64 ri, .int .i64 rx, .int .i64 ry, .int .i64 rw', .int .i64 rh, .bool rm, .slice rb.ao rb.L.length rb.cap]) (by simp [results, Try.results94, go_sem, x0, x1, x2, x3, x4, x5, x6]) rfl ⟨rfl, ?_⟩
  have K3 := K2.out
  repeat' (first | (with_reducible assumption) | (with_reducible refine Below.setCell ?_ ?_ _) | go_size)
end Go.Proofs.Ytoipcnpemmajaaa

namespace Go.Proofs.Ytoipcnpemmajaaa
open Go.RowKit Go.Maps
set_option linter.unusedVariables false

theorem kal5W (w : World) (o : Obj) : Below w.heap.size w (w.alloc o) := (Below.refl _ _).alloc (Nat.le_refl _) o
theorem rowW1 (w : World) (x : Int) (T : TypeId) (b : Nat) (hb : b = w.heap.size) : Row .i64 (w.alloc (.cells #[.int .i64 x] T)) b (b + 1) (some ⟨b, 0, none⟩) [x] := by
  subst hb
  refine .inr ⟨_, _, rfl, Nat.le_refl _, by omega, fun i hi => ?_⟩
  obtain rfl : i = 0 := by simpa using hi
  rw [World.cell?_alloc_new]; rfl
theorem rowW3 (w : World) (x y z : Int) (T : TypeId) (b : Nat) (hb : b = w.heap.size) : Row .i64 (w.alloc (.cells #[.int .i64 x, .int .i64 y, .int .i64 z] T)) b (b + 1) (some ⟨b, 0, none⟩) [x, y, z] := by
  subst hb
  refine .inr ⟨_, _, rfl, Nat.le_refl _, by omega, fun i hi => ?_⟩
  have : i = 0 ∨ i = 1 ∨ i = 2 := by simp at hi; omega
  rcases this with rfl | rfl | rfl
  all_goals (rw [World.cell?_alloc_new]; rfl)

set_option maxRecDepth 100000 in
set_option maxHeartbeats 800000 in
theorem typeKey_any (f k a b : Int) (so : Option Addr) (n sc : Nat) (w : World) (ha : byB a = true) :
    Calls Try.prog 68 #[.agg #[.bool false, .int .i64 f], .slice so n sc, .agg #[.int .i64 k, .int .i64 a, .int .i64 b]] w (RtA (keyR f a) w) := by
  have hc : ∀ (lo hi : Nat) (bo : Option Addr) (w1 : World), Row .i64 w1 lo hi bo [a] → hi ≤ w1.heap.size → Calls Try.prog 95 #[.agg #[.bool false, .int .i64 f], .int .i64 4, .slice bo 1 1] w1 (RtA (keyR f a) w1) := by
    intro lo hi bo w1 hR hh
    by_cases hf : f = 0
    · subst hf; exact toFocus_none false 4 bo 1 1 w1
    · rw [show keyR f a = ⟨0, f, 4, [a], false, f⟩ from if_neg hf]
      exact toFocus_some lo hi false f 4 bo 1 [a] w1 hf hR hh (by simp) (by simp [ha])
  generalize keyR f a = R at *
  have HC := hideP hc
  clear hc ha
  go_enter Try.func68, Try.ntmps68
  go_wp2_with fail
  refine Calls.mono (HC.out _ _ _ _ (rowW1 _ _ _ _ (by simp)) (by simp)) ?_
  rintro e w1 ⟨ao, ca, rfl, O1, k1⟩
  have X1 := hideP ((r6_new ((w.alloc (.cells #[.bool false, .int .i64 f] 25)).alloc (.cells #[.int .i64 k, .int .i64 a, .int .i64 b] 28)) (.int .i64 0) (.int .i64 0) (.int .i64 0) (.slice none 0 0) (.bool false) (.int .i64 0) 34).keep ((kal5W _ _).trans (k1.mono (by simp))) (by simp))
  have K1 : Hid (Below w.heap.size w w1) := hideP (Below.trans (by go_grown) (k1.mono (by simp; omega)))
  have O3 := hideP O1
  simp only [World.size_alloc] at X1 O3
  clear k1 O1 HC
  obtain ⟨x0, x1, x2, x3, x4, x5, xf, xl⟩ := X1.out
  go_wp2
  exact bodyPost_ret (v := .agg #[.int .i64 R.z, .int .i64 R.tg, .int .i64 R.kd, .slice ao R.D.length ca, .bool R.tr, .int .i64 R.fo]) (by simp [results, Try.results68, go_sem, x0, x1, x2, x3, x4, x5]) rfl (rt_six O3.out (by omega) (by omega) K1.out)
end Go.Proofs.Ytoipcnpemmajaaa

namespace Go.Proofs.Ytoipcnpemmajaaa
open Go.RowKit Go.Maps
set_option linter.unusedVariables false

set_option maxRecDepth 100000 in
set_option maxHeartbeats 2000000 in
theorem click_none (f k a b : Int) (so : Option Addr) (n sc : Nat) (w : World)
    (hc : ∀ w1, Below w.heap.size w w1 → Calls Try.prog 94 #[.slice so n sc, .int .i64 a, .int .i64 b] w1 (NoWin w1)) :
    Calls Try.prog 67 #[.agg #[.bool false, .int .i64 f], .slice so n sc, .agg #[.int .i64 k, .int .i64 a, .int .i64 b]] w (RtA (⟨0, 0, 0, [], false, 0⟩ : Rt) w) := by
  have HC := hideP hc
  clear hc
  go_enter Try.func67, Try.ntmps67
  go_wp2_with fail
  refine Calls.mono (HC.out _ (by go_grown)) ?_
  rintro e w1 ⟨rfl, k1⟩
  have hc1 := Kept.cell k1
  have hf1 := Kept.frozen k1
  have hz1 := k1.size
  simp only [World.size_alloc] at hz1
  have b0 : w1.cell? ⟨w.heap.size, 0, none⟩ = some (.bool false) := (hc1 _ _ (by first | (simp; done) | (simp; omega))).trans (by simp [go_sem])
  have b1 : w1.cell? ⟨w.heap.size, 1, none⟩ = some (.int .i64 f) := (hc1 _ _ (by first | (simp; done) | (simp; omega))).trans (by simp [go_sem])
  have bf : ∀ c, w1.frozen? ⟨w.heap.size, c, none⟩ = false := fun c => (hf1 _ _ (by first | (simp; done) | (simp; omega))).trans (by simp [go_sem])
  have d0 : w1.cell? ⟨w.heap.size + 1, 0, none⟩ = some (.int .i64 k) := (hc1 _ _ (by first | (simp; done) | (simp; omega))).trans (by simp [go_sem])
  have d1 : w1.cell? ⟨w.heap.size + 1, 1, none⟩ = some (.int .i64 a) := (hc1 _ _ (by first | (simp; done) | (simp; omega))).trans (by simp [go_sem])
  have d2 : w1.cell? ⟨w.heap.size + 1, 2, none⟩ = some (.int .i64 b) := (hc1 _ _ (by first | (simp; done) | (simp; omega))).trans (by simp [go_sem])
  have X1 := hideP ((r6_new ((w.alloc (.cells #[.bool false, .int .i64 f] 25)).alloc (.cells #[.int .i64 k, .int .i64 a, .int .i64 b] 28)) (.int .i64 0) (.int .i64 0) (.int .i64 0) (.slice none 0 0) (.bool false) (.int .i64 0) 34).keep k1 (by simp))
  have K1 : Hid (Below w.heap.size w w1) := hideP (Below.trans (by go_grown) (k1.mono (by simp; omega)))
  simp only [World.size_alloc] at X1
  clear hc1 hf1 k1 HC
  have n0 : w.heap.size < w1.heap.size ∧ w.heap.size ≤ w1.heap.size ∧ w.heap.size ≤ w1.heap.size + 1 ∧ ¬ w.heap.size = w1.heap.size ∧ ¬ w.heap.size = w1.heap.size + 1 := by omega
  have n1 : w.heap.size + 1 < w1.heap.size ∧ w.heap.size + 1 ≤ w1.heap.size ∧ w.heap.size + 1 ≤ w1.heap.size + 1 ∧ ¬ w.heap.size + 1 = w1.heap.size ∧ ¬ w.heap.size + 1 = w1.heap.size + 1 := by omega
  go_wp2_with fail
  have kW : Below w.heap.size w (((w1.setCell ⟨w.heap.size, 1, none⟩ (.int .i64 0)).alloc (.cells #[.int .i64 0, .int .i64 0, .int .i64 0, .int .i64 0, .int .i64 0, .bool false, .slice none 0 0] 81)).alloc (.cells #[.int .i64 0, .int .i64 (wrap64 a), .int .i64 (wrap64 b)] 2)) := (((K1.out.setCell (p := ⟨w.heap.size, 1, none⟩) (Nat.le_refl _) (.int .i64 0)).alloc (by simp; omega) (.cells #[.int .i64 0, .int .i64 0, .int .i64 0, .int .i64 0, .int .i64 0, .bool false, .slice none 0 0] 81)).alloc (by simp; omega) (.cells #[.int .i64 0, .int .i64 (wrap64 a), .int .i64 (wrap64 b)] 2))
  have XW := hideP (((X1.out.far (Far.of_set7 (lo := w.heap.size) (hi := w.heap.size + 1) ⟨Nat.le_refl _, Nat.lt_succ_self _⟩) (.inr (by omega))).keep (kal5W _ (.cells #[.int .i64 0, .int .i64 0, .int .i64 0, .int .i64 0, .int .i64 0, .bool false, .slice none 0 0] 81)) (by simp; omega)).keep (kal5W _ (.cells #[.int .i64 0, .int .i64 (wrap64 a), .int .i64 (wrap64 b)] 2)) (by simp; omega) : R6 (((w1.setCell ⟨w.heap.size, 1, none⟩ (.int .i64 0)).alloc (.cells #[.int .i64 0, .int .i64 0, .int .i64 0, .int .i64 0, .int .i64 0, .bool false, .slice none 0 0] 81)).alloc (.cells #[.int .i64 0, .int .i64 (wrap64 a), .int .i64 (wrap64 b)] 2)) _ _ _ _ _ _ _)
  have hWs : (((w1.setCell ⟨w.heap.size, 1, none⟩ (.int .i64 0)).alloc (.cells #[.int .i64 0, .int .i64 0, .int .i64 0, .int .i64 0, .int .i64 0, .bool false, .slice none 0 0] 81)).alloc (.cells #[.int .i64 0, .int .i64 (wrap64 a), .int .i64 (wrap64 b)] 2)).heap.size = w1.heap.size + 1 + 1 := by simp
  refine Calls.mono (toFocus_none false 5 _ 3 3 _) ?_
  rintro e w2 ⟨ao, ca, rfl, O2, k2⟩
  have O3 := hideP O2
  have X2 := hideP (XW.out.keep k2 (by rw [hWs]; omega))
  have K2 : Hid (Below w.heap.size w w2) := hideP (kW.trans (k2.mono (by rw [hWs]; omega)))
  rw [hWs] at O3
  clear X1 XW k2 O2 kW
  obtain ⟨x0, x1, x2, x3, x4, x5, xf, xl⟩ := X2.out
  go_wp2
  exact bodyPost_ret (v := .agg #[.int .i64 (⟨0, 0, 0, [], false, 0⟩ : Rt).z, .int .i64 (⟨0, 0, 0, [], false, 0⟩ : Rt).tg, .int .i64 (⟨0, 0, 0, [], false, 0⟩ : Rt).kd, .slice ao (⟨0, 0, 0, [], false, 0⟩ : Rt).D.length ca, .bool (⟨0, 0, 0, [], false, 0⟩ : Rt).tr, .int .i64 (⟨0, 0, 0, [], false, 0⟩ : Rt).fo]) (by simp [results, Try.results67, go_sem, x0, x1, x2, x3, x4, x5]) rfl (rt_six (r := (⟨0, 0, 0, [], false, 0⟩ : Rt)) O3.out (by omega) (by omega) K2.out)

set_option maxRecDepth 100000 in
set_option maxHeartbeats 2000000 in
theorem click_some (f k a b : Int) (so : Option Addr) (n sc : Nat) (ri rx ry rp rh : Int) (rm : Bool) (ro : Option Addr) (rn rc : Nat) (h1 : 1 ≤ ri ∧ ri ≤ 255) (h2 : 0 ≤ a - rx ∧ a - rx ≤ 7) (h3 : 0 ≤ b - ry ∧ b - ry ≤ 5) (w : World)
    (hc : ∀ w1, Below w.heap.size w w1 → Calls Try.prog 94 #[.slice so n sc, .int .i64 a, .int .i64 b] w1 fun e w' => e = .returned (.agg #[.int .i64 ri, .int .i64 rx, .int .i64 ry, .int .i64 rp, .int .i64 rh, .bool rm, .slice ro rn rc]) ∧ Below w1.heap.size w1 w') :
    Calls Try.prog 67 #[.agg #[.bool false, .int .i64 f], .slice so n sc, .agg #[.int .i64 k, .int .i64 a, .int .i64 b]] w (RtA (⟨0, ri, 5, [ri, a - rx, b - ry], false, ri⟩ : Rt) w) := by
  have HC := hideP hc
  clear hc
  have e1 : IntKind.i64.wrap (a - rx) = a - rx := IntWalk.i64_in _ (by omega)
  have e2 : IntKind.i64.wrap (b - ry) = b - ry := IntWalk.i64_in _ (by omega)
  have hri : ri ≠ 0 := by omega
  have hall : [ri, a - rx, b - ry].all byB = true := by simp [byB]; omega
  go_enter Try.func67, Try.ntmps67
  go_wp2_with fail
  refine Calls.mono (HC.out _ (by go_grown)) ?_
  rintro e w1 ⟨rfl, k1⟩
  have hc1 := Kept.cell k1
  have hf1 := Kept.frozen k1
  have hz1 := k1.size
  simp only [World.size_alloc] at hz1
  have b0 : w1.cell? ⟨w.heap.size, 0, none⟩ = some (.bool false) := (hc1 _ _ (by first | (simp; done) | (simp; omega))).trans (by simp [go_sem])
  have b1 : w1.cell? ⟨w.heap.size, 1, none⟩ = some (.int .i64 f) := (hc1 _ _ (by first | (simp; done) | (simp; omega))).trans (by simp [go_sem])
  have bf : ∀ c, w1.frozen? ⟨w.heap.size, c, none⟩ = false := fun c => (hf1 _ _ (by first | (simp; done) | (simp; omega))).trans (by simp [go_sem])
  have d0 : w1.cell? ⟨w.heap.size + 1, 0, none⟩ = some (.int .i64 k) := (hc1 _ _ (by first | (simp; done) | (simp; omega))).trans (by simp [go_sem])
  have d1 : w1.cell? ⟨w.heap.size + 1, 1, none⟩ = some (.int .i64 a) := (hc1 _ _ (by first | (simp; done) | (simp; omega))).trans (by simp [go_sem])
  have d2 : w1.cell? ⟨w.heap.size + 1, 2, none⟩ = some (.int .i64 b) := (hc1 _ _ (by first | (simp; done) | (simp; omega))).trans (by simp [go_sem])
  have X1 := hideP ((r6_new ((w.alloc (.cells #[.bool false, .int .i64 f] 25)).alloc (.cells #[.int .i64 k, .int .i64 a, .int .i64 b] 28)) (.int .i64 0) (.int .i64 0) (.int .i64 0) (.slice none 0 0) (.bool false) (.int .i64 0) 34).keep k1 (by simp))
  have K1 : Hid (Below w.heap.size w w1) := hideP (Below.trans (by go_grown) (k1.mono (by simp; omega)))
  simp only [World.size_alloc] at X1
  clear hc1 hf1 k1 HC
  have n0 : w.heap.size < w1.heap.size ∧ w.heap.size ≤ w1.heap.size ∧ w.heap.size ≤ w1.heap.size + 1 ∧ ¬ w.heap.size = w1.heap.size ∧ ¬ w.heap.size = w1.heap.size + 1 := by omega
  have n1 : w.heap.size + 1 < w1.heap.size ∧ w.heap.size + 1 ≤ w1.heap.size ∧ w.heap.size + 1 ≤ w1.heap.size + 1 ∧ ¬ w.heap.size + 1 = w1.heap.size ∧ ¬ w.heap.size + 1 = w1.heap.size + 1 := by omega
  go_wp2_with fail
  have kW : Below w.heap.size w (((w1.setCell ⟨w.heap.size, 1, none⟩ (.int .i64 ri)).alloc (.cells #[.int .i64 ri, .int .i64 rx, .int .i64 ry, .int .i64 rp, .int .i64 rh, .bool rm, .slice ro rn rc] 81)).alloc (.cells #[.int .i64 ri, .int .i64 (a - rx), .int .i64 (b - ry)] 2)) := (((K1.out.setCell (p := ⟨w.heap.size, 1, none⟩) (Nat.le_refl _) (.int .i64 ri)).alloc (by simp; omega) (.cells #[.int .i64 ri, .int .i64 rx, .int .i64 ry, .int .i64 rp, .int .i64 rh, .bool rm, .slice ro rn rc] 81)).alloc (by simp; omega) (.cells #[.int .i64 ri, .int .i64 (a - rx), .int .i64 (b - ry)] 2))
  have XW := hideP (((X1.out.far (Far.of_set7 (lo := w.heap.size) (hi := w.heap.size + 1) ⟨Nat.le_refl _, Nat.lt_succ_self _⟩) (.inr (by omega))).keep (kal5W _ (.cells #[.int .i64 ri, .int .i64 rx, .int .i64 ry, .int .i64 rp, .int .i64 rh, .bool rm, .slice ro rn rc] 81)) (by simp; omega)).keep (kal5W _ (.cells #[.int .i64 ri, .int .i64 (a - rx), .int .i64 (b - ry)] 2)) (by simp; omega) : R6 (((w1.setCell ⟨w.heap.size, 1, none⟩ (.int .i64 ri)).alloc (.cells #[.int .i64 ri, .int .i64 rx, .int .i64 ry, .int .i64 rp, .int .i64 rh, .bool rm, .slice ro rn rc] 81)).alloc (.cells #[.int .i64 ri, .int .i64 (a - rx), .int .i64 (b - ry)] 2)) _ _ _ _ _ _ _)
  have hWs : (((w1.setCell ⟨w.heap.size, 1, none⟩ (.int .i64 ri)).alloc (.cells #[.int .i64 ri, .int .i64 rx, .int .i64 ry, .int .i64 rp, .int .i64 rh, .bool rm, .slice ro rn rc] 81)).alloc (.cells #[.int .i64 ri, .int .i64 (a - rx), .int .i64 (b - ry)] 2)).heap.size = w1.heap.size + 1 + 1 := by simp
  refine Calls.mono (toFocus_some (w1.heap.size + 1) (w1.heap.size + 2) false ri 5 _ 3 [ri, a - rx, b - ry] _ hri (rowW3 _ _ _ _ _ _ (by simp)) (by simp) (by simp) hall) ?_
  rintro e w2 ⟨ao, ca, rfl, O2, k2⟩
  have O3 := hideP O2
  have X2 := hideP (XW.out.keep k2 (by rw [hWs]; omega))
  have K2 : Hid (Below w.heap.size w w2) := hideP (kW.trans (k2.mono (by rw [hWs]; omega)))
  rw [hWs] at O3
  clear X1 XW k2 O2 kW
  obtain ⟨x0, x1, x2, x3, x4, x5, xf, xl⟩ := X2.out
  go_wp2
  exact bodyPost_ret (v := .agg #[.int .i64 (⟨0, ri, 5, [ri, a - rx, b - ry], false, ri⟩ : Rt).z, .int .i64 (⟨0, ri, 5, [ri, a - rx, b - ry], false, ri⟩ : Rt).tg, .int .i64 (⟨0, ri, 5, [ri, a - rx, b - ry], false, ri⟩ : Rt).kd, .slice ao (⟨0, ri, 5, [ri, a - rx, b - ry], false, ri⟩ : Rt).D.length ca, .bool (⟨0, ri, 5, [ri, a - rx, b - ry], false, ri⟩ : Rt).tr, .int .i64 (⟨0, ri, 5, [ri, a - rx, b - ry], false, ri⟩ : Rt).fo]) (by simp [results, Try.results67, go_sem, x0, x1, x2, x3, x4, x5]) rfl (rt_six (r := (⟨0, ri, 5, [ri, a - rx, b - ry], false, ri⟩ : Rt)) O3.out (by omega) (by omega) K2.out)
end Go.Proofs.Ytoipcnpemmajaaa
