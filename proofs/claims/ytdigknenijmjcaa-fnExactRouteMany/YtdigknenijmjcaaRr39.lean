/- What a click reaches, by the program. -/
import Derived.Test.YtdigknenijmjcaaRr38
namespace Go.Proofs.Ytdigknenijmjcaa
open Go.RowKit Go.Maps
set_option linter.unusedVariables false
attribute [local go_sem] growUpon growAt growUponR growAtR

theorem fTop1 (c v : Int) (w : World) : Sem.run Try.prog (Instr.field 109 (.agg #[.int .i64 c, .int .i64 v]) 1) w = .ok (.int .i64 v) w := by kernel_rfl
attribute [local go_sem high] fTop1

theorem rbsH_any (w : World) : Calls Try.prog 77 #[] w fun e w' => e = .returned (.agg #[.int .i64 0, .int .i64 1, .int .i64 12, .int .i64 7]) ∧ Below w.heap.size w w' := by
  go_enter Try.func77, Try.ntmps77
  go_wp2
  go_returns
  exact ⟨rfl, by go_grown⟩
theorem hp_below (a b : Int) : hpB 0 1 12 7 a b = decide (0 ≤ a ∧ a ≤ 11 ∧ 1 ≤ b ∧ b ≤ 7) := by
  unfold hpB
  rw [show rfB 0 1 12 7 = false from rfl]
  unfold inB
  rw [Bool.not_false, Bool.true_and]
  congr 1
  apply propext
  omega

/-- Nothing is clicked. -/
def NoWin (W : World) : Ending → World → Prop := fun e w' => e = .returned (.agg #[.int .i64 0, .int .i64 0, .int .i64 0, .int .i64 0, .int .i64 0, .bool false, .slice none 0 0]) ∧ Below W.heap.size W w'

set_option maxRecDepth 100000 in
set_option maxHeartbeats 800000 in
theorem clicked_strip (a b : Int) (so : Option Addr) (n sc : Nat) (w : World) (h : hpB 0 1 12 7 a b = false) :
    Calls Try.prog 69 #[.slice so n sc, .int .i64 a, .int .i64 b] w (NoWin w) := by
  have HP := hideP (fun w1 => h ▸ hp_any 0 1 12 7 a b w1)
  clear h
  go_enter Try.func69, Try.ntmps69
  go_wp2_with (first | (go_at_call 77; refine Calls.mono (rbsH_any _) ?_; (all_goals try (first | (with_reducible assumption) | omega)); rintro e w1 ⟨rfl, k1⟩; (try replace k1 := kept_join (by assumption) k1); have hc1 := Kept.cell k1; have hf1 := Kept.frozen k1; have hz1 := k1.size; (try simp only [World.size_alloc] at hz1); (try simp only [World.size_setCell] at hz1); (try simp only [World.size_drew] at hz1); (try (first | have hs1 := sz12 hz1 | have hs1 := sz11 hz1 | have hs1 := sz10 hz1 | have hs1 := sz9 hz1 | have hs1 := sz8 hz1 | have hs1 := sz7 hz1 | have hs1 := sz6 hz1 | have hs1 := sz5 hz1 | have hs1 := sz4 hz1 | have hs1 := sz3 hz1 | have hs1 := sz2 hz1 | have hs1 := sz1 hz1))) | (go_at_call 68; refine Calls.mono (HP.out _) ?_; (all_goals try (first | (with_reducible assumption) | omega)); rintro e w1 ⟨rfl, k1⟩; (try replace k1 := kept_join (by assumption) k1); have hc1 := Kept.cell k1; have hf1 := Kept.frozen k1; have hz1 := k1.size; (try simp only [World.size_alloc] at hz1); (try simp only [World.size_setCell] at hz1); (try simp only [World.size_drew] at hz1); (try (first | have hs1 := sz12 hz1 | have hs1 := sz11 hz1 | have hs1 := sz10 hz1 | have hs1 := sz9 hz1 | have hs1 := sz8 hz1 | have hs1 := sz7 hz1 | have hs1 := sz6 hz1 | have hs1 := sz5 hz1 | have hs1 := sz4 hz1 | have hs1 := sz3 hz1 | have hs1 := sz2 hz1 | have hs1 := sz1 hz1))))
  have x := fun c => hc1 w.heap.size c (by simp)
  have xf := fun c => hf1 w.heap.size c (by simp)
  obtain ⟨x0, x1, x2, x3, x4, x5, x6⟩ : w1.cell? ⟨w.heap.size, 0, none⟩ = some (.int .i64 0) ∧ w1.cell? ⟨w.heap.size, 1, none⟩ = some (.int .i64 0) ∧ w1.cell? ⟨w.heap.size, 2, none⟩ = some (.int .i64 0) ∧ w1.cell? ⟨w.heap.size, 3, none⟩ = some (.int .i64 0) ∧ w1.cell? ⟨w.heap.size, 4, none⟩ = some (.int .i64 0) ∧ w1.cell? ⟨w.heap.size, 5, none⟩ = some (.bool false) ∧ w1.cell? ⟨w.heap.size, 6, none⟩ = some (.slice none 0 0) := by
    exact ⟨by rw [x 0]; simp, by rw [x 1]; simp, by rw [x 2]; simp, by rw [x 3]; simp, by rw [x 4]; simp, by rw [x 5]; simp, by rw [x 6]; simp⟩
  refine bodyPost_ret (v := .agg #[.int .i64 0, .int .i64 0, .int .i64 0, .int .i64 0, .int .i64 0, .bool false, .slice none 0 0]) (by simp [results, Try.results69, go_sem, x0, x1, x2, x3, x4, x5, x6]) rfl ⟨rfl, ?_⟩
  repeat' (first | (with_reducible exact Below.refl _ _) | (with_reducible refine kept_below ?_ (by assumption) ?_) | (with_reducible refine Below.alloc ?_ ?_ _) | (with_reducible refine Below.drew ?_) | (with_reducible refine Below.setCell ?_ ?_ _) | go_size)

set_option maxRecDepth 100000 in
set_option maxHeartbeats 800000 in
theorem clicked_none (a b : Int) (so : Option Addr) (sc : Nat) (L : List Wn) (w : World) (hL : Ws w 0 w.heap.size so L) (hn : L.length + wzs L ≤ 1048576) (hst : stF (L.map Wn.ct) = 0) (hp : hpB 0 1 12 7 a b = true) (hno : ∀ v ∈ L, hitW a b v = false) :
    Calls Try.prog 69 #[.slice so L.length sc, .int .i64 a, .int .i64 b] w (NoWin w) := by
  have HP := hideP (fun w1 => hp ▸ hp_any 0 1 12 7 a b w1)
  have TP := hideP (fun w1 (kk : Below w.heap.size w w1) => by
    have h := iTop_any so sc L a b w1 ((hL.keep kk (Nat.le_refl _)).wide (Nat.le_refl _) kk.size) hn
    rw [(top_none hst hno).1, (top_none hst hno).2] at h
    exact h)
  have PL := hideP (fun w1 (kk : Below w.heap.size w w1) => by
    have h := place_none 0 w.heap.size so sc L 0 w1 (hL.keep kk (Nat.le_refl _)) kk.size hn hst (no_zero hst)
    rw [askW_none hst (no_zero hst)] at h
    exact h)
  clear hp hst hno hn hL
  generalize L.length = n at *
  go_enter Try.func69, Try.ntmps69
  go_wp2_with (first | (go_at_call 77; refine Calls.mono (rbsH_any _) ?_; (all_goals try (first | (with_reducible assumption) | omega)); rintro e w1 ⟨rfl, k1⟩; (try replace k1 := kept_join (by assumption) k1); have hc1 := Kept.cell k1; have hf1 := Kept.frozen k1; have hz1 := k1.size; (try simp only [World.size_alloc] at hz1); (try simp only [World.size_setCell] at hz1); (try simp only [World.size_drew] at hz1); (try (first | have hs1 := sz12 hz1 | have hs1 := sz11 hz1 | have hs1 := sz10 hz1 | have hs1 := sz9 hz1 | have hs1 := sz8 hz1 | have hs1 := sz7 hz1 | have hs1 := sz6 hz1 | have hs1 := sz5 hz1 | have hs1 := sz4 hz1 | have hs1 := sz3 hz1 | have hs1 := sz2 hz1 | have hs1 := sz1 hz1))) | (go_at_call 68; refine Calls.mono (HP.out _) ?_; (all_goals try (first | (with_reducible assumption) | omega)); rintro e w1 ⟨rfl, k1⟩; (try replace k1 := kept_join (by assumption) k1); have hc1 := Kept.cell k1; have hf1 := Kept.frozen k1; have hz1 := k1.size; (try simp only [World.size_alloc] at hz1); (try simp only [World.size_setCell] at hz1); (try simp only [World.size_drew] at hz1); (try (first | have hs1 := sz12 hz1 | have hs1 := sz11 hz1 | have hs1 := sz10 hz1 | have hs1 := sz9 hz1 | have hs1 := sz8 hz1 | have hs1 := sz7 hz1 | have hs1 := sz6 hz1 | have hs1 := sz5 hz1 | have hs1 := sz4 hz1 | have hs1 := sz3 hz1 | have hs1 := sz2 hz1 | have hs1 := sz1 hz1))) | (go_at_call 79; refine Calls.mono (TP.out _ (by repeat' (first | (with_reducible exact Below.refl _ _) | (with_reducible refine kept_below ?_ (by assumption) ?_) | (with_reducible refine Below.alloc ?_ ?_ _) | (with_reducible refine Below.drew ?_) | (with_reducible refine Below.setCell ?_ ?_ _) | go_size))) ?_; (all_goals try (first | (with_reducible assumption) | omega)); rintro e w1 ⟨rfl, k1⟩; (try replace k1 := kept_join (by assumption) k1); have hc1 := Kept.cell k1; have hf1 := Kept.frozen k1; have hz1 := k1.size; (try simp only [World.size_alloc] at hz1); (try simp only [World.size_setCell] at hz1); (try simp only [World.size_drew] at hz1); (try (first | have hs1 := sz12 hz1 | have hs1 := sz11 hz1 | have hs1 := sz10 hz1 | have hs1 := sz9 hz1 | have hs1 := sz8 hz1 | have hs1 := sz7 hz1 | have hs1 := sz6 hz1 | have hs1 := sz5 hz1 | have hs1 := sz4 hz1 | have hs1 := sz3 hz1 | have hs1 := sz2 hz1 | have hs1 := sz1 hz1))) | (go_at_call 78; refine Calls.mono (PL.out _ (by repeat' (first | (with_reducible exact Below.refl _ _) | (with_reducible refine kept_below ?_ (by assumption) ?_) | (with_reducible refine Below.alloc ?_ ?_ _) | (with_reducible refine Below.drew ?_) | (with_reducible refine Below.setCell ?_ ?_ _) | go_size))) ?_; (all_goals try (first | (with_reducible assumption) | omega)); rintro e w1 ⟨rfl, k1⟩; (try replace k1 := kept_join (by assumption) k1); have hc1 := Kept.cell k1; have hf1 := Kept.frozen k1; have hz1 := k1.size; (try simp only [World.size_alloc] at hz1); (try simp only [World.size_setCell] at hz1); (try simp only [World.size_drew] at hz1); (try (first | have hs1 := sz12 hz1 | have hs1 := sz11 hz1 | have hs1 := sz10 hz1 | have hs1 := sz9 hz1 | have hs1 := sz8 hz1 | have hs1 := sz7 hz1 | have hs1 := sz6 hz1 | have hs1 := sz5 hz1 | have hs1 := sz4 hz1 | have hs1 := sz3 hz1 | have hs1 := sz2 hz1 | have hs1 := sz1 hz1))))
  have x := fun c => hc1 w.heap.size c (by simp)
  have xf := fun c => hf1 w.heap.size c (by simp)
  obtain ⟨x0, x1, x2, x3, x4, x5, x6⟩ : w1.cell? ⟨w.heap.size, 0, none⟩ = some (.int .i64 0) ∧ w1.cell? ⟨w.heap.size, 1, none⟩ = some (.int .i64 0) ∧ w1.cell? ⟨w.heap.size, 2, none⟩ = some (.int .i64 0) ∧ w1.cell? ⟨w.heap.size, 3, none⟩ = some (.int .i64 0) ∧ w1.cell? ⟨w.heap.size, 4, none⟩ = some (.int .i64 0) ∧ w1.cell? ⟨w.heap.size, 5, none⟩ = some (.bool false) ∧ w1.cell? ⟨w.heap.size, 6, none⟩ = some (.slice none 0 0) := by
    exact ⟨by rw [x 0]; simp, by rw [x 1]; simp, by rw [x 2]; simp, by rw [x 3]; simp, by rw [x 4]; simp, by rw [x 5]; simp, by rw [x 6]; simp⟩
  refine bodyPost_ret (v := .agg #[.int .i64 0, .int .i64 0, .int .i64 0, .int .i64 0, .int .i64 0, .bool false, .slice none 0 0]) (by simp [results, Try.results69, go_sem, x0, x1, x2, x3, x4, x5, x6]) rfl ⟨rfl, ?_⟩
  repeat' (first | (with_reducible exact Below.refl _ _) | (with_reducible refine kept_below ?_ (by assumption) ?_) | (with_reducible refine Below.alloc ?_ ?_ _) | (with_reducible refine Below.drew ?_) | (with_reducible refine Below.setCell ?_ ?_ _) | go_size)

set_option maxRecDepth 100000 in
set_option maxHeartbeats 800000 in
theorem clicked_some (a b : Int) (so : Option Addr) (sc : Nat) (L A B : List Wn) (r : Wn) (w : World) (hL : Ws w 0 w.heap.size so L) (hn : L.length + wzs L ≤ 1048576) (hst : stF (L.map Wn.ct) = 0) (hp : hpB 0 1 12 7 a b = true) (ht : Top a b L A r B) :
    Calls Try.prog 69 #[.slice so L.length sc, .int .i64 a, .int .i64 b] w fun e w' => e = .returned (.agg #[.int .i64 r.i, .int .i64 r.x, .int .i64 r.y, .int .i64 r.w, .int .i64 r.h, .bool r.m, .slice r.b.ao r.b.L.length r.b.cap]) ∧ Below w.heap.size w w' := by
  have TF := top_facts hst ht
  have HP := hideP (fun w1 => hp ▸ hp_any 0 1 12 7 a b w1)
  have TP := hideP (fun w1 (kk : Below w.heap.size w w1) => by
    have h := iTop_any so sc L a b w1 ((hL.keep kk (Nat.le_refl _)).wide (Nat.le_refl _) kk.size) hn
    rw [(top_some hst ht).1, (top_some hst ht).2] at h
    exact h)
  have PL := hideP (fun w1 (kk : Below w.heap.size w w1) => place_yes 0 w.heap.size so sc L A B r r.i w1 (hL.keep kk (Nat.le_refl _)) kk.size hn hst TF.fst)
  have h0 := hL
  rw [ht.eq] at h0
  obtain ⟨g, o, hso, hg, hc, _⟩ := Ws.at h0
  have hAl : (A.length : Int) < (L.length : Int) := by rw [ht.eq]; simp; omega
  have hn' : (L.length : Int) ≤ 1048576 := by omega
  have HC := hideP (fun w1 (kk : Below w.heap.size w w1) => (hc.keep kk hg).seven)
  clear hp hst hn hL TF ht h0 hc
  subst hso
  generalize L.length = n at *
  generalize A.length = j at *
  obtain ⟨ri, rx, ry, rw', rh, rm, rb⟩ := r
  simp only at HC TP PL ⊢
  go_enter Try.func69, Try.ntmps69
  go_wp2_with (first | (go_at_call 77; refine Calls.mono (rbsH_any _) ?_; (all_goals try (first | (with_reducible assumption) | omega)); rintro e w1 ⟨rfl, k1⟩; (try replace k1 := kept_join (by assumption) k1); have hc1 := Kept.cell k1; have hf1 := Kept.frozen k1; have hz1 := k1.size; (try simp only [World.size_alloc] at hz1); (try simp only [World.size_setCell] at hz1); (try simp only [World.size_drew] at hz1); (try (first | have hs1 := sz12 hz1 | have hs1 := sz11 hz1 | have hs1 := sz10 hz1 | have hs1 := sz9 hz1 | have hs1 := sz8 hz1 | have hs1 := sz7 hz1 | have hs1 := sz6 hz1 | have hs1 := sz5 hz1 | have hs1 := sz4 hz1 | have hs1 := sz3 hz1 | have hs1 := sz2 hz1 | have hs1 := sz1 hz1))) | (go_at_call 68; refine Calls.mono (HP.out _) ?_; (all_goals try (first | (with_reducible assumption) | omega)); rintro e w1 ⟨rfl, k1⟩; (try replace k1 := kept_join (by assumption) k1); have hc1 := Kept.cell k1; have hf1 := Kept.frozen k1; have hz1 := k1.size; (try simp only [World.size_alloc] at hz1); (try simp only [World.size_setCell] at hz1); (try simp only [World.size_drew] at hz1); (try (first | have hs1 := sz12 hz1 | have hs1 := sz11 hz1 | have hs1 := sz10 hz1 | have hs1 := sz9 hz1 | have hs1 := sz8 hz1 | have hs1 := sz7 hz1 | have hs1 := sz6 hz1 | have hs1 := sz5 hz1 | have hs1 := sz4 hz1 | have hs1 := sz3 hz1 | have hs1 := sz2 hz1 | have hs1 := sz1 hz1))) | (go_at_call 79; refine Calls.mono (TP.out _ (by repeat' (first | (with_reducible exact Below.refl _ _) | (with_reducible refine kept_below ?_ (by assumption) ?_) | (with_reducible refine Below.alloc ?_ ?_ _) | (with_reducible refine Below.drew ?_) | (with_reducible refine Below.setCell ?_ ?_ _) | go_size))) ?_; (all_goals try (first | (with_reducible assumption) | omega)); rintro e w1 ⟨rfl, k1⟩; (try replace k1 := kept_join (by assumption) k1); have hc1 := Kept.cell k1; have hf1 := Kept.frozen k1; have hz1 := k1.size; (try simp only [World.size_alloc] at hz1); (try simp only [World.size_setCell] at hz1); (try simp only [World.size_drew] at hz1); (try (first | have hs1 := sz12 hz1 | have hs1 := sz11 hz1 | have hs1 := sz10 hz1 | have hs1 := sz9 hz1 | have hs1 := sz8 hz1 | have hs1 := sz7 hz1 | have hs1 := sz6 hz1 | have hs1 := sz5 hz1 | have hs1 := sz4 hz1 | have hs1 := sz3 hz1 | have hs1 := sz2 hz1 | have hs1 := sz1 hz1))))
  refine Calls.mono (PL.out _ (by repeat' (first | (with_reducible exact Below.refl _ _) | (with_reducible refine kept_below ?_ (by assumption) ?_) | (with_reducible refine Below.alloc ?_ ?_ _) | (with_reducible refine Below.drew ?_) | (with_reducible refine Below.setCell ?_ ?_ _) | go_size))) ?_
  rintro e w2 ⟨rfl, k2⟩
  replace k2 := kept_join k1 k2
  have K2 : Hid (Below w.heap.size w w2) := hideP (Below.trans (by go_grown) (k2.mono (by simp)))
  have hc2 := Kept.cell k2
  have hf2 := Kept.frozen k2
  have hz2 := k2.size
  simp only [World.size_alloc] at hz2
  have x := fun c => hc2 w.heap.size c (by simp)
  have xf : ∀ c, w2.frozen? ⟨w.heap.size, c, none⟩ = false := fun c => by rw [hf2 w.heap.size c (by simp)]; simp
  obtain ⟨x0, x1, x2, x3, x4, x5, x6⟩ : w2.cell? ⟨w.heap.size, 0, none⟩ = some (.int .i64 0) ∧ w2.cell? ⟨w.heap.size, 1, none⟩ = some (.int .i64 0) ∧ w2.cell? ⟨w.heap.size, 2, none⟩ = some (.int .i64 0) ∧ w2.cell? ⟨w.heap.size, 3, none⟩ = some (.int .i64 0) ∧ w2.cell? ⟨w.heap.size, 4, none⟩ = some (.int .i64 0) ∧ w2.cell? ⟨w.heap.size, 5, none⟩ = some (.bool false) ∧ w2.cell? ⟨w.heap.size, 6, none⟩ = some (.slice none 0 0) := by
    exact ⟨by rw [x 0]; simp, by rw [x 1]; simp, by rw [x 2]; simp, by rw [x 3]; simp, by rw [x 4]; simp, by rw [x 5]; simp, by rw [x 6]; simp⟩
  obtain ⟨a0, a1, a2, a3, a4, a5, a6⟩ := HC.out w2 K2.out
  have hg2 : g < w2.heap.size := by omega
  clear hc2 hf2 x hc1 hf1 hz1 k1 k2 TP PL HC
  go_wp2
  refine bodyPost_ret (v := .agg #[.int .i64 ri, .int .i64 rx, .int .i64 ry, .int .i64 rw', .int .i64 rh, .bool rm, .slice rb.ao rb.L.length rb.cap]) (by simp [results, Try.results69, go_sem, x0, x1, x2, x3, x4, x5, x6]) rfl ⟨rfl, ?_⟩
  have K3 := K2.out
  repeat' (first | (with_reducible assumption) | (with_reducible refine Below.setCell ?_ ?_ _) | go_size)
end Go.Proofs.Ytdigknenijmjcaa
