/- Draws whose value is bounded; what FnLabels draws. -/
import Derived.Test.YtmnekheaggleaaaDoorDraw1
import Derived.Test.YtmnekheaggleaaaDoorPrs3
namespace Go.Proofs.YtmnekheaggleaaaDoor
open Go.RowKit
set_option linter.unusedVariables false

theorem inb4 {P : Int → Prop} {x0 x1 x2 x3 : Int} (h0 : P x0) (h1 : P x1) (h2 : P x2) (h3 : P x3) : ∀ i, i < 4 → ∃ n, (#[Value.int .i64 x0, Value.int .i64 x1, Value.int .i64 x2, Value.int .i64 x3] : Array Value)[i]? = some (.int .i64 n) ∧ P n := by
  intro i hi
  have h : i = 0 ∨ i = 1 ∨ i = 2 ∨ i = 3 := by omega
  rcases h with rfl | rfl | rfl | rfl
  · exact ⟨_, rfl, h0⟩
  · exact ⟨_, rfl, h1⟩
  · exact ⟨_, rfl, h2⟩
  · exact ⟨_, rfl, h3⟩
theorem inb3 {P : Int → Prop} {x0 x1 x2 : Int} (h0 : P x0) (h1 : P x1) (h2 : P x2) : ∀ i, i < 3 → ∃ n, (#[Value.int .i64 x0, Value.int .i64 x1, Value.int .i64 x2] : Array Value)[i]? = some (.int .i64 n) ∧ P n := by
  intro i hi
  have h : i = 0 ∨ i = 1 ∨ i = 2 := by omega
  rcases h with rfl | rfl | rfl
  · exact ⟨_, rfl, h0⟩
  · exact ⟨_, rfl, h1⟩
  · exact ⟨_, rfl, h2⟩
theorem inb5 {P : Int → Prop} {x0 x1 x2 x3 x4 : Int} (h0 : P x0) (h1 : P x1) (h2 : P x2) (h3 : P x3) (h4 : P x4) : ∀ i, i < 5 → ∃ n, (#[Value.int .i64 x0, Value.int .i64 x1, Value.int .i64 x2, Value.int .i64 x3, Value.int .i64 x4] : Array Value)[i]? = some (.int .i64 n) ∧ P n := by
  intro i hi
  have h : i = 0 ∨ i = 1 ∨ i = 2 ∨ i = 3 ∨ i = 4 := by omega
  rcases h with rfl | rfl | rfl | rfl | rfl
  · exact ⟨_, rfl, h0⟩
  · exact ⟨_, rfl, h1⟩
  · exact ⟨_, rfl, h2⟩
  · exact ⟨_, rfl, h3⟩
  · exact ⟨_, rfl, h4⟩
theorem inb6 {P : Int → Prop} {x0 x1 x2 x3 x4 x5 : Int} (h0 : P x0) (h1 : P x1) (h2 : P x2) (h3 : P x3) (h4 : P x4) (h5 : P x5) : ∀ i, i < 6 → ∃ n, (#[Value.int .i64 x0, Value.int .i64 x1, Value.int .i64 x2, Value.int .i64 x3, Value.int .i64 x4, Value.int .i64 x5] : Array Value)[i]? = some (.int .i64 n) ∧ P n := by
  intro i hi
  have h : i = 0 ∨ i = 1 ∨ i = 2 ∨ i = 3 ∨ i = 4 ∨ i = 5 := by omega
  rcases h with rfl | rfl | rfl | rfl | rfl | rfl
  · exact ⟨_, rfl, h0⟩
  · exact ⟨_, rfl, h1⟩
  · exact ⟨_, rfl, h2⟩
  · exact ⟨_, rfl, h3⟩
  · exact ⟨_, rfl, h4⟩
  · exact ⟨_, rfl, h5⟩

set_option maxHeartbeats 400000 in
theorem pick_of (w : World) (B b : Nat) (a : Option Addr) (len cap : Nat) (f : Nat → Int) (t : Int) (lb k c : Nat) (L : Nat → Int) (S : Src w B b a len cap f t) (t0 : 0 ≤ t) (t1 : t ≤ 100000) (k0 : 1 ≤ k) (k1 : k ≤ 1000) (hL : Nums w lb k L) (hb : ¬ lb = b) :
    Calls Tryd.prog 20 #[.pointer (some ⟨b, 0, none⟩), .slice (some ⟨lb, 0, none⟩) k c] w fun e w' => ∃ r : Int, e = .returned (.int .i64 r) ∧ (∃ i, i < k ∧ r = L i) ∧ Turn b w w' ∧ Src w' B b a len cap f (t + 1) := by
  have n0 : (1 : Int) ≤ (k : Int) := by omega
  have n1 : (k : Int) ≤ 1000 := by omega
  go_enter Tryd.func20, Tryd.ntmps20
  go_wp2_with fail
  refine Calls.mono (next_any _ _ _ _ _ _ _ _ _ S t0 t1 n0 (by omega)) ?_
  rintro e w1 ⟨r, rfl, r0, r1, ht, hs⟩
  have hc : w1.cell? ⟨lb, r.toNat, none⟩ = some (.int .i64 (L r.toNat)) := by
    rw [ht.cell lb _ hL.1 hb]; exact hL.2 _ (by omega)
  have hq : Hid (∃ i, i < k ∧ L r.toNat = L i) := hideP ⟨r.toNat, by omega, rfl⟩
  generalize L r.toNat = q at hc hq
  go_wp2
  go_returns
  exact ⟨q, rfl, hq.out, ht, hs⟩

theorem pick_b (P : Int → Prop) (W : World) (B b : Nat) (a : Option Addr) (len cap : Nat) (f : Nat → Int) (t : Int) (C : Array Value) (T : TypeId) (k lb : Nat) (hlb : lb = W.heap.size) (hC : ∀ i, i < k → ∃ n, C[i]? = some (.int .i64 n) ∧ P n)
    (S : Src W B b a len cap f t) (t0 : 0 ≤ t) (t1 : t ≤ 100000) (k0 : 1 ≤ k) (k1 : k ≤ 1000) :
    Calls Tryd.prog 20 #[.pointer (some ⟨b, 0, none⟩), .slice (some ⟨lb, 0, none⟩) k k] (W.alloc (.cells C T)) fun e w' => ∃ r : Int, e = .returned (.int .i64 r) ∧ P r ∧ Turn b W w' ∧ Src w' B b a len cap f (t + 1) := by
  subst hlb
  have hb : Below W.heap.size W (W.alloc (.cells C T)) := (Below.refl _ _).alloc (Nat.le_refl _) _
  have hlt := S.lt
  refine (pick_of (W.alloc (.cells C T)) B b a len cap f t W.heap.size k k (fun i => intOf (C[i]?.getD undef)) (S.grow hb) t0 t1 k0 k1 ⟨by simp, fun i hi => ?_⟩ (by omega)).mono ?_
  · obtain ⟨n, hn, _⟩ := hC i hi
    rw [World.cell?_alloc_new, hn]; simp [hn, intOf]
  · rintro e w' ⟨r, he, ⟨i, hi, hr⟩, ht, hs⟩
    refine ⟨r, he, ?_, (Turn.of_below hb).trans ht, hs⟩
    obtain ⟨n, hn, hp⟩ := hC i hi
    have : r = n := by rw [hr]; simp [hn, intOf]
    rw [this]; exact hp

set_option maxHeartbeats 400000 in
theorem draw_b (w : World) (B b : Nat) (a : Option Addr) (len cap : Nat) (f : Nat → Int) (t : Int) (S : Src w B b a len cap f t) (t0 : 0 ≤ t) (t1 : t ≤ 90000) :
    Calls Tryd.prog 18 #[.pointer (some ⟨b, 0, none⟩)] w fun e w' => ∃ l p : Int, e = .returned (.agg #[.int .i64 l, .int .i64 p]) ∧ (0 ≤ l ∧ l ≤ 3 ∧ 0 ≤ p ∧ p ≤ 3) ∧ Turn b w w' ∧ Src w' B b a len cap f (t + 1 + 1) := by
  have hlt := S.lt
  have hne : ¬ w.heap.size = b := by omega
  go_enter Tryd.func18, Tryd.ntmps18
  go_wp2_with fail
  refine Calls.mono (pick_b (fun n => 0 ≤ n ∧ n ≤ 3) _ B b a len cap f t _ _ _ _ (by simp) (inb4 (by omega) (by omega) (by omega) (by omega)) (by first | exact S | exact Src.grow S (by go_grown)) (by omega) (by omega) (by omega) (by omega)) ?_
  rintro e w1 ⟨r1, rfl, hr1, ht1, hs1⟩
  go_wp2_with fail
  refine Calls.mono (pick_b (fun n => 0 ≤ n ∧ n ≤ 3) _ B b a len cap f (t + 1) _ _ _ _ (by simp) (inb5 (by omega) (by omega) (by omega) (by omega) (by omega)) (by first | exact hs1 | exact Src.grow hs1 (by go_grown)) (by omega) (by omega) (by omega) (by omega)) ?_
  rintro e w2 ⟨r2, rfl, hr2, ht2, hs2⟩
  have ht12 := ht1.trans ht2
  have hc := ht12.cell
  have hf := ht12.frozen
  have hr1 := hideP hr1
  have hr2 := hideP hr2
  go_wp2
  refine bodyPost_ret (v := .agg #[.int .i64 r1, .int .i64 r2]) (by simp [results, Tryd.results18, go_sem, *]) rfl ⟨r1, r2, rfl, ⟨hr1.out.1, hr1.out.2, hr2.out.1, hr2.out.2⟩, ?_, ?_⟩
  · repeat' (first | (with_reducible exact Turn.refl _ _) | (with_reducible refine Turn.setCell ?_ ?_ _) | (with_reducible refine Turn.alloc ?_ _) | (with_reducible refine Turn.drew ?_) | (with_reducible refine Turn.trans ?_ (by assumption)) | go_size)
  · repeat' (first | (with_reducible assumption) | (with_reducible refine Src.store ?_ _ _ ?_) | go_size)

set_option maxHeartbeats 800000 in
theorem bent_any (w : World) (B b : Nat) (a : Option Addr) (len cap : Nat) (f : Nat → Int) (t : Int) (S : Src w B b a len cap f t) (t0 : 0 ≤ t) (t1 : t ≤ 80000) :
    Calls Tryd.prog 30 #[.pointer (some ⟨b, 0, none⟩)] w fun e w' => ∃ l p t' : Int, e = .returned (.agg #[.int .i64 l, .int .i64 p]) ∧ Turn b w w' ∧ 0 ≤ t' ∧ t' ≤ t + 10 ∧ Src w' B b a len cap f t' := by
  have hlt := S.lt
  have hne : ¬ w.heap.size = b := by omega
  go_enter Tryd.func30, Tryd.ntmps30
  go_wp2_with fail
  refine Calls.mono (draw_b _ B b a len cap f t (by exact S.grow (by go_grown)) t0 (by omega)) ?_
  rintro e w1 ⟨l, p, rfl, _, ht1, hs1⟩
  have hz1 := ht1.size
  simp only [World.size_alloc] at hz1
  have hc1 := ht1.cell
  have hf1 := ht1.frozen
  have hb1 : w.heap.size < w1.heap.size ∧ ¬ w.heap.size = w1.heap.size ∧ w.heap.size ≤ w1.heap.size ∧ ¬ w1.heap.size = b := by have := hs1.lt; omega
  go_wp2_with fail
  refine Calls.mono (chance_any _ B b a len cap f (t + 1 + 1) 10 (by exact hs1.grow (by go_grown)) (by omega) (by omega) (by omega) (by omega)) ?_
  rintro e w2 ⟨r, rfl, ht2, hs2⟩
  have hz2 := ht2.size
  simp only [World.size_alloc] at hz2
  have hc2 := ht2.cell
  have hf2 := ht2.frozen
  have hb2 : w.heap.size < w2.heap.size ∧ ¬ w.heap.size = w2.heap.size ∧ w.heap.size ≤ w2.heap.size ∧ w1.heap.size < w2.heap.size ∧ w1.heap.size ≤ w2.heap.size ∧ ¬ w1.heap.size = w2.heap.size ∧ ¬ w2.heap.size = b := by have := hs2.lt; omega
  have T2 := (ht1.alloc (.cells #[.int .i64 l, .int .i64 p] 26)).trans ht2
  cases r
  · have g0 : w2.cell? ⟨w.heap.size, 0, none⟩ = some (.int .i64 0) := by rw [T2.cell _ _ (by simp) hne]; simp
    have g1 : w2.cell? ⟨w.heap.size, 1, none⟩ = some (.int .i64 0) := by rw [T2.cell _ _ (by simp) hne]; simp
    clear T2
    go_wp2
    refine bodyPost_ret (v := .agg #[.int .i64 l, .int .i64 p]) (by simp [results, Tryd.results30, go_sem, *]) rfl ⟨l, p, t + 1 + 1 + 1, rfl, ?_, by omega, by omega, ?_⟩
    · repeat' (first | (with_reducible exact Turn.refl _ _) | (with_reducible refine Turn.setCell ?_ ?_ _) | (with_reducible refine Turn.alloc ?_ _) | (with_reducible refine Turn.drew ?_) | (with_reducible refine Turn.trans ?_ (by assumption)) | go_size)
    · repeat' (first | (with_reducible assumption) | (with_reducible refine Src.store ?_ _ _ ?_) | go_size)
  ·
    go_wp2_with fail
    refine Calls.mono (pick_b (fun _ => True) _ B b a len cap f (t + 1 + 1 + 1) _ _ _ _ (by simp) (inb3 trivial trivial trivial) (by first | exact hs2 | exact Src.grow hs2 (by go_grown)) (by omega) (by omega) (by omega) (by omega)) ?_
    rintro e w3 ⟨r3, rfl, _, ht3, hs3⟩
    go_wp2_with fail
    refine Calls.mono (pick_b (fun _ => True) _ B b a len cap f (t + 1 + 1 + 1 + 1) _ _ _ _ (by simp) (inb3 trivial trivial trivial) (by first | exact hs3 | exact Src.grow hs3 (by go_grown)) (by omega) (by omega) (by omega) (by omega)) ?_
    rintro e w4 ⟨r4, rfl, _, ht4, hs4⟩
    have ht34 := ht3.trans ht4
    have hc3 := ht34.cell
    have hf3 := ht34.frozen
    have hz3 := ht34.size
    have hb3 : w.heap.size < w4.heap.size ∧ ¬ w.heap.size = w4.heap.size ∧ w.heap.size ≤ w4.heap.size ∧ w1.heap.size < w4.heap.size := by omega
    have T4 := T2.trans ht34
    have g0 : w4.cell? ⟨w.heap.size, 0, none⟩ = some (.int .i64 0) := by rw [T4.cell _ _ (by simp) hne]; simp
    have g1 : w4.cell? ⟨w.heap.size, 1, none⟩ = some (.int .i64 0) := by rw [T4.cell _ _ (by simp) hne]; simp
    clear T4 T2 ht34
    go_wp2
    clear hc1 hc2 hc3
    refine bodyPost_ret (v := .agg #[.int .i64 r3, .int .i64 r4]) (by simp [results, Tryd.results30, go_sem, *]) rfl ⟨r3, r4, t + 1 + 1 + 1 + 1 + 1, rfl, ?_, by omega, by omega, ?_⟩
    · repeat' (first | (with_reducible exact Turn.refl _ _) | (with_reducible refine Turn.setCell ?_ ?_ _) | (with_reducible refine Turn.alloc ?_ _) | (with_reducible refine Turn.drew ?_) | (with_reducible refine Turn.trans ?_ (by assumption)) | go_size)
    · repeat' (first | (with_reducible assumption) | (with_reducible refine Src.store ?_ _ _ ?_) | go_size)

end Go.Proofs.YtmnekheaggleaaaDoor
