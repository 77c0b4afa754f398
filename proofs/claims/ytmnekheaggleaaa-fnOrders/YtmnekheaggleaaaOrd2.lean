/- FnOrders: the walk at every list of bytes. -/
import Derived.Test.YtmnekheaggleaaaOrd1
import Derived.Test.YtmnekheaggleaaaGrow2
import Derived.Deep.Cut
namespace Go.Proofs.Ytmnekheaggleaaa
open Go.RowKit
set_option linter.unusedVariables false
attribute [local go_sem] growUpon growAt

theorem Bytes.wide {w : World} {B B' : Nat} {a : Option Addr} {len : Nat} {f : Nat → Int} (h : Bytes w B a len f) (hB : B ≤ B') : Bytes w B' a len f := by
  rcases h with h | ⟨xb, xo, ha, hx, hc⟩
  · exact .inl h
  · exact .inr ⟨xb, xo, ha, by omega, hc⟩
theorem Bytes.at {w w' : World} {a : Option Addr} {len : Nat} {f : Nat → Int} (h : Bytes w w.heap.size a len f) (k : Below w.heap.size w w') : Bytes w' w.heap.size a len f :=
  h.stay (Nat.le_refl _) (Turn.of_below (b := w.heap.size) k) (Nat.le_refl _)

theorem fld1 (k l p : Int) (w : World) : Sem.run Try.prog (Instr.field 29 (.agg #[.int .i64 k, .int .i64 l, .int .i64 p]) 1) w = .ok (.agg #[.int .i64 l, .int .i64 p]) w := by kernel_rfl
theorem fld0 (k l p : Int) (w : World) : Sem.run Try.prog (Instr.field 29 (.agg #[.int .i64 k, .int .i64 l, .int .i64 p]) 0) w = .ok (.int .i64 k) w := by kernel_rfl
attribute [local go_sem] fld0 fld1

set_option maxHeartbeats 400000 in
theorem orders_big (a : Option Addr) (len cap : Nat) (w : World) (hl : len ≤ maxLen) (h : 1048576 < len) :
    Calls Try.prog 3 #[.slice a len cap] w fun e w' => e = .returned (.bool true) ∧ Below w.heap.size w w' := by
  have hd : decide ((1048576 : Int) < (len : Int)) = true := by simp; omega
  go_enter Try.func3, Try.ntmps3
  go_wp2_with (go_at_call 5; refine Calls.mono (big_any _ _ _ _ hl) ?_; rintro e w0 ⟨rfl, rfl⟩)
  go_returns
  exact ⟨rfl, Below.refl _ _⟩

set_option maxRecDepth 100000 in
set_option maxHeartbeats 2000000 in
theorem orders_no (a : Option Addr) (len cap : Nat) (f : Nat → Int) (w : World) (hB : Bytes w w.heap.size a len f) (hlm : len ≤ maxLen) (hl : len ≤ 1048576) :
    Calls Try.prog 3 #[.slice a len cap] w fun e w' => e = .returned (.bool true) ∧ Below w.heap.size w w' := by
  have hd : decide ((1048576 : Int) < (len : Int)) = false := by simp; omega
  go_enter Try.func3, Try.ntmps3
  go_wp2_with fail
  refine Calls.mono (big_any _ _ _ _ hlm) ?_
  rintro e w0 ⟨rfl, rfl⟩
  go_wp2_with fail
  refine Calls.mono (dj_any _ a len cap f hB hl) ?_
  rintro e w1 ⟨al, ap, bl, bp, rfl, k1⟩
  replace k1 := Kept.below k1
  have hc1 := Kept.cell k1
  have hf1 := Kept.frozen k1
  have hz1 := k1.size
  try simp only [World.size_alloc] at hz1
  try simp only [World.size_setCell] at hz1
  try simp only [World.size_drew] at hz1
  try (first | have hs1 := sz12 hz1 | have hs1 := sz11 hz1 | have hs1 := sz10 hz1 | have hs1 := sz9 hz1 | have hs1 := sz8 hz1 | have hs1 := sz7 hz1 | have hs1 := sz6 hz1 | have hs1 := sz5 hz1 | have hs1 := sz4 hz1 | have hs1 := sz3 hz1 | have hs1 := sz2 hz1 | have hs1 := sz1 hz1)
  go_wp2_with fail
  refine Calls.mono (at_any _ a len cap w.heap.size f 5 64 (by refine hB.at ?_; repeat' (first | (with_reducible exact Below.refl _ _) | (with_reducible refine kept_below ?_ (by assumption) ?_) | (with_reducible refine Below.alloc ?_ ?_ _) | (with_reducible refine Below.drew ?_) | (with_reducible refine Below.setCell ?_ ?_ _) | go_size)) hl (by omega) (by omega) (by omega) (by omega)) ?_
  rintro e w2 ⟨r, rfl, r0, r1, k2⟩
  replace k2 := Kept.below k2
  have hc2 := Kept.cell k2
  have hf2 := Kept.frozen k2
  have hz2 := k2.size
  try simp only [World.size_alloc] at hz2
  try simp only [World.size_setCell] at hz2
  try simp only [World.size_drew] at hz2
  have hb2_0 : w1.heap.size < w2.heap.size ∧ w1.heap.size ≤ w2.heap.size ∧ w1.heap.size ≤ w2.heap.size + 1 ∧ ¬ w1.heap.size = w2.heap.size ∧ ¬ w1.heap.size = w2.heap.size + 1 := by omega
  have hb2_1 : w1.heap.size + 1 < w2.heap.size ∧ w1.heap.size + 1 ≤ w2.heap.size ∧ w1.heap.size + 1 ≤ w2.heap.size + 1 ∧ ¬ w1.heap.size + 1 = w2.heap.size ∧ ¬ w1.heap.size + 1 = w2.heap.size + 1 := by omega
  go_wp2_with fail
  refine Calls.mono (labelOf_some _ _) ?_
  rintro e w3 ⟨kk, cl, cp, rfl, hcv, k3⟩
  replace k3 := Kept.below k3
  have hc3 := Kept.cell k3
  have hf3 := Kept.frozen k3
  have hz3 := k3.size
  try simp only [World.size_alloc] at hz3
  try simp only [World.size_setCell] at hz3
  try simp only [World.size_drew] at hz3
  have hb3_0 : w1.heap.size < w3.heap.size ∧ w1.heap.size ≤ w3.heap.size ∧ w1.heap.size ≤ w3.heap.size + 1 ∧ ¬ w1.heap.size = w3.heap.size ∧ ¬ w1.heap.size = w3.heap.size + 1 := by omega
  have hb3_1 : w1.heap.size + 1 < w3.heap.size ∧ w1.heap.size + 1 ≤ w3.heap.size ∧ w1.heap.size + 1 ≤ w3.heap.size + 1 ∧ ¬ w1.heap.size + 1 = w3.heap.size ∧ ¬ w1.heap.size + 1 = w3.heap.size + 1 := by omega
  go_wp2_with fail
  refine Calls.mono (ij_any _ _ _ _ _) ?_
  rintro e w4 ⟨rfl, k4⟩
  replace k4 := Kept.below k4
  have hc4 := Kept.cell k4
  have hf4 := Kept.frozen k4
  have hz4 := k4.size
  try simp only [World.size_alloc] at hz4
  try simp only [World.size_setCell] at hz4
  try simp only [World.size_drew] at hz4
  have hb4_0 : w1.heap.size < w4.heap.size ∧ w1.heap.size ≤ w4.heap.size ∧ w1.heap.size ≤ w4.heap.size + 1 ∧ ¬ w1.heap.size = w4.heap.size ∧ ¬ w1.heap.size = w4.heap.size + 1 := by omega
  have hb4_1 : w1.heap.size + 1 < w4.heap.size ∧ w1.heap.size + 1 ≤ w4.heap.size ∧ w1.heap.size + 1 ≤ w4.heap.size + 1 ∧ ¬ w1.heap.size + 1 = w4.heap.size ∧ ¬ w1.heap.size + 1 = w4.heap.size + 1 := by omega
  have hb4_2 : w3.heap.size < w4.heap.size ∧ w3.heap.size ≤ w4.heap.size ∧ w3.heap.size ≤ w4.heap.size + 1 ∧ ¬ w3.heap.size = w4.heap.size ∧ ¬ w3.heap.size = w4.heap.size + 1 := by omega
  go_wp2_with fail
  refine Calls.mono (im_any _ _ _ _ _) ?_
  rintro e w5 ⟨rfl, k5⟩
  replace k5 := Kept.below k5
  have hc5 := Kept.cell k5
  have hf5 := Kept.frozen k5
  have hz5 := k5.size
  try simp only [World.size_alloc] at hz5
  try simp only [World.size_setCell] at hz5
  try simp only [World.size_drew] at hz5
  have hb5_0 : w1.heap.size < w5.heap.size ∧ w1.heap.size ≤ w5.heap.size ∧ w1.heap.size ≤ w5.heap.size + 1 ∧ ¬ w1.heap.size = w5.heap.size ∧ ¬ w1.heap.size = w5.heap.size + 1 := by omega
  have hb5_1 : w1.heap.size + 1 < w5.heap.size ∧ w1.heap.size + 1 ≤ w5.heap.size ∧ w1.heap.size + 1 ≤ w5.heap.size + 1 ∧ ¬ w1.heap.size + 1 = w5.heap.size ∧ ¬ w1.heap.size + 1 = w5.heap.size + 1 := by omega
  have hb5_2 : w3.heap.size < w5.heap.size ∧ w3.heap.size ≤ w5.heap.size ∧ w3.heap.size ≤ w5.heap.size + 1 ∧ ¬ w3.heap.size = w5.heap.size ∧ ¬ w3.heap.size = w5.heap.size + 1 := by omega
  have hb5_3 : w4.heap.size < w5.heap.size ∧ w4.heap.size ≤ w5.heap.size ∧ w4.heap.size ≤ w5.heap.size + 1 ∧ ¬ w4.heap.size = w5.heap.size ∧ ¬ w4.heap.size = w5.heap.size + 1 := by omega
  go_wp2_with fail
  refine Calls.mono (dd_any _ a len cap f (by refine (hB.at ?_).wide ?_ <;> repeat' (first | (with_reducible exact Below.refl _ _) | (with_reducible refine kept_below ?_ (by assumption) ?_) | (with_reducible refine Below.alloc ?_ ?_ _) | (with_reducible refine Below.drew ?_) | (with_reducible refine Below.setCell ?_ ?_ _) | go_size)) hl) ?_
  rintro e w6 ⟨xl, xp, yl, yp, rfl, k6⟩
  replace k6 := Kept.below k6
  have hc6 := Kept.cell k6
  have hf6 := Kept.frozen k6
  have hz6 := k6.size
  try simp only [World.size_alloc] at hz6
  try simp only [World.size_setCell] at hz6
  try simp only [World.size_drew] at hz6
  have hb6_0 : w1.heap.size < w6.heap.size ∧ w1.heap.size ≤ w6.heap.size ∧ w1.heap.size ≤ w6.heap.size + 1 ∧ ¬ w1.heap.size = w6.heap.size ∧ ¬ w1.heap.size = w6.heap.size + 1 := by omega
  have hb6_1 : w1.heap.size + 1 < w6.heap.size ∧ w1.heap.size + 1 ≤ w6.heap.size ∧ w1.heap.size + 1 ≤ w6.heap.size + 1 ∧ ¬ w1.heap.size + 1 = w6.heap.size ∧ ¬ w1.heap.size + 1 = w6.heap.size + 1 := by omega
  have hb6_2 : w3.heap.size < w6.heap.size ∧ w3.heap.size ≤ w6.heap.size ∧ w3.heap.size ≤ w6.heap.size + 1 ∧ ¬ w3.heap.size = w6.heap.size ∧ ¬ w3.heap.size = w6.heap.size + 1 := by omega
  have hb6_3 : w4.heap.size < w6.heap.size ∧ w4.heap.size ≤ w6.heap.size ∧ w4.heap.size ≤ w6.heap.size + 1 ∧ ¬ w4.heap.size = w6.heap.size ∧ ¬ w4.heap.size = w6.heap.size + 1 := by omega
  have hb6_4 : w5.heap.size < w6.heap.size ∧ w5.heap.size ≤ w6.heap.size ∧ w5.heap.size ≤ w6.heap.size + 1 ∧ ¬ w5.heap.size = w6.heap.size ∧ ¬ w5.heap.size = w6.heap.size + 1 := by omega
  go_wp2
  refine wp_region_kept (by kernel_rfl) (by kernel_rfl) ?_
  repeat (refine kept_step (by rfl) ?_; apply Exists.intro; refine ⟨fun w1 k1 => ?_, fun K hK => ?_⟩; (focus (have hc := Kept.cell k1; go_simp; first | done | rfl | (go_at_call 12; exact kept_call k1 (id_any _ _ _ _ _)) | (go_at_call 13; exact kept_call k1 (sd_any _ _ _ _ _)))); (go_simp; refine hK _ ?_; clear hK K))
  refine wpQuiet_nil ?_
  intro w7 k7
  replace k7 := Kept.below k7
  have hc7 := Kept.cell k7
  have hf7 := Kept.frozen k7
  have hz7 := k7.size
  try simp only [World.size_alloc] at hz7
  try simp only [World.size_setCell] at hz7
  try simp only [World.size_drew] at hz7
  have hb7_0 : w1.heap.size < w7.heap.size ∧ w1.heap.size ≤ w7.heap.size ∧ w1.heap.size ≤ w7.heap.size + 1 ∧ ¬ w1.heap.size = w7.heap.size ∧ ¬ w1.heap.size = w7.heap.size + 1 := by omega
  have hb7_1 : w1.heap.size + 1 < w7.heap.size ∧ w1.heap.size + 1 ≤ w7.heap.size ∧ w1.heap.size + 1 ≤ w7.heap.size + 1 ∧ ¬ w1.heap.size + 1 = w7.heap.size ∧ ¬ w1.heap.size + 1 = w7.heap.size + 1 := by omega
  have hb7_2 : w3.heap.size < w7.heap.size ∧ w3.heap.size ≤ w7.heap.size ∧ w3.heap.size ≤ w7.heap.size + 1 ∧ ¬ w3.heap.size = w7.heap.size ∧ ¬ w3.heap.size = w7.heap.size + 1 := by omega
  have hb7_3 : w4.heap.size < w7.heap.size ∧ w4.heap.size ≤ w7.heap.size ∧ w4.heap.size ≤ w7.heap.size + 1 ∧ ¬ w4.heap.size = w7.heap.size ∧ ¬ w4.heap.size = w7.heap.size + 1 := by omega
  have hb7_4 : w5.heap.size < w7.heap.size ∧ w5.heap.size ≤ w7.heap.size ∧ w5.heap.size ≤ w7.heap.size + 1 ∧ ¬ w5.heap.size = w7.heap.size ∧ ¬ w5.heap.size = w7.heap.size + 1 := by omega
  have hb7_5 : w6.heap.size < w7.heap.size ∧ w6.heap.size ≤ w7.heap.size ∧ w6.heap.size ≤ w7.heap.size + 1 ∧ ¬ w6.heap.size = w7.heap.size ∧ ¬ w6.heap.size = w7.heap.size + 1 := by omega
  have hb7_6 : w6.heap.size + 1 < w7.heap.size ∧ w6.heap.size + 1 ≤ w7.heap.size ∧ w6.heap.size + 1 ≤ w7.heap.size + 1 ∧ ¬ w6.heap.size + 1 = w7.heap.size ∧ ¬ w6.heap.size + 1 = w7.heap.size + 1 := by omega
  have s6 : Below w6.heap.size w6 w7 := kept_below (((Below.refl _ _).alloc (Nat.le_refl _) _).alloc (by simp) _) k7 (by simp; omega)
  have q5 := kept_join k6 s6
  have s5 : Below w5.heap.size w5 w7 := kept_below ((Below.refl _ _).alloc (Nat.le_refl _) _) q5 (by simp)
  have q4 := kept_join k5 s5
  have s4 : Below w4.heap.size w4 w7 := kept_below ((Below.refl _ _).alloc (Nat.le_refl _) _) q4 (by simp)
  have q3 := kept_join k4 s4
  have s3 : Below w3.heap.size w3 w7 := kept_below ((Below.refl _ _).alloc (Nat.le_refl _) _) q3 (by simp)
  have q1 := kept_join k2 (kept_join k3 s3)
  have s1 : Below w1.heap.size w1 w7 := kept_below (((Below.refl _ _).alloc (Nat.le_refl _) _).alloc (by simp) _) q1 (by simp; omega)
  have kb : Below w.heap.size w w7 := kept_join k1 s1
  have ca0 : w7.cell? ⟨w1.heap.size, 0, none⟩ = some (.int .i64 al) := by rw [Kept.cell q1 _ _ (by simp; omega)]; simp [go_sem]
  have ca1 : w7.cell? ⟨w1.heap.size, 1, none⟩ = some (.int .i64 ap) := by rw [Kept.cell q1 _ _ (by simp; omega)]; simp [go_sem]
  have cb0 : w7.cell? ⟨w1.heap.size + 1, 0, none⟩ = some (.int .i64 bl) := by rw [Kept.cell q1 _ _ (by simp)]; simp [go_sem]
  have cb1 : w7.cell? ⟨w1.heap.size + 1, 1, none⟩ = some (.int .i64 bp) := by rw [Kept.cell q1 _ _ (by simp)]; simp [go_sem]
  have cc0 : w7.cell? ⟨w3.heap.size, 0, none⟩ = some (.int .i64 cl) := by rw [Kept.cell q3 _ _ (by simp)]; simp [go_sem]
  have cc1 : w7.cell? ⟨w3.heap.size, 1, none⟩ = some (.int .i64 cp) := by rw [Kept.cell q3 _ _ (by simp)]; simp [go_sem]
  have cj0 : w7.cell? ⟨w4.heap.size, 0, none⟩ = some (.int .i64 (jC al ap bl bp)) := by rw [Kept.cell q4 _ _ (by simp)]; simp [go_sem]
  have cj1 : w7.cell? ⟨w4.heap.size, 1, none⟩ = some (.int .i64 (jL al ap bl bp)) := by rw [Kept.cell q4 _ _ (by simp)]; simp [go_sem]
  have cj2 : w7.cell? ⟨w4.heap.size, 2, none⟩ = some (.int .i64 (jP al ap bl bp)) := by rw [Kept.cell q4 _ _ (by simp)]; simp [go_sem]
  have cm0 : w7.cell? ⟨w5.heap.size, 0, none⟩ = some (.int .i64 (mC al ap bl bp)) := by rw [Kept.cell q5 _ _ (by simp)]; simp [go_sem]
  have cm1 : w7.cell? ⟨w5.heap.size, 1, none⟩ = some (.int .i64 (mL al ap bl bp)) := by rw [Kept.cell q5 _ _ (by simp)]; simp [go_sem]
  have cm2 : w7.cell? ⟨w5.heap.size, 2, none⟩ = some (.int .i64 (mP al ap bl bp)) := by rw [Kept.cell q5 _ _ (by simp)]; simp [go_sem]
  have l1 : w1.heap.size < w7.heap.size := hb7_0.1
  have l2 : w1.heap.size + 1 < w7.heap.size := hb7_1.1
  have l3 : w3.heap.size < w7.heap.size := hb7_2.1
  have l4 : w4.heap.size < w7.heap.size := hb7_3.1
  have l5 : w5.heap.size < w7.heap.size := hb7_4.1
  clear s1 s3 s4 s5 s6 q1 q3 q4 q5 k1 k2 k3 k4 k5 k6 k7 hc1 hc2 hc3 hc4 hc5 hc6 hc7 hf1 hf2 hf3 hf4 hf5 hf6 hf7 hz1 hz2 hz3 hz4 hz5 hz6 hz7
  clear hb2_0 hb2_1 hb3_0 hb3_1 hb4_0 hb4_1 hb4_2 hb5_0 hb5_1 hb5_2 hb5_3 hb6_0 hb6_1 hb6_2 hb6_3 hb6_4 hb7_0 hb7_1 hb7_2 hb7_3 hb7_4 hb7_5 hb7_6
  generalize w1.heap.size = x1 at *
  generalize w3.heap.size = x3 at *
  generalize w4.heap.size = x4 at *
  generalize w5.heap.size = x5 at *
  have hzw : w.heap.size ≤ w7.heap.size := kb.size
  cases hf : (fltB al ap || fltB bl bp)
  · obtain ⟨v1, v2⟩ : fltB al ap = false ∧ fltB bl bp = false := by simpa using hf
    have ej : jC al ap bl bp = 0 ∧ jL al ap bl bp = mx al bl ∧ jP al ap bl bp = bits .or .i64 ap bp := by unfold jC jL jP; rw [hf]; exact ⟨rfl, rfl, rfl⟩
    have em : mC al ap bl bp = 0 ∧ mL al ap bl bp = mn al bl ∧ mP al ap bl bp = bits .and .i64 ap bp := by unfold mC mL mP; rw [hf]; exact ⟨rfl, rfl, rfl⟩
    rw [ej.1] at cj0
    rw [ej.2.1] at cj1
    rw [ej.2.2] at cj2
    rw [em.1] at cm0
    rw [em.2.1] at cm1
    rw [em.2.2] at cm2
    obtain ⟨haa, h1, h2, hja, hjb, ham, hbm, hl1, hg1⟩ := order_law al ap bl bp cl cp v1 v2 hcv
    generalize mx al bl = jl at *
    generalize mn al bl = ml at *
    generalize bits .or .i64 ap bp = jp at *
    generalize bits .and .i64 ap bp = mp at *
    clear hf ej em hcv v1 v2 hB
    have g2 : (!domB al ap bl bp || !domB bl bp cl cp || domB al ap cl cp) = true := by
      cases e1 : domB al ap bl bp <;> cases e2 : domB bl bp cl cp <;> simp_all
    have g3 : (!domB cl cp al ap || !domB cl cp bl bp || domB cl cp jl jp) = true := by
      cases e1 : domB cl cp al ap <;> cases e2 : domB cl cp bl bp <;> simp_all
    have g4 : (!domB al ap cl cp || !domB bl bp cl cp || domB ml mp cl cp) = true := by
      cases e1 : domB al ap cl cp <;> cases e2 : domB bl bp cl cp <;> simp_all
    have H1 : Hid (domB al ap bl bp = true → domB bl bp al ap = true → al = bl ∧ ap = bp) := h1
    clear h1 h2 hl1 hg1
    go_upto_region 12 with fail
    refine wp_region_seq 200 ?_
    try simp only [List.append_eq]
    try simp only [List.cons_append]
    try simp only [List.nil_append]
    simp only [List.take_succ_cons, List.take_nil, List.drop_succ_cons, List.drop_nil]
    repeat (first | (refine grow_step (by rfl) ?_; apply Exists.intro; refine ⟨fun w1 w1k => ?_, fun K hK => ?_⟩; (focus (have hc := Kept.cell w1k; go_simp; first | done | (go_at_call 15; with_reducible exact above_any _ _ _ _ _) | (with_reducible exact pick_and _ (by simp)) | (with_reducible exact pick_or _ (by simp)) | rfl)); (go_simp; refine hK _ ?_; clear hK K)) | (refine grow_guard _ (by first | exact wanted_yes rfl rfl | exact wanted_no rfl rfl) ?_; apply Exists.intro; refine ⟨fun hgd w1 w1k => ?_, fun K hK => ?_⟩; (focus (have hc := Kept.cell w1k; (try simp at hgd); go_simp; first | done | (go_at_call 15; with_reducible exact above_any _ _ _ _ _) | (with_reducible exact pick_and _ (by simp)) | (with_reducible exact pick_or _ (by simp)) | rfl)); (go_simp; refine hK _ ?_; clear hK K)))
    refine grow_nil ?_
    intro w8 k8
    replace k8 := Kept.below k8
    have hc8 := Kept.cell k8
    have hf8 := Kept.frozen k8
    have hz8 := k8.size
    try simp only [World.size_alloc] at hz8
    try simp only [World.size_setCell] at hz8
    try simp only [World.size_drew] at hz8
    have hb8_0 : x1 < w8.heap.size ∧ x1 ≤ w8.heap.size ∧ x1 ≤ w8.heap.size + 1 ∧ ¬ x1 = w8.heap.size ∧ ¬ x1 = w8.heap.size + 1 := by omega
    have hb8_1 : x1 + 1 < w8.heap.size ∧ x1 + 1 ≤ w8.heap.size ∧ x1 + 1 ≤ w8.heap.size + 1 ∧ ¬ x1 + 1 = w8.heap.size ∧ ¬ x1 + 1 = w8.heap.size + 1 := by omega
    have hb8_2 : x3 < w8.heap.size ∧ x3 ≤ w8.heap.size ∧ x3 ≤ w8.heap.size + 1 ∧ ¬ x3 = w8.heap.size ∧ ¬ x3 = w8.heap.size + 1 := by omega
    have hb8_3 : x4 < w8.heap.size ∧ x4 ≤ w8.heap.size ∧ x4 ≤ w8.heap.size + 1 ∧ ¬ x4 = w8.heap.size ∧ ¬ x4 = w8.heap.size + 1 := by omega
    have hb8_4 : x5 < w8.heap.size ∧ x5 ≤ w8.heap.size ∧ x5 ≤ w8.heap.size + 1 ∧ ¬ x5 = w8.heap.size ∧ ¬ x5 = w8.heap.size + 1 := by omega
    go_upto_region 13 with fail
    refine wp_region_seq 200 ?_
    try simp only [List.append_eq]
    try simp only [List.cons_append]
    try simp only [List.nil_append]
    simp only [List.take_succ_cons, List.take_nil, List.drop_succ_cons, List.drop_nil]
    repeat (first | (refine grow_step (by rfl) ?_; apply Exists.intro; refine ⟨fun w1 w1k => ?_, fun K hK => ?_⟩; (focus (have hc := Kept.cell w1k; go_simp; first | done | (go_at_call 15; with_reducible exact above_any _ _ _ _ _) | (with_reducible exact pick_and _ (by simp)) | (with_reducible exact pick_or _ (by simp)) | rfl)); (go_simp; refine hK _ ?_; clear hK K)) | (refine grow_guard _ (by first | exact wanted_yes rfl rfl | exact wanted_no rfl rfl) ?_; apply Exists.intro; refine ⟨fun hgd w1 w1k => ?_, fun K hK => ?_⟩; (focus (have hc := Kept.cell w1k; (try simp at hgd); go_simp; first | done | (go_at_call 15; with_reducible exact above_any _ _ _ _ _) | (with_reducible exact pick_and _ (by simp)) | (with_reducible exact pick_or _ (by simp)) | rfl)); (go_simp; refine hK _ ?_; clear hK K)))
    refine grow_nil ?_
    intro w9 k9
    replace k9 := Kept.below k9
    have hc9 := Kept.cell k9
    have hf9 := Kept.frozen k9
    have hz9 := k9.size
    try simp only [World.size_alloc] at hz9
    try simp only [World.size_setCell] at hz9
    try simp only [World.size_drew] at hz9
    have hb9_0 : x1 < w9.heap.size ∧ x1 ≤ w9.heap.size ∧ x1 ≤ w9.heap.size + 1 ∧ ¬ x1 = w9.heap.size ∧ ¬ x1 = w9.heap.size + 1 := by omega
    have hb9_1 : x1 + 1 < w9.heap.size ∧ x1 + 1 ≤ w9.heap.size ∧ x1 + 1 ≤ w9.heap.size + 1 ∧ ¬ x1 + 1 = w9.heap.size ∧ ¬ x1 + 1 = w9.heap.size + 1 := by omega
    have hb9_2 : x3 < w9.heap.size ∧ x3 ≤ w9.heap.size ∧ x3 ≤ w9.heap.size + 1 ∧ ¬ x3 = w9.heap.size ∧ ¬ x3 = w9.heap.size + 1 := by omega
    have hb9_3 : x4 < w9.heap.size ∧ x4 ≤ w9.heap.size ∧ x4 ≤ w9.heap.size + 1 ∧ ¬ x4 = w9.heap.size ∧ ¬ x4 = w9.heap.size + 1 := by omega
    have hb9_4 : x5 < w9.heap.size ∧ x5 ≤ w9.heap.size ∧ x5 ≤ w9.heap.size + 1 ∧ ¬ x5 = w9.heap.size ∧ ¬ x5 = w9.heap.size + 1 := by omega
    go_upto_region 14 with fail
    refine wp_region_seq 200 ?_
    try simp only [List.append_eq]
    try simp only [List.cons_append]
    try simp only [List.nil_append]
    simp only [List.take_succ_cons, List.take_nil, List.drop_succ_cons, List.drop_nil]
    repeat (first | (refine grow_step (by rfl) ?_; apply Exists.intro; refine ⟨fun w1 w1k => ?_, fun K hK => ?_⟩; (focus (have hc := Kept.cell w1k; go_simp; first | done | (go_at_call 15; with_reducible exact above_any _ _ _ _ _) | (with_reducible exact pick_and _ (by simp)) | (with_reducible exact pick_or _ (by simp)) | rfl)); (go_simp; refine hK _ ?_; clear hK K)) | (refine grow_guard _ (by first | exact wanted_yes rfl rfl | exact wanted_no rfl rfl) ?_; apply Exists.intro; refine ⟨fun hgd w1 w1k => ?_, fun K hK => ?_⟩; (focus (have hc := Kept.cell w1k; (try simp at hgd); (try (have hE := H1.out hgd.1 hgd.2; have hF := hgd.1; rw [hE.1, hE.2] at hF)); go_simp; first | done | (go_at_call 15; with_reducible exact above_any _ _ _ _ _) | (with_reducible exact pick_and _ (by simp)) | (with_reducible exact pick_or _ (by simp)) | rfl)); (go_simp; refine hK _ ?_; clear hK K)))
    refine grow_nil ?_
    intro w10 k10
    replace k10 := Kept.below k10
    have hc10 := Kept.cell k10
    have hf10 := Kept.frozen k10
    have hz10 := k10.size
    try simp only [World.size_alloc] at hz10
    try simp only [World.size_setCell] at hz10
    try simp only [World.size_drew] at hz10
    have hb10_0 : x1 < w10.heap.size ∧ x1 ≤ w10.heap.size ∧ x1 ≤ w10.heap.size + 1 ∧ ¬ x1 = w10.heap.size ∧ ¬ x1 = w10.heap.size + 1 := by omega
    have hb10_1 : x1 + 1 < w10.heap.size ∧ x1 + 1 ≤ w10.heap.size ∧ x1 + 1 ≤ w10.heap.size + 1 ∧ ¬ x1 + 1 = w10.heap.size ∧ ¬ x1 + 1 = w10.heap.size + 1 := by omega
    have hb10_2 : x3 < w10.heap.size ∧ x3 ≤ w10.heap.size ∧ x3 ≤ w10.heap.size + 1 ∧ ¬ x3 = w10.heap.size ∧ ¬ x3 = w10.heap.size + 1 := by omega
    have hb10_3 : x4 < w10.heap.size ∧ x4 ≤ w10.heap.size ∧ x4 ≤ w10.heap.size + 1 ∧ ¬ x4 = w10.heap.size ∧ ¬ x4 = w10.heap.size + 1 := by omega
    have hb10_4 : x5 < w10.heap.size ∧ x5 ≤ w10.heap.size ∧ x5 ≤ w10.heap.size + 1 ∧ ¬ x5 = w10.heap.size ∧ ¬ x5 = w10.heap.size + 1 := by omega
    go_wp2
    all_goals
      go_returns
      refine ⟨rfl, ?_⟩
      repeat' (first | (with_reducible exact Below.refl _ _) | (with_reducible refine kept_below ?_ (by assumption) ?_) | (with_reducible refine Below.alloc ?_ ?_ _) | (with_reducible refine Below.drew ?_) | (with_reducible refine Below.setCell ?_ ?_ _) | go_size)
  · have ej : jC al ap bl bp = 3 := by unfold jC; rw [hf]; rfl
    have em : mC al ap bl bp = 3 := by unfold mC; rw [hf]; rfl
    have ed : domB al ap bl bp = false := by
      unfold domB
      cases h1 : fltB al ap
      · rw [h1] at hf; simp at hf; simp [hf]
      · simp
    clear hf
    go_wp2
    refine wp_region_kept (by kernel_rfl) (by kernel_rfl) ?_
    repeat (refine kept_step (by rfl) ?_; apply Exists.intro; refine ⟨fun w1 k1 => ?_, fun K hK => ?_⟩; (focus (have hc := Kept.cell k1; go_simp; first | done | rfl | (go_at_call 12; exact kept_call k1 (id_any _ _ _ _ _)) | (go_at_call 14; exact kept_call k1 (sj_any _ _ _ _ _)))); (go_simp; refine hK _ ?_; clear hK K))
    refine wpQuiet_nil ?_
    intro w8 k8
    replace k8 := Kept.below k8
    have hc8 := Kept.cell k8
    have hf8 := Kept.frozen k8
    have hz8 := k8.size
    try simp only [World.size_alloc] at hz8
    try simp only [World.size_setCell] at hz8
    try simp only [World.size_drew] at hz8
    have hb8_0 : x1 < w8.heap.size ∧ x1 ≤ w8.heap.size ∧ x1 ≤ w8.heap.size + 1 ∧ ¬ x1 = w8.heap.size ∧ ¬ x1 = w8.heap.size + 1 := by omega
    have hb8_1 : x1 + 1 < w8.heap.size ∧ x1 + 1 ≤ w8.heap.size ∧ x1 + 1 ≤ w8.heap.size + 1 ∧ ¬ x1 + 1 = w8.heap.size ∧ ¬ x1 + 1 = w8.heap.size + 1 := by omega
    have hb8_2 : x3 < w8.heap.size ∧ x3 ≤ w8.heap.size ∧ x3 ≤ w8.heap.size + 1 ∧ ¬ x3 = w8.heap.size ∧ ¬ x3 = w8.heap.size + 1 := by omega
    have hb8_3 : x4 < w8.heap.size ∧ x4 ≤ w8.heap.size ∧ x4 ≤ w8.heap.size + 1 ∧ ¬ x4 = w8.heap.size ∧ ¬ x4 = w8.heap.size + 1 := by omega
    have hb8_4 : x5 < w8.heap.size ∧ x5 ≤ w8.heap.size ∧ x5 ≤ w8.heap.size + 1 ∧ ¬ x5 = w8.heap.size ∧ ¬ x5 = w8.heap.size + 1 := by omega
    go_wp2
    go_returns
    refine ⟨rfl, ?_⟩
    repeat' (first | (with_reducible exact Below.refl _ _) | (with_reducible refine kept_below ?_ (by assumption) ?_) | (with_reducible refine Below.alloc ?_ ?_ _) | (with_reducible refine Below.drew ?_) | (with_reducible refine Below.setCell ?_ ?_ _) | go_size)

theorem orders_any (a : Option Addr) (len cap : Nat) (zs : List Int) (w : World) (h : IsRow .u8 w a len cap zs) :
    Calls Try.prog 3 #[.slice a len cap] w fun e w' => e = .returned (.bool true) ∧ Below w.heap.size w w' := by
  have hl : len ≤ maxLen := by
    rcases h with ⟨_, h, _⟩ | ⟨_, _, h1, h2, _⟩
    · omega
    · omega
  by_cases hb : 1048576 < len
  · exact orders_big a len cap w hl hb
  · exact orders_no a len cap _ w h.bytes hl (by omega)

end Go.Proofs.Ytmnekheaggleaaa
