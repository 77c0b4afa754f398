/- A click, by the model. -/
import Derived.Test.YtoipcnpemmajaaaTh27
namespace Go.Proofs.Ytoipcnpemmajaaa
open Go.RowKit Go.Maps
set_option linter.unusedVariables false
attribute [local go_sem] growUpon growAt growUponR growAtR

theorem R6.put51 {w : World} {b : Nat} {v0 v1 v2 v3 v4 v5 : Value} (h : R6 w b v0 v1 v2 v3 v4 v5) (u5 u1 : Value) : R6 ((w.setCell ⟨b, 5, none⟩ u5).setCell ⟨b, 1, none⟩ u1) b v0 u1 v2 v3 v4 u5 := by
  refine ⟨?_, ?_, ?_, ?_, ?_, ?_, fun c => by simpa using h.fr c, by simpa using h.lt⟩
  · rw [cell_set_other (by omega), cell_set_other (by omega)]; exact h.c0
  · exact cell_set_same ((cell_set_other (by omega)).trans h.c1)
  · rw [cell_set_other (by omega), cell_set_other (by omega)]; exact h.c2
  · rw [cell_set_other (by omega), cell_set_other (by omega)]; exact h.c3
  · rw [cell_set_other (by omega), cell_set_other (by omega)]; exact h.c4
  · rw [cell_set_other (by omega)]; exact cell_set_same h.c5
theorem wrap8 {n : Int} (h : 0 ≤ n ∧ n ≤ 255) : IntKind.u8.wrap n = n := by
  rw [IntKind.wrap_u8]; omega
theorem kalH (w : World) (o : Obj) : Below w.heap.size w (w.alloc o) := (Below.refl _ _).alloc (Nat.le_refl _) o
set_option maxRecDepth 100000 in
set_option maxHeartbeats 4000000 in
theorem sClick_out (g : Nat) (f k a b p : Int) (so : Option Addr) (n sc : Nat) (w : World) (hh : H3 w g k a b) (hp : p < 0)
    (hT : ∀ w1, Below w.heap.size w w1 → Calls Try.prog 102 #[.slice so n sc, .int .i64 a, .int .i64 b] w1 fun e w' => e = .returned (.int .i64 p) ∧ Below w1.heap.size w1 w') :
    Calls Try.prog 80 #[.agg #[.bool false, .int .i64 f], .slice so n sc, .pointer (some ⟨g, 0, none⟩)] w (RtA ⟨0, 0, 0, [], false, 0⟩ w) := by
  have hg := hh.lt
  have hg2 : g < w.heap.size ∧ g < w.heap.size + 1 ∧ g < w.heap.size + 1 + 1 ∧ g < w.heap.size + 1 + 1 + 1 ∧ ¬ g = w.heap.size ∧ ¬ g = w.heap.size + 1 ∧ ¬ g = w.heap.size + 1 + 1 ∧ ¬ g = w.heap.size + 1 + 1 + 1 := by omega
  have HG := hideP (fun w1 (kk : Below w.heap.size w w1) => H3.keep hh kk)
  obtain ⟨c0, c1, c2⟩ := hh
  have HT := hideP hT
  clear hT
  go_enter Try.func80, Try.ntmps80
  go_wp2_with fail
  refine wp_region_kept (by kernel_rfl) (by kernel_rfl) ?_
  repeat (refine kept_step (by rfl) ?_; apply Exists.intro; refine ⟨fun w1 k1 => ?_, fun K hK => ?_⟩; (focus (have hc := Kept.cell k1; go_simp; first | done | rfl | (go_at_call 102; exact kept_call k1 (HT.out w1 (Below.trans (by go_grown) ((Kept.below k1).mono (by simp; omega))))))); (go_simp; refine hK _ ?_; clear hK K))
  refine wpQuiet_nil ?_
  intro w3 k3
  replace k3 := Kept.below k3
  have hc3 := Kept.cell k3
  have hf3 := Kept.frozen k3
  have hz3 := k3.size
  try simp only [World.size_alloc] at hz3
  try simp only [World.size_setCell] at hz3
  try simp only [World.size_drew] at hz3
  try (first | have hs3 := sz12 hz3 | have hs3 := sz11 hz3 | have hs3 := sz10 hz3 | have hs3 := sz9 hz3 | have hs3 := sz8 hz3 | have hs3 := sz7 hz3 | have hs3 := sz6 hz3 | have hs3 := sz5 hz3 | have hs3 := sz4 hz3 | have hs3 := sz3 hz3 | have hs3 := sz2 hz3 | have hs3 := sz1 hz3)
  have X3 := hideP (((r6_new (w.alloc (.cells #[.bool false, .int .i64 f] 25)) (.int .i64 0) (.int .i64 0) (.int .i64 0) (.slice none 0 0) (.bool false) (.int .i64 0) 34).keep (kalH _ (.cells #[.int .i64 0, .int .i64 0, .int .i64 0, .slice none 0 0, .bool false, .int .i64 0] 34)) (by simp)).keep k3 (by simp))
  have Y3 := hideP ((r6_new ((w.alloc (.cells #[.bool false, .int .i64 f] 25)).alloc (.cells #[.int .i64 0, .int .i64 0, .int .i64 0, .slice none 0 0, .bool false, .int .i64 0] 34)) (.int .i64 0) (.int .i64 0) (.int .i64 0) (.slice none 0 0) (.bool false) (.int .i64 0) 34).keep k3 (by simp))
  have H3w := hideP (HG.out w3 (Below.trans (by go_grown) (k3.mono (by simp; omega))))
  have K3 : Hid (Below w.heap.size w w3) := hideP (Below.trans (by go_grown) (k3.mono (by simp; omega)))
  have n3 := k3.size
  simp only [World.size_alloc] at X3 Y3 n3
  clear k3 hc3 hf3 hz3 c0 c1 c2
  obtain ⟨c0, c1, c2⟩ := H3w.out
  obtain ⟨x0, x1, x2, x3, x4, x5, xf, xl⟩ := X3.out
  obtain ⟨y0, y1, y2, y3, y4, y5, yf, yl⟩ := Y3.out
  have hg3 : g < w3.heap.size := by omega
  go_wp2
  exact bodyPost_ret (v := .agg #[.int .i64 0, .int .i64 0, .int .i64 0, .slice none 0 0, .bool false, .int .i64 0]) (by simp [results, Try.results80, go_sem, x0, x1, x2, x3, x4, x5]) rfl (rt_six (r := ⟨0, 0, 0, [], false, 0⟩) (base := w3.heap.size) (OwnR.nil _ _ _ _) (by omega) (by omega) K3.out)

set_option maxRecDepth 100000 in
set_option maxHeartbeats 4000000 in
theorem sClick_row (g : Nat) (f k a p : Int) (so : Option Addr) (n sc : Nat) (w : World) (hh : H3 w g k a 0) (hp : ¬ p < 0)
    (hT : ∀ w1, Below w.heap.size w w1 → Calls Try.prog 102 #[.slice so n sc, .int .i64 a, .int .i64 0] w1 fun e w' => e = .returned (.int .i64 p) ∧ Below w1.heap.size w1 w') :
    Calls Try.prog 80 #[.agg #[.bool false, .int .i64 f], .slice so n sc, .pointer (some ⟨g, 0, none⟩)] w (RtA ⟨0, 0, 0, [], false, 0⟩ w) := by
  have hg := hh.lt
  have hg2 : g < w.heap.size ∧ g < w.heap.size + 1 ∧ g < w.heap.size + 1 + 1 ∧ g < w.heap.size + 1 + 1 + 1 ∧ ¬ g = w.heap.size ∧ ¬ g = w.heap.size + 1 ∧ ¬ g = w.heap.size + 1 + 1 ∧ ¬ g = w.heap.size + 1 + 1 + 1 := by omega
  have HG := hideP (fun w1 (kk : Below w.heap.size w w1) => H3.keep hh kk)
  obtain ⟨c0, c1, c2⟩ := hh
  have HT := hideP hT
  clear hT
  go_enter Try.func80, Try.ntmps80
  go_wp2_with fail
  refine wp_region_kept (by kernel_rfl) (by kernel_rfl) ?_
  repeat (refine kept_step (by rfl) ?_; apply Exists.intro; refine ⟨fun w1 k1 => ?_, fun K hK => ?_⟩; (focus (have hc := Kept.cell k1; go_simp; first | done | rfl | (go_at_call 102; exact kept_call k1 (HT.out w1 (Below.trans (by go_grown) ((Kept.below k1).mono (by simp; omega))))))); (go_simp; refine hK _ ?_; clear hK K))
  refine wpQuiet_nil ?_
  intro w3 k3
  replace k3 := Kept.below k3
  have hc3 := Kept.cell k3
  have hf3 := Kept.frozen k3
  have hz3 := k3.size
  try simp only [World.size_alloc] at hz3
  try simp only [World.size_setCell] at hz3
  try simp only [World.size_drew] at hz3
  try (first | have hs3 := sz12 hz3 | have hs3 := sz11 hz3 | have hs3 := sz10 hz3 | have hs3 := sz9 hz3 | have hs3 := sz8 hz3 | have hs3 := sz7 hz3 | have hs3 := sz6 hz3 | have hs3 := sz5 hz3 | have hs3 := sz4 hz3 | have hs3 := sz3 hz3 | have hs3 := sz2 hz3 | have hs3 := sz1 hz3)
  have X3 := hideP (((r6_new (w.alloc (.cells #[.bool false, .int .i64 f] 25)) (.int .i64 0) (.int .i64 0) (.int .i64 0) (.slice none 0 0) (.bool false) (.int .i64 0) 34).keep (kalH _ (.cells #[.int .i64 0, .int .i64 0, .int .i64 0, .slice none 0 0, .bool false, .int .i64 0] 34)) (by simp)).keep k3 (by simp))
  have Y3 := hideP ((r6_new ((w.alloc (.cells #[.bool false, .int .i64 f] 25)).alloc (.cells #[.int .i64 0, .int .i64 0, .int .i64 0, .slice none 0 0, .bool false, .int .i64 0] 34)) (.int .i64 0) (.int .i64 0) (.int .i64 0) (.slice none 0 0) (.bool false) (.int .i64 0) 34).keep k3 (by simp))
  have H3w := hideP (HG.out w3 (Below.trans (by go_grown) (k3.mono (by simp; omega))))
  have K3 : Hid (Below w.heap.size w w3) := hideP (Below.trans (by go_grown) (k3.mono (by simp; omega)))
  have n3 := k3.size
  simp only [World.size_alloc] at X3 Y3 n3
  clear k3 hc3 hf3 hz3 c0 c1 c2
  obtain ⟨c0, c1, c2⟩ := H3w.out
  obtain ⟨x0, x1, x2, x3, x4, x5, xf, xl⟩ := X3.out
  obtain ⟨y0, y1, y2, y3, y4, y5, yf, yl⟩ := Y3.out
  have hg3 : g < w3.heap.size := by omega
  go_wp2
  exact bodyPost_ret (v := .agg #[.int .i64 0, .int .i64 0, .int .i64 0, .slice none 0 0, .bool false, .int .i64 0]) (by simp [results, Try.results80, go_sem, x0, x1, x2, x3, x4, x5]) rfl (rt_six (r := ⟨0, 0, 0, [], false, 0⟩) (base := w3.heap.size) (OwnR.nil _ _ _ _) (by omega) (by omega) K3.out)

set_option maxRecDepth 100000 in
set_option maxHeartbeats 4000000 in
theorem sClick_some (g : Nat) (f k a b : Int) (gs os j : Nat) (n sc : Nat) (r : Wn) (w : World) (hh : H3 w g k a b) (hb : b ≠ 0) (hj : j < n) (hn : n ≤ 1048576) (hgs : gs < w.heap.size) (hc : Cl Wn.vals w gs (os + j * 7) r)
    (h1 : 1 ≤ r.i ∧ r.i ≤ 255) (h2 : 0 ≤ a - r.x ∧ a - r.x ≤ 7) (h3 : 0 ≤ b - r.y ∧ b - r.y ≤ 5)
    (hT : ∀ w1, Below w.heap.size w w1 → Calls Try.prog 102 #[.slice (some ⟨gs, os, none⟩) n sc, .int .i64 a, .int .i64 b] w1 fun e w' => e = .returned (.int .i64 (j : Nat)) ∧ Below w1.heap.size w1 w') :
    Calls Try.prog 80 #[.agg #[.bool false, .int .i64 f], .slice (some ⟨gs, os, none⟩) n sc, .pointer (some ⟨g, 0, none⟩)] w (RtA ⟨0, r.i, 5, [r.i, a - r.x, b - r.y], false, r.i⟩ w) := by
  have hjn : (j : Int) < (n : Int) := by omega
  have hj0 : ¬ (j : Int) < 0 := by omega
  have hn' : (n : Int) ≤ 1048576 := by omega
  have e0 : (b == 0) = false := by simpa using hb
  obtain ⟨ri, rx, ry, rp, rh, rm, rb⟩ := r
  simp only at h1 h2 h3 ⊢
  have e1 : IntKind.i64.wrap (a - rx) = a - rx := IntWalk.i64_in _ (by omega)
  have e2 : IntKind.i64.wrap (b - ry) = b - ry := IntWalk.i64_in _ (by omega)
  have m0 : IntKind.u8.wrap ri = ri := wrap8 (by omega)
  have m1 : IntKind.u8.wrap (a - rx) = a - rx := wrap8 (by omega)
  have m2 : IntKind.u8.wrap (b - ry) = b - ry := wrap8 (by omega)
  have HC := hideP (fun w1 (kk : Below w.heap.size w w1) => (hc.keep kk hgs).seven)
  clear hc h1 h2 h3
  have hg := hh.lt
  have hg2 : g < w.heap.size ∧ g < w.heap.size + 1 ∧ g < w.heap.size + 1 + 1 ∧ g < w.heap.size + 1 + 1 + 1 ∧ ¬ g = w.heap.size ∧ ¬ g = w.heap.size + 1 ∧ ¬ g = w.heap.size + 1 + 1 ∧ ¬ g = w.heap.size + 1 + 1 + 1 := by omega
  have HG := hideP (fun w1 (kk : Below w.heap.size w w1) => H3.keep hh kk)
  obtain ⟨c0, c1, c2⟩ := hh
  have HT := hideP hT
  clear hT
  go_enter Try.func80, Try.ntmps80
  go_wp2_with fail
  refine wp_region_kept (by kernel_rfl) (by kernel_rfl) ?_
  repeat (refine kept_step (by rfl) ?_; apply Exists.intro; refine ⟨fun w1 k1 => ?_, fun K hK => ?_⟩; (focus (have hc := Kept.cell k1; go_simp; first | done | rfl | (go_at_call 102; exact kept_call k1 (HT.out w1 (Below.trans (by go_grown) ((Kept.below k1).mono (by simp; omega))))))); (go_simp; refine hK _ ?_; clear hK K))
  refine wpQuiet_nil ?_
  intro w3 k3
  replace k3 := Kept.below k3
  have hc3 := Kept.cell k3
  have hf3 := Kept.frozen k3
  have hz3 := k3.size
  try simp only [World.size_alloc] at hz3
  try simp only [World.size_setCell] at hz3
  try simp only [World.size_drew] at hz3
  try (first | have hs3 := sz12 hz3 | have hs3 := sz11 hz3 | have hs3 := sz10 hz3 | have hs3 := sz9 hz3 | have hs3 := sz8 hz3 | have hs3 := sz7 hz3 | have hs3 := sz6 hz3 | have hs3 := sz5 hz3 | have hs3 := sz4 hz3 | have hs3 := sz3 hz3 | have hs3 := sz2 hz3 | have hs3 := sz1 hz3)
  have X3 := hideP (((r6_new (w.alloc (.cells #[.bool false, .int .i64 f] 25)) (.int .i64 0) (.int .i64 0) (.int .i64 0) (.slice none 0 0) (.bool false) (.int .i64 0) 34).keep (kalH _ (.cells #[.int .i64 0, .int .i64 0, .int .i64 0, .slice none 0 0, .bool false, .int .i64 0] 34)) (by simp)).keep k3 (by simp))
  have Y3 := hideP ((r6_new ((w.alloc (.cells #[.bool false, .int .i64 f] 25)).alloc (.cells #[.int .i64 0, .int .i64 0, .int .i64 0, .slice none 0 0, .bool false, .int .i64 0] 34)) (.int .i64 0) (.int .i64 0) (.int .i64 0) (.slice none 0 0) (.bool false) (.int .i64 0) 34).keep k3 (by simp))
  have H3w := hideP (HG.out w3 (Below.trans (by go_grown) (k3.mono (by simp; omega))))
  have K3 : Hid (Below w.heap.size w w3) := hideP (Below.trans (by go_grown) (k3.mono (by simp; omega)))
  have n3 := k3.size
  simp only [World.size_alloc] at X3 Y3 n3
  clear k3 hc3 hf3 hz3 c0 c1 c2
  obtain ⟨a0, a1, a2, a3, a4, a5, a6⟩ := HC.out w3 K3.out
  obtain ⟨c0, c1, c2⟩ := H3w.out
  obtain ⟨x0, x1, x2, x3, x4, x5, xf, xl⟩ := X3.out
  obtain ⟨y0, y1, y2, y3, y4, y5, yf, yl⟩ := Y3.out
  have hg3 : g < w3.heap.size ∧ gs < w3.heap.size := by omega
  have hne : ¬ gs = w.heap.size + 1 + 1 ∧ ¬ g = w.heap.size + 1 + 1 := by omega
  clear H3w
  go_wp2_with fail
  have F5 : Far (w.heap.size + 1 + 1) (w.heap.size + 1 + 1 + 1) w3 ((w3.setCell ⟨w.heap.size + 1 + 1, 5, none⟩ (.int .i64 ri)).setCell ⟨w.heap.size + 1 + 1, 1, none⟩ (.int .i64 ri)) := ((Far.refl _ _ w3).setCell (p := ⟨w.heap.size + 1 + 1, 5, none⟩) (Nat.le_refl _) (Nat.lt_succ_self _) _).setCell (p := ⟨w.heap.size + 1 + 1, 1, none⟩) (Nat.le_refl _) (Nat.lt_succ_self _) _
  have X5 := hideP (X3.out.far F5 (.inl (by omega)))
  have Y5 := hideP (Y3.out.put51 (.int .i64 ri) (.int .i64 ri))
  have K5 := hideP ((K3.out.setCell (p := ⟨w.heap.size + 1 + 1, 5, none⟩) (by show w.heap.size ≤ w.heap.size + 1 + 1; omega) (.int .i64 ri)).setCell (p := ⟨w.heap.size + 1 + 1, 1, none⟩) (by show w.heap.size ≤ w.heap.size + 1 + 1; omega) (.int .i64 ri))
  clear F5 X3 Y3 K3 a0 a1 a2 a3 a4 a5 a6 c0 c1 c2 x0 x1 x2 x3 x4 x5 xf xl y0 y1 y2 y3 y4 y5 yf yl hg3
  generalize (w3.setCell ⟨w.heap.size + 1 + 1, 5, none⟩ (.int .i64 ri)).setCell ⟨w.heap.size + 1 + 1, 1, none⟩ (.int .i64 ri) = w5 at *
  obtain ⟨a0, a1, a2, a3, a4, a5, a6⟩ := HC.out w5 K5.out
  obtain ⟨c0, c1, c2⟩ := HG.out w5 K5.out
  have hg3 : g < w5.heap.size ∧ gs < w5.heap.size := by have := K5.out.size; omega
  have hw5 := X5.out.lt
  have hw6 := Y5.out.lt
  refine wp_region_plan (R := Kept) (G := Kept) rel_keptA rel_keptA (fun h => h) 29 [(true, 0), (true, 1), (true, 2), (true, 3), (true, 4), (true, 5), (true, 6), (true, 7), (true, 8), (true, 9), (true, 10), (true, 11), (true, 12), (true, 13), (true, 14), (true, 15), (true, 16), (true, 17), (true, 18), (true, 19), (true, 20), (true, 21), (true, 22), (true, 23), (true, 24), (true, 25), (true, 26), (false, 27), (true, 28)] (by kernel_rfl) (by kernel_rfl) ?_
  simp only [selP, List.filterMap_cons, List.filterMap_nil, List.getElem?_cons_succ, List.getElem?_cons_zero, Option.map_some]
  repeat (refine plan_take _ (by first | exact wanted_free rfl | exact wanted_yes rfl rfl | exact wanted_no rfl rfl) (by first | with_reducible rfl | decide) ?_; apply Exists.intro; refine ⟨fun w' k1 => ?_, fun K hK => ?_⟩; (focus (have hc := Kept.cell k1; go_simp; first | done | rfl)); (go_simp; refine hK _ ?_; clear hK K))
  refine plan_made _ (by first | exact wanted_free rfl | exact wanted_yes rfl rfl | exact wanted_no rfl rfl) (by first | with_reducible rfl | decide) fun u1 i1 => ?_
  refine made_allocR rel_keptA (b := .cells #[.int .u8 ri, .int .u8 (a - rx), .int .u8 (b - ry)] 5) (by go_simp; first | done | rfl) fun K hK => ?_
  go_simp
  refine hK _ ?_
  clear hK K
  repeat (refine plan_take _ (by first | exact wanted_free rfl | exact wanted_yes rfl rfl | exact wanted_no rfl rfl) (by first | with_reducible rfl | decide) ?_; apply Exists.intro; refine ⟨fun w' k1 => ?_, fun K hK => ?_⟩; (focus (have hc := Kept.cell k1; go_simp; first | done | rfl)); (go_simp; refine hK _ ?_; clear hK K))
  refine plan_nil fun w6 k6 => ?_
  try simp only [List.drop_succ_cons, List.drop_zero]
  have kk := (Kept.below i1).trans (((kalH u1 (.cells #[.int .u8 ri, .int .u8 (a - rx), .int .u8 (b - ry)] 5)).trans ((Kept.below k6).mono (by simp))).mono (Kept.below i1).size)
  have O6 := hideP ((OwnR.lit .u8 5 u1 u1.heap.size [ri, a - rx, b - ry] #[.int .u8 ri, .int .u8 (a - rx), .int .u8 (b - ry)] rfl (Nat.le_refl _) (by unfold maxLen; simp)).keep (Kept.below k6))
  have X6 := hideP (X5.out.keep kk X5.out.lt)
  have Y6 := hideP (Y5.out.keep kk Y5.out.lt)
  have K6 := hideP (K5.out.trans (kk.mono K5.out.size))
  have n6 := (Kept.below i1).size
  clear kk i1 k6 X5 Y5 K5 HC HG a0 a1 a2 a3 a4 a5 a6 c0 c1 c2
  obtain ⟨x0, x1, x2, x3, x4, x5, xf, xl⟩ := X6.out
  obtain ⟨y0, y1, y2, y3, y4, y5, yf, yl⟩ := Y6.out
  go_wp2
  exact bodyPost_ret (v := .agg #[.int .i64 0, .int .i64 ri, .int .i64 5, .slice (some ⟨u1.heap.size, 0, none⟩) 3 3, .bool false, .int .i64 ri]) (by simp [results, Try.results80, go_sem, x0, x1, x2, x3, x4, x5]) rfl (rt_six (r := ⟨0, ri, 5, [ri, a - rx, b - ry], false, ri⟩) (base := u1.heap.size) ((O6.out.set ⟨w.heap.size + 1 + 1, 2, none⟩ (.int .i64 5) (by show w.heap.size + 1 + 1 < u1.heap.size; omega)).set ⟨w.heap.size + 1 + 1, 3, none⟩ (.slice (some ⟨u1.heap.size, 0, none⟩) 3 3) (by show w.heap.size + 1 + 1 < u1.heap.size; omega)) (by omega) (by omega) ((K6.out.setCell (p := ⟨w.heap.size + 1 + 1, 2, none⟩) (by show w.heap.size ≤ w.heap.size + 1 + 1; omega) (.int .i64 5)).setCell (p := ⟨w.heap.size + 1 + 1, 3, none⟩) (by show w.heap.size ≤ w.heap.size + 1 + 1; omega) (.slice (some ⟨u1.heap.size, 0, none⟩) 3 3)))
end Go.Proofs.Ytoipcnpemmajaaa
