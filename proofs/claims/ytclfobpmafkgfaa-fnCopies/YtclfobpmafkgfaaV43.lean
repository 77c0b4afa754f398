/- What FnFills draws: a window and one of its cells. -/
import Derived.Test.YtclfobpmafkgfaaV41
import Derived.Test.YtclfobpmafkgfaaV42
namespace Go.Proofs.Ytclfobpmafkgfaa
open Go.RowKit
set_option linter.unusedVariables false
attribute [local go_sem] growUponR growAtR

theorem R7.put {w : World} {b : Nat} {v0 v1 v2 v3 v4 v5 v6 : Value} (h : R7 w b v0 v1 v2 v3 v4 v5 v6) (u0 u1 u2 u3 u4 u5 u6 : Value) : R7 (((((((w.setCell ⟨b, 0, none⟩ u0).setCell ⟨b, 1, none⟩ u1).setCell ⟨b, 2, none⟩ u2).setCell ⟨b, 3, none⟩ u3).setCell ⟨b, 4, none⟩ u4).setCell ⟨b, 5, none⟩ u5).setCell ⟨b, 6, none⟩ u6) b u0 u1 u2 u3 u4 u5 u6 := by
  have hp := put7 (w := w) (g := b) (o := 0) u0 u1 u2 u3 u4 u5 u6 (fun j hj => by
    have : j = 0 ∨ j = 1 ∨ j = 2 ∨ j = 3 ∨ j = 4 ∨ j = 5 ∨ j = 6 := by omega
    rcases this with rfl | rfl | rfl | rfl | rfl | rfl | rfl
    · exact ⟨_, h.c0⟩
    · exact ⟨_, h.c1⟩
    · exact ⟨_, h.c2⟩
    · exact ⟨_, h.c3⟩
    · exact ⟨_, h.c4⟩
    · exact ⟨_, h.c5⟩
    · exact ⟨_, h.c6⟩)
  simp only [Nat.zero_add] at hp
  obtain ⟨⟨a0, a1, a2, a3, a4, a5, a6⟩, _, _⟩ := hp
  exact ⟨a0, a1, a2, a3, a4, a5, a6, fun c => by simpa using h.fr c, by simpa using h.lt⟩

theorem row_set {w w' : World} {B lo hi : Nat} {ao : Option Addr} {D : List Int} (k : Below B w w') (h : Row .i64 w' lo hi ao D) (hs : hi ≤ w'.heap.size) {g o : Nat} (hg : g < lo) (hB : B ≤ g) (v : Value) : Below B w (w'.setCell ⟨g, o, none⟩ v) ∧ Row .i64 (w'.setCell ⟨g, o, none⟩ v) lo hi ao D ∧ hi ≤ (w'.setCell ⟨g, o, none⟩ v).heap.size :=
  ⟨k.setCell hB v, h.far ((Far.refl g (g + 1) w').setCell (p := ⟨g, o, none⟩) (Nat.le_refl _) (Nat.lt_succ_self _) v) (.inr (by omega)) hs, by simpa using hs⟩

theorem rel_farD (lo hi : Nat) : Rel (Far lo hi) := ⟨fun w => Far.refl lo hi w, fun h k => h.trans k, fun w o => Far.of_below ((Below.refl _ _).alloc (Nat.le_refl _) _), fun w => Far.of_below (Below.refl _ _).drew⟩
theorem far_put7 {w : World} {lo hi : Nat} (b : Nat) (h1 : lo ≤ b) (h2 : b < hi) (u0 u1 u2 u3 u4 u5 u6 : Value) : Far lo hi w (((((((w.setCell ⟨b, 0, none⟩ u0).setCell ⟨b, 1, none⟩ u1).setCell ⟨b, 2, none⟩ u2).setCell ⟨b, 3, none⟩ u3).setCell ⟨b, 4, none⟩ u4).setCell ⟨b, 5, none⟩ u5).setCell ⟨b, 6, none⟩ u6) :=
  ((((((((Far.refl lo hi w).setCell (p := ⟨b, 0, none⟩) h1 h2 u0).setCell (p := ⟨b, 1, none⟩) h1 h2 u1).setCell (p := ⟨b, 2, none⟩) h1 h2 u2).setCell (p := ⟨b, 3, none⟩) h1 h2 u3).setCell (p := ⟨b, 4, none⟩) h1 h2 u4).setCell (p := ⟨b, 5, none⟩) h1 h2 u5).setCell (p := ⟨b, 6, none⟩) h1 h2 u6)

set_option maxRecDepth 100000 in
set_option maxHeartbeats 4000000 in
theorem drawCell_any (w : World) (a : Option Addr) (len cap : Nat) (f : Nat → Int) (hB : Bytes w w.heap.size a len f) (hl : len ≤ 1048576) :
    Calls Try.prog 14 #[.slice a len cap] w fun e w' => ∃ (i x y p h : Int) (m : Bool) (ao : Option Addr) (ca : Nat) (D : List Int) (cx cy : Int), e = .returned (.tuple #[.agg #[.int .i64 i, .int .i64 x, .int .i64 y, .int .i64 p, .int .i64 h, .bool m, .slice ao D.length ca], .int .i64 cx, .int .i64 cy]) ∧ D.length ≤ 624 ∧ Below w.heap.size w w' ∧ Row .i64 w' w.heap.size w'.heap.size ao D := by
  have ka := (Below.refl w.heap.size w).alloc (Nat.le_refl _) (.cells #[.int .i64 0, .int .i64 0, .int .i64 0, .int .i64 0, .int .i64 0, .bool false, .slice none 0 0] 39)
  have S0 := hideP (Src.neww w _ (w.heap.size + 1) a len cap f 104 hB hl ka (by simp))
  have Q0 := hideP ((r7_new w (.int .i64 0) (.int .i64 0) (.int .i64 0) (.int .i64 0) (.int .i64 0) (.bool false) (.slice none 0 0) 39).far (Far.of_below (lo := 0) (hi := 0) ((Below.refl _ _).alloc (Nat.le_refl _) (.cells #[.slice a len cap, .int .i64 0] 104))) (.inr (Nat.zero_le _)))
  have KA := hideP (ka.alloc (by simp) (.cells #[.slice a len cap, .int .i64 0] 104))
  clear hB ka
  go_enter Try.func14, Try.ntmps14
  go_wp2_with (first | (go_at_call 36; go_in))
  refine Calls.mono (wbent_any _ _ _ a len cap f 0 S0.out (by omega) (by omega)) ?_
  rintro e w1 ⟨so, sc, M, u, rfl, hM, hz, u0, u1, hW, ht, hs⟩
  have n1 := ht.size
  simp only [World.size_alloc] at n1 hW
  have K1 := hideP (Turn.below KA.out (Nat.le_succ _) (by simp only [World.size_alloc]; omega) ht)
  have Q1 := hideP (Q0.out.turn ht (by simp))
  have S1 := hideP hs
  clear ht hs S0 Q0 KA
  rcases M with _ | ⟨r, Y⟩
  · obtain ⟨q0, q1, q2, q3, q4, q5, q6, qf, ql⟩ := Q1.out
    clear hW
    simp only [List.length_nil]
    go_wp2
    clear q0 q1 q2 q3 q4 q5 q6 qf ql
    obtain ⟨p0, R0, m0⟩ := row_set K1.out (show Row .i64 w1 w1.heap.size w1.heap.size none [] from .inl rfl) (Nat.le_refl _) (g := w.heap.size) (o := 0) (by omega) (Nat.le_refl _) (.int .i64 0)
    obtain ⟨p1, R1, m1⟩ := row_set p0 R0 m0 (g := w.heap.size) (o := 1) (by omega) (Nat.le_refl _) (.int .i64 0)
    obtain ⟨p2, R2, m2⟩ := row_set p1 R1 m1 (g := w.heap.size) (o := 2) (by omega) (Nat.le_refl _) (.int .i64 0)
    obtain ⟨p3, R3, m3⟩ := row_set p2 R2 m2 (g := w.heap.size) (o := 3) (by omega) (Nat.le_refl _) (.int .i64 0)
    obtain ⟨p4, R4, m4⟩ := row_set p3 R3 m3 (g := w.heap.size) (o := 4) (by omega) (Nat.le_refl _) (.int .i64 0)
    obtain ⟨p5, R5, m5⟩ := row_set p4 R4 m4 (g := w.heap.size) (o := 5) (by omega) (Nat.le_refl _) (.bool false)
    obtain ⟨p6, R6, m6⟩ := row_set p5 R5 m5 (g := w.heap.size) (o := 6) (by omega) (Nat.le_refl _) (.slice none 0 0)
    have HK := hideP p6
    have HR := hideP (R6.wide (lo' := w.heap.size) (by first | omega | (simp; omega)) m6)
    obtain ⟨q0, q1, q2, q3, q4, q5, q6, qf, ql⟩ := Q1.out.put (.int .i64 0) (.int .i64 0) (.int .i64 0) (.int .i64 0) (.int .i64 0) (.bool false) (.slice none 0 0)
    clear p0 R0 m0 p1 R1 m1 p2 R2 m2 p3 R3 m3 p4 R4 m4 p5 R5 m5 p6 R6 m6
    generalize ((((((w1.setCell ⟨w.heap.size, 0, none⟩ (.int .i64 0)).setCell ⟨w.heap.size, 1, none⟩ (.int .i64 0)).setCell ⟨w.heap.size, 2, none⟩ (.int .i64 0)).setCell ⟨w.heap.size, 3, none⟩ (.int .i64 0)).setCell ⟨w.heap.size, 4, none⟩ (.int .i64 0)).setCell ⟨w.heap.size, 5, none⟩ (.bool false)).setCell ⟨w.heap.size, 6, none⟩ (.slice none 0 0) = w9 at *
    refine bodyPost_ret (v := .tuple #[.agg #[.int .i64 0, .int .i64 0, .int .i64 0, .int .i64 0, .int .i64 0, .bool false, .slice none 0 0], .int .i64 0, .int .i64 0]) (by simp [results, Try.results14, go_sem, q0, q1, q2, q3, q4, q5, q6]) rfl ⟨0, 0, 0, 0, 0, false, none, 0, [], 0, 0, rfl, Nat.zero_le _, HK.out, HR.out⟩
  · obtain ⟨n, hn⟩ : ∃ n, (r :: Y).length = n := ⟨_, rfl⟩
    have hnp : 0 < n := by rw [← hn]; simp
    have hni : (0 : Int) < (n : Int) := by omega
    have hn0 : ((n : Int) == 0) = false := by simp; omega
    rw [hn] at hM ⊢
    have hn13 : (n : Int) ≤ 13 := by omega
    obtain ⟨i, x, y, p, h, m, ⟨ao, ca, gb, D⟩⟩ := r
    have hD : D.length ≤ 624 := by rw [wzs_cons] at hz; simp only at hz; omega
    obtain ⟨g, o, rfl, hg1, hg2, hc⟩ : ∃ g o, so = some ⟨g, o, none⟩ ∧ w.heap.size + 1 + 1 ≤ g ∧ g < w1.heap.size ∧ ∀ j (hj : j < ((⟨i, x, y, p, h, m, ⟨ao, ca, gb, D⟩⟩ : Wn) :: Y).length), Cl Wn.vals w1 g (o + j * 7) (((⟨i, x, y, p, h, m, ⟨ao, ca, gb, D⟩⟩ : Wn) :: Y)[j]) ∧ Row .i64 w1 (w.heap.size + 1 + 1) w1.heap.size (((⟨i, x, y, p, h, m, ⟨ao, ca, gb, D⟩⟩ : Wn) :: Y)[j]).b.ao (((⟨i, x, y, p, h, m, ⟨ao, ca, gb, D⟩⟩ : Wn) :: Y)[j]).b.L := by
      rcases hW with e | e
      · cases e
      · exact e
    obtain ⟨hc0, hr0⟩ := hc 0 (by simp)
    simp only [List.getElem_cons_zero, Nat.zero_mul, Nat.add_zero] at hc0 hr0
    obtain ⟨c0, c1, c2, c3, c4, c5, c6⟩ := hc0.seven
    have hgb : ¬ g = w.heap.size + 1 := by omega
    have HR1 := hideP hr0
    clear hW hc hc0 hr0 hn hz hM
    go_wp2
    refine wp_region_plan (R := Far w.heap.size (w.heap.size + 1 + 1)) (G := Kept) (rel_farD _ _) rel_keptA (fun h => Far.of_below h) 12 [(true, 0), (true, 1), (true, 2), (true, 3), (true, 6), (false, 4), (true, 5), (false, 7), (true, 8), (false, 9), (true, 10), (true, 11)] (by kernel_rfl) (by kernel_rfl) ?_
    simp only [selP, List.filterMap_cons, List.filterMap_nil, List.getElem?_cons_succ, List.getElem?_cons_zero, Option.map_some]
    repeat (refine plan_take _ (by first | exact wanted_free rfl | exact wanted_yes rfl rfl | exact wanted_no rfl rfl) (by first | with_reducible rfl | decide) ?_; apply Exists.intro; refine ⟨fun w' k1 => ?_, fun K hK => ?_⟩; (focus (have hc := fun o => (Far.cell k1 g o hg2 (.inr hg1)); go_simp; first | done | rfl)); (go_simp; refine hK _ ?_; clear hK K))
    refine plan_made _ (by first | exact wanted_free rfl | exact wanted_yes rfl rfl | exact wanted_no rfl rfl) (by first | with_reducible rfl | decide) fun v1 j1 => ?_
    have jj1 := Kept.below j1
    refine made_callsR (by go_simp; first | done | rfl) ((next_any v1 _ _ a len cap f u 6 (S1.out.below5 jj1 (by omega)) u0 (by omega) (by omega) (by omega)).mono ?_)
    rintro e v2 ⟨cx, rfl, x0, x1, ht, hs⟩
    have t2 : Turn (w.heap.size + 1) w1 v2 := (Turn.of_below jj1).trans ht
    have s2 : g < v2.heap.size := Nat.lt_of_lt_of_le hg2 t2.size
    refine ⟨_, rfl, ht.far.wide (Nat.le_succ _) (Nat.le_refl _), fun K hK => ?_⟩
    go_simp
    refine hK _ ?_
    clear hK K
    repeat (refine plan_take _ (by first | exact wanted_free rfl | exact wanted_yes rfl rfl | exact wanted_no rfl rfl) (by first | with_reducible rfl | decide) ?_; apply Exists.intro; refine ⟨fun w' k1 => ?_, fun K hK => ?_⟩; (focus (have hc := fun o => (Far.cell k1 g o s2 (.inr hg1)); go_simp; first | done | rfl)); (go_simp; refine hK _ ?_; clear hK K))
    refine plan_made _ (by first | exact wanted_free rfl | exact wanted_yes rfl rfl | exact wanted_no rfl rfl) (by first | with_reducible rfl | decide) fun v3 j3 => ?_
    have jj3 := Kept.below j3
    refine made_callsR (by go_simp; first | done | rfl) ((next_any v3 _ _ a len cap f (u + 1) 5 (hs.below5 jj3 hs.lt) (by omega) (by omega) (by omega) (by omega)).mono ?_)
    rintro e v4 ⟨cy, rfl, y0, y1, ht4, hs4⟩
    have t4 : Turn (w.heap.size + 1) w1 v4 := (t2.trans (Turn.of_below jj3)).trans ht4
    have s4 : g < v4.heap.size := Nat.lt_of_lt_of_le hg2 t4.size
    refine ⟨_, rfl, ht4.far.wide (Nat.le_succ _) (Nat.le_refl _), fun K hK => ?_⟩
    go_simp
    refine hK _ ?_
    clear hK K
    repeat (refine plan_take _ (by first | exact wanted_free rfl | exact wanted_yes rfl rfl | exact wanted_no rfl rfl) (by first | with_reducible rfl | decide) ?_; apply Exists.intro; refine ⟨fun w' k1 => ?_, fun K hK => ?_⟩; (focus (have hc := fun o => (Far.cell k1 g o s4 (.inr hg1)); go_simp; first | done | rfl)); (go_simp; refine hK _ ?_; clear hK K))
    refine plan_made _ (by first | exact wanted_free rfl | exact wanted_yes rfl rfl | exact wanted_no rfl rfl) (by first | with_reducible rfl | decide) fun w5 j5 => ?_
    have t5 : Turn (w.heap.size + 1) w1 w5 := t4.trans (Turn.of_below (Kept.below j5))
    have K5 := hideP (Turn.below K1.out (Nat.le_succ _) (by omega) t5)
    have Q5 := hideP (Q1.out.turn t5 (by omega))
    have R5 := hideP (HR1.out.far t5.far (.inr (by omega)) (Nat.le_refl _))
    have n5 := t5.size
    have HS := hideP hD
    have s5 : g < w5.heap.size := Nat.lt_of_lt_of_le hg2 n5
    have hwx : IntKind.i64.wrap (cx - 1) = cx - 1 := IntWalk.i64_in _ (by omega)
    have hwy : IntKind.i64.wrap (cy - 1) = cy - 1 := IntWalk.i64_in _ (by omega)
    clear t2 t4 t5 ht ht4 hs hs4 jj1 jj3 j1 j3 c0 c1 c2 c3 c4 c5 c6 HR1 Q1 K1 S1
    obtain ⟨q0, q1, q2, q3, q4, q5, q6, qf, ql⟩ := Q5.out
    refine made_skipR (by go_simp; first | done | rfl) (far_put7 w.heap.size (Nat.le_refl _) (by omega) _ _ _ _ _ _ _) fun K hK => ?_
    go_simp
    refine hK _ ?_
    clear hK K
    clear q0 q1 q2 q3 q4 q5 q6 qf ql
    obtain ⟨p0, R10, m0⟩ := row_set K5.out R5.out n5 (g := w.heap.size) (o := 0) (by omega) (Nat.le_refl _) (.int .i64 i)
    obtain ⟨p1, R11, m1⟩ := row_set p0 R10 m0 (g := w.heap.size) (o := 1) (by omega) (Nat.le_refl _) (.int .i64 x)
    obtain ⟨p2, R12, m2⟩ := row_set p1 R11 m1 (g := w.heap.size) (o := 2) (by omega) (Nat.le_refl _) (.int .i64 y)
    obtain ⟨p3, R13, m3⟩ := row_set p2 R12 m2 (g := w.heap.size) (o := 3) (by omega) (Nat.le_refl _) (.int .i64 p)
    obtain ⟨p4, R14, m4⟩ := row_set p3 R13 m3 (g := w.heap.size) (o := 4) (by omega) (Nat.le_refl _) (.int .i64 h)
    obtain ⟨p5, R15, m5⟩ := row_set p4 R14 m4 (g := w.heap.size) (o := 5) (by omega) (Nat.le_refl _) (.bool m)
    obtain ⟨p6, R16, m6⟩ := row_set p5 R15 m5 (g := w.heap.size) (o := 6) (by omega) (Nat.le_refl _) (.slice ao D.length ca)
    have HK := hideP p6
    have HR := hideP (R16.wide (lo' := w.heap.size) (by omega) m6)
    have HQ := hideP (Q5.out.put (.int .i64 i) (.int .i64 x) (.int .i64 y) (.int .i64 p) (.int .i64 h) (.bool m) (.slice ao D.length ca))
    clear p0 R10 m0 p1 R11 m1 p2 R12 m2 p3 R13 m3 p4 R14 m4 p5 R15 m5 p6 R16 m6 R5 K5 Q5 n5
    generalize ((((((w5.setCell ⟨w.heap.size, 0, none⟩ (.int .i64 i)).setCell ⟨w.heap.size, 1, none⟩ (.int .i64 x)).setCell ⟨w.heap.size, 2, none⟩ (.int .i64 y)).setCell ⟨w.heap.size, 3, none⟩ (.int .i64 p)).setCell ⟨w.heap.size, 4, none⟩ (.int .i64 h)).setCell ⟨w.heap.size, 5, none⟩ (.bool m)).setCell ⟨w.heap.size, 6, none⟩ (.slice ao D.length ca) = w6 at *
    repeat (refine plan_take _ (by first | exact wanted_free rfl | exact wanted_yes rfl rfl | exact wanted_no rfl rfl) (by first | with_reducible rfl | decide) ?_; apply Exists.intro; refine ⟨fun w' k1 => ?_, fun K hK => ?_⟩; (focus (go_simp; first | done | rfl)); (go_simp; refine hK _ ?_; clear hK K))
    refine plan_nil fun w9 k9 => ?_
    try simp only [List.drop_succ_cons, List.drop_zero]
    have kk9 := Kept.below k9
    have HK9 := hideP (HK.out.trans (kk9.mono HK.out.size))
    have HR9 := hideP ((HR.out.keep kk9 (Nat.le_refl _)).wide (Nat.le_refl _) kk9.size)
    obtain ⟨q0, q1, q2, q3, q4, q5, q6, qf, ql⟩ := HQ.out.keep kk9 HQ.out.lt
    go_wp2
    refine bodyPost_ret (v := .tuple #[.agg #[.int .i64 i, .int .i64 x, .int .i64 y, .int .i64 p, .int .i64 h, .bool m, .slice ao D.length ca], .int .i64 (cx - 1), .int .i64 (cy - 1)]) (by simp [results, Try.results14, go_sem, q0, q1, q2, q3, q4, q5, q6]) rfl ⟨i, x, y, p, h, m, ao, ca, D, cx - 1, cy - 1, rfl, HS.out, HK9.out, HR9.out⟩
end Go.Proofs.Ytclfobpmafkgfaa
