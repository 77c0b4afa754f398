/- FnHands, FnTyped: the mathematics; what their walks carry along. Panes taken out: the library's IndexFunc and DeleteFunc. Panes taken out: DeleteFunc, and what calls it. -/
import Derived.Test.YtoipcnpemmajaaaTh24
import Derived.Test.YtoipcnpemmajaaaTh27
import Derived.Test.YtoipcnpemmajaaaTh16
import Derived.Test.YtoipcnpemmajaaaTh20
import Derived.Laws.StructEq
namespace Go.Proofs.Ytoipcnpemmajaaa
open Go.RowKit Go.Maps
set_option linter.unusedVariables false

theorem rt_ok {C : List Wc} {t : Bool} {f k a b : Int} (h : (rtR C t f k a b).z = 0) : inpF C f = 0 ∧ hF k a b = 0 ∧ rtR C t f k a b = rtA C t f k a b := by
  unfold rtR at h ⊢
  by_cases h1 : inpF C f = 0
  · rw [if_pos h1] at h ⊢
    by_cases h2 : hF k a b = 0
    · rw [if_pos h2] at h ⊢
      exact ⟨h1, h2, rfl⟩
    · rw [if_neg h2] at h
      exact absurd h h2
  · rw [if_neg h1] at h
    exact absurd h h1
theorem rt_att {C : List Wc} {t : Bool} {f : Int} (h : inpF C f = 0) : rtR C t f 3 0 0 = ⟨0, 0, 0, [], true, f⟩ := by
  have e : hF 3 0 0 = 0 := by decide
  unfold rtR rtA
  rw [if_pos h, if_pos e, if_pos rfl]
theorem rt_tru {C : List Wc} {f k a b : Int} (h : inpF C f = 0) (h2 : hF k a b = 0) : (rtR C true f k a b).tg = 0 ∧ (rtR C true f k a b).fo = f ∧ (rtR C true f k a b).z = 0 := by
  unfold rtR rtA
  rw [if_pos h, if_pos h2]
  by_cases h3 : k = 3
  · rw [if_pos h3]; exact ⟨rfl, rfl, rfl⟩
  · rw [if_neg h3]
    by_cases h4 : k = 4
    · rw [if_pos h4]; exact ⟨rfl, rfl, rfl⟩
    · rw [if_neg h4, if_pos rfl]; exact ⟨rfl, rfl, rfl⟩
theorem inp_st {C : List Wc} {f : Int} (h : inpF C f = 0) : stF C = 0 ∧ isFo C f = true := by
  unfold inpF at h
  by_cases h1 : stF C = 0
  · rw [if_pos h1] at h
    cases hf : isFo C f
    · rw [hf] at h; exact absurd h (by decide)
    · exact ⟨h1, rfl⟩
  · rw [if_neg h1] at h; exact absurd h h1
theorem inp_mk {C : List Wc} {f : Int} (h : stF C = 0) (h2 : isFo C f = true) : inpF C f = 0 := by unfold inpF; rw [if_pos h, if_pos h2]
theorem lose_inp {C : List Wc} {f : Int} (h : stF C = 0) : inpF C (loseF C f) = 0 := by
  apply inp_mk h
  unfold loseF
  by_cases h2 : isFo C f = false
  · rw [if_pos ⟨h, h2⟩]; unfold isFo; rfl
  · rw [if_neg (fun e => h2 e.2)]; simpa using h2
theorem topC_mem {p q : Int} {C : List Wc} {c : Wc} (h : topC p q C = some c) : c ∈ C := by
  induction C with
  | nil => simp [topC] at h
  | cons d C ih =>
    unfold topC at h
    cases e : topC p q C with
    | some i => rw [e] at h; simp at h; subst h; exact List.mem_cons_of_mem _ (ih e)
    | none =>
      rw [e] at h
      by_cases g : hitC p q d = true
      · rw [if_pos g] at h; simp at h; subst h; simp
      · rw [if_neg g] at h; simp at h
theorem topR_topC {p q : Int} {C : List Wc} : topR p q C = (topC p q C).map Wc.i := by
  induction C with
  | nil => rfl
  | cons d C ih =>
    unfold topR topC
    rw [ih]
    cases e : topC p q C with
    | some i => rfl
    | none =>
      simp only [Option.map_none]
      by_cases g : hitC p q d = true
      · rw [if_pos g, if_pos g]; rfl
      · rw [if_neg g, if_neg g]; rfl
theorem click_top {C : List Wc} {p q : Int} (h : stF C = 0) : (clickR (topC p q C) p q).tg = topV C p q ∧ (clickR (topC p q C) p q).fo = topV C p q := by
  unfold topV
  rw [if_pos h, topR_topC]
  cases topC p q C with
  | none => exact ⟨rfl, rfl⟩
  | some c => exact ⟨rfl, rfl⟩
/-- The kinds of a right hand. -/
theorem hF_kind {k a b : Int} (h : hF k a b = 0) : (k = 1 ∨ k = 2 ∨ k = 3 ∨ k = 4) ∧ (k = 2 → 0 ≤ b) ∧ (k ≠ 2 → b = 0) := by
  unfold hF at h
  by_cases h1 : k < 1 ∨ 4 < k ∨ (k ≠ 2 ∧ b ≠ 0) ∨ (3 ≤ k ∧ a ≠ 0)
  · rw [if_pos h1] at h; omega
  · rw [if_neg h1] at h
    by_cases h2 : (k = 1 ∧ (a < 0 ∨ 255 < a)) ∨ (k = 2 ∧ (a < 0 ∨ 11 < a ∨ b < 0 ∨ 7 < b))
    · rw [if_pos h2] at h; omega
    · omega
/-- What a right hand does, kind by kind. -/
theorem rt_att' {C : List Wc} {t : Bool} {f k a b : Int} (h : (rtR C t f k a b).z = 0) (e : k = 3) : (rtR C t f k a b).tg = 0 ∧ (rtR C t f k a b).tr = true ∧ (rtR C t f k a b).fo = f := by
  rw [(rt_ok h).2.2]; unfold rtA; rw [if_pos e]; exact ⟨rfl, rfl, rfl⟩
theorem rt_leave {C : List Wc} {t : Bool} {f k a b : Int} (h : (rtR C t f k a b).z = 0) (e : k = 4) : (rtR C t f k a b).tg = 0 ∧ (rtR C t f k a b).tr = false ∧ (rtR C t f k a b).fo = f := by
  rw [(rt_ok h).2.2]; unfold rtA; rw [if_neg (by omega), if_pos e]; exact ⟨rfl, rfl, rfl⟩
theorem rt_rest {C : List Wc} {f k a b : Int} (h : (rtR C true f k a b).z = 0) (e3 : ¬ k = 3) (e4 : ¬ k = 4) : (rtR C true f k a b).tg = 0 ∧ (rtR C true f k a b).tr = true ∧ (rtR C true f k a b).fo = f := by
  rw [(rt_ok h).2.2]; unfold rtA; rw [if_neg e3, if_neg e4, if_pos rfl]; exact ⟨rfl, rfl, rfl⟩
theorem rt_click {C : List Wc} {f k a b : Int} (h : (rtR C false f k a b).z = 0) (e : k = 2) (hb : 0 < b) : (rtR C false f k a b).tg = topV C a b ∧ (rtR C false f k a b).tr = false ∧ (rtR C false f k a b).fo = topV C a b := by
  have hs := (inp_st (rt_ok h).1).1
  rw [(rt_ok h).2.2]
  unfold rtA
  rw [if_neg (by omega), if_neg (by omega), if_neg (by decide), if_pos e, if_neg (by omega)]
  refine ⟨(click_top hs).1, ?_, (click_top hs).2⟩
  cases topC a b C <;> rfl
theorem rt_strip {C : List Wc} {f k a b : Int} (h : (rtR C false f k a b).z = 0) (e : k = 2) (hb : ¬ 0 < b) : (rtR C false f k a b).tg = 0 ∧ (rtR C false f k a b).tr = false ∧ (rtR C false f k a b).fo = 0 := by
  have := (hF_kind (rt_ok h).2.1).2.1 e
  rw [(rt_ok h).2.2]
  unfold rtA
  rw [if_neg (by omega), if_neg (by omega), if_neg (by decide), if_pos e, if_pos (by omega)]
  exact ⟨rfl, rfl, rfl⟩
theorem rt_key {C : List Wc} {f k a b : Int} (h : (rtR C false f k a b).z = 0) (e2 : ¬ k = 2) (e3 : ¬ k = 3) (e4 : ¬ k = 4) : (rtR C false f k a b).tg = f ∧ (rtR C false f k a b).tr = false ∧ (rtR C false f k a b).fo = f := by
  rw [(rt_ok h).2.2]
  unfold rtA
  rw [if_neg e3, if_neg e4, if_neg (by decide), if_neg e2]
  unfold keyR
  by_cases h0 : f = 0
  · rw [if_pos h0]; exact ⟨h0.symm, rfl, rfl⟩
  · rw [if_neg h0]; exact ⟨rfl, rfl, rfl⟩
theorem rt_trusted {C : List Wc} {f k a b : Int} (h : (rtR C true f k a b).z = 0) : (rtR C true f k a b).tg = 0 := (rt_tru (rt_ok h).1 (rt_ok h).2.1).1
theorem topV_fo {C : List Wc} {p q : Int} (h : stF C = 0) : isFo C (topV C p q) = true := by
  unfold topV
  rw [if_pos h, topR_topC]
  cases e : topC p q C with
  | none => rfl
  | some c =>
    unfold isFo
    have : hasI (C.map Wc.i) c.i = true := (hasI_mem _ _).2 (List.mem_map_of_mem (topC_mem e))
    simp [this]
/-- The input behind a right hand is a right one. -/
theorem rt_inp {C : List Wc} {t : Bool} {f k a b : Int} (h : (rtR C t f k a b).z = 0) : inpF C (rtR C t f k a b).fo = 0 := by
  have h1 := (rt_ok h).1
  obtain ⟨hs, hf⟩ := inp_st h1
  by_cases e3 : k = 3
  · rw [(rt_att' h e3).2.2]; exact h1
  by_cases e4 : k = 4
  · rw [(rt_leave h e4).2.2]; exact h1
  cases t with
  | true => rw [(rt_rest h e3 e4).2.2]; exact h1
  | false =>
    by_cases e2 : k = 2
    · by_cases hb : 0 < b
      · rw [(rt_click h e2 hb).2.2]; exact inp_mk hs (topV_fo hs)
      · rw [(rt_strip h e2 hb).2.2]; exact inp_mk hs (by unfold isFo; rfl)
    · rw [(rt_key h e2 e3 e4).2.2]; exact h1

theorem Bytes.upH {w w' : World} {a : Option Addr} {len : Nat} {f : Nat → Int} (h : Bytes w w.heap.size a len f) (k : Below w.heap.size w w') : Bytes w' w'.heap.size a len f := by
  have h2 := h.stay (Nat.le_refl _) (Turn.of_below (b := w.heap.size) k) (Nat.le_refl _)
  rcases h2 with h | ⟨xb, xo, ha, hx, hc⟩
  · exact .inl h
  · exact .inr ⟨xb, xo, ha, Nat.lt_of_lt_of_le hx k.size, hc⟩
theorem Ws.upH {w w' : World} {so : Option Addr} {L : List Wn} (h : Ws w 0 w.heap.size so L) (k : Below w.heap.size w w') : Ws w' 0 w'.heap.size so L := (h.keep k (Nat.le_refl _)).wide (Nat.le_refl _) k.size
/-- An answer, loosely. -/
theorem rt_out {r : Rt} {W w' : World} {e : Ending} (h : RtA r W e w') : ∃ (s : Option Addr) (n c : Nat), e = .returned (.agg #[.int .i64 r.z, .int .i64 r.tg, .int .i64 r.kd, .slice s n c, .bool r.tr, .int .i64 r.fo]) ∧ Below W.heap.size W w' := by
  obtain ⟨s, c, he, -, k⟩ := h
  exact ⟨s, _, c, he, k⟩

set_option maxRecDepth 100000 in
theorem eqInp (a c : Bool) (b d : Int) (w : World) : (Op.equalIn 10000 25 (.agg #[.bool a, .int .i64 b]) (.agg #[.bool c, .int .i64 d])).run Try.prog w = .ok (a == c && b == d) w := by
  have u3 := Try.underlying2
  have a3 := Try.isAgg2
  have z3 := Try.sizeOf2
  have u4 := Try.underlying4
  have a4 := Try.isAgg4
  have z4 := Try.sizeOf4
  have hS : Try.prog.underlying 25 = some (.struct (Try.prog.fieldsOf 25)) := by kernel_rfl
  have hp : Try.prog.stoodInHeld 25 = false := by kernel_rfl
  rw [show (10000 : Nat) = 9999 + 1 from rfl, run_equalIn_agg w 9999 25 _ _ hS hp]
  simp only [Program.fieldsOf, Try.underlying25]
  go_simp
  by_cases h1 : a = c <;> by_cases h2 : b = d <;> simp [h1, h2]
theorem eqInp_self (a : Bool) (b : Int) (w : World) : (Op.equalIn 10000 25 (.agg #[.bool a, .int .i64 b]) (.agg #[.bool a, .int .i64 b])).run Try.prog w = .ok true w := by rw [eqInp]; simp

set_option maxHeartbeats 400000 in
theorem bigH (w : World) (a : Option Addr) (len cap : Nat) (hl : len ≤ maxLen) :
    Calls Try.prog 9 #[.slice a len cap] w fun e w' => e = .returned (.bool (decide ((1048576 : Int) < (len : Int)))) ∧ w' = w := by
  go_enter Try.func9, Try.ntmps9
  go_wp2
  go_returns
  exact ⟨rfl, rfl⟩
theorem fH0 (c v : Int) (w : World) : Sem.run Try.prog (Instr.field 43 (.agg #[.int .i64 c, .int .i64 v]) 1) w = .ok (.int .i64 v) w := by kernel_rfl
theorem fH1 (a b c : Int) (s v d : Value) (w : World) : Sem.run Try.prog (Instr.field 34 (.agg #[.int .i64 a, .int .i64 b, .int .i64 c, s, v, d]) 0) w = .ok (.int .i64 a) w := by kernel_rfl
theorem fH2 (a b c : Int) (s v d : Value) (w : World) : Sem.run Try.prog (Instr.field 34 (.agg #[.int .i64 a, .int .i64 b, .int .i64 c, s, v, d]) 1) w = .ok (.int .i64 b) w := by kernel_rfl

end Go.Proofs.Ytoipcnpemmajaaa

namespace Go.Proofs.Ytoipcnpemmajaaa
open Go.RowKit Go.Maps
set_option linter.unusedVariables false

/-- What is taken out is told in a box of its own. -/
structure Box1 (w : World) (bx lo hi : Nat) (io : Option Addr) (ic : Nat) (I : List Int) : Prop where
  c0 : w.cell? ⟨bx, 0, none⟩ = some (.slice io I.length ic)
  row : Row .i64 w lo hi io I
  hs : hi ≤ w.heap.size
theorem Box1.keep {w w' : World} {bx lo hi ic : Nat} {io : Option Addr} {I : List Int} (h : Box1 w bx lo hi io ic I) (k : Below w.heap.size w w') : Box1 w' bx lo hi io ic I :=
  ⟨(k.cell (p := ⟨bx, 0, none⟩) (World.block_lt_of_cell? w _ h.c0)).trans h.c0, h.row.keep k h.hs, Nat.le_trans h.hs k.size⟩
theorem Box1.far {w w' : World} {bx lo hi ic g : Nat} {io : Option Addr} {I : List Int} (h : Box1 w bx lo hi io ic I) (f : Far g (g + 1) w w') (h1 : bx ≠ g) (h2 : hi ≤ g ∨ g < lo) : Box1 w' bx lo hi io ic I :=
  ⟨(f.cell bx 0 (World.block_lt_of_cell? w _ h.c0) (by omega)).trans h.c0, h.row.far f (by omega) h.hs, Nat.le_trans h.hs f.size⟩
theorem Box1.lt {w : World} {bx lo hi ic : Nat} {io : Option Addr} {I : List Int} (h : Box1 w bx lo hi io ic I) : bx < w.heap.size := World.block_lt_of_cell? w _ h.c0

end Go.Proofs.Ytoipcnpemmajaaa

namespace Go.Proofs.Ytoipcnpemmajaaa
open Go.RowKit Go.Maps
set_option linter.unusedVariables false

def keepI (I : List Int) (v : Wn) : Bool := !hasI I v.i
/-- One whole element written anew. -/
theorem SpV.whole {w : World} {lo hi g : Nat} {X Y : List Wn} {r s : Wn} (h : SpV Wn.pals w lo hi (some ⟨g, 0, none⟩) (X ++ r :: Y)) :
    SpV Wn.pals (((((((w.setCell ⟨g, X.length * 7, none⟩ (.int .i64 s.x)).setCell ⟨g, X.length * 7 + 1, none⟩ (.int .i64 s.y)).setCell ⟨g, X.length * 7 + 2, none⟩ (.int .i64 s.w)).setCell ⟨g, X.length * 7 + 3, none⟩ (.int .i64 s.h)).setCell ⟨g, X.length * 7 + 4, none⟩ (.int .i64 s.i)).setCell ⟨g, X.length * 7 + 5, none⟩ (.bool s.m)).setCell ⟨g, X.length * 7 + 6, none⟩ (.slice s.b.ao s.b.L.length s.b.cap)) lo hi (some ⟨g, 0, none⟩) (X ++ s :: Y) := by
  rcases h with h | ⟨g', ha, g1, g2, hc, hf⟩
  · simp at h
  · cases ha
    have hr := hc X.length (by simp)
    simp only [List.getElem_append_right (Nat.le_refl _), Nat.sub_self, List.getElem_cons_zero] at hr
    have P := put7 (w := w) (g := g) (o := X.length * 7) (.int .i64 s.x) (.int .i64 s.y) (.int .i64 s.w) (.int .i64 s.h) (.int .i64 s.i) (.bool s.m) (.slice s.b.ao s.b.L.length s.b.cap) (fun j hj => by
      rw [hr j hj]
      match j, hj with
      | 0, _ | 1, _ | 2, _ | 3, _ | 4, _ | 5, _ | 6, _ => exact ⟨_, rfl⟩)
    obtain ⟨P1, P2, P3⟩ := P
    refine .inr ⟨g, rfl, g1, g2, fun i hi => ?_, fun c => by simpa using hf c⟩
    have hi' : i < (X ++ r :: Y).length := by simpa using hi
    by_cases e : i = X.length
    · subst e
      simp only [List.getElem_append_right (Nat.le_refl _), Nat.sub_self, List.getElem_cons_zero]
      exact Cl.mkP P1
    · have e2 : (X ++ s :: Y)[i] = (X ++ r :: Y)[i] := by
        by_cases hx : i < X.length
        · rw [List.getElem_append_left hx, List.getElem_append_left hx]
        · obtain ⟨j, rfl⟩ : ∃ j, i = X.length + (j + 1) := ⟨i - X.length - 1, by omega⟩
          simp
      rw [e2]
      intro j hj
      rw [P2 _ (by omega)]
      exact hc i hi' j hj

/-- The first one that is meant. -/
theorem del_or (I : List Int) (L : List Wn) : (∀ v ∈ L, hasI I v.i = false) ∨ ∃ X r Y, L = X ++ r :: Y ∧ (∀ v ∈ X, hasI I v.i = false) ∧ hasI I r.i = true := by
  induction L with
  | nil => exact .inl fun v h => by simp at h
  | cons r L ih =>
    cases hr : hasI I r.i
    · rcases ih with h | ⟨X, s, Y, h1, h2, h3⟩
      · refine .inl fun v hv => ?_
        rcases List.mem_cons.1 hv with rfl | hv
        · exact hr
        · exact h v hv
      · refine .inr ⟨r :: X, s, Y, by rw [h1]; rfl, fun v hv => ?_, h3⟩
        rcases List.mem_cons.1 hv with rfl | hv
        · exact hr
        · exact h2 v hv
    · exact .inr ⟨[], r, L, rfl, fun v hv => by simp at hv, hr⟩
theorem keep_all {I : List Int} {L : List Wn} (h : ∀ v ∈ L, hasI I v.i = false) : L.filter (keepI I) = L :=
  List.filter_eq_self.2 fun v hv => by unfold keepI; rw [h v hv]; rfl

end Go.Proofs.Ytoipcnpemmajaaa
