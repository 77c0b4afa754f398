/- FnFrames: what is known of the answers, bytes cut in two, bodies joined. -/
import Derived.Test.YtbicpfnakhhnlaaMk3
import Derived.Test.YtbicpfnakhhnlaaDrawF3
import Derived.Test.YtbicpfnakhhnlaaLwA
import Derived.Test.YtbicpfnakhhnlaaMade2
namespace Go.Proofs.Ytbicpfnakhhnlaa
open Go.RowKit
set_option linter.unusedVariables false

/-- What is told of bytes that were cut, by names. -/
def Ans3 (C N : Int) (P : List (List Int) × List Int) (n m : Nat) (w : World) (e : Ending) (w' : World) : Prop :=
  ∃ so sc bs r, e = .returned (.agg #[.int .i64 C, .slice so n sc, .int .i64 N, .slice r.ao m r.cap]) ∧ Below w.heap.size w w' ∧ bs.map Bd.L = P.1 ∧ r.L = P.2 ∧ bs.length = n ∧ r.L.length = m ∧ Frm w' w.heap.size w'.heap.size so bs r
theorem ans3_of {w : World} {c : Int} {A : List Int} {P : List (List Int) × List Int} {e : Ending} {w' : World} (h : FrAns w c A e w') (hA : cut A = P) : Ans3 c (nW P.1) P P.1.length P.2.length w e w' := by
  subst hA
  obtain ⟨so, sc, bs, r, he, hb, hc, hF⟩ := h
  refine ⟨so, sc, bs, r, ?_, hb, by rw [hc], by rw [hc], by rw [hc]; simp, by rw [hc], hF⟩
  rw [hc]; simpa using he
/-- An answer in its box. -/
structure FX (W : World) (b lo hi : Nat) (C N : Int) (n m : Nat) (so : Option Addr) (sc : Nat) (bs : List Bd) (r : Bd) : Prop where
  box : R4 W b (.int .i64 C) (.slice so n sc) (.int .i64 N) (.slice r.ao m r.cap)
  fr : Frm W lo hi so bs r
theorem FX.keep {W W' : World} {b lo hi B : Nat} {C N : Int} {n m : Nat} {so : Option Addr} {sc : Nat} {bs : List Bd} {r : Bd} (h : FX W b lo hi C N n m so sc bs r) (k : Below B W W') (hb : b < B) (hh : hi ≤ B) : FX W' b lo hi C N n m so sc bs r := ⟨h.box.keep k hb, h.fr.keep k hh⟩
theorem FX.new {w : World} {lo : Nat} {C N : Int} {n m : Nat} {so : Option Addr} {sc : Nat} {bs : List Bd} {r : Bd} {T : TypeId} (h : Frm w lo w.heap.size so bs r) : FX (w.alloc (.cells #[.int .i64 C, .slice so n sc, .int .i64 N, .slice r.ao m r.cap] T)) w.heap.size lo w.heap.size C N n m so sc bs r :=
  ⟨⟨by simp, by simp, by simp, by simp, by simp, by simp, by simp, by simp, by simp⟩, h.keep (B := w.heap.size) (kalF w _) (Nat.le_refl _)⟩

set_option maxRecDepth 100000 in
/-- Bytes cut in two. -/
theorem cut_two {w : World} {lo hi : Nat} {bo : Option Addr} {cb : Nat} {M : List Int} (c : Nat) (hA : Adr bo cb) (hm : M.length ≤ cb) (hc : c ≤ M.length) (hR : Row .u8 w lo hi bo M) :
    ∃ bo1 cb1 bo2 cb2, (∀ w', (Instr.slice 22 (.slice bo M.length cb) none (some (.int .i64 (c : Int))) none).run Try.prog w' = .ok (.slice bo1 (M.take c).length cb1) w') ∧
      (∀ w', (Instr.slice 22 (.slice bo M.length cb) (some (.int .i64 (c : Int))) none none).run Try.prog w' = .ok (.slice bo2 (M.drop c).length cb2) w') ∧ Row .u8 w lo hi bo1 (M.take c) ∧ Row .u8 w lo hi bo2 (M.drop c) := by
  have e1 : (M.take c).length = c := by simp; omega
  have e2 : (M.drop c).length = M.length - c := by simp
  rcases hA with ⟨rfl, rfl⟩ | ⟨g, o, rfl⟩
  · obtain rfl : M = [] := List.length_eq_zero_iff.1 (by omega)
    obtain rfl : c = 0 := by simpa using hc
    have e : Try.prog.elem 22 = 5 := by kernel_rfl
    refine ⟨none, 0, none, 0, fun w' => ?_, fun w' => ?_, .inl rfl, .inl rfl⟩
    · show (Instr.slice 22 (.slice none 0 0) none (some (.int .i64 0)) none).run Try.prog w' = .ok (.slice none 0 0) w'
      rw [run_slice_h w' 22 none 0 0 Try.underlying22 .i64 0 (by omega) (by omega), e, Try.sizeB]
      simp [sliced]
    · show (Instr.slice 22 (.slice none 0 0) (some (.int .i64 0)) none none).run Try.prog w' = .ok (.slice none 0 0) w'
      rw [run_slice_l w' 22 none 0 0 Try.underlying22 .i64 0 (by omega) (by omega), e, Try.sizeB]
      simp [sliced]
  · refine ⟨some ⟨g, o, none⟩, cb, some ⟨g, sOff o cb c, none⟩, cb - c, fun w' => ?_, fun w' => ?_, hR.upto c, hR.from c hm⟩
    · rw [sl_upto g o M.length cb .i64 c (by omega) (by omega), e1]; simp
    · rw [sl_from g o M.length cb .i64 c (by omega) (by omega), e2]; simp

theorem exec_app {P : Program} {w w' : World} {o : Oper} {a : Act} {v u v' : Value} {t : TypeId} (s x : Operand) (ho : o.op = .call { callee := .builtin .append, args := #[s, x], argTypes := #[t, t] }) (hs : a.eval s = v) (hx : a.eval x = u) (hr : (Builtin.append_ #[t, t] o.type #[v, u]).run P w = .ok v' w') : (execOp a.eval o).run P w = .ok (.value v') w' := by
  unfold execOp
  simp only [ho, resolve, invoke, builtin, Sem.run_bind, Sem.run_pure, Result.andThen_ok, List.map_toArray, List.map_cons, List.map_nil, hs, hx, hr]

/-- Values that a slice owns: bodies joined to them. -/
def OwnV (w : World) (base : Nat) (so : Option Addr) (sc : Nat) (bs : List Bd) : Prop := w.ownsRow base 22 1 (.slice so bs.length sc) bs.length (bs.map Bd.val)
theorem OwnV.spn {w : World} {base : Nat} {so : Option Addr} {sc : Nat} {bs : List Bd} (h : OwnV w base so sc bs) : Spn w base w.heap.size so bs := by
  by_cases h1 : bs = []
  · exact .inl h1
  · have hpos : 0 < bs.length := List.length_pos_iff.2 h1
    obtain ⟨g, cap', hv, hb, hlt⟩ := World.ownsRow.form h hpos
    cases hv
    refine .inr ⟨g, rfl, hb, hlt, fun i hi => ?_⟩
    rw [World.ownsRow.cellAt h i (by omega)]
    simp [hi]
theorem vals_one (bs : List Bd) : ∀ v ∈ bs.map Bd.val, v.oneCell' = true := fun v hv => by
  obtain ⟨b, _, rfl⟩ := List.mem_map.1 hv
  rfl
theorem run_appV {w : World} (base : Nat) (ty : TypeId) (so : Option Addr) (sc : Nat) (bs cs : List Bd) (lo hi : Nat) (ro : Option Addr) (rc n : Nat) (hn : cs.length = n) (hown : OwnV w base so sc bs) (hsrc : Spn w lo hi ro cs) (h1 : bs.length + cs.length ≤ 100000) (hbase : base ≤ w.heap.size) :
    ∃ so' sc' w', (Builtin.append_ #[26, 26] ty #[.slice so bs.length sc, .slice ro n rc]).run Try.prog w = .ok (.slice so' (bs ++ cs).length sc') w' ∧ OwnV w' base so' sc' (bs ++ cs) ∧ Below base w w' := by
  subst hn
  obtain ⟨i0, hi0, hz0, hz1, hz2⟩ := info_parts Try.infoBS
  have fin : ∀ v' w', w'.ownsRow base 22 1 v' (bs.length + cs.length) (bs.map Bd.val ++ cs.map Bd.val) → w.grownBy w' (Value.ownBlock (.slice so bs.length sc)) → ∃ so' sc', v' = .slice so' (bs ++ cs).length sc' ∧ OwnV w' base so' sc' (bs ++ cs) ∧ Below base w w' := by
    intro v' w' ho hg
    have ho' : w'.ownsRow base 22 1 v' (bs ++ cs).length ((bs ++ cs).map Bd.val) := by simpa using ho
    have hb : Below base w w' := (Below.refl base w).grown hg hbase fun q hq => (World.ownsRow.lt hown q hq).1
    rcases ho'.2 with ⟨rfl, h0⟩ | ⟨g, cap, cur, rfl, _⟩
    · exact ⟨none, 0, by rw [h0], by unfold OwnV; rw [h0]; rw [h0] at ho'; exact ho', hb⟩
    · exact ⟨_, cap, rfl, ho', hb⟩
  by_cases hr : ro = none
  · subst hr
    have hc : cs = [] := by
      rcases hsrc with h | ⟨gs, h, _⟩
      · exact h
      · cases h
    subst hc
    have hrun := run_append_none_any (P := Try.prog) (w := w) base 26 ty 22 i0 1 rc Try.underlying26 hi0 _ bs.length _ hown
    exact ⟨so, sc, w, by simpa using hrun, by simpa [OwnV] using hown, Below.refl _ _⟩
  · obtain ⟨ad, rfl⟩ := Option.ne_none_iff_exists'.1 hr
    obtain ⟨v', w', hrun, h2, h3, _⟩ := run_append_own (P := Try.prog) w base 26 ty 22 i0 (.slice none 0 0) 1 24 Try.underlying26 hi0 hz0 hz1 hz2 rfl (by decide) _ bs.length (bs.map Bd.val) hown ad cs.length rc (cs.map Bd.val) (by simp) (fun j u hj => by
      obtain ⟨hj', e⟩ := List.getElem?_eq_some_iff.1 hj
      simp only [List.length_map] at hj'
      rcases hsrc with h | ⟨gs, h, _, _, hc⟩
      · rw [h] at hj'; simp at hj'
      · cases h
        rw [add_none, Nat.zero_add, hc j hj', ← e]; simp) (vals_one cs) (by unfold maxLen; omega) (by omega) hbase
    obtain ⟨so', sc', rfl, hO, hB⟩ := fin v' w' h2 h3
    exact ⟨so', sc', w', hrun, hO, hB⟩

theorem R4.put4 {w : World} {b : Nat} {u0 u1 u2 u3 : Value} (h : R4 w b u0 u1 u2 u3) (v0 v1 v2 v3 : Value) : R4 ((((w.setCell ⟨b, 0, none⟩ v0).setCell ⟨b, 1, none⟩ v1).setCell ⟨b, 2, none⟩ v2).setCell ⟨b, 3, none⟩ v3) b v0 v1 v2 v3 := by
  refine ⟨?_, ?_, ?_, ?_, by simpa using h.f0, by simpa using h.f1, by simpa using h.f2, by simpa using h.f3, by simpa using h.lt⟩
  · rw [cell_set_other (by omega), cell_set_other (by omega), cell_set_other (by omega)]; exact cell_set_same h.c0
  · rw [cell_set_other (by omega), cell_set_other (by omega)]; exact cell_set_same ((cell_set_other (by omega)).trans h.c1)
  · rw [cell_set_other (by omega)]; exact cell_set_same ((cell_set_other (by omega)).trans ((cell_set_other (by omega)).trans h.c2))
  · exact cell_set_same ((cell_set_other (by omega)).trans ((cell_set_other (by omega)).trans ((cell_set_other (by omega)).trans h.c3)))

/-- What the call leaves, in a region whose order is open. -/
def ResF (C N : Int) (P : List (List Int) × List Int) (n m : Nat) (w1 : World) (v : Value) (w2 : World) : Prop :=
  ∃ so sc bs r, v = .agg #[.int .i64 C, .slice so n sc, .int .i64 N, .slice r.ao m r.cap] ∧ bs.map Bd.L = P.1 ∧ r.L = P.2 ∧ bs.length = n ∧ r.L.length = m ∧ Frm w2 w1.heap.size w2.heap.size so bs r
theorem gotF {w w3 : World} {B : Nat} {C N : Int} {P : List (List Int) × List Int} {n m : Nat} {v : Value} (h : Called w (.cells #[.int .i64 0, .slice none 0 0, .int .i64 0, .slice none 0 0] 30) (ResF C N P n m) v B w3) :
    ∃ so sc bs r lo hi, v = .agg #[.int .i64 C, .slice so n sc, .int .i64 N, .slice r.ao m r.cap] ∧ R4 w3 B (.int .i64 0) (.slice none 0 0) (.int .i64 0) (.slice none 0 0) ∧ bs.map Bd.L = P.1 ∧ r.L = P.2 ∧ bs.length = n ∧ r.L.length = m ∧ w.heap.size ≤ B ∧ w.heap.size ≤ lo ∧
      Below w.heap.size w ((((w3.setCell ⟨B, 0, none⟩ (.int .i64 C)).setCell ⟨B, 1, none⟩ (.slice so n sc)).setCell ⟨B, 2, none⟩ (.int .i64 N)).setCell ⟨B, 3, none⟩ (.slice r.ao m r.cap)) ∧
      FX ((((w3.setCell ⟨B, 0, none⟩ (.int .i64 C)).setCell ⟨B, 1, none⟩ (.slice so n sc)).setCell ⟨B, 2, none⟩ (.int .i64 N)).setCell ⟨B, 3, none⟩ (.slice r.ao m r.cap)) B lo hi C N n m so sc bs r := by
  obtain ⟨w1, w2, k1, k2, ⟨so, sc, bs, r, rfl, e1, e2, e3, e4, F⟩, k3, hB1, hB2, hB3, hB4⟩ := h
  have R : R4 w3 B (.int .i64 0) (.slice none 0 0) (.int .i64 0) (.slice none 0 0) :=
    ⟨by rw [cell_of_row w3 B 0 _ _ _ hB3]; rfl, by rw [cell_of_row w3 B 1 _ _ _ hB3]; rfl, by rw [cell_of_row w3 B 2 _ _ _ hB3]; rfl, by rw [cell_of_row w3 B 3 _ _ _ hB3]; rfl,
      frozen_of_row w3 B 0 _ _ hB3, frozen_of_row w3 B 1 _ _ hB3, frozen_of_row w3 B 2 _ _ hB3, frozen_of_row w3 B 3 _ _ hB3, hB2⟩
  have F3 := F.keep (Kept.below k3) (Nat.le_refl _)
  have hd : w2.heap.size ≤ B ∨ B + 1 ≤ w1.heap.size := by omega
  refine ⟨so, sc, bs, r, w1.heap.size, w2.heap.size, rfl, R, e1, e2, e3, e4, hB1, k1.le, ?_, ⟨R.put4 _ _ _ _, ?_⟩⟩
  · exact Below.setCell (Below.setCell (Below.setCell (Below.setCell ((k1.trans k2).trans k3) hB1 _) hB1 _) hB1 _) hB1 _
  · exact (((F3.far (far_set _ ⟨B, 0, none⟩ _) hd).far (far_set _ ⟨B, 1, none⟩ _) hd).far (far_set _ ⟨B, 2, none⟩ _) hd).far (far_set _ ⟨B, 3, none⟩ _) hd

theorem cut_suffix (n : Nat) : ∀ L : List Int, L.length ≤ n → ∃ k, (cut L).2 = L.drop k := by
  induction n with
  | zero =>
    intro L hl
    obtain rfl : L = [] := by simpa using hl
    exact ⟨0, by rw [cut_nil]; rfl⟩
  | succ n ih =>
    intro L hl
    cases L with
    | nil => exact ⟨0, by rw [cut_nil]; rfl⟩
    | cons x L =>
      simp only [List.length_cons] at hl
      cases hw : isW x with
      | true =>
        obtain ⟨k, hk⟩ := ih L (by omega)
        exact ⟨k + 1, by rw [cut_wrong hw]; simpa using hk⟩
      | false =>
        by_cases hp : (L.length : Int) < x
        · exact ⟨0, by rw [cut_part hw hp]; rfl⟩
        · obtain ⟨k, hk⟩ := ih (L.drop x.toNat) (by simp; omega)
          exact ⟨x.toNat + k + 1, by rw [cut_whole hw hp]; simp only [hk, List.drop_succ_cons, List.drop_drop]⟩
theorem cut_byts {L : List Int} (h : byts L) : byts (cut L).2 := by
  obtain ⟨k, hk⟩ := cut_suffix _ L (Nat.le_refl _)
  rw [hk]; exact byts_drop h k

end Go.Proofs.Ytbicpfnakhhnlaa
