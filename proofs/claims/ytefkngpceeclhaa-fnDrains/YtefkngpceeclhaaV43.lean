/- Many messages joined to a row of one's own; what FnDrains carries along. Bytes joined, the row's own block told; two numbers told as bytes by the program. -/
import Derived.Test.YtefkngpceeclhaaV33
import Derived.Test.YtefkngpceeclhaaV42
import Derived.Laws.OwnMore
import Derived.Test.YtefkngpceeclhaaV5
import Derived.Test.YtefkngpceeclhaaV11
namespace Go.Proofs.Ytefkngpceeclhaa
open Go.RowKit
set_option linter.unusedVariables false

/-- A row of messages that is one's own. -/
def RowMs (w : World) (base : Nat) (v : Value) (M : List Mg) : Prop := w.ownsRow base 28 2 v M.length (mcs M)
theorem rowMs_form {w : World} {base : Nat} {v : Value} {L : List Mg} (h : RowMs w base v L) : ∃ ao cap, v = .slice ao L.length cap := by
  unfold RowMs at h
  rcases h.2 with ⟨rfl, h0⟩ | ⟨g, cap, cur, rfl, _⟩
  · exact ⟨none, 0, by rw [h0]⟩
  · exact ⟨_, cap, rfl⟩
theorem rowMs_ms {w : World} {base lo : Nat} {so : Option Addr} {sc : Nat} {L : List Mg} (h : RowMs w base (.slice so L.length sc) L) (hl : lo ≤ base) (hb : ∀ m ∈ L, Row .u8 w lo w.heap.size m.b.ao m.b.L) : Ms w lo w.heap.size so L := by
  by_cases e : L = []
  · exact .inl e
  · have S := (⟨h, fun e' => absurd e' e⟩ : OwnM w base so sc L).sp
    exact ms_of (S.wide hl (Nat.le_refl _)) hb
theorem app_noneM (w : World) (base : Nat) (ty : TypeId) (i : TypeInfo) (hi : Try.prog.info? 28 = some i) (v : Value) (c : Nat) (M : List Mg) (hown : RowMs w base v M) :
    (Builtin.append_ #[24, 24] ty #[v, .slice none 0 c]).run Try.prog w = .ok v w := by
  rcases hown.2 with ⟨rfl, _⟩ | ⟨g, cap, cur, rfl, _, _, hnc, _⟩
  · simp [Builtin.append_, run_underlying Try.underlying24, sizeOf, typeInfo, hi, Builtin.lenOf, Builtin.firstCells]
  · simp [Builtin.append_, run_underlying Try.underlying24, sizeOf, typeInfo, hi, Builtin.lenOf, Builtin.firstCells, hnc, storeCells]

set_option maxHeartbeats 1000000 in
theorem wp_append_ms {o : Oper} {a : Act} {w : World} {K : Act → World → Prop} {Q : Exit → Act → World → Prop} (s x : Operand)
    (ho : o.op = .call { callee := .builtin .append, args := #[s, x], argTypes := #[24, 24] })
    (base : Nat) (v : Value) (M : List Mg) (hs : a.eval s = v) (hown : RowMs w base v M) (lo hi : Nat) (xo : Option Addr) (cx : Nat) (L : List Mg) (hx : a.eval x = .slice xo L.length cx) (hsrc : Ms w lo hi xo L)
    (hn : M.length + L.length ≤ 1000) (hbase : base ≤ w.heap.size)
    (h : ∀ so sc w', RowMs w' base (.slice so (M ++ L).length sc) (M ++ L) → w.grownBy w' v.ownBlock → K (a.put o.dst (.slice so (M ++ L).length sc)) w') : o.wp Try.prog a w K Q := by
  obtain ⟨i0, hi0, hz0, hz1, hz2⟩ := info_parts Try.infoM
  have hfin : ∀ (ad : Addr), xo = some ad → (∀ j u, (mcs L)[j]? = some u → w.cell? (ad.add j) = some u) → o.wp Try.prog a w K Q := by
    intro ad hxo hc
    subst hxo
    refine wp_append_own w s x 24 ho base 28 i0 (.agg #[.int .i64 0, .slice none 0 0]) 2 32 Try.underlying24 hi0 hz0 hz1 hz2 rfl (by decide) v M.length (mcs M) hs hown ad L.length cx (mcs L) hx (mcs_len L) hc (mcs_one L) (by unfold maxLen; omega) (by omega) hbase fun v' w' ho' hg' _ => ?_
    have e : RowMs w' base v' (M ++ L) := by unfold RowMs; rw [mcs_app, List.length_append]; exact ho'
    obtain ⟨ao', cap', rfl⟩ := rowMs_form e
    exact h ao' cap' w' e hg'
  rcases hsrc with rfl | ⟨g, p, hxo, _, _, hc⟩
  · cases xo with
    | none =>
      have hrun := app_noneM w base o.type i0 hi0 v cx M hown
      have hr : (execOp a.eval o).run Try.prog w = .ok (.value v) w := by
        unfold execOp
        simp only [ho, resolve, invoke, builtin, Sem.run_bind, Sem.run_pure, Result.andThen_ok, List.map_toArray, List.map_cons, List.map_nil, hs, hx, List.length_nil, hrun]
      have e : RowMs w base v (M ++ []) := by simpa using hown
      obtain ⟨ao', cap', rfl⟩ := rowMs_form e
      exact wp_of_run hr (h ao' cap' w e ⟨rfl, rfl, rfl, Nat.le_refl _, fun _ _ _ => rfl⟩)
    | some ad => exact hfin ad rfl (fun j u hj => by simp [mcs] at hj)
  · refine hfin _ hxo (fun j u hj => ?_)
    have hj' : j < L.length * 2 := by have := (List.getElem?_eq_some_iff.1 hj).1; rwa [mcs_len] at this
    have hi : j / 2 < L.length := by omega
    have hm := mcs_at L (j / 2) hi (j % 2) (by omega)
    rw [show j / 2 * 2 + j % 2 = j by omega, hj] at hm
    obtain ⟨c0, c1⟩ := (hc (j / 2) hi).1
    rw [add_none]
    have h2 : j % 2 = 0 ∨ j % 2 = 1 := by omega
    rcases h2 with h2 | h2
    · rw [h2] at hm
      simp [Mg.vals] at hm
      rw [hm, show p + j = p + j / 2 * 2 by omega]
      exact c0
    · rw [h2] at hm
      simp [Mg.vals] at hm
      rw [hm, show p + j = p + j / 2 * 2 + 1 by omega]
      exact c1

/-- What is known at the middle of the law. -/
structure D1 (w W : World) (b3 b5 b7 : Nat) (q0 q1 d0 d1 d2 d3 p0 p1 : Value) (s s1 s2 sl po : Option Addr) (M L1 L2 LL : List Mg) (PB : List Int) : Prop where
  K : Below w.heap.size w W
  A : Rb W b3 q0 q1
  C : R4 W b5 d0 d1 d2 d3
  P : Rb W b7 p0 p1
  M : Ms W 0 W.heap.size s M
  X : Ms W 0 W.heap.size s1 L1
  Y : Ms W 0 W.heap.size s2 L2
  L : Ms W 0 W.heap.size sl LL
  R : Row .u8 W 0 W.heap.size po PB
theorem Ms.up {w w' : World} {so : Option Addr} {L : List Mg} (h : Ms w 0 w.heap.size so L) (k : Below w.heap.size w w') : Ms w' 0 w'.heap.size so L := (h.keep k (Nat.le_refl _)).wide (Nat.le_refl _) k.size
theorem D1.keep {w W W' : World} {b3 b5 b7 : Nat} {q0 q1 d0 d1 d2 d3 p0 p1 : Value} {s s1 s2 sl po : Option Addr} {M L1 L2 LL : List Mg} {PB : List Int} (h : D1 w W b3 b5 b7 q0 q1 d0 d1 d2 d3 p0 p1 s s1 s2 sl po M L1 L2 LL PB) (k : Below W.heap.size W W') :
    D1 w W' b3 b5 b7 q0 q1 d0 d1 d2 d3 p0 p1 s s1 s2 sl po M L1 L2 LL PB :=
  ⟨h.K.trans (k.mono h.K.size), h.A.keep k h.A.lt, h.C.keep k h.C.lt, h.P.keep k h.P.lt, h.M.up k, h.X.up k, h.Y.up k, h.L.up k, (h.R.keep k (Nat.le_refl _)).wide (Nat.le_refl _) k.size⟩
end Go.Proofs.Ytefkngpceeclhaa

namespace Go.Proofs.Ytefkngpceeclhaa
open Go.RowKit
set_option linter.unusedVariables false

theorem grown_refl (w : World) (q : Option Nat) : w.grownBy w q := ⟨rfl, rfl, rfl, Nat.le_refl _, fun _ _ _ => rfl⟩
theorem run_appB {w : World} (ty : TypeId) (base : Nat) (ao : Option Addr) (cap : Nat) (M : List Int) (hown : OwnR .u8 5 w base ao cap M)
    (bo : Option Addr) (cb : Nat) (L : List Int) (hsrc : SrcN .u8 w bo L) (hn : M.length + L.length ≤ 2097152) (hbase : base ≤ w.heap.size) :
    ∃ ao' cap' w', (Builtin.append_ #[22, 22] ty #[.slice ao M.length cap, .slice bo L.length cb]).run Try.prog w = .ok (.slice ao' (M ++ L).length cap') w' ∧ OwnR .u8 5 w' base ao' cap' (M ++ L) ∧ w.grownBy w' (Value.ownBlock (.slice ao M.length cap)) ∧ Below base w w' := by
  obtain ⟨i0, hi0, hz0, hz1, hz2⟩ := info_parts Try.infoB
  rcases hsrc with ⟨rfl, rfl⟩ | ⟨ad, rfl, hc⟩
  · have hrun := run_append_none_any (P := Try.prog) (w := w) base 22 ty 5 i0 1 cb Try.underlying22 hi0 _ M.length _ hown
    exact ⟨ao, cap, w, by rw [List.append_nil]; exact hrun, by rw [List.append_nil]; exact hown, grown_refl _ _, Below.refl _ _⟩
  · obtain ⟨v', w', hr, h2, h3, h4⟩ := run_append_own (P := Try.prog) w base 22 ty 5 i0 (.int .u8 0) 1 1 Try.underlying22 hi0 hz0 hz1 hz2 rfl (by decide) (.slice ao M.length cap) M.length (M.map (Value.int .u8)) hown ad L.length cb (L.map (Value.int .u8)) (by simp) (fun j u hj => by
      obtain ⟨hj', e⟩ := List.getElem?_eq_some_iff.1 hj
      rw [hc j (by simpa using hj'), ← e]
      simp) (ints_oneCell .u8 L) (by unfold maxLen; omega) (by omega) hbase
    rw [← List.map_append] at h2
    obtain ⟨ao', cap', rfl, O⟩ := ownR_form h2
    exact ⟨ao', cap', w', by simpa using hr, O, h3, (Below.refl base w).grown h3 hbase fun b hb => (World.ownsRow.lt hown b hb).1⟩
theorem wpList_appG {w : World} {ops : Array Oper} {rest : List Oper} {o : Oper} {a : Act} {Q : Exit → Act → World → Prop} (hgd : o.guard = none)
    (s x : Operand) (ho : o.op = .call { callee := .builtin .append, args := #[s, x], argTypes := #[22, 22] })
    (base : Nat) (ao : Option Addr) (cap : Nat) (M : List Int) (hs : a.eval s = .slice ao M.length cap) (hown : OwnR .u8 5 w base ao cap M)
    (bo : Option Addr) (cb : Nat) (L : List Int) (hx : a.eval x = .slice bo L.length cb) (hsrc : SrcN .u8 w bo L) (hn : M.length + L.length ≤ 2097152) (hbase : base ≤ w.heap.size)
    (h : ∀ ao' cap' w', OwnR .u8 5 w' base ao' cap' (M ++ L) → w.grownBy w' (Value.ownBlock (.slice ao M.length cap)) → Below base w w' → wpList Try.prog ops Q rest (a.put o.dst (.slice ao' (M ++ L).length cap')) w') : wpList Try.prog ops Q (o :: rest) a w := by
  obtain ⟨ao', cap', w', hr, h1, h2, h3⟩ := run_appB (w := w) o.type base ao cap M hown bo cb L hsrc hn hbase
  refine wpList_plain hgd fun _ hK => ?_
  have hr' : (execOp a.eval o).run Try.prog w = .ok (.value (.slice ao' (M ++ L).length cap')) w' := by
    unfold execOp
    simp only [ho, resolve, invoke, builtin, Sem.run_bind, Sem.run_pure, Result.andThen_ok, List.map_toArray, List.map_cons, List.map_nil, hs, hx, hr]
  unfold Oper.wp
  rw [hr']
  exact hK _ _ (h ao' cap' w' h1 h2 h3)
/-- All but rows of bytes is kept. -/
structure NB (w w' : World) : Prop where
  size : w.heap.size ≤ w'.heap.size
  kept : ∀ (q : Nat) (o : Obj), w.heap[q]? = some o → (∀ (cs : Array Value) (fr : Nat × Nat), o ≠ Obj.cells cs 5 fr) → w'.heap[q]? = some o
theorem NB.refl (w : World) : NB w w := ⟨Nat.le_refl _, fun _ _ h _ => h⟩
theorem NB.trans {w w1 w2 : World} (h : NB w w1) (k : NB w1 w2) : NB w w2 := ⟨Nat.le_trans h.size k.size, fun q o a b => k.kept q o (h.kept q o a b) b⟩
theorem NB.of_below {w w' : World} (k : Below w.heap.size w w') : NB w w' := ⟨k.size, fun q o a _ => (k.block q (Array.getElem?_eq_some_iff.1 a).1).trans a⟩
theorem NB.grown {w w' : World} {base : Nat} {ao : Option Addr} {cap : Nat} {M : List Int} (h : OwnR .u8 5 w base ao cap M) (G : w.grownBy w' (Value.ownBlock (.slice ao M.length cap))) : NB w w' :=
  ⟨G.size, fun q o a b => (G.block q (Array.getElem?_eq_some_iff.1 a).1 (fun e => by
    rcases h.2 with ⟨hv, _⟩ | ⟨g, cap', cur, hv, _, hc, _⟩
    · rw [hv] at e; simp [Value.ownBlock] at e
    · simp only [Value.slice.injEq] at hv
      obtain ⟨rfl, _, rfl⟩ := hv
      simp only [Value.ownBlock, Option.some.injEq] at e
      rw [e, hc] at a
      exact b _ _ (Option.some.inj a).symm)).trans a⟩
theorem NB.msg {w w' : World} {b : Nat} {v0 v1 : Value} (h : NB w w') (hb : w.heap[b]? = some (.cells #[v0, v1] 28 (0, 0))) : w'.heap[b]? = some (.cells #[v0, v1] 28 (0, 0)) :=
  h.kept b _ hb fun cs fr e => by simp only [Obj.cells.injEq] at e; exact absurd e.2.1 (by decide)
theorem NB.nums {w w' : World} {b : Nat} {v0 v1 : Value} (h : NB w w') (hb : w.heap[b]? = some (.cells #[v0, v1] 2 (0, 0))) : w'.heap[b]? = some (.cells #[v0, v1] 2 (0, 0)) :=
  h.kept b _ hb fun cs fr e => by simp only [Obj.cells.injEq] at e; exact absurd e.2.1 (by decide)

set_option maxRecDepth 100000 in
set_option maxHeartbeats 2000000 in
theorem tell_two (b base : Nat) (ao : Option Addr) (cap : Nat) (M : List Int) (x y : Int) (w : World) (hO : OwnR .u8 5 w base ao cap M) (hb : w.heap[b]? = some (.cells #[.int .i64 x, .int .i64 y] 2 (0, 0))) (hbs : base ≤ w.heap.size) (hl : M.length ≤ 1048576) (hx : 0 ≤ x ∧ x < 256) (hy : 0 ≤ y ∧ y < 256) :
    Calls Try.prog 55 #[.slice ao M.length cap, .slice (some ⟨b, 0, none⟩) 2 2] w fun e w' => ∃ ao' cap', e = .returned (.slice ao' (M ++ [x, y]).length cap') ∧ OwnR .u8 5 w' base ao' cap' (M ++ [x, y]) ∧ Below base w w' ∧ NB w w' := by
  have HO := hideP hO
  have HB := hideP hb
  have hxm : x % 256 = x := by omega
  have hym : y % 256 = y := by omega
  clear hO hb
  go_enter Try.func55, Try.ntmps55
  go_wp2
  go_loopw [0, 9] (fun t i wr => ∃ (j : Nat) (ao' : Option Addr) (cap' : Nat), j ≤ 2 ∧ i = .int .i64 j ∧ t = .slice ao' (M ++ [x, y].take j).length cap' ∧ OwnR .u8 5 wr base ao' cap' (M ++ [x, y].take j) ∧ NB w wr ∧ Below base w wr ∧ base ≤ wr.heap.size) (fun _ i _ => 2 - (intOf i).toNat)
  case atStart => exact ⟨0, ao, cap, by omega, rfl, by simp, by simpa using HO.out, NB.refl _, Below.refl _ _, hbs⟩
  case round =>
    obtain ⟨j, ao1, cap1, hj, rfl, rfl, O1, N1, K1, n1⟩ := hrel
    have B1 := N1.nums HB.out
    have HN1 := hideP N1
    have HO1 := hideP O1
    have HB1 := hideP B1
    have HK1 := hideP K1
    clear O1 K1 B1 N1
    by_cases hlt : j < 2
    · have hlt' : (j : Int) < 2 := by omega
      obtain ⟨u, hu, hum, hur⟩ : ∃ u : Int, wr.cell? ⟨b, 0 + j, none⟩ = some (.int .i64 u) ∧ u % 256 = u ∧ [x, y].take (j + 1) = [x, y].take j ++ [u] := by
        have h2 : j = 0 ∨ j = 1 := by omega
        rcases h2 with rfl | rfl
        · exact ⟨x, by simp [World.cell?, HB1.out], hxm, rfl⟩
        · exact ⟨y, by simp [World.cell?, HB1.out], hym, rfl⟩
      have HT : Hid (M ++ [x, y].take (j + 1) = (M ++ [x, y].take j) ++ [u]) := hideP (by rw [hur, List.append_assoc])
      have HL1 := hideP (show (M ++ [x, y].take j).length ≤ 1048578 by simp; omega)
      have hbl : b < wr.heap.size := (Array.getElem?_eq_some_iff.1 HB1.out).1
      have hu0 : wr.cell? ⟨b, j, none⟩ = some (.int .i64 u) := by rwa [Nat.zero_add] at hu
      clear hur hxm hym
      generalize M ++ [x, y].take j = M1 at *
      go_wp2_with (first | (at_builtin; refine wpList_appG rfl _ _ rfl base ao1 cap1 M1 rfl (HO1.out.alloc _) _ 1 [u] rfl (src_one .u8 wr u 5) (by have := HL1.out; simp; omega) (by simp; omega) ?_; intro ao2 cap2 w2 O2 G2 K2; refine Hid.out ?_) | go_in)
      have HO2 := hideP O2
      have HK2 : Hid (Below base w w2) := hideP ((HK1.out.alloc (by omega) _).trans K2)
      have HB2 := hideP ((HN1.out.trans (NB.of_below ((Below.refl wr.heap.size wr).alloc (Nat.le_refl _) _))).trans (NB.grown (HO1.out.alloc _) G2))
      have n2 : base ≤ w2.heap.size := by have := G2.size; simp at this; omega
      clear O2 K2 G2
      refine hideP ?_
      go_wp2
      go_roundw
      case rel => exact ⟨j + 1, ao2, cap2, by omega, by go_num, by rw [HT.out]; simp, by rw [HT.out]; exact HO2.out, HB2.out, HK2.out, n2⟩
      case measure => simp [intOf]; omega
    · obtain rfl : j = 2 := by omega
      go_wp2
      go_returns
      exact ⟨ao1, cap1, by simp, HO1.out, HK1.out, HN1.out⟩
end Go.Proofs.Ytefkngpceeclhaa
