/- Rows of numbers that a call owns: joined to others, one at a time or many. -/
import Derived.Test.YtmmjannkfmiohaaTs2
import Derived.Test.YtmmjannkfmiohaaTs1
import Derived.Lib.SmallJoins
namespace Go.Proofs.Ytmmjannkfmiohaa
open Go.RowKit
set_option linter.unusedVariables false

/-- A row that is joined to another one: nil, or cells somewhere. -/
def SrcN (k : IntKind) (w : World) (bo : Option Addr) (L : List Int) : Prop :=
  (bo = none ∧ L = []) ∨ ∃ a, bo = some a ∧ ∀ i (h : i < L.length), w.cell? (a.add i) = some (.int k L[i])

theorem add_none (g o j : Nat) : (⟨g, o, none⟩ : Addr).add j = ⟨g, o + j, none⟩ := by unfold Addr.add; split <;> simp_all

theorem Row.src {k : IntKind} {w : World} {lo hi : Nat} {ao : Option Addr} {L : List Int} (h : Row k w lo hi ao L) : SrcN k w ao L := by
  rcases h with rfl | ⟨g, o, rfl, _, _, hc⟩
  · cases ao with
    | none => exact .inl ⟨rfl, rfl⟩
    | some a => exact .inr ⟨a, rfl, fun i hi => by simp at hi⟩
  · exact .inr ⟨_, rfl, fun i hi => by rw [add_none]; exact hc i hi⟩
theorem src_one (k : IntKind) (w : World) (x : Int) (T : TypeId) : SrcN k (w.alloc (.cells #[.int k x] T)) (some ⟨w.heap.size, 0, none⟩) [x] :=
  .inr ⟨_, rfl, fun i hi => by
    obtain rfl : i = 0 := by simpa using hi
    rw [add_none, World.cell?_alloc_new]; rfl⟩
theorem run_append_none_any {P : Program} {w : World} (base : Nat) (t ty e : TypeId) (i : TypeInfo) (size c : Nat) (ht : P.underlying t = some (.slice e)) (hi : P.info? e = some i)
    (v : Value) (n : Nat) (xs : List Value) (hown : w.ownsRow base e size v n xs) : (Builtin.append_ #[t, t] ty #[v, .slice none 0 c]).run P w = .ok v w := by
  rcases hown.2 with ⟨rfl, rfl⟩ | ⟨g, cap, cur, rfl, _, _, hnc, _⟩
  · simp [Builtin.append_, run_underlying ht, sizeOf, typeInfo, hi, Builtin.lenOf, Builtin.firstCells]
  · simp [Builtin.append_, run_underlying ht, sizeOf, typeInfo, hi, Builtin.lenOf, Builtin.firstCells, hnc, storeCells]

theorem OwnR.alloc {k : IntKind} {T : TypeId} {w : World} {base : Nat} {ao : Option Addr} {cap : Nat} {L : List Int} (h : OwnR k T w base ao cap L) (o : Obj) : OwnR k T (w.alloc o) base ao cap L := World.ownsRow.alloc h o
theorem OwnR.le {k : IntKind} {T : TypeId} {w : World} {base base' : Nat} {ao : Option Addr} {cap : Nat} {L : List Int} (h : OwnR k T w base ao cap L) (hb : base' ≤ base) : OwnR k T w base' ao cap L := Joins.ownsRow_le h hb
theorem OwnR.nil (k : IntKind) (T : TypeId) (w : World) (base : Nat) : OwnR k T w base none 0 [] := World.ownsRow_nil w base T 1
theorem OwnR.keep {k : IntKind} {T : TypeId} {w w' : World} {base : Nat} {ao : Option Addr} {cap : Nat} {L : List Int} (h : OwnR k T w base ao cap L) (kk : Below w.heap.size w w') : OwnR k T w' base ao cap L :=
  World.ownsRow.kept h (row := none) ⟨kk.os, kk.tape, kk.output, kk.size, fun b hb _ => kk.block b hb⟩ (by cases hv : Value.ownBlock (.slice ao L.length cap) <;> simp)
theorem OwnR.set {k : IntKind} {T : TypeId} {w : World} {base : Nat} {ao : Option Addr} {cap : Nat} {L : List Int} (h : OwnR k T w base ao cap L) (p : Addr) (v : Value) (hp : p.block < base) : OwnR k T (w.setCell p v) base ao cap L := by
  have hg : w.grownBy (w.setCell p v) (some p.block) := ⟨rfl, rfl, rfl, by simp, fun b _ hb => Below.heap_setCell w p v b (fun e => hb (by rw [e]))⟩
  refine World.ownsRow.kept h hg ?_
  cases hv : Value.ownBlock (.slice ao L.length cap) with
  | none => exact .inl rfl
  | some b =>
    refine .inr fun e => ?_
    injection e with e
    have := (World.ownsRow.lt h b hv).1
    omega
theorem OwnR.src {k : IntKind} {T : TypeId} {w : World} {base : Nat} {ao : Option Addr} {cap : Nat} {L : List Int} (h : OwnR k T w base ao cap L) : SrcN k w ao L := h.wrt.row.src
/-- A list that was written out. -/
theorem OwnR.lit (k : IntKind) (T : TypeId) (w : World) (base : Nat) (L : List Int) (cs : Array Value) (hc : cs.toList = L.map (Value.int k)) (hb : base ≤ w.heap.size) (hm : L.length ≤ maxLen) : OwnR k T (w.alloc (.cells cs T)) base (some ⟨w.heap.size, 0, none⟩) L.length L := by
  have hs : cs.size = L.length * 1 := by rw [← Array.length_toList, hc]; simp
  have := World.ownsRow_lit (e := T) (size := 1) w cs L.length hb hm hs
  rw [hc] at this
  exact this

theorem wp_app {k : IntKind} {T S : TypeId} {bytes : Nat} {w : World} {o : Oper} {a : Act} {K : Act → World → Prop} {Q : Exit → Act → World → Prop}
    (hu : Try.prog.underlying S = some (.slice T)) (hinf : (Try.prog.info? T).map (fun i => (i.zero, i.size, i.bytes)) = some (some (.int k 0), 1, bytes)) (hby : bytes ≤ 8)
    (s x : Operand) (ho : o.op = .call { callee := .builtin .append, args := #[s, x], argTypes := #[S, S] })
    (base : Nat) (ao : Option Addr) (cap : Nat) (M : List Int) (hs : a.eval s = .slice ao M.length cap) (hown : OwnR k T w base ao cap M)
    (bo : Option Addr) (cb : Nat) (L : List Int) (hx : a.eval x = .slice bo L.length cb) (hsrc : SrcN k w bo L) (hn : M.length + L.length ≤ 2097152) (hbase : base ≤ w.heap.size)
    (h : ∀ ao' cap' w', OwnR k T w' base ao' cap' (M ++ L) → Below base w w' → K (a.put o.dst (.slice ao' (M ++ L).length cap')) w') : o.wp Try.prog a w K Q := by
  obtain ⟨i0, hi0, hz0, hz1, hz2⟩ := info_parts hinf
  rcases hsrc with ⟨rfl, rfl⟩ | ⟨ad, rfl, hc⟩
  · have hrun := run_append_none_any (P := Try.prog) (w := w) base S o.type T i0 1 cb hu hi0 _ M.length _ hown
    have hr : (execOp a.eval o).run Try.prog w = .ok (.value (.slice ao M.length cap)) w := by
      unfold execOp
      simp only [ho, resolve, invoke, builtin, Sem.run_bind, Sem.run_pure, Result.andThen_ok, List.map_toArray, List.map_cons, List.map_nil, hs, hx, List.length_nil, hrun]
    unfold Oper.wp
    rw [hr]
    have hh := h ao cap w (by rw [List.append_nil]; exact hown) (Below.refl _ _)
    rw [List.append_nil] at hh
    exact hh
  · refine wp_append_own w s x S ho base T i0 (.int k 0) 1 bytes hu hi0 hz0 hz1 hz2 rfl (by decide) _ M.length (M.map (Value.int k)) hs hown ad L.length cb (L.map (Value.int k)) hx (by simp) (fun j u hj => ?_) (ints_oneCell k L) (by unfold maxLen; omega) ?_ hbase fun v' w' ho' hg' _ => ?_
    · obtain ⟨hj', e⟩ := List.getElem?_eq_some_iff.1 hj
      rw [hc j (by simpa using hj'), ← e]
      simp
    · have : (M.length + L.length) * bytes ≤ 2097152 * 8 := Nat.mul_le_mul hn hby
      omega
    · rw [← List.map_append] at ho'
      obtain ⟨ao', cap', rfl, O⟩ := ownR_form ho'
      exact h ao' cap' w' O ((Below.refl base w).grown hg' hbase fun b hb => (World.ownsRow.lt hown b hb).1)

theorem wpList_app {k : IntKind} {T S : TypeId} {bytes : Nat} {w : World} {ops : Array Oper} {rest : List Oper} {o : Oper} {a : Act} {Q : Exit → Act → World → Prop}
    (hu : Try.prog.underlying S = some (.slice T)) (hinf : (Try.prog.info? T).map (fun i => (i.zero, i.size, i.bytes)) = some (some (.int k 0), 1, bytes)) (hby : bytes ≤ 8)
    (hg : o.guard = none) (s x : Operand) (ho : o.op = .call { callee := .builtin .append, args := #[s, x], argTypes := #[S, S] })
    (base : Nat) (ao : Option Addr) (cap : Nat) (M : List Int) (hs : a.eval s = .slice ao M.length cap) (hown : OwnR k T w base ao cap M)
    (bo : Option Addr) (cb : Nat) (L : List Int) (hx : a.eval x = .slice bo L.length cb) (hsrc : SrcN k w bo L) (hn : M.length + L.length ≤ 2097152) (hbase : base ≤ w.heap.size)
    (h : ∀ ao' cap' w', OwnR k T w' base ao' cap' (M ++ L) → Below base w w' → wpList Try.prog ops Q rest (a.put o.dst (.slice ao' (M ++ L).length cap')) w') : wpList Try.prog ops Q (o :: rest) a w :=
  wpList_plain hg fun _ hK => wp_app hu hinf hby s x ho base ao cap M hs hown bo cb L hx hsrc hn hbase fun ao' cap' w' h1 h2 => hK _ _ (h ao' cap' w' h1 h2)

/-- A row joined to nil, in a region whose order is open. -/
theorem made_app_nil {k : IntKind} {T S : TypeId} {bytes : Nat} {w : World} {o : Oper} {a : Act} {K : World → Value → Prop}
    (hu : Try.prog.underlying S = some (.slice T)) (hinf : (Try.prog.info? T).map (fun i => (i.zero, i.size, i.bytes)) = some (some (.int k 0), 1, bytes)) (hby : bytes ≤ 8)
    (s x : Operand) (ho : o.op = .call { callee := .builtin .append, args := #[s, x], argTypes := #[S, S] })
    (hs : a.eval s = .slice none 0 0) (bo : Option Addr) (cb : Nat) (L : List Int) (hx : a.eval x = .slice bo L.length cb) (hsrc : SrcN k w bo L) (hn : L.length ≤ 2097152)
    (h : ∀ ao' cap' w', OwnR k T w' w.heap.size ao' cap' L → Below w.heap.size w w' → K w' (.slice ao' L.length cap')) : madeAt Try.prog o a w K := by
  obtain ⟨i0, hi0, hz0, hz1, hz2⟩ := info_parts hinf
  have hown : OwnR k T w w.heap.size none 0 [] := OwnR.nil _ _ _ _
  unfold madeAt
  rcases hsrc with ⟨rfl, rfl⟩ | ⟨ad, rfl, hc⟩
  · have hrun : (Builtin.append_ #[S, S] o.type #[.slice none 0 0, .slice none 0 cb]).run Try.prog w = .ok (.slice none 0 0) w := run_append_none_any w.heap.size S o.type T i0 1 cb hu hi0 _ 0 [] (World.ownsRow_nil w w.heap.size T 1)
    have hr : (execOp a.eval o).run Try.prog w = .ok (.value (.slice none 0 0)) w := by
      unfold execOp
      simp only [ho, resolve, invoke, builtin, Sem.run_bind, Sem.run_pure, Result.andThen_ok, List.map_toArray, List.map_cons, List.map_nil, hs, hx, List.length_nil, hrun]
    rw [hr]
    exact ⟨Below.refl _ _, h none 0 w hown (Below.refl _ _)⟩
  · obtain ⟨v', w', hr, h2, h3, h4⟩ := run_append_own (P := Try.prog) w w.heap.size S o.type T i0 (.int k 0) 1 bytes hu hi0 hz0 hz1 hz2 rfl (by decide) (.slice none 0 0) 0 [] hown ad L.length cb (L.map (Value.int k)) (by simp) (fun j u hj => by
      obtain ⟨hj', e⟩ := List.getElem?_eq_some_iff.1 hj
      rw [hc j (by simpa using hj'), ← e]
      simp) (ints_oneCell k L) (by unfold maxLen; omega) (by
      have : (0 + L.length) * bytes ≤ 2097152 * 8 := Nat.mul_le_mul (by omega) hby
      omega) (Nat.le_refl _)
    have hr' : (execOp a.eval o).run Try.prog w = .ok (.value v') w' := by
      unfold execOp
      simp only [ho, resolve, invoke, builtin, Sem.run_bind, Sem.run_pure, Result.andThen_ok, List.map_toArray, List.map_cons, List.map_nil, hs, hx, hr]
    rw [hr']
    rw [List.nil_append] at h2
    obtain ⟨ao', cap', rfl, O⟩ := ownR_form h2
    have hb : Below w.heap.size w w' := (Below.refl _ w).grown h3 (Nat.le_refl _) fun b hb => by simp [Value.ownBlock] at hb
    exact ⟨hb, h ao' cap' w' O hb⟩

end Go.Proofs.Ytmmjannkfmiohaa
