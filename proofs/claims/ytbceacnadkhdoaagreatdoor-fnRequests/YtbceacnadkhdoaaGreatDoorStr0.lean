/- Rows of texts that a call owns. -/
import Derived.Test.YtbceacnadkhdoaaGreatDoorApp
namespace Go.Proofs.YtbceacnadkhdoaaGreatDoor
open Go.RowKit
set_option linter.unusedVariables false

theorem Tryz.infoS : (Tryz.prog.info? 9).map (fun i => (i.zero, i.size, i.bytes)) = some (some (.string ⟨#[]⟩), 1, 16) := by kernel_rfl

/-- The slice owns its row of texts, in a block from base on. -/
def OwnS (T : TypeId) (w : World) (base : Nat) (ao : Option Addr) (cap : Nat) (L : List ByteArray) : Prop := w.ownsRow base T 1 (.slice ao L.length cap) L.length (L.map Value.string)
theorem ownS_form {T : TypeId} {w : World} {base n : Nat} {v : Value} {L : List ByteArray} (h : w.ownsRow base T 1 v n (L.map Value.string)) : ∃ ao cap, v = .slice ao L.length cap ∧ OwnS T w base ao cap L := by
  have hn : n = L.length := by have := h.1; simp at this; omega
  subst hn
  have h' := h
  rcases h.2 with ⟨rfl, h0⟩ | ⟨g, cap, cur, rfl, _⟩
  · exact ⟨none, 0, by rw [h0], by unfold OwnS; rw [h0]; rw [h0] at h'; exact h'⟩
  · exact ⟨_, cap, rfl, h'⟩
theorem OwnS.alloc {T : TypeId} {w : World} {base : Nat} {ao : Option Addr} {cap : Nat} {L : List ByteArray} (h : OwnS T w base ao cap L) (o : Obj) : OwnS T (w.alloc o) base ao cap L := World.ownsRow.alloc h o
theorem OwnS.nil (T : TypeId) (w : World) (base : Nat) : OwnS T w base none 0 [] := World.ownsRow_nil w base T 1
theorem OwnS.keep {T : TypeId} {w w' : World} {base : Nat} {ao : Option Addr} {cap : Nat} {L : List ByteArray} (h : OwnS T w base ao cap L) (kk : Below w.heap.size w w') : OwnS T w' base ao cap L :=
  World.ownsRow.kept h (row := none) ⟨kk.os, kk.tape, kk.output, kk.size, fun b hb _ => kk.block b hb⟩ (by cases hv : Value.ownBlock (.slice ao L.length cap) <;> simp)
/-- Its cells, if it has any. -/
theorem OwnS.cells {T : TypeId} {w : World} {base : Nat} {ao : Option Addr} {cap : Nat} {L : List ByteArray} (h : OwnS T w base ao cap L) (hn : L ≠ []) : ∃ g, ao = some ⟨g, 0, none⟩ ∧ base ≤ g ∧ g < w.heap.size ∧ L.length ≤ cap ∧ ∀ (j : Nat) x, L[j]? = some x → w.cell? ⟨g, 0 + j, none⟩ = some (.string x) := by
  have hpos : 0 < L.length := List.length_pos_iff.2 hn
  obtain ⟨g, cap', hv, hb, hlt⟩ := World.ownsRow.form h hpos
  cases hv
  refine ⟨g, rfl, hb, hlt, ?_, fun j x hj => ?_⟩
  · rcases h.2 with ⟨hx, _⟩ | ⟨g', cap', cur, hv, _, _, hnc, _⟩
    · cases hx
    · cases hv; exact hnc
  · obtain ⟨hj', e⟩ := List.getElem?_eq_some_iff.1 hj
    rw [Nat.zero_add, World.ownsRow.cellAt h j (by omega)]
    simp [hj', e]

theorem wpList_appS {T S : TypeId} {w : World} {ops : Array Oper} {rest : List Oper} {o : Oper} {a : Act} {Q : Exit → Act → World → Prop}
    (hu : Tryz.prog.underlying S = some (.slice T)) (hinf : (Tryz.prog.info? T).map (fun i => (i.zero, i.size, i.bytes)) = some (some (.string ⟨#[]⟩), 1, 16))
    (hg : o.guard = none) (s x : Operand) (ho : o.op = .call { callee := .builtin .append, args := #[s, x], argTypes := #[S, S] })
    (base : Nat) (ao : Option Addr) (cap : Nat) (M : List ByteArray) (hs : a.eval s = .slice ao M.length cap) (hown : OwnS T w base ao cap M)
    (g cb : Nat) (y : ByteArray) (hx : a.eval x = .slice (some ⟨g, 0, none⟩) 1 cb) (hc : w.cell? ⟨g, 0, none⟩ = some (.string y)) (hn : M.length ≤ 1048577) (hbase : base ≤ w.heap.size)
    (h : ∀ ao' cap' w', OwnS T w' base ao' cap' (M ++ [y]) → Below base w w' → wpList Tryz.prog ops Q rest (a.put o.dst (.slice ao' (M ++ [y]).length cap')) w') : wpList Tryz.prog ops Q (o :: rest) a w := by
  refine wpList_plain hg fun _ hK => ?_
  obtain ⟨i0, hi0, hz0, hz1, hz2⟩ := info_parts hinf
  refine wp_append_own w s x S ho base T i0 (.string ⟨#[]⟩) 1 16 hu hi0 hz0 hz1 hz2 rfl (by decide) _ M.length (M.map Value.string) hs hown ⟨g, 0, none⟩ 1 cb [.string y] hx (by simp) (fun j u hj => ?_) (fun v hv => ?_) (by unfold maxLen; omega) ?_ hbase fun v' w' ho' hg' _ => ?_
  · obtain ⟨hj', e⟩ := List.getElem?_eq_some_iff.1 hj
    obtain rfl : j = 0 := by simpa using hj'
    rw [← e, add_none]
    exact hc
  · simp at hv; subst hv; rfl
  · omega
  · have ho'' : w'.ownsRow base T 1 v' (M.length + 1) ((M ++ [y]).map Value.string) := by simpa using ho'
    obtain ⟨ao', cap', rfl, O⟩ := ownS_form ho''
    exact hK _ _ (h ao' cap' w' O ((Below.refl base w).grown hg' hbase fun b hb => (World.ownsRow.lt hown b hb).1))

end Go.Proofs.YtbceacnadkhdoaaGreatDoor
