/- What the laws over streams call beside the program: lwBig, lwAt, lwBytes. RequestText: the model's. Rows of texts that a call owns. -/
import Derived.Test.YtbceacnadkhdoaaGreatDoorV1
import Derived.Test.YtbceacnadkhdoaaGreatDoorV7
import Derived.Laws.BytesArg
import Derived.Laws.IdiomStrings
import Derived.Test.YtbceacnadkhdoaaGreatDoorV26
import Derived.Test.YtbceacnadkhdoaaGreatDoorV15
import Derived.Test.YtbceacnadkhdoaaGreatDoorV6
namespace Go.Proofs.YtbceacnadkhdoaaGreatDoor
open Go.RowKit
set_option linter.unusedVariables false

set_option maxHeartbeats 400000 in
theorem bigQ (w : World) (a : Option Addr) (len cap : Nat) (hl : len ≤ maxLen) :
    Calls Tryz.prog 4 #[.slice a len cap] w fun e w' => e = .returned (.bool (decide ((1048576 : Int) < (len : Int)))) ∧ w' = w := by
  go_enter Tryz.func4, Tryz.ntmps4
  go_wp2
  go_returns
  exact ⟨rfl, rfl⟩

theorem conv_rowL {w : World} {lo hi : Nat} {ao : Option Addr} {ca : Nat} {L : List Int} (h : Row .u8 w lo hi ao L) : (convert 22 9 (.slice ao L.length ca)).run Tryz.prog w = .ok (.string (strOfNums L)) w := by
  rcases h with rfl | ⟨g, o, rfl, _, _, hc⟩
  · cases ao with
    | none => exact run_convert_bytes_nil w 22 5 Tryz.underlying22 Tryz.underlying5 _ _ 9 Tryz.underlying9
    | some ad => exact run_convert_bytes_back w 22 9 5 ad ca [] Tryz.underlying22 Tryz.underlying5 Tryz.underlying9 (fun j hj => by simp at hj)
  · exact run_convert_bytes_arg w 22 5 Tryz.underlying22 Tryz.underlying5 g o L.length ca L rfl (fun i hi => by rw [hc i hi]; simp [List.getD, hi]) 9 Tryz.underlying9

set_option maxHeartbeats 400000 in
theorem bytes_same (lo hi lo2 hi2 : Nat) (ao bo : Option Addr) (ca cb : Nat) (L : List Int) (w : World) (ha : Row .u8 w lo hi ao L) (hb : Row .u8 w lo2 hi2 bo L) :
    Calls Tryz.prog 12 #[.slice ao L.length ca, .slice bo L.length cb] w fun e w' => e = .returned (.bool true) ∧ w' = w := by
  have h1 := conv_rowL (ca := ca) ha
  have h2 := conv_rowL (ca := cb) hb
  clear ha hb
  generalize strOfNums L = s at *
  go_enter Tryz.func12, Tryz.ntmps12
  go_wp2
  go_returns
  exact ⟨rfl, rfl⟩

end Go.Proofs.YtbceacnadkhdoaaGreatDoor

namespace Go.Proofs.YtbceacnadkhdoaaGreatDoor
open Go.RowKit
set_option linter.unusedVariables false

/-- A request's text; none, where it has a fault. -/
def tX (k : Int) (A D : List Int) : ByteArray := if rF k A D.length = 0 then tS (bod k A D) else ⟨#[]⟩
theorem tX_yes {k : Int} {A D : List Int} (h : rF k A D.length = 0) : tX k A D = tS (bod k A D) := by unfold tX; rw [if_pos h]
theorem tX_no {k : Int} {A D : List Int} (h : rF k A D.length ≠ 0) : tX k A D = ⟨#[]⟩ := by unfold tX; rw [if_neg h]

end Go.Proofs.YtbceacnadkhdoaaGreatDoor

namespace Go.Proofs.YtbceacnadkhdoaaGreatDoor
open Go.RowKit
set_option linter.unusedVariables false

theorem Tryz.infoS : (Tryz.prog.info? 9).map (fun i => (i.zero, i.size, i.bytes)) = some (some (.string ⟨#[]⟩), 1, 16) := by kernel_rfl

/-- The slice owns its row of texts, in a block from base on. -/
def OwnS (T : TypeId) (w : World) (base : Nat) (ao : Option Addr) (cap : Nat) (L : List ByteArray) : Prop := w.ownsRow base T 1 (.slice ao L.length cap) L.length (L.map Value.string)
theorem ownS_form {T : TypeId} {w : World} {base n : Nat} {v : Value} {L : List ByteArray} (h : w.ownsRow base T 1 v n (L.map Value.string)) : ∃ ao cap, v = .slice ao L.length cap ∧ OwnS T w base ao cap L := by
  have hn : n = L.length := by have := h.1; simp at this; omega
  subst hn
  have h' := h
  rcases h.2 with ⟨rfl, h0⟩ | ⟨g, cap, cur, rfl, _⟩
  · exact ⟨none, 0, by rw [h0], by unfold OwnS; rw [h0]; rw [h0] at h'; exact h'⟩
  · exact ⟨_, cap, rfl, h'⟩
theorem OwnS.alloc {T : TypeId} {w : World} {base : Nat} {ao : Option Addr} {cap : Nat} {L : List ByteArray} (h : OwnS T w base ao cap L) (o : Obj) : OwnS T (w.alloc o) base ao cap L := World.ownsRow.alloc h o
theorem OwnS.nil (T : TypeId) (w : World) (base : Nat) : OwnS T w base none 0 [] := World.ownsRow_nil w base T 1
theorem OwnS.keep {T : TypeId} {w w' : World} {base : Nat} {ao : Option Addr} {cap : Nat} {L : List ByteArray} (h : OwnS T w base ao cap L) (kk : Below w.heap.size w w') : OwnS T w' base ao cap L :=
  World.ownsRow.kept h (row := none) ⟨kk.os, kk.tape, kk.output, kk.size, fun b hb _ => kk.block b hb⟩ (by cases hv : Value.ownBlock (.slice ao L.length cap) <;> simp)
/-- Its cells, if it has any. -/
theorem OwnS.cells {T : TypeId} {w : World} {base : Nat} {ao : Option Addr} {cap : Nat} {L : List ByteArray} (h : OwnS T w base ao cap L) (hn : L ≠ []) : ∃ g, ao = some ⟨g, 0, none⟩ ∧ base ≤ g ∧ g < w.heap.size ∧ L.length ≤ cap ∧ ∀ (j : Nat) x, L[j]? = some x → w.cell? ⟨g, 0 + j, none⟩ = some (.string x) := by
  have hpos : 0 < L.length := List.length_pos_iff.2 hn
  obtain ⟨g, cap', hv, hb, hlt⟩ := World.ownsRow.form h hpos
  cases hv
  refine ⟨g, rfl, hb, hlt, ?_, fun j x hj => ?_⟩
  · rcases h.2 with ⟨hx, _⟩ | ⟨g', cap', cur, hv, _, _, hnc, _⟩
    · cases hx
    · cases hv; exact hnc
  · obtain ⟨hj', e⟩ := List.getElem?_eq_some_iff.1 hj
    rw [Nat.zero_add, World.ownsRow.cellAt h j (by omega)]
    simp [hj', e]

theorem wpList_appS {T S : TypeId} {w : World} {ops : Array Oper} {rest : List Oper} {o : Oper} {a : Act} {Q : Exit → Act → World → Prop}
    (hu : Tryz.prog.underlying S = some (.slice T)) (hinf : (Tryz.prog.info? T).map (fun i => (i.zero, i.size, i.bytes)) = some (some (.string ⟨#[]⟩), 1, 16))
    (hg : o.guard = none) (s x : Operand) (ho : o.op = .call { callee := .builtin .append, args := #[s, x], argTypes := #[S, S] })
    (base : Nat) (ao : Option Addr) (cap : Nat) (M : List ByteArray) (hs : a.eval s = .slice ao M.length cap) (hown : OwnS T w base ao cap M)
    (g cb : Nat) (y : ByteArray) (hx : a.eval x = .slice (some ⟨g, 0, none⟩) 1 cb) (hc : w.cell? ⟨g, 0, none⟩ = some (.string y)) (hn : M.length ≤ 1048577) (hbase : base ≤ w.heap.size)
    (h : ∀ ao' cap' w', OwnS T w' base ao' cap' (M ++ [y]) → Below base w w' → wpList Tryz.prog ops Q rest (a.put o.dst (.slice ao' (M ++ [y]).length cap')) w') : wpList Tryz.prog ops Q (o :: rest) a w := by
  refine wpList_plain hg fun _ hK => ?_
  obtain ⟨i0, hi0, hz0, hz1, hz2⟩ := info_parts hinf
  refine wp_append_own w s x S ho base T i0 (.string ⟨#[]⟩) 1 16 hu hi0 hz0 hz1 hz2 rfl (by decide) _ M.length (M.map Value.string) hs hown ⟨g, 0, none⟩ 1 cb [.string y] hx (by simp) (fun j u hj => ?_) (fun v hv => ?_) (by unfold maxLen; omega) ?_ hbase fun v' w' ho' hg' _ => ?_
  · obtain ⟨hj', e⟩ := List.getElem?_eq_some_iff.1 hj
    obtain rfl : j = 0 := by simpa using hj'
    rw [← e, add_none]
    exact hc
  · simp at hv; subst hv; rfl
  · omega
  · have ho'' : w'.ownsRow base T 1 v' (M.length + 1) ((M ++ [y]).map Value.string) := by simpa using ho'
    obtain ⟨ao', cap', rfl, O⟩ := ownS_form ho''
    exact hK _ _ (h ao' cap' w' O ((Below.refl base w).grown hg' hbase fun b hb => (World.ownsRow.lt hown b hb).1))

end Go.Proofs.YtbceacnadkhdoaaGreatDoor
