/- Regions in open order: one of two that come up; what leaves no value. The program's line: pushed to, told as a queue. -/
import Derived.Test.YtngmiimendlleaaV11
import Derived.Test.YtngmiimendlleaaV26
import Derived.Test.YtngmiimendlleaaV29
namespace Go.Proofs.Ytngmiimendlleaa
open Go.RowKit
set_option linter.unusedVariables false

section
variable {P : Program} {md : Region.Mode} {ops : Array Oper} {Q : Exit → Act → World → Prop} {S : World → Prop}
theorem held_two {i j : Nat} {oi oj : Oper} {fuel : Nat} {listed : Array Bool} {a : Act} {w : World} (hi : ops[i]? = some oi) (hj : ops[j]? = some oj) (hr : Region.ready md ops listed = [i, j]) (hw : Region.wanted oi (yielded ops a.tmps) = true) (hw' : Region.wanted oj (yielded ops a.tmps) = true)
    (h : oi.wp P a w (fun a' w' => S w' ∧ wpAnyH P md ops Q S fuel (listed.setIfInBounds i true) a' w') Q) (h' : oj.wp P a w (fun a' w' => S w' ∧ wpAnyH P md ops Q S fuel (listed.setIfInBounds j true) a' w') Q) : wpAnyH P md ops Q S (fuel + 1) listed a w :=
  wpAnyH_all hr (by simp) (fun k hk => by
    unfold wpOp
    simp only [List.mem_cons, List.not_mem_nil, or_false] at hk
    rcases hk with rfl | rfl
    · simp only [hi]; rw [if_pos hw]; exact .inl h
    · simp only [hj]; rw [if_pos hw']; exact .inl h')
end

theorem wp_of_skip {P : Program} {Q : Exit → Act → World → Prop} {o : Oper} {a : Act} {w w' : World} {K : Act → World → Prop} (h : (execOp a.eval o).run P w = .ok .skip w') (hk : K (a.put o.dst undef) w') : o.wp P a w K Q := by
  unfold Oper.wp
  rw [h]
  exact hk
end Go.Proofs.Ytngmiimendlleaa

namespace Go.Proofs.Ytngmiimendlleaa
open Go.RowKit
set_option linter.unusedVariables false
attribute [local go_sem] growUpon growAt

/-- A block whose first cell is a slice is no row of messages, and no body. -/
theorem OwnM.notBox {w : World} {base b : Nat} {so s : Option Addr} {sc n c : Nat} {L : List Mg} (h : OwnM w base so sc L) (hb : w.cell? ⟨b, 0, none⟩ = some (.slice s n c)) : some b ≠ Value.ownBlock (.slice so L.length sc) := by
  intro e
  by_cases hL : L = []
  · have hz := h.z hL
    subst hL hz
    rcases h.row.2 with ⟨hv, _⟩ | ⟨g, cap', cur, hv, _, hc, _, _, hsz, hcs⟩
    · rw [hv] at e; simp [Value.ownBlock] at e
    · simp only [Value.slice.injEq] at hv
      obtain ⟨rfl, _, rfl⟩ := hv
      simp only [Value.ownBlock, Option.some.injEq] at e
      rw [e] at hb
      have : cur = #[] := by simpa using hsz
      subst this
      simp [World.cell?, hc] at hb
  · rcases h.sp with h0 | ⟨g, ha, _, _, hc, _⟩
    · exact hL h0
    · subst ha
      simp only [Value.ownBlock, Option.some.injEq] at e
      have h0 := (hc 0 (List.length_pos_iff.2 hL)).c0
      rw [Nat.zero_mul, ← e, hb] at h0
      simp at h0
theorem Bods.notBox {w : World} {lo hi b : Nat} {bs : List Bd} {s : Option Addr} {n c : Nat} (h : Bods w lo hi bs) (hb : w.cell? ⟨b, 0, none⟩ = some (.slice s n c)) : ∀ d ∈ bs, d.L ≠ [] → d.g ≠ b := fun d m e e' => by
  obtain ⟨x, hx⟩ := d.cell0 (h.each d m) e
  rw [e', hb] at hx
  simp at hx
theorem Bods.setBox {w : World} {lo hi b o : Nat} {bs : List Bd} {s : Option Addr} {n c : Nat} {v : Value} (h : Bods w lo hi bs) (hb : w.cell? ⟨b, 0, none⟩ = some (.slice s n c)) : Bods (w.setCell ⟨b, o, none⟩ v) lo hi bs :=
  ⟨fun d m => Bd.on_set (h.each d m) _ _ (fun e e' => h.notBox hb d m e e'.symm), h.inn, h.apart⟩
theorem OwnM.setBox {w : World} {base b o : Nat} {so s : Option Addr} {sc n c : Nat} {L : List Mg} {v : Value} (h : OwnM w base so sc L) (hb : w.cell? ⟨b, 0, none⟩ = some (.slice s n c)) : OwnM (w.setCell ⟨b, o, none⟩ v) base so sc L := by
  have hg : w.grownBy (w.setCell ⟨b, o, none⟩ v) (some b) := ⟨rfl, rfl, rfl, by simp, fun q _ hq => Below.heap_setCell w _ v q (fun e => hq (by rw [e]))⟩
  refine ⟨World.ownsRow.kept h.row hg ?_, h.z⟩
  cases hv : Value.ownBlock (.slice so L.length sc) with
  | none => exact .inl rfl
  | some q => exact .inr fun e => h.notBox hb (by rw [hv]; exact e.symm)
theorem Lin.setBox {w : World} {base b o : Nat} {so s : Option Addr} {sc n c : Nat} {L : List Mg} {v : Value} (h : Lin w base so sc L) (hb : w.cell? ⟨b, 0, none⟩ = some (.slice s n c)) : Lin (w.setCell ⟨b, o, none⟩ v) base so sc L :=
  ⟨h.own.setBox hb, by have := h.bods.setBox (o := o) (v := v) hb; simpa using this⟩
theorem Rb.grown {w w' : World} {b : Nat} {v0 v1 : Value} {q : Option Nat} (h : Rb w b v0 v1) (hg : w.grownBy w' q) (hq : some b ≠ q) : Rb w' b v0 v1 := by
  have e := hg.block b h.lt hq
  exact ⟨(World.cell?_of_block (w := w) (a := ⟨b, 0, none⟩) e).trans h.c0, (World.cell?_of_block (w := w) (a := ⟨b, 1, none⟩) e).trans h.c1, (World.frozen?_of_block (w := w) (a := ⟨b, 0, none⟩) e).trans h.f0, (World.frozen?_of_block (w := w) (a := ⟨b, 1, none⟩) e).trans h.f1, Nat.lt_of_lt_of_le h.lt hg.size⟩
theorem Rb.set0 {w : World} {b : Nat} {v0 v1 : Value} (h : Rb w b v0 v1) (u : Value) : Rb (w.setCell ⟨b, 0, none⟩ u) b u v1 :=
  ⟨cell_set_same h.c0, (cell_set_other (by omega)).trans h.c1, by simpa using h.f0, by simpa using h.f1, by simpa using h.lt⟩
theorem Rb.set1 {w : World} {b : Nat} {v0 v1 : Value} (h : Rb w b v0 v1) (u : Value) : Rb (w.setCell ⟨b, 1, none⟩ u) b v0 u :=
  ⟨(cell_set_other (by omega)).trans h.c0, cell_set_same h.c1, by simpa using h.f0, by simpa using h.f1, by simpa using h.lt⟩
theorem Bods.left {w : World} {lo hi : Nat} {A B : List Bd} (h : Bods w lo hi (A ++ B)) : Bods w lo hi A :=
  ⟨fun b m => h.each b (by simp [m]), fun b m => h.inn b (by simp [m]), (List.pairwise_append.1 h.apart).1⟩

theorem bodyPost_panic {P : Program} {F : Func} {R : Ending → World → Prop} : ∀ c a d v w, bodyPost P F R (.panic c) (Act.put a d v) w → bodyPost P F R (.panic c) a w := by
  intro c a d v w h
  cases d <;> exact h

/-- What a push leaves, with so much room. -/
def psh (room : Int) (M : List Mg) (m : Mg) : List Mg := if room ≤ (M.length : Int) then M else M ++ [m]
def pshV (room : Int) (M : List Mg) (v : Bool) : Bool := if room ≤ (M.length : Int) then true else v
/-- A line in its box. -/
structure LBox (w : World) (b base : Nat) (M : List Mg) (v : Bool) (s : Option Addr) (c : Nat) : Prop where
  box : Rb w b (.slice s M.length c) (.bool v)
  lin : Lin w base s c M
theorem LBox.keep {w w' : World} {b base : Nat} {M : List Mg} {v : Bool} {s : Option Addr} {c : Nat} (h : LBox w b base M v s c) (k : Below w.heap.size w w') : LBox w' b base M v s c := ⟨h.box.keep k h.box.lt, h.lin.keep k⟩

set_option maxHeartbeats 400000 in
theorem queueOf_any (s : Option Addr) (n c : Nat) (v : Bool) (w : World) :
    Calls Try.prog 22 #[.agg #[.slice s n c, .bool v]] w fun e w' => e = .returned (.agg #[.slice s n c, .bool v]) ∧ Below w.heap.size w w' := by
  go_enter Try.func22, Try.ntmps22
  go_wp2
  refine bodyPost_ret (v := .agg #[.slice s n c, .bool v]) (by simp [results, Try.results22, go_sem, *]) rfl ⟨rfl, ?_⟩
  go_grown
end Go.Proofs.Ytngmiimendlleaa
