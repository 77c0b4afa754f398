/- FnJoined: a list of requests that is built. -/
import Derived.Test.YtgjbjafodkiilaaTj14
import Derived.Test.YtgjbjafodkiilaaTj33
import Derived.Test.YtgjbjafodkiilaaTj8
namespace Go.Proofs.Ytgjbjafodkiilaa
open Go.RowKit
set_option linter.unusedVariables false

def Rq.vals (r : Rq) : List Value := [.int .i64 r.k, .slice r.ao r.A.length r.ca, .slice r.bo r.D.length r.cb]
def rqs (L : List Rq) : List Value := L.flatMap Rq.vals
theorem rqs_app (L M : List Rq) : rqs (L ++ M) = rqs L ++ rqs M := by simp [rqs]
theorem rqs_len (L : List Rq) : (rqs L).length = L.length * 3 := by
  induction L with
  | nil => rfl
  | cons m L ih => simp only [rqs, List.flatMap_cons, List.length_append, List.length_cons] at ih ⊢; simp only [Rq.vals, List.length_cons, List.length_nil]; omega
theorem rqs_at (L : List Rq) (i : Nat) (hi : i < L.length) (j : Nat) (hj : j < 3) : (rqs L)[i * 3 + j]? = L[i].vals[j]? := by
  have e : L = L.take i ++ L[i] :: L.drop (i + 1) := by simp
  have h : rqs L = rqs (L.take i) ++ (L[i].vals ++ rqs (L.drop (i + 1))) := by
    have h1 : rqs L = rqs (L.take i ++ L[i] :: L.drop (i + 1)) := by rw [← e]
    rw [h1, rqs_app]; rfl
  rw [h, List.getElem?_append_right (by rw [rqs_len]; simp; omega), rqs_len, List.length_take, Nat.min_eq_left (by omega), Nat.add_sub_cancel_left, List.getElem?_append_left (by simp [Rq.vals]; omega)]

/-- A list of requests that is built: its row, and the lists of each. -/
structure LinR (w : World) (base : Nat) (so : Option Addr) (sc : Nat) (L : List Rq) : Prop where
  row : w.ownsRow base 42 3 (.slice so L.length sc) L.length (rqs L)
  a : ∀ r ∈ L, OwnR .i64 2 w base r.ao r.ca r.A
  d : ∀ r ∈ L, OwnR .u8 5 w base r.bo r.cb r.D
theorem kept_free {w w' : World} {base : Nat} {T : TypeId} {size n : Nat} {v : Value} {xs : List Value} (h : w.ownsRow base T size v n xs) {q : Option Nat} (hg : w.grownBy w' q) (hne : ∀ g, v.ownBlock = some g → some g ≠ q) : w'.ownsRow base T size v n xs := by
  refine World.ownsRow.kept h hg ?_
  cases hv : v.ownBlock with
  | none => exact .inl rfl
  | some g => exact .inr (hne g hv)
theorem LinR.grown {w w' : World} {base : Nat} {so : Option Addr} {sc : Nat} {L : List Rq} {q : Option Nat} (h : LinR w base so sc L) (hg : w.grownBy w' q) (hq : ∀ p, q = some p → p < base) : LinR w' base so sc L :=
  ⟨kept_free h.row hg fun g e e' => by have := (World.ownsRow.lt h.row g e).1; have := hq g e'.symm; omega,
    fun r m => kept_free (h.a r m) hg fun g e e' => by have := (World.ownsRow.lt (h.a r m) g e).1; have := hq g e'.symm; omega,
    fun r m => kept_free (h.d r m) hg fun g e e' => by have := (World.ownsRow.lt (h.d r m) g e).1; have := hq g e'.symm; omega⟩
theorem LinR.turn {w w' : World} {base b : Nat} {so : Option Addr} {sc : Nat} {L : List Rq} (h : LinR w base so sc L) (t : Turn b w w') (hb : b < base) : LinR w' base so sc L :=
  h.grown (q := some b) ⟨t.os, t.tape, t.output, t.size, fun q hq hn => t.block q hq (fun e => hn (by rw [e]))⟩ fun p e => by injection e with e; omega
theorem LinR.le {w : World} {base base' : Nat} {so : Option Addr} {sc : Nat} {L : List Rq} (h : LinR w base so sc L) (hb : base' ≤ base) (hr : w.ownsRow base' 42 3 (.slice so L.length sc) L.length (rqs L)) : LinR w base' so sc L :=
  ⟨hr, fun r m => (h.a r m).le hb, fun r m => (h.d r m).le hb⟩
theorem row_type {T : TypeId} {size n : Nat} {w : World} {base : Nat} {v : Value} {xs : List Value} (h : w.ownsRow base T size v n xs) {g : Nat} (e : v.ownBlock = some g) : ∃ cur, w.heap[g]? = some (.cells cur T (0, 0)) := by
  rcases h.2 with ⟨hx, _⟩ | ⟨g', c', cur, hx, _, hh, _⟩
  · subst hx; simp [Value.ownBlock] at e
  · subst hx; simp only [Value.ownBlock, Option.some.injEq] at e; subst e; exact ⟨cur, hh⟩
theorem off_type {T T' : TypeId} {s s' n n' : Nat} {w : World} {base base' : Nat} {v v' : Value} {xs xs' : List Value} (h : w.ownsRow base T s v n xs) (h' : w.ownsRow base' T' s' v' n' xs') (hT : T ≠ T') : ∀ g, v.ownBlock = some g → some g ≠ v'.ownBlock := by
  intro g e e'
  obtain ⟨c1, h1⟩ := row_type h e
  obtain ⟨c2, h2⟩ := row_type h' e'.symm
  rw [h1] at h2
  simp at h2
  exact hT h2.2
/-- One request more. -/
theorem LinR.push {w w' : World} {base : Nat} {so so' : Option Addr} {sc sc' : Nat} {L : List Rq} {r : Rq} (h : LinR w base so sc L) (ha : OwnR .i64 2 w base r.ao r.ca r.A) (hd : OwnR .u8 5 w base r.bo r.cb r.D)
    (hr : w'.ownsRow base 42 3 (.slice so' (L ++ [r]).length sc') (L ++ [r]).length (rqs (L ++ [r]))) (hg : w.grownBy w' (Value.ownBlock (.slice so L.length sc))) : LinR w' base so' sc' (L ++ [r]) := by
  refine ⟨hr, fun x m => ?_, fun x m => ?_⟩
  · have hx : OwnR .i64 2 w base x.ao x.ca x.A := by
      rcases List.mem_append.1 m with m | m
      · exact h.a x m
      · simp at m; subst m; exact ha
    exact kept_free hx hg (off_type hx h.row (by decide))
  · have hx : OwnR .u8 5 w base x.bo x.cb x.D := by
      rcases List.mem_append.1 m with m | m
      · exact h.d x m
      · simp at m; subst m; exact hd
    exact kept_free hx hg (off_type hx h.row (by decide))
theorem LinR.rqs {w : World} {base : Nat} {so : Option Addr} {sc : Nat} {L : List Rq} (h : LinR w base so sc L) : Rqs w base w.heap.size so L := by
  by_cases hn : L = []
  · exact .inl hn
  · have hpos : 0 < L.length := List.length_pos_iff.2 hn
    obtain ⟨g, cap', hv, hb, hlt⟩ := World.ownsRow.form h.row hpos
    cases hv
    refine .inr ⟨g, 0, rfl, hb, hlt, fun i hi => ?_⟩
    have c : ∀ j, j < 3 → w.cell? ⟨g, i * 3 + j, none⟩ = L[i].vals[j]? := fun j hj => by
      rw [World.ownsRow.cellAt h.row (i * 3 + j) (by omega), rqs_at L i hi j hj]
    refine ⟨?_, (h.a _ (List.getElem_mem _)).wrt.row, (h.d _ (List.getElem_mem _)).wrt.row⟩
    rw [Nat.zero_add]
    exact ⟨c 0 (by omega), c 1 (by omega), c 2 (by omega)⟩
theorem Try.infoRq : (Try.prog.info? 42).map (fun i => (i.zero, i.size, i.bytes)) = some (some (.agg #[.int .i64 0, .slice none 0 0, .slice none 0 0]), 3, 56) := by kernel_rfl

set_option maxHeartbeats 400000 in
theorem wp_appRq {w : World} {o : Oper} {a : Act} {K : Act → World → Prop} {Q : Exit → Act → World → Prop}
    (s x : Operand) (ho : o.op = .call { callee := .builtin .append, args := #[s, x], argTypes := #[24, 24] })
    (base : Nat) (so : Option Addr) (sc : Nat) (L : List Rq) (hs : a.eval s = .slice so L.length sc) (hown : LinR w base so sc L)
    (g cb : Nat) (m : Rq) (hx : a.eval x = .slice (some ⟨g, 0, none⟩) 1 cb) (hc : m.cells w g 0) (ha : OwnR .i64 2 w base m.ao m.ca m.A) (hd : OwnR .u8 5 w base m.bo m.cb m.D) (hn : L.length ≤ 1048577) (hbase : base ≤ w.heap.size)
    (h : ∀ so' sc' w', LinR w' base so' sc' (L ++ [m]) → w.grownBy w' (Value.ownBlock (.slice so L.length sc)) → Below base w w' → K (a.put o.dst (.slice so' (L.length + 1) sc')) w') : o.wp Try.prog a w K Q := by
  obtain ⟨i0, hi0, hz0, hz1, hz2⟩ := info_parts Try.infoRq
  refine wp_append_own w s x 24 ho base 42 i0 (.agg #[.int .i64 0, .slice none 0 0, .slice none 0 0]) 3 56 Try.underlying24 hi0 hz0 hz1 hz2 rfl (by decide) _ L.length (rqs L) hs hown.row ⟨g, 0, none⟩ 1 cb m.vals hx (by simp [Rq.vals]) (fun j u hj => ?_) (fun v hv => ?_) (by unfold maxLen; omega) ?_ hbase fun v' w' ho' hg' _ => ?_
  · rw [add_none]
    have hj' : j < 3 := by have := (List.getElem?_eq_some_iff.1 hj).1; simpa [Rq.vals] using this
    match j, hj' with
    | 0, _ => simp [Rq.vals] at hj; subst hj; exact hc.c0
    | 1, _ => simp [Rq.vals] at hj; subst hj; exact hc.c1
    | 2, _ => simp [Rq.vals] at hj; subst hj; exact hc.c2
  · simp [Rq.vals] at hv; rcases hv with rfl | rfl | rfl <;> rfl
  · omega
  · have ho2 : w'.ownsRow base 42 3 v' (L ++ [m]).length (rqs (L ++ [m])) := by
      rw [rqs_app, List.length_append]
      simpa [rqs] using ho'
    have hbel : Below base w w' := (Below.refl base w).grown hg' hbase fun q hq => (World.ownsRow.lt hown.row q hq).1
    obtain ⟨g', cap', hv, _, _⟩ := World.ownsRow.form ho2 (by simp)
    subst hv
    have hh := h (some ⟨g', 0, none⟩) cap' w' (hown.push ha hd ho2 hg') hg' hbel
    simpa using hh
theorem wpList_appRq {w : World} {ops : Array Oper} {rest : List Oper} {o : Oper} {a : Act} {Q : Exit → Act → World → Prop}
    (hgd : o.guard = none) (s x : Operand) (ho : o.op = .call { callee := .builtin .append, args := #[s, x], argTypes := #[24, 24] })
    (base : Nat) (so : Option Addr) (sc : Nat) (L : List Rq) (hs : a.eval s = .slice so L.length sc) (hown : LinR w base so sc L)
    (g cb : Nat) (m : Rq) (hx : a.eval x = .slice (some ⟨g, 0, none⟩) 1 cb) (hc : m.cells w g 0) (ha : OwnR .i64 2 w base m.ao m.ca m.A) (hd : OwnR .u8 5 w base m.bo m.cb m.D) (hn : L.length ≤ 1048577) (hbase : base ≤ w.heap.size)
    (h : ∀ so' sc' w', LinR w' base so' sc' (L ++ [m]) → w.grownBy w' (Value.ownBlock (.slice so L.length sc)) → Below base w w' → wpList Try.prog ops Q rest (a.put o.dst (.slice so' (L.length + 1) sc')) w') : wpList Try.prog ops Q (o :: rest) a w :=
  wpList_plain hgd fun _ hK => wp_appRq s x ho base so sc L hs hown g cb m hx hc ha hd hn hbase fun so' sc' w' h1 h2 h3 => hK _ _ (h so' sc' w' h1 h2 h3)
theorem LinR.lit (w : World) (base : Nat) (hb : base ≤ w.heap.size) : LinR (w.alloc (.cells #[] 42)) base (some ⟨w.heap.size, 0, none⟩) 0 [] :=
  ⟨⟨rfl, .inr ⟨w.heap.size, 0, #[], rfl, hb, heap_alloc_new w _, Nat.le_refl _, Nat.zero_le _, rfl, rfl⟩⟩, by simp, by simp⟩
theorem LinR.alloc {w : World} {base : Nat} {so : Option Addr} {sc : Nat} {L : List Rq} (h : LinR w base so sc L) (o : Obj) : LinR (w.alloc o) base so sc L :=
  ⟨World.ownsRow.alloc h.row o, fun r m => (h.a r m).alloc o, fun r m => (h.d r m).alloc o⟩
end Go.Proofs.Ytgjbjafodkiilaa
