/- Panes taken out: whether one is meant, the first one, and the row behind it. Panes taken out: the library's IndexFunc and DeleteFunc. Panes taken out: DeleteFunc, and what calls it. -/
import Derived.Test.YtclfobpmafkgfaaV23
import Derived.Laws.CopyRow
import Derived.Lib.SliceRun
namespace Go.Proofs.Ytclfobpmafkgfaa
open Go.RowKit Go.Maps
set_option linter.unusedVariables false

/-- A block of so many cells of one kind. -/
def Blk (w : World) (g : Nat) (T : TypeId) (m : Nat) : Prop := ∃ cur, w.heap[g]? = some (.cells cur T (0, 0)) ∧ cur.size = m
theorem Blk.set {w : World} {g m : Nat} {T : TypeId} (h : Blk w g T m) (b o : Nat) (v : Value) : Blk (w.setCell ⟨b, o, none⟩ v) g T m := by
  obtain ⟨cur, h, hs⟩ := h
  by_cases e : b = g
  · subst e
    exact ⟨_, heap_setCell_same w b o cur T v h, by simpa using hs⟩
  · exact ⟨cur, (heap_setCell_other w ⟨b, o, none⟩ g v (by simpa using fun h => e h.symm)).trans h, hs⟩
theorem Blk.keep {w w' : World} {g m : Nat} {T : TypeId} (h : Blk w g T m) (k : Below w.heap.size w w') : Blk w' g T m := by
  obtain ⟨cur, h, hs⟩ := h
  exact ⟨cur, (k.block g (Array.getElem?_eq_some_iff.1 h).1).trans h, hs⟩
theorem Blk.lt {w : World} {g m : Nat} {T : TypeId} (h : Blk w g T m) : g < w.heap.size := by
  obtain ⟨cur, h, hs⟩ := h
  exact (Array.getElem?_eq_some_iff.1 h).1
theorem OwnV.blk {V : Wn → List Value} {T : TypeId} {w : World} {base g c : Nat} {L : List Wn} (h : OwnV V T w base (some ⟨g, 0, none⟩) c L) : Blk w g T (c * 7) ∧ L.length ≤ c ∧ c ≤ maxLen ∧ base ≤ g := by
  rcases h.2 with ⟨hv, _⟩ | ⟨g', c', cur, hv, h1, h2, h3, h4, h5, _⟩
  · cases hv
  · cases hv
    exact ⟨⟨cur, h2, h5⟩, h3, h4, h1⟩
theorem OwnV.of {V : Wn → List Value} {T : TypeId} {w : World} {base g c : Nat} {L : List Wn} (hV : ∀ v, (V v).length = 7) (hb : Blk w g T (c * 7)) (hl : L.length ≤ c) (hm : c ≤ maxLen) (hg : base ≤ g) (hc : ∀ i (h : i < L.length), Cl V w g (i * 7) L[i]) : OwnV V T w base (some ⟨g, 0, none⟩) c L := by
  obtain ⟨cur, h, hs⟩ := hb
  refine ⟨vcs_len hV L, .inr ⟨g, c, cur, rfl, hg, h, hl, hm, hs, ?_⟩⟩
  apply List.ext_getElem?
  intro j
  by_cases hj : j < L.length * 7
  · have hi : j / 7 < L.length := by omega
    have h1 := hc (j / 7) hi (j % 7) (by omega)
    have h2 := vcs_at hV L (j / 7) hi (j % 7) (by omega)
    rw [show j / 7 * 7 + j % 7 = j by omega] at h1 h2
    rw [h2, ← h1, List.getElem?_take_of_lt hj]
    simp [World.cell?, h]
  · rw [List.getElem?_eq_none (by simp; omega), List.getElem?_eq_none (by rw [vcs_len hV]; omega)]

theorem Try.sizeP (w : World) : (sizeOf 109).run Try.prog w = .ok 7 w := by
  obtain ⟨i0, hi0, hz0, hz1, hz2⟩ := info_parts Try.infoPn
  simp [sizeOf, typeInfo, hi0, hz1]
theorem elemP : Try.prog.elem 73 = 109 := by kernel_rfl
theorem elemW : Try.prog.elem 24 = 39 := by kernel_rfl
theorem Try.sizeW (w : World) : (sizeOf 39).run Try.prog w = .ok 7 w := by
  obtain ⟨i0, hi0, hz0, hz1, hz2⟩ := info_parts Try.infoWn
  simp [sizeOf, typeInfo, hi0, hz1]
/-- Where the rest of a cut begins. -/
def wFrom (so : Option Addr) (cap i : Nat) : Option Addr := if cap = i then so else so.map (·.add (i * 7))
theorem addr7 (g o : Nat) : (⟨g, o, none⟩ : Addr).add 0 = ⟨g, o, none⟩ := by rw [add_none]; rfl
set_option maxRecDepth 100000 in
theorem sp_from (so : Option Addr) (len cap : Nat) (kl : IntKind) (l : Int) (h0 : 0 ≤ l) (h1 : l ≤ len) (w : World) :
    (Instr.slice 73 (.slice so len cap) (some (.int kl l)) none none).run Try.prog w = .ok (.slice (wFrom so cap l.toNat) (len - l.toNat) (cap - l.toNat)) w := by
  rw [run_slice_l w 73 _ len cap Try.underlying73 kl l h0 h1, elemP, Try.sizeP]
  simp only [Result.andThen_ok]
  rfl
set_option maxRecDepth 100000 in
theorem sp_upto (g : Nat) (len cap : Nat) (kh : IntKind) (h : Int) (h0 : 0 ≤ h) (h1 : h ≤ cap) (w : World) :
    (Instr.slice 73 (.slice (some ⟨g, 0, none⟩) len cap) none (some (.int kh h)) none).run Try.prog w = .ok (.slice (some ⟨g, 0, none⟩) h.toNat cap) w := by
  rw [run_slice_h w 73 _ len cap Try.underlying73 kh h h0 h1, elemP, Try.sizeP]
  simp only [Result.andThen_ok]
  unfold sliced
  by_cases hc : cap = 0
  · simp [hc]
  · simp [hc, add_none]
set_option maxRecDepth 100000 in
theorem sw_from (so : Option Addr) (len cap : Nat) (kl : IntKind) (l : Int) (h0 : 0 ≤ l) (h1 : l ≤ len) (w : World) :
    (Instr.slice 24 (.slice so len cap) (some (.int kl l)) none none).run Try.prog w = .ok (.slice (wFrom so cap l.toNat) (len - l.toNat) (cap - l.toNat)) w := by
  rw [run_slice_l w 24 _ len cap Try.underlying24 kl l h0 h1, elemW, Try.sizeW]
  simp only [Result.andThen_ok]
  rfl
set_option maxRecDepth 100000 in
theorem sw_upto (g : Nat) (len cap : Nat) (kh : IntKind) (h : Int) (h0 : 0 ≤ h) (h1 : h ≤ cap) (w : World) :
    (Instr.slice 24 (.slice (some ⟨g, 0, none⟩) len cap) none (some (.int kh h)) none).run Try.prog w = .ok (.slice (some ⟨g, 0, none⟩) h.toNat cap) w := by
  rw [run_slice_h w 24 _ len cap Try.underlying24 kh h h0 h1, elemW, Try.sizeW]
  simp only [Result.andThen_ok]
  unfold sliced
  by_cases hc : cap = 0
  · simp [hc]
  · simp [hc, add_none]

theorem zero7_len (n : Nat) : (Builtin.zeroCells #[.int .i64 0, .int .i64 0, .int .i64 0, .int .i64 0, .int .i64 0, .bool false, .slice none 0 0] n).toList.length = n * 7 := by simp [Builtin.zeroCells]
theorem zero7_one (n : Nat) : ∀ v ∈ (Builtin.zeroCells #[.int .i64 0, .int .i64 0, .int .i64 0, .int .i64 0, .int .i64 0, .bool false, .slice none 0 0] n).toList, v.oneCell' = true := by
  intro v hv
  simp only [Builtin.zeroCells, Array.toList_map, List.mem_map, Array.toList_range, List.mem_range] at hv
  obtain ⟨i, hi, rfl⟩ := hv
  have h7 : i % 7 = 0 ∨ i % 7 = 1 ∨ i % 7 = 2 ∨ i % 7 = 3 ∨ i % 7 = 4 ∨ i % 7 = 5 ∨ i % 7 = 6 := by omega
  rcases h7 with h | h | h | h | h | h | h <;> simp [h] <;> rfl
/-- The rest of a row of panes cleared. -/
theorem clearP (w : World) (ty : TypeId) (g o n cap : Nat) (cur : Array Value) (hn : 0 < n) (hg : w.heap[g]? = some (.cells cur 109 (0, 0))) (hfit : o + n * 7 ≤ cur.size) :
    ∃ w', (Builtin.clear_ #[73] ty #[.slice (some ⟨g, o, none⟩) n cap]).run Try.prog w = .ok (.tuple #[]) w' ∧ Far g (g + 1) w w' ∧ w'.heap.size = w.heap.size ∧ Blk w' g 109 cur.size ∧ (∀ j, j < o → w'.cell? ⟨g, j, none⟩ = w.cell? ⟨g, j, none⟩) ∧ ∀ c, w'.frozen? ⟨g, c, none⟩ = false := by
  obtain ⟨zs, hzs⟩ : ∃ zs, (Builtin.zeroCells #[.int .i64 0, .int .i64 0, .int .i64 0, .int .i64 0, .int .i64 0, .bool false, .slice none 0 0] n).toList = zs := ⟨_, rfl⟩
  have hzl : zs.length = n * 7 := by rw [← hzs]; exact zero7_len n
  have hz1 : ∀ v ∈ zs, v.oneCell' = true := by rw [← hzs]; exact zero7_one n
  have hst := run_storeCells_at Try.prog g o 109 zs 0 cur w hg (by rw [hzl]; simpa using hfit) hz1
  rw [hzl] at hst
  have hz : (Value.agg #[.int .i64 0, .int .i64 0, .int .i64 0, .int .i64 0, .int .i64 0, .bool false, .slice none 0 0]).cells = #[.int .i64 0, .int .i64 0, .int .i64 0, .int .i64 0, .int .i64 0, .bool false, .slice none 0 0] := by rfl
  obtain ⟨m, rfl⟩ : ∃ m, n = m + 1 := ⟨n - 1, by omega⟩
  simp only [Nat.add_zero] at hst
  have hcl : cur.toList.length = cur.size := by simp
  refine ⟨w.setRow g (cur.toList.take o ++ zs ++ cur.toList.drop (o + (m + 1) * 7)).toArray, by simp [Builtin.clear_, run_underlying Try.underlying73, hz, hzs, hst], ⟨rfl, rfl, rfl, by simp, fun b hb hc => setRow_other w g b _ (by omega)⟩, by simp, ⟨_, setRow_heap w g cur _ _ _ hg, ?_⟩, fun j hj => ?_, fun c => ?_⟩
  · simp only [List.size_toArray, List.length_append, List.length_take, List.length_drop, hzl, hcl]
    omega
  · have h1 := setRow_heap w g cur (cur.toList.take o ++ zs ++ cur.toList.drop (o + (m + 1) * 7)).toArray _ _ hg
    simp only [World.cell?, h1, hg]
    have : (cur.toList.take o ++ zs ++ cur.toList.drop (o + (m + 1) * 7))[j]? = cur.toList[j]? := by
      rw [List.append_assoc, List.getElem?_append_left (by rw [List.length_take, hcl]; omega), List.getElem?_take_of_lt hj]
    simpa using this
  · have h1 := setRow_heap w g cur (cur.toList.take o ++ zs ++ cur.toList.drop (o + (m + 1) * 7)).toArray _ _ hg
    exact frozen_of_row _ g c _ _ h1

theorem first_in {I : List Int} {id : Int} (h : id ∈ I) : ∃ A B, I = A ++ id :: B ∧ ∀ x ∈ A, x ≠ id := by
  induction I with
  | nil => simp at h
  | cons x I ih =>
    by_cases e : x = id
    · exact ⟨[], I, by rw [e]; rfl, fun x h => by simp at h⟩
    · obtain ⟨A, B, hh, hA⟩ := ih (by rcases List.mem_cons.1 h with h | h; exact absurd h.symm e; exact h)
      refine ⟨x :: A, B, by rw [hh]; rfl, fun y hy => ?_⟩
      rcases List.mem_cons.1 hy with rfl | hy
      · exact e
      · exact hA y hy

end Go.Proofs.Ytclfobpmafkgfaa

namespace Go.Proofs.Ytclfobpmafkgfaa
open Go.RowKit Go.Maps
set_option linter.unusedVariables false

/-- What is taken out is told in a box of its own. -/
structure Box1 (w : World) (bx lo hi : Nat) (io : Option Addr) (ic : Nat) (I : List Int) : Prop where
  c0 : w.cell? ⟨bx, 0, none⟩ = some (.slice io I.length ic)
  row : Row .i64 w lo hi io I
  hs : hi ≤ w.heap.size
theorem Box1.keep {w w' : World} {bx lo hi ic : Nat} {io : Option Addr} {I : List Int} (h : Box1 w bx lo hi io ic I) (k : Below w.heap.size w w') : Box1 w' bx lo hi io ic I :=
  ⟨(k.cell (p := ⟨bx, 0, none⟩) (World.block_lt_of_cell? w _ h.c0)).trans h.c0, h.row.keep k h.hs, Nat.le_trans h.hs k.size⟩
theorem Box1.far {w w' : World} {bx lo hi ic g : Nat} {io : Option Addr} {I : List Int} (h : Box1 w bx lo hi io ic I) (f : Far g (g + 1) w w') (h1 : bx ≠ g) (h2 : hi ≤ g ∨ g < lo) : Box1 w' bx lo hi io ic I :=
  ⟨(f.cell bx 0 (World.block_lt_of_cell? w _ h.c0) (by omega)).trans h.c0, h.row.far f (by omega) h.hs, Nat.le_trans h.hs f.size⟩
theorem Box1.lt {w : World} {bx lo hi ic : Nat} {io : Option Addr} {I : List Int} (h : Box1 w bx lo hi io ic I) : bx < w.heap.size := World.block_lt_of_cell? w _ h.c0

end Go.Proofs.Ytclfobpmafkgfaa

namespace Go.Proofs.Ytclfobpmafkgfaa
open Go.RowKit Go.Maps
set_option linter.unusedVariables false

def keepI (I : List Int) (v : Wn) : Bool := !hasI I v.i
/-- One whole element written anew. -/
theorem SpV.whole {w : World} {lo hi g : Nat} {X Y : List Wn} {r s : Wn} (h : SpV Wn.pals w lo hi (some ⟨g, 0, none⟩) (X ++ r :: Y)) :
    SpV Wn.pals (((((((w.setCell ⟨g, X.length * 7, none⟩ (.int .i64 s.x)).setCell ⟨g, X.length * 7 + 1, none⟩ (.int .i64 s.y)).setCell ⟨g, X.length * 7 + 2, none⟩ (.int .i64 s.w)).setCell ⟨g, X.length * 7 + 3, none⟩ (.int .i64 s.h)).setCell ⟨g, X.length * 7 + 4, none⟩ (.int .i64 s.i)).setCell ⟨g, X.length * 7 + 5, none⟩ (.bool s.m)).setCell ⟨g, X.length * 7 + 6, none⟩ (.slice s.b.ao s.b.L.length s.b.cap)) lo hi (some ⟨g, 0, none⟩) (X ++ s :: Y) := by
  rcases h with h | ⟨g', ha, g1, g2, hc, hf⟩
  · simp at h
  · cases ha
    have hr := hc X.length (by simp)
    simp only [List.getElem_append_right (Nat.le_refl _), Nat.sub_self, List.getElem_cons_zero] at hr
    have P := put7 (w := w) (g := g) (o := X.length * 7) (.int .i64 s.x) (.int .i64 s.y) (.int .i64 s.w) (.int .i64 s.h) (.int .i64 s.i) (.bool s.m) (.slice s.b.ao s.b.L.length s.b.cap) (fun j hj => by
      rw [hr j hj]
      match j, hj with
      | 0, _ | 1, _ | 2, _ | 3, _ | 4, _ | 5, _ | 6, _ => exact ⟨_, rfl⟩)
    obtain ⟨P1, P2, P3⟩ := P
    refine .inr ⟨g, rfl, g1, g2, fun i hi => ?_, fun c => by simpa using hf c⟩
    have hi' : i < (X ++ r :: Y).length := by simpa using hi
    by_cases e : i = X.length
    · subst e
      simp only [List.getElem_append_right (Nat.le_refl _), Nat.sub_self, List.getElem_cons_zero]
      exact Cl.mkP P1
    · have e2 : (X ++ s :: Y)[i] = (X ++ r :: Y)[i] := by
        by_cases hx : i < X.length
        · rw [List.getElem_append_left hx, List.getElem_append_left hx]
        · obtain ⟨j, rfl⟩ : ∃ j, i = X.length + (j + 1) := ⟨i - X.length - 1, by omega⟩
          simp
      rw [e2]
      intro j hj
      rw [P2 _ (by omega)]
      exact hc i hi' j hj

/-- A row of panes out of which some are taken: w was ahead of it. -/
structure Cut (w wr : World) (lo hi g m : Nat) (L : List Wn) : Prop where
  far : Far g (g + 1) w wr
  sp : SpV Wn.pals wr lo hi (some ⟨g, 0, none⟩) L
  blk : Blk wr g 109 m
theorem Cut.keep {w wr w' : World} {lo hi g m : Nat} {L : List Wn} (h : Cut w wr lo hi g m L) (hh : hi ≤ w.heap.size) (k : Below wr.heap.size wr w') : Cut w w' lo hi g m L :=
  ⟨h.far.trans (Far.of_below k), h.sp.keep k (Nat.le_trans hh h.far.size), h.blk.keep k⟩
theorem Cut.rest {w wr w5 : World} {lo hi g m : Nat} {L1 L2 : List Wn} (h : Cut w wr lo hi g m (L1 ++ L2)) (f : Far g (g + 1) wr w5) (b : Blk w5 g 109 m) (c : ∀ j, j < L1.length * 7 → w5.cell? ⟨g, j, none⟩ = wr.cell? ⟨g, j, none⟩) (z : ∀ c, w5.frozen? ⟨g, c, none⟩ = false) : Cut w w5 lo hi g m L1 := by
  refine ⟨h.far.trans f, ?_, b⟩
  rcases h.sp with h0 | ⟨g', ha, g1, g2, hc, hf⟩
  · exact .inl (by simp at h0; exact h0.1)
  · cases ha
    refine .inr ⟨g, rfl, g1, g2, fun i hi j hj => ?_, fun c => z c⟩
    have h1 := hc i (by rw [List.length_append]; omega) j hj
    rw [List.getElem_append_left hi] at h1
    rw [c _ (by omega)]
    exact h1
theorem far_7 {w : World} {g o : Nat} (v0 v1 v2 v3 v4 v5 v6 : Value) : Far g (g + 1) w (((((((w.setCell ⟨g, o, none⟩ v0).setCell ⟨g, o + 1, none⟩ v1).setCell ⟨g, o + 2, none⟩ v2).setCell ⟨g, o + 3, none⟩ v3).setCell ⟨g, o + 4, none⟩ v4).setCell ⟨g, o + 5, none⟩ v5).setCell ⟨g, o + 6, none⟩ v6) :=
  ((((((Far.of_set7 ⟨Nat.le_refl _, Nat.lt_succ_self _⟩).trans (Far.of_set7 ⟨Nat.le_refl _, Nat.lt_succ_self _⟩)).trans (Far.of_set7 ⟨Nat.le_refl _, Nat.lt_succ_self _⟩)).trans (Far.of_set7 ⟨Nat.le_refl _, Nat.lt_succ_self _⟩)).trans (Far.of_set7 ⟨Nat.le_refl _, Nat.lt_succ_self _⟩)).trans (Far.of_set7 ⟨Nat.le_refl _, Nat.lt_succ_self _⟩)).trans (Far.of_set7 ⟨Nat.le_refl _, Nat.lt_succ_self _⟩)
theorem Cut.store {w wr : World} {lo hi g m : Nat} {X Y : List Wn} {r : Wn} (h : Cut w wr lo hi g m (X ++ r :: Y)) (s : Wn) :
    Cut w (((((((wr.setCell ⟨g, X.length * 7, none⟩ (.int .i64 s.x)).setCell ⟨g, X.length * 7 + 1, none⟩ (.int .i64 s.y)).setCell ⟨g, X.length * 7 + 2, none⟩ (.int .i64 s.w)).setCell ⟨g, X.length * 7 + 3, none⟩ (.int .i64 s.h)).setCell ⟨g, X.length * 7 + 4, none⟩ (.int .i64 s.i)).setCell ⟨g, X.length * 7 + 5, none⟩ (.bool s.m)).setCell ⟨g, X.length * 7 + 6, none⟩ (.slice s.b.ao s.b.L.length s.b.cap)) lo hi g m (X ++ s :: Y) :=
  ⟨h.far.trans (far_7 _ _ _ _ _ _ _), h.sp.whole, ((((((h.blk.set _ _ _).set _ _ _).set _ _ _).set _ _ _).set _ _ _).set _ _ _).set _ _ _⟩

/-- The first one that is meant. -/
theorem del_or (I : List Int) (L : List Wn) : (∀ v ∈ L, hasI I v.i = false) ∨ ∃ X r Y, L = X ++ r :: Y ∧ (∀ v ∈ X, hasI I v.i = false) ∧ hasI I r.i = true := by
  induction L with
  | nil => exact .inl fun v h => by simp at h
  | cons r L ih =>
    cases hr : hasI I r.i
    · rcases ih with h | ⟨X, s, Y, h1, h2, h3⟩
      · refine .inl fun v hv => ?_
        rcases List.mem_cons.1 hv with rfl | hv
        · exact hr
        · exact h v hv
      · refine .inr ⟨r :: X, s, Y, by rw [h1]; rfl, fun v hv => ?_, h3⟩
        rcases List.mem_cons.1 hv with rfl | hv
        · exact hr
        · exact h2 v hv
    · exact .inr ⟨[], r, L, rfl, fun v hv => by simp at hv, hr⟩
theorem keep_all {I : List Int} {L : List Wn} (h : ∀ v ∈ L, hasI I v.i = false) : L.filter (keepI I) = L :=
  List.filter_eq_self.2 fun v hv => by unfold keepI; rw [h v hv]; rfl

/-- Panes of which some are taken out. -/
theorem Pan.cut {w w' : World} {lo hi g m : Nat} {L N : List Wn} (h : Pan w lo hi (some ⟨g, 0, none⟩) L) (hl : lo ≤ g) (C : Cut w w' lo hi g m N) (hN : N.Sublist L) : Pan w' lo w'.heap.size (some ⟨g, 0, none⟩) N := by
  have hm : (N.map Wn.b).Sublist (L.map Wn.b) := hN.map _
  have hsz := C.far.size
  refine ⟨⟨Nat.le_trans h.q.le (Nat.le_trans h.q.hs hsz), Nat.le_refl _, ?_, C.sp.wide (Nat.le_refl _) (Nat.le_trans h.q.hs hsz), fun g' hg b hb => ?_⟩, fun b hb => ?_⟩
  · have S := h.q.cis.sub hm
    refine ⟨fun b hb => Ci.on_far (S.each b hb) C.far fun e => ⟨?_, Ci.lt (S.each b hb) e⟩, fun b hb e => ?_, S.apart⟩
    · have := h.q.ne g rfl b (hm.subset hb) e
      omega
    · have := S.inn b hb e
      have := h.q.hs
      omega
  · cases hg
    exact h.q.ne g rfl b (hm.subset hb)
  · have := h.ty b (hm.subset hb)
    intro hn
    have hne := h.q.ne g rfl b (hm.subset hb) hn
    obtain ⟨cs, fr, he⟩ := this hn
    exact ⟨cs, fr, (C.far.block b.g (Array.getElem?_eq_some_iff.1 he).1 (by omega)).trans he⟩
end Go.Proofs.Ytclfobpmafkgfaa
