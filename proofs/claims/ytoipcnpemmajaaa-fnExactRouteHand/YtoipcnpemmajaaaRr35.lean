/- What a hand does: the mathematics. -/
import Derived.Test.YtoipcnpemmajaaaRr26
import Derived.Test.YtoipcnpemmajaaaRr29
import Derived.Test.YtoipcnpemmajaaaRr34
namespace Go.Proofs.Ytoipcnpemmajaaa
open Go.RowKit Go.Maps
set_option linter.unusedVariables false

/-- The topmost one that is hit. -/
def topC (p q : Int) : List Wc → Option Wc
  | [] => none
  | c :: C => match topC p q C with
    | some i => some i
    | none => if hitC p q c then some c else none
theorem topC_none {p q : Int} {L : List Wn} (h : ∀ v ∈ L, hitW p q v = false) : topC p q (L.map Wn.ct) = none := by
  induction L with
  | nil => rfl
  | cons v L ih =>
    have h1 : hitC p q v.ct = false := h v (by simp)
    simp only [List.map_cons, topC, ih fun u hu => h u (by simp [hu]), h1]
    rfl
theorem topC_some {p q : Int} {L A B : List Wn} {r : Wn} (h : Top p q L A r B) : topC p q (L.map Wn.ct) = some r.ct := by
  rw [h.eq]
  have hy := h.yes
  have hn := topC_none h.no
  clear h
  induction A with
  | nil =>
    have h1 : hitC p q r.ct = true := hy
    simp only [List.nil_append, List.map_cons, topC, hn, h1, if_true]
  | cons v A ih => simp only [List.cons_append, List.map_cons, topC, ih]

/-- What a hand does. -/
structure Rt where
  z : Int
  tg : Int
  kd : Int
  D : List Int
  tr : Bool
  fo : Int
def rtNo (z : Int) : Rt := ⟨z, 0, 0, [], false, 0⟩
def clickR (o : Option Wc) (a b : Int) : Rt := match o with
  | none => ⟨0, 0, 0, [], false, 0⟩
  | some c => ⟨0, c.i, 5, [c.i, a - c.x, b - c.y], false, c.i⟩
def keyR (f a : Int) : Rt := if f = 0 then ⟨0, 0, 0, [], false, f⟩ else ⟨0, f, 4, [a], false, f⟩
def rtA (C : List Wc) (t : Bool) (f k a b : Int) : Rt :=
  if k = 3 then ⟨0, 0, 0, [], true, f⟩ else if k = 4 then ⟨0, 0, 0, [], false, f⟩ else if t then ⟨0, 0, 0, [], true, f⟩
  else if k = 2 then clickR (if b = 0 then none else topC a b C) a b else keyR f a
def rtR (C : List Wc) (t : Bool) (f k a b : Int) : Rt := if inpF C f = 0 then (if hF k a b = 0 then rtA C t f k a b else rtNo (hF k a b)) else rtNo (inpF C f)
/-- The answer, in memory. -/
def RtA (r : Rt) (W : World) : Ending → World → Prop := fun e w' => ∃ so ca, e = .returned (.agg #[.int .i64 r.z, .int .i64 r.tg, .int .i64 r.kd, .slice so r.D.length ca, .bool r.tr, .int .i64 r.fo]) ∧ OwnR .u8 5 w' W.heap.size so ca r.D ∧ Below W.heap.size W w'

theorem ok_range {x : Int} (h : okId x = true) : 1 ≤ x ∧ x ≤ 255 := by
  obtain ⟨h1, h2⟩ := okId_iff.1 h
  omega
structure TopF (L A B : List Wn) (r : Wn) (a b : Int) : Prop where
  id : 1 ≤ r.i ∧ r.i ≤ 255
  x : 0 ≤ a - r.x ∧ a - r.x ≤ 7
  y : 0 ≤ b - r.y ∧ b - r.y ≤ 5
  fst : Fst r.i L A r B
theorem top_facts {L A B : List Wn} {r : Wn} {a b : Int} (h : stF (L.map Wn.ct) = 0) (ht : Top a b L A r B) : TopF L A B r a b := by
  obtain ⟨h1, h2⟩ := stF_ok h
  obtain ⟨h3, h4⟩ := idsF_ok h1
  rw [mapI] at h3 h4
  have hm : r ∈ L := by rw [ht.eq]; simp
  have hid := h3 r.i (List.mem_map_of_mem hm)
  have hw := wsF_mem h2 r.ct (List.mem_map_of_mem hm)
  obtain ⟨w1, w2, w3, w4, w5⟩ := wrB_no (winF_no hw).1
  have w3' : 1 ≤ r.w ∧ r.w ≤ 8 := w3
  have w4' : 1 ≤ r.h ∧ r.h ≤ 6 := w4
  have hy := ht.yes
  unfold hitW inB at hy
  simp only [Bool.and_eq_true, decide_eq_true_eq] at hy
  refine ⟨ok_range hid, by omega, by omega, ht.eq, rfl, fun v hv e => ?_⟩
  rw [ht.eq, List.map_append, List.map_cons, List.nodup_append] at h4
  exact h4.2.2 v.i (List.mem_map_of_mem hv) r.i (by simp) e
theorem no_zero {L : List Wn} (h : stF (L.map Wn.ct) = 0) : ∀ v ∈ L, v.i ≠ 0 := by
  intro v hv e
  obtain ⟨h3, h4⟩ := idsF_ok (stF_ok h).1
  rw [mapI] at h3
  have := (ok_range (h3 v.i (List.mem_map_of_mem hv))).1
  omega
theorem byte3 {L A B : List Wn} {r : Wn} {a b : Int} (h : TopF L A B r a b) : [r.i, a - r.x, b - r.y].all byB = true := by
  obtain ⟨h1, h2, h3, _⟩ := h
  simp [byB]
  omega
/-- A box of six cells. -/
structure R6 (w : World) (b : Nat) (v0 v1 v2 v3 v4 v5 : Value) : Prop where
  c0 : w.cell? ⟨b, 0, none⟩ = some v0
  c1 : w.cell? ⟨b, 1, none⟩ = some v1
  c2 : w.cell? ⟨b, 2, none⟩ = some v2
  c3 : w.cell? ⟨b, 3, none⟩ = some v3
  c4 : w.cell? ⟨b, 4, none⟩ = some v4
  c5 : w.cell? ⟨b, 5, none⟩ = some v5
  fr : ∀ c, w.frozen? ⟨b, c, none⟩ = false
  lt : b < w.heap.size
theorem R6.keep {w w' : World} {b B : Nat} {v0 v1 v2 v3 v4 v5 : Value} (h : R6 w b v0 v1 v2 v3 v4 v5) (k : Below B w w') (hb : b < B) : R6 w' b v0 v1 v2 v3 v4 v5 :=
  ⟨(k.cell (p := ⟨b, 0, none⟩) hb).trans h.c0, (k.cell (p := ⟨b, 1, none⟩) hb).trans h.c1, (k.cell (p := ⟨b, 2, none⟩) hb).trans h.c2, (k.cell (p := ⟨b, 3, none⟩) hb).trans h.c3, (k.cell (p := ⟨b, 4, none⟩) hb).trans h.c4, (k.cell (p := ⟨b, 5, none⟩) hb).trans h.c5, fun c => (k.frozen (p := ⟨b, c, none⟩) hb).trans (h.fr c), Nat.lt_of_lt_of_le h.lt k.size⟩
theorem R6.far {w w' : World} {b lo hi : Nat} {v0 v1 v2 v3 v4 v5 : Value} (h : R6 w b v0 v1 v2 v3 v4 v5) (f : Far lo hi w w') (hd : b < lo ∨ hi ≤ b) : R6 w' b v0 v1 v2 v3 v4 v5 :=
  ⟨(f.cell b 0 h.lt hd).trans h.c0, (f.cell b 1 h.lt hd).trans h.c1, (f.cell b 2 h.lt hd).trans h.c2, (f.cell b 3 h.lt hd).trans h.c3, (f.cell b 4 h.lt hd).trans h.c4, (f.cell b 5 h.lt hd).trans h.c5, fun c => (f.frozen b c h.lt hd).trans (h.fr c), Nat.lt_of_lt_of_le h.lt f.size⟩
theorem r6_new (w : World) (v0 v1 v2 v3 v4 v5 : Value) (T : TypeId) : R6 (w.alloc (.cells #[v0, v1, v2, v3, v4, v5] T)) w.heap.size v0 v1 v2 v3 v4 v5 := ⟨by simp, by simp, by simp, by simp, by simp, by simp, by simp, by simp⟩
abbrev six (w : World) (b : Nat) (v0 v1 v2 v3 v4 v5 : Value) : World := ((((((w.setCell ⟨b, 0, none⟩ v0).setCell ⟨b, 1, none⟩ v1).setCell ⟨b, 2, none⟩ v2).setCell ⟨b, 3, none⟩ v3).setCell ⟨b, 4, none⟩ v4).setCell ⟨b, 5, none⟩ v5)
theorem six_size (w : World) (b : Nat) (v0 v1 v2 v3 v4 v5 : Value) : (six w b v0 v1 v2 v3 v4 v5).heap.size = w.heap.size := by simp [six]
theorem six_below {lo : Nat} {W w : World} {b : Nat} (v0 v1 v2 v3 v4 v5 : Value) (h : Below lo W w) (hb : lo ≤ b) : Below lo W (six w b v0 v1 v2 v3 v4 v5) :=
  (((((h.setCell (p := ⟨b, 0, none⟩) hb v0).setCell (p := ⟨b, 1, none⟩) hb v1).setCell (p := ⟨b, 2, none⟩) hb v2).setCell (p := ⟨b, 3, none⟩) hb v3).setCell (p := ⟨b, 4, none⟩) hb v4).setCell (p := ⟨b, 5, none⟩) hb v5
theorem six_own {w : World} {base b : Nat} {so : Option Addr} {ca : Nat} {D : List Int} (v0 v1 v2 v3 v4 v5 : Value) (O : OwnR .u8 5 w base so ca D) (hb : b < base) : OwnR .u8 5 (six w b v0 v1 v2 v3 v4 v5) base so ca D :=
  (((((O.set ⟨b, 0, none⟩ v0 hb).set ⟨b, 1, none⟩ v1 hb).set ⟨b, 2, none⟩ v2 hb).set ⟨b, 3, none⟩ v3 hb).set ⟨b, 4, none⟩ v4 hb).set ⟨b, 5, none⟩ v5 hb
theorem rt_six {r : Rt} {W w : World} {b base : Nat} {so : Option Addr} {ca : Nat} (O : OwnR .u8 5 w base so ca r.D) (hb : b < base) (h0 : W.heap.size ≤ b) (k : Below W.heap.size W w) :
    RtA r W (.returned (.agg #[.int .i64 r.z, .int .i64 r.tg, .int .i64 r.kd, .slice so r.D.length ca, .bool r.tr, .int .i64 r.fo])) (six w b (.int .i64 r.z) (.int .i64 r.tg) (.int .i64 r.kd) (.slice so r.D.length ca) (.bool r.tr) (.int .i64 r.fo)) :=
  ⟨so, ca, rfl, (six_own _ _ _ _ _ _ O hb).le (by omega), six_below _ _ _ _ _ _ k h0⟩
end Go.Proofs.Ytoipcnpemmajaaa
