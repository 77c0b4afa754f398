/- What a hand does: the mathematics. Rows of bytes: copied, held against each other, marked. Numbers told as bytes by the program, where all of them are bytes. -/
import Derived.Test.YtdigknenijmjcaaRr21
import Derived.Test.YtdigknenijmjcaaRr24
import Derived.Test.YtdigknenijmjcaaRr33
import Derived.Test.YtdigknenijmjcaaRr3
import Derived.Test.YtdigknenijmjcaaRr4
import Derived.Test.YtdigknenijmjcaaRr14
namespace Go.Proofs.Ytdigknenijmjcaa
open Go.RowKit Go.Maps
set_option linter.unusedVariables false

/-- The topmost one that is hit. -/
def topC (p q : Int) : List Wc → Option Wc
  | [] => none
  | c :: C => match topC p q C with
    | some i => some i
    | none => if hitC p q c then some c else none
theorem topC_none {p q : Int} {L : List Wn} (h : ∀ v ∈ L, hitW p q v = false) : topC p q (L.map Wn.ct) = none := by
  induction L with
  | nil => rfl
  | cons v L ih =>
    have h1 : hitC p q v.ct = false := h v (by simp)
    simp only [List.map_cons, topC, ih fun u hu => h u (by simp [hu]), h1]
    rfl
theorem topC_some {p q : Int} {L A B : List Wn} {r : Wn} (h : Top p q L A r B) : topC p q (L.map Wn.ct) = some r.ct := by
  rw [h.eq]
  have hy := h.yes
  have hn := topC_none h.no
  clear h
  induction A with
  | nil =>
    have h1 : hitC p q r.ct = true := hy
    simp only [List.nil_append, List.map_cons, topC, hn, h1, if_true]
  | cons v A ih => simp only [List.cons_append, List.map_cons, topC, ih]

/-- What a hand does. -/
structure Rt where
  z : Int
  tg : Int
  kd : Int
  D : List Int
  tr : Bool
  fo : Int
def rtNo (z : Int) : Rt := ⟨z, 0, 0, [], false, 0⟩
def clickR (o : Option Wc) (a b : Int) : Rt := match o with
  | none => ⟨0, 0, 0, [], false, 0⟩
  | some c => ⟨0, c.i, 5, [c.i, a - c.x, b - c.y], false, c.i⟩
def keyR (f a : Int) : Rt := if f = 0 then ⟨0, 0, 0, [], false, f⟩ else ⟨0, f, 4, [a], false, f⟩
def rtA (C : List Wc) (t : Bool) (f k a b : Int) : Rt :=
  if k = 3 then ⟨0, 0, 0, [], true, f⟩ else if k = 4 then ⟨0, 0, 0, [], false, f⟩ else if t then ⟨0, 0, 0, [], true, f⟩
  else if k = 2 then clickR (if b = 0 then none else topC a b C) a b else keyR f a
def rtR (C : List Wc) (t : Bool) (f k a b : Int) : Rt := if inpF C f = 0 then (if hF k a b = 0 then rtA C t f k a b else rtNo (hF k a b)) else rtNo (inpF C f)
/-- The answer, in memory. -/
def RtA (r : Rt) (W : World) : Ending → World → Prop := fun e w' => ∃ so ca, e = .returned (.agg #[.int .i64 r.z, .int .i64 r.tg, .int .i64 r.kd, .slice so r.D.length ca, .bool r.tr, .int .i64 r.fo]) ∧ OwnR .u8 5 w' W.heap.size so ca r.D ∧ Below W.heap.size W w'

theorem ok_range {x : Int} (h : okId x = true) : 1 ≤ x ∧ x ≤ 255 := by
  obtain ⟨h1, h2⟩ := okId_iff.1 h
  omega
structure TopF (L A B : List Wn) (r : Wn) (a b : Int) : Prop where
  id : 1 ≤ r.i ∧ r.i ≤ 255
  x : 0 ≤ a - r.x ∧ a - r.x ≤ 7
  y : 0 ≤ b - r.y ∧ b - r.y ≤ 5
  fst : Fst r.i L A r B
theorem top_facts {L A B : List Wn} {r : Wn} {a b : Int} (h : stF (L.map Wn.ct) = 0) (ht : Top a b L A r B) : TopF L A B r a b := by
  obtain ⟨h1, h2⟩ := stF_ok h
  obtain ⟨h3, h4⟩ := idsF_ok h1
  rw [mapI] at h3 h4
  have hm : r ∈ L := by rw [ht.eq]; simp
  have hid := h3 r.i (List.mem_map_of_mem hm)
  have hw := wsF_mem h2 r.ct (List.mem_map_of_mem hm)
  obtain ⟨w1, w2, w3, w4, w5⟩ := wrB_no (winF_no hw).1
  have w3' : 1 ≤ r.w ∧ r.w ≤ 8 := w3
  have w4' : 1 ≤ r.h ∧ r.h ≤ 6 := w4
  have hy := ht.yes
  unfold hitW inB at hy
  simp only [Bool.and_eq_true, decide_eq_true_eq] at hy
  refine ⟨ok_range hid, by omega, by omega, ht.eq, rfl, fun v hv e => ?_⟩
  rw [ht.eq, List.map_append, List.map_cons, List.nodup_append] at h4
  exact h4.2.2 v.i (List.mem_map_of_mem hv) r.i (by simp) e
theorem no_zero {L : List Wn} (h : stF (L.map Wn.ct) = 0) : ∀ v ∈ L, v.i ≠ 0 := by
  intro v hv e
  obtain ⟨h3, h4⟩ := idsF_ok (stF_ok h).1
  rw [mapI] at h3
  have := (ok_range (h3 v.i (List.mem_map_of_mem hv))).1
  omega
theorem byte3 {L A B : List Wn} {r : Wn} {a b : Int} (h : TopF L A B r a b) : [r.i, a - r.x, b - r.y].all byB = true := by
  obtain ⟨h1, h2, h3, _⟩ := h
  simp [byB]
  omega
/-- A box of six cells. -/
structure R6 (w : World) (b : Nat) (v0 v1 v2 v3 v4 v5 : Value) : Prop where
  c0 : w.cell? ⟨b, 0, none⟩ = some v0
  c1 : w.cell? ⟨b, 1, none⟩ = some v1
  c2 : w.cell? ⟨b, 2, none⟩ = some v2
  c3 : w.cell? ⟨b, 3, none⟩ = some v3
  c4 : w.cell? ⟨b, 4, none⟩ = some v4
  c5 : w.cell? ⟨b, 5, none⟩ = some v5
  fr : ∀ c, w.frozen? ⟨b, c, none⟩ = false
  lt : b < w.heap.size
theorem R6.keep {w w' : World} {b B : Nat} {v0 v1 v2 v3 v4 v5 : Value} (h : R6 w b v0 v1 v2 v3 v4 v5) (k : Below B w w') (hb : b < B) : R6 w' b v0 v1 v2 v3 v4 v5 :=
  ⟨(k.cell (p := ⟨b, 0, none⟩) hb).trans h.c0, (k.cell (p := ⟨b, 1, none⟩) hb).trans h.c1, (k.cell (p := ⟨b, 2, none⟩) hb).trans h.c2, (k.cell (p := ⟨b, 3, none⟩) hb).trans h.c3, (k.cell (p := ⟨b, 4, none⟩) hb).trans h.c4, (k.cell (p := ⟨b, 5, none⟩) hb).trans h.c5, fun c => (k.frozen (p := ⟨b, c, none⟩) hb).trans (h.fr c), Nat.lt_of_lt_of_le h.lt k.size⟩
theorem R6.far {w w' : World} {b lo hi : Nat} {v0 v1 v2 v3 v4 v5 : Value} (h : R6 w b v0 v1 v2 v3 v4 v5) (f : Far lo hi w w') (hd : b < lo ∨ hi ≤ b) : R6 w' b v0 v1 v2 v3 v4 v5 :=
  ⟨(f.cell b 0 h.lt hd).trans h.c0, (f.cell b 1 h.lt hd).trans h.c1, (f.cell b 2 h.lt hd).trans h.c2, (f.cell b 3 h.lt hd).trans h.c3, (f.cell b 4 h.lt hd).trans h.c4, (f.cell b 5 h.lt hd).trans h.c5, fun c => (f.frozen b c h.lt hd).trans (h.fr c), Nat.lt_of_lt_of_le h.lt f.size⟩
theorem r6_new (w : World) (v0 v1 v2 v3 v4 v5 : Value) (T : TypeId) : R6 (w.alloc (.cells #[v0, v1, v2, v3, v4, v5] T)) w.heap.size v0 v1 v2 v3 v4 v5 := ⟨by simp, by simp, by simp, by simp, by simp, by simp, by simp, by simp⟩
abbrev six (w : World) (b : Nat) (v0 v1 v2 v3 v4 v5 : Value) : World := ((((((w.setCell ⟨b, 0, none⟩ v0).setCell ⟨b, 1, none⟩ v1).setCell ⟨b, 2, none⟩ v2).setCell ⟨b, 3, none⟩ v3).setCell ⟨b, 4, none⟩ v4).setCell ⟨b, 5, none⟩ v5)
theorem six_size (w : World) (b : Nat) (v0 v1 v2 v3 v4 v5 : Value) : (six w b v0 v1 v2 v3 v4 v5).heap.size = w.heap.size := by simp [six]
theorem six_below {lo : Nat} {W w : World} {b : Nat} (v0 v1 v2 v3 v4 v5 : Value) (h : Below lo W w) (hb : lo ≤ b) : Below lo W (six w b v0 v1 v2 v3 v4 v5) :=
  (((((h.setCell (p := ⟨b, 0, none⟩) hb v0).setCell (p := ⟨b, 1, none⟩) hb v1).setCell (p := ⟨b, 2, none⟩) hb v2).setCell (p := ⟨b, 3, none⟩) hb v3).setCell (p := ⟨b, 4, none⟩) hb v4).setCell (p := ⟨b, 5, none⟩) hb v5
theorem six_own {w : World} {base b : Nat} {so : Option Addr} {ca : Nat} {D : List Int} (v0 v1 v2 v3 v4 v5 : Value) (O : OwnR .u8 5 w base so ca D) (hb : b < base) : OwnR .u8 5 (six w b v0 v1 v2 v3 v4 v5) base so ca D :=
  (((((O.set ⟨b, 0, none⟩ v0 hb).set ⟨b, 1, none⟩ v1 hb).set ⟨b, 2, none⟩ v2 hb).set ⟨b, 3, none⟩ v3 hb).set ⟨b, 4, none⟩ v4 hb).set ⟨b, 5, none⟩ v5 hb
theorem rt_six {r : Rt} {W w : World} {b base : Nat} {so : Option Addr} {ca : Nat} (O : OwnR .u8 5 w base so ca r.D) (hb : b < base) (h0 : W.heap.size ≤ b) (k : Below W.heap.size W w) :
    RtA r W (.returned (.agg #[.int .i64 r.z, .int .i64 r.tg, .int .i64 r.kd, .slice so r.D.length ca, .bool r.tr, .int .i64 r.fo])) (six w b (.int .i64 r.z) (.int .i64 r.tg) (.int .i64 r.kd) (.slice so r.D.length ca) (.bool r.tr) (.int .i64 r.fo)) :=
  ⟨so, ca, rfl, (six_own _ _ _ _ _ _ O hb).le (by omega), six_below _ _ _ _ _ _ k h0⟩
end Go.Proofs.Ytdigknenijmjcaa

namespace Go.Proofs.Ytdigknenijmjcaa
open Go.RowKit
set_option linter.unusedVariables false

theorem Try.infoB : (Try.prog.info? 5).map (fun i => (i.zero, i.size, i.bytes)) = some (some (.int .u8 0), 1, 1) := by kernel_rfl

/-- What number a place is marked with. -/
def mkB (k : Int) (i : Nat) : Int := (k + i) % 256

end Go.Proofs.Ytdigknenijmjcaa

namespace Go.Proofs.Ytdigknenijmjcaa
open Go.RowKit
set_option linter.unusedVariables false

set_option maxHeartbeats 2000000 in
theorem tellW_any (lo hi base : Nat) (ao bo : Option Addr) (cap cb : Nat) (M L : List Int) (w : World) (hO : OwnR .u8 5 w base ao cap M) (hR : Row .i64 w lo hi bo L) (hb : base ≤ w.heap.size) (hh : hi ≤ base) (hl : M.length + L.length ≤ 1048576) (hB : L.all byB = true) :
    Calls Try.prog 80 #[.slice ao M.length cap, .slice bo L.length cb] w fun e w' => ∃ ao' cap', e = .returned (.slice ao' (M ++ L).length cap') ∧ OwnR .u8 5 w' base ao' cap' (M ++ L) ∧ Below base w w' := by
  have HO := hideP hO
  have HR := hideP hR
  have HB := hideP hB
  have hl' : (L.length : Int) ≤ 1048576 := by omega
  have hll : L.length ≤ 1048576 := by omega
  clear hO hR hB
  go_enter Try.func80, Try.ntmps80
  go_wp2
  go_loopw [0, 9] (fun t i wr => ∃ (j : Nat) (ao' : Option Addr) (cap' : Nat), j ≤ L.length ∧ i = .int .i64 j ∧ t = .slice ao' (M ++ L.take j).length cap' ∧ OwnR .u8 5 wr base ao' cap' (M ++ L.take j) ∧ Below base w wr) (fun _ i _ => L.length - (intOf i).toNat)
  case atStart => exact ⟨0, ao, cap, Nat.zero_le _, rfl, by simp, by simpa using HO.out, Below.refl _ _⟩
  case round =>
    obtain ⟨j, ao1, cap1, hj, rfl, rfl, O1, K1⟩ := hrel
    have HO1 := hideP O1
    have HK1 := hideP K1
    have hz := K1.size
    clear O1 K1
    by_cases hlt : j < L.length
    · have hlt' : (j : Int) < (L.length : Int) := by omega
      have hne : L ≠ [] := fun e => by rw [e] at hlt; simp at hlt
      rcases HR.out with e | ⟨g, o, rfl, _, hg, hc⟩
      · exact absurd e hne
      have a0 := (HK1.out.cell (p := ⟨g, o + j, none⟩) (by show g < base; omega)).trans (hc j hlt)
      have hx : 0 ≤ L[j] ∧ L[j] ≤ 255 := byB_yes (List.all_eq_true.1 HB.out L[j] (List.getElem_mem hlt))
      have HT : Hid (M ++ L.take (j + 1) = (M ++ L.take j) ++ [L[j]]) := hideP (by rw [List.take_succ_eq_append_getElem hlt, List.append_assoc])
      have HL1 := hideP (show (M ++ L.take j).length ≤ 1048576 by simp; omega)
      clear hc hne
      generalize L[j] = x at *
      obtain ⟨x0, x1⟩ := hx
      have hm : x % 256 = x := by omega
      generalize M ++ L.take j = M1 at *
      go_wp2_with (first | (at_builtin; refine wpList_app (k := .u8) (T := 5) (S := 52) (bytes := 1) Try.underlying52 Try.infoB (by omega) rfl _ _ rfl base ao1 cap1 M1 rfl (HO1.out.alloc _) _ 1 [x] rfl (src_one .u8 wr x 5) (by have := HL1.out; simp; omega) (by simp; omega) ?_; intro ao2 cap2 w2 O2 K2; refine Hid.out ?_) | go_in)
      have HO2 := hideP O2
      have HK2 : Hid (Below base w w2) := hideP ((HK1.out.alloc (by omega) _).trans K2)
      clear O2 K2
      refine hideP ?_
      go_wp2
      go_roundw
      case rel => exact ⟨j + 1, ao2, cap2, by omega, by go_num, by rw [HT.out]; simp, by rw [HT.out]; exact HO2.out, HK2.out⟩
      case measure => simp [intOf]; omega
    · obtain rfl : j = L.length := by omega
      rw [List.take_length] at HO1
      go_wp2
      go_returns
      exact ⟨ao1, cap1, by rw [List.take_length]; rfl, HO1.out, HK1.out⟩

theorem tellW_nil (lo hi : Nat) (bo : Option Addr) (cb : Nat) (L : List Int) (w : World) (hR : Row .i64 w lo hi bo L) (hh : hi ≤ w.heap.size) (hl : L.length ≤ 1048576) (hB : L.all byB = true) :
    Calls Try.prog 80 #[.slice none 0 0, .slice bo L.length cb] w fun e w' => ∃ ao' cap', e = .returned (.slice ao' L.length cap') ∧ OwnR .u8 5 w' w.heap.size ao' cap' L ∧ Below w.heap.size w w' :=
  tellW_any lo hi w.heap.size none bo 0 cb [] L w (OwnR.nil _ _ _ _) hR (Nat.le_refl _) hh (by simpa using hl) hB

end Go.Proofs.Ytdigknenijmjcaa
