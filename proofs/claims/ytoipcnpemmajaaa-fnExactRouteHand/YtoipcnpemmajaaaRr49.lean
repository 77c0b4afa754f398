/- What RouteHand answers: held against each other, marked, in a box. -/
import Derived.Test.YtoipcnpemmajaaaRr44
import Derived.Test.YtoipcnpemmajaaaRr47
import Derived.Test.YtoipcnpemmajaaaRr36
import Derived.Test.YtoipcnpemmajaaaRr48
import Derived.Test.YtoipcnpemmajaaaRr23
import Derived.Test.YtoipcnpemmajaaaRr37
namespace Go.Proofs.Ytoipcnpemmajaaa
open Go.RowKit Go.Maps
set_option linter.unusedVariables false

theorem I2.far {w w' : World} {g lo hi : Nat} {t : Bool} {f : Int} (h : I2 w g t f) (F : Far lo hi w w') (hd : g < lo ∨ hi ≤ g) : I2 w' g t f :=
  ⟨(F.cell g 0 h.lt hd).trans h.c0, (F.cell g 1 h.lt hd).trans h.c1, Nat.lt_of_lt_of_le h.lt F.size⟩
theorem H3.far {w w' : World} {g lo hi : Nat} {k a b : Int} (h : H3 w g k a b) (F : Far lo hi w w') (hd : g < lo ∨ hi ≤ g) : H3 w' g k a b :=
  ⟨(F.cell g 0 h.lt hd).trans h.c0, (F.cell g 1 h.lt hd).trans h.c1, (F.cell g 2 h.lt hd).trans h.c2⟩
theorem h3_new (w : World) (k a b : Int) (T : TypeId) : H3 (w.alloc (.cells #[.int .i64 k, .int .i64 a, .int .i64 b] T)) w.heap.size k a b := ⟨by simp, by simp, by simp⟩
theorem r6_at {w : World} {B : Nat} {v0 v1 v2 v3 v4 v5 : Value} {T : TypeId} (h : w.heap[B]? = some (.cells #[v0, v1, v2, v3, v4, v5] T)) : R6 w B v0 v1 v2 v3 v4 v5 := by
  have hB : B < w.heap.size := (Array.getElem?_eq_some_iff.1 h).1
  exact ⟨by simp [World.cell?, h], by simp [World.cell?, h], by simp [World.cell?, h], by simp [World.cell?, h], by simp [World.cell?, h], by simp [World.cell?, h], fun c => by simp [World.frozen?, h], hB⟩
theorem R6.put {w : World} {b : Nat} {v0 v1 v2 v3 v4 v5 : Value} (h : R6 w b v0 v1 v2 v3 v4 v5) (u0 u1 u2 u3 u4 u5 : Value) : R6 (six w b u0 u1 u2 u3 u4 u5) b u0 u1 u2 u3 u4 u5 := by
  refine ⟨?_, ?_, ?_, ?_, ?_, ?_, fun c => by simpa using h.fr c, by simpa using h.lt⟩
  · iterate 5 rw [cell_set_other (by omega)]
    exact cell_set_same h.c0
  · iterate 4 rw [cell_set_other (by omega)]
    exact cell_set_same ((cell_set_other (by omega)).trans h.c1)
  · iterate 3 rw [cell_set_other (by omega)]
    exact cell_set_same ((cell_set_other (by omega)).trans ((cell_set_other (by omega)).trans h.c2))
  · iterate 2 rw [cell_set_other (by omega)]
    exact cell_set_same ((cell_set_other (by omega)).trans ((cell_set_other (by omega)).trans ((cell_set_other (by omega)).trans h.c3)))
  · rw [cell_set_other (by omega)]
    exact cell_set_same ((cell_set_other (by omega)).trans ((cell_set_other (by omega)).trans ((cell_set_other (by omega)).trans ((cell_set_other (by omega)).trans h.c4))))
  · exact cell_set_same ((cell_set_other (by omega)).trans ((cell_set_other (by omega)).trans ((cell_set_other (by omega)).trans ((cell_set_other (by omega)).trans ((cell_set_other (by omega)).trans h.c5)))))
theorem far_sixR {w : World} {b : Nat} (u0 u1 u2 u3 u4 u5 : Value) : Far b (b + 1) w (six w b u0 u1 u2 u3 u4 u5) :=
  ((((((Far.refl b (b + 1) w).setCell (p := ⟨b, 0, none⟩) (Nat.le_refl _) (Nat.lt_succ_self _) u0).setCell (p := ⟨b, 1, none⟩) (Nat.le_refl _) (Nat.lt_succ_self _) u1).setCell (p := ⟨b, 2, none⟩) (Nat.le_refl _) (Nat.lt_succ_self _) u2).setCell (p := ⟨b, 3, none⟩) (Nat.le_refl _) (Nat.lt_succ_self _) u3).setCell (p := ⟨b, 4, none⟩) (Nat.le_refl _) (Nat.lt_succ_self _) u4).setCell (p := ⟨b, 5, none⟩) (Nat.le_refl _) (Nat.lt_succ_self _) u5

theorem clickR_len (o : Option Wc) (a b : Int) : (clickR o a b).D.length ≤ 3 := by cases o <;> simp [clickR]
theorem rtR_len (C : List Wc) (t : Bool) (f k a b : Int) : (rtR C t f k a b).D.length ≤ 3 := by
  unfold rtR rtA keyR rtNo
  repeat' split
  all_goals first | exact clickR_len _ _ _ | (simp; done)

/-- A result in its box, its bytes in memory of its own. -/
structure PR (W : World) (b lo hi : Nat) (r : Rt) (ao : Option Addr) (ca : Nat) : Prop where
  box : R6 W b (.int .i64 r.z) (.int .i64 r.tg) (.int .i64 r.kd) (.slice ao r.D.length ca) (.bool r.tr) (.int .i64 r.fo)
  row : Wrt .u8 W lo hi ao r.D
  le : lo ≤ hi
  hs : hi ≤ W.heap.size
theorem PR.keep {W W' : World} {b lo hi B : Nat} {r : Rt} {ao : Option Addr} {ca : Nat} (h : PR W b lo hi r ao ca) (k : Below B W W') (hb : b < B) (hh : hi ≤ B) : PR W' b lo hi r ao ca :=
  ⟨h.box.keep k hb, h.row.keep k hh, h.le, Nat.le_trans h.hs k.size⟩
theorem PR.far {W W' : World} {b lo hi lo' hi' : Nat} {r : Rt} {ao : Option Addr} {ca : Nat} (h : PR W b lo hi r ao ca) (f : Far lo' hi' W W') (hb : b < lo' ∨ hi' ≤ b) (hd : hi ≤ lo' ∨ hi' ≤ lo) : PR W' b lo hi r ao ca :=
  ⟨h.box.far f hb, h.row.far f hd h.hs, h.le, Nat.le_trans h.hs f.size⟩

set_option maxHeartbeats 400000 in
theorem eqMsgH (lo hi lo2 hi2 : Nat) (k : Int) (ao bo : Option Addr) (ca cb : Nat) (D : List Int) (w : World) (ha : Row .u8 w lo hi ao D) (hb : Row .u8 w lo2 hi2 bo D) (h1 : hi ≤ w.heap.size) (h2 : hi2 ≤ w.heap.size) (hl : D.length ≤ 1048576) :
    Calls Try.prog 56 #[.agg #[.int .i64 k, .slice ao D.length ca], .agg #[.int .i64 k, .slice bo D.length cb]] w fun e w' => e = .returned (.bool true) ∧ Below w.heap.size w w' := by
  have HA := hideP ha
  have HB := hideP hb
  have e1 : (k != k) = false := by simp
  clear ha hb
  go_enter Try.func56, Try.ntmps56
  go_wp2_with fail
  refine Calls.mono (eqB_same lo hi lo2 hi2 ao bo ca cb D _ (HA.out.keep (B := w.heap.size) (by go_grown) h1) (HB.out.keep (B := w.heap.size) (by go_grown) h2) (by simp; omega) (by simp; omega) hl) ?_
  rintro e w1 ⟨rfl, k1⟩
  go_wp2
  go_returns
  refine ⟨rfl, ?_⟩
  repeat' (first | (with_reducible exact Below.refl _ _) | (with_reducible refine kept_below ?_ (by assumption) ?_) | (with_reducible refine Below.alloc ?_ ?_ _) | (with_reducible refine Below.drew ?_) | (with_reducible refine Below.setCell ?_ ?_ _) | go_size)

set_option maxHeartbeats 800000 in
theorem eqRR_same (lo hi lo2 hi2 : Nat) (r : Rt) (ao bo : Option Addr) (ca cb : Nat) (w : World) (ha : Row .u8 w lo hi ao r.D) (hb : Row .u8 w lo2 hi2 bo r.D) (h1 : hi ≤ w.heap.size) (h2 : hi2 ≤ w.heap.size) (hl : r.D.length ≤ 1048576) :
    Calls Try.prog 29 #[.agg #[.int .i64 r.z, .int .i64 r.tg, .int .i64 r.kd, .slice ao r.D.length ca, .bool r.tr, .int .i64 r.fo], .agg #[.int .i64 r.z, .int .i64 r.tg, .int .i64 r.kd, .slice bo r.D.length cb, .bool r.tr, .int .i64 r.fo]] w fun e w' => e = .returned (.bool true) ∧ Below w.heap.size w w' := by
  have HM := hideP (fun w1 (kk : Below w.heap.size w w1) => eqMsgH lo hi lo2 hi2 r.kd ao bo ca cb r.D w1 (ha.keep kk h1) (hb.keep kk h2) (Nat.le_trans h1 kk.size) (Nat.le_trans h2 kk.size) hl)
  obtain ⟨z, tg, kd, D, tr, fo⟩ := r
  simp only at HM ⊢
  have e1 : (z != z) = false := by simp
  have e2 : (tg != tg) = false := by simp
  clear ha hb hl h1 h2
  generalize D.length = dl at *
  go_enter Try.func29, Try.ntmps29
  go_wp2_with (first | (go_at_call 56; refine Calls.mono (HM.out _ (by repeat' (first | (with_reducible exact Below.refl _ _) | (with_reducible refine kept_below ?_ (by assumption) ?_) | (with_reducible refine Below.alloc ?_ ?_ _) | (with_reducible refine Below.drew ?_) | (with_reducible refine Below.setCell ?_ ?_ _) | go_size))) ?_; (all_goals try (first | (with_reducible assumption) | omega)); rintro e w1 ⟨rfl, k1⟩; (try replace k1 := kept_join (by assumption) k1); have hc1 := Kept.cell k1; have hf1 := Kept.frozen k1; have hz1 := k1.size; (try simp only [World.size_alloc] at hz1); (try simp only [World.size_setCell] at hz1); (try simp only [World.size_drew] at hz1); (try (first | have hs1 := sz12 hz1 | have hs1 := sz11 hz1 | have hs1 := sz10 hz1 | have hs1 := sz9 hz1 | have hs1 := sz8 hz1 | have hs1 := sz7 hz1 | have hs1 := sz6 hz1 | have hs1 := sz5 hz1 | have hs1 := sz4 hz1 | have hs1 := sz3 hz1 | have hs1 := sz2 hz1 | have hs1 := sz1 hz1))) | (go_at_call 34; refine Calls.mono (eqInput_same _ _ _) ?_; (all_goals try (first | (with_reducible assumption) | omega)); rintro e w1 ⟨rfl, k1⟩; (try replace k1 := kept_join (by assumption) k1); have hc1 := Kept.cell k1; have hf1 := Kept.frozen k1; have hz1 := k1.size; (try simp only [World.size_alloc] at hz1); (try simp only [World.size_setCell] at hz1); (try simp only [World.size_drew] at hz1); (try (first | have hs1 := sz12 hz1 | have hs1 := sz11 hz1 | have hs1 := sz10 hz1 | have hs1 := sz9 hz1 | have hs1 := sz8 hz1 | have hs1 := sz7 hz1 | have hs1 := sz6 hz1 | have hs1 := sz5 hz1 | have hs1 := sz4 hz1 | have hs1 := sz3 hz1 | have hs1 := sz2 hz1 | have hs1 := sz1 hz1))))
  go_returns
  refine ⟨rfl, ?_⟩
  repeat' (first | (with_reducible exact Below.refl _ _) | (with_reducible refine kept_below ?_ (by assumption) ?_) | (with_reducible refine Below.alloc ?_ ?_ _) | (with_reducible refine Below.drew ?_) | (with_reducible refine Below.setCell ?_ ?_ _) | go_size)

theorem Far.afterR {lo hi : Nat} {w w1 w2 : World} (k : Below w.heap.size w w1) (f : Far lo hi w1 w2) : Far lo hi w w2 := (Far.of_below k).trans f

set_option maxHeartbeats 400000 in
theorem markMsgH (lo hi : Nat) (q : Int) (ao : Option Addr) (ca : Nat) (k : Int) (L : List Int) (w : World) (ha : Wrt .u8 w lo hi ao L) (h1 : hi ≤ w.heap.size) (hl : L.length ≤ 1048576) (k0 : 0 ≤ k) (k1 : k ≤ 4194304) :
    Calls Try.prog 59 #[.agg #[.int .i64 q, .slice ao L.length ca], .int .i64 k] w fun e w' => e = .returned (.int .i64 (k + L.length)) ∧ Far lo hi w w' ∧ Wrt .u8 w' lo hi ao (rowOf (mkB k) L.length) := by
  have HA := hideP ha
  clear ha
  go_enter Try.func59, Try.ntmps59
  go_wp2_with fail
  refine Calls.mono (markB_any lo hi ao ca k L _ (HA.out.keep (B := w.heap.size) (by go_grown) h1) (by simp; omega) hl k0 k1) ?_
  rintro e w1 ⟨rfl, f1, W1⟩
  have F1 : Hid (Far lo hi w w1) := hideP (Far.afterR (by go_grown) f1)
  have H1 := hideP W1
  clear f1 W1
  go_wp2
  go_returns
  exact ⟨rfl, F1.out, H1.out⟩

set_option maxHeartbeats 400000 in
theorem markRR_any (lo hi : Nat) (r : Rt) (ao : Option Addr) (ca : Nat) (k : Int) (w : World) (ha : Wrt .u8 w lo hi ao r.D) (h1 : hi ≤ w.heap.size) (hl : r.D.length ≤ 1048576) (k0 : 0 ≤ k) (k1 : k ≤ 4194304) :
    Calls Try.prog 32 #[.agg #[.int .i64 r.z, .int .i64 r.tg, .int .i64 r.kd, .slice ao r.D.length ca, .bool r.tr, .int .i64 r.fo], .int .i64 k] w fun e w' => e = .returned (.int .i64 (k + r.D.length)) ∧ Far lo hi w w' ∧ Wrt .u8 w' lo hi ao (rowOf (mkB k) r.D.length) := by
  have HA := hideP ha
  clear ha
  go_enter Try.func32, Try.ntmps32
  go_wp2_with fail
  refine Calls.mono (markMsgH lo hi r.kd ao ca k r.D _ (HA.out.keep (B := w.heap.size) (by go_grown) h1) (by simp; omega) hl k0 k1) ?_
  rintro e w1 ⟨rfl, f1, W1⟩
  have F1 : Hid (Far lo hi w w1) := hideP (Far.afterR (by go_grown) f1)
  have H1 := hideP W1
  clear f1 W1
  go_wp2
  go_returns
  exact ⟨rfl, F1.out, H1.out⟩

set_option maxHeartbeats 400000 in
theorem heldMsgH (lo hi : Nat) (q : Int) (ao : Option Addr) (ca n : Nat) (k : Int) (w : World) (ha : Row .u8 w lo hi ao (rowOf (mkB k) n)) (h1 : hi ≤ w.heap.size) (hl : n ≤ 1048576) (k0 : 0 ≤ k) (k1 : k ≤ 4194304) :
    Calls Try.prog 60 #[.agg #[.int .i64 q, .slice ao n ca], .int .i64 k] w fun e w' => e = .returned (.int .i64 (k + n)) ∧ Below w.heap.size w w' := by
  have HA := hideP ha
  have hk : ¬ k + (n : Int) < 0 := by omega
  clear ha
  go_enter Try.func60, Try.ntmps60
  go_wp2_with fail
  refine Calls.mono (heldB_any lo hi ao ca n k _ (HA.out.keep (B := w.heap.size) (by go_grown) h1) hl k0 k1) ?_
  rintro e w1 ⟨rfl, rfl⟩
  go_wp2
  go_returns
  exact ⟨rfl, by go_grown⟩

set_option maxHeartbeats 400000 in
theorem heldRR_any (lo hi : Nat) (r : Rt) (ao : Option Addr) (ca n : Nat) (k : Int) (w : World) (ha : Row .u8 w lo hi ao (rowOf (mkB k) n)) (h1 : hi ≤ w.heap.size) (hl : n ≤ 1048576) (k0 : 0 ≤ k) (k1 : k ≤ 4194304) :
    Calls Try.prog 33 #[.agg #[.int .i64 r.z, .int .i64 r.tg, .int .i64 r.kd, .slice ao n ca, .bool r.tr, .int .i64 r.fo], .int .i64 k] w fun e w' => e = .returned (.int .i64 (k + n)) ∧ Below w.heap.size w w' := by
  have HA := hideP ha
  have hk : ¬ k + (n : Int) < 0 := by omega
  clear ha
  go_enter Try.func33, Try.ntmps33
  go_wp2_with fail
  refine Calls.mono (heldMsgH lo hi r.kd ao ca n k _ (HA.out.keep (B := w.heap.size) (by go_grown) h1) (by simp; omega) hl k0 k1) ?_
  rintro e w1 ⟨rfl, k2⟩
  replace k2 := hideP k2
  go_wp2
  go_returns
  exact ⟨rfl, (Below.alloc (Below.refl _ _) (Nat.le_refl _) _).trans (k2.out.mono (by simp))⟩
end Go.Proofs.Ytoipcnpemmajaaa
