/- What RouteHand answers: held against each other, marked, in a box. Hands, and inputs with their stacks, as they are drawn. What the laws of chapter 7 draw. (Written by gendw.py.) -/
import Derived.Test.YtoipcnpemmajaaaTh39
import Derived.Test.YtoipcnpemmajaaaTh41
import Derived.Test.YtoipcnpemmajaaaTh37
import Derived.Test.YtoipcnpemmajaaaTh15
import Derived.Test.YtoipcnpemmajaaaTh25
import Derived.Test.YtoipcnpemmajaaaTh36
import Derived.Test.YtoipcnpemmajaaaTh33
namespace Go.Proofs.Ytoipcnpemmajaaa
open Go.RowKit Go.Maps
set_option linter.unusedVariables false

theorem I2.far {w w' : World} {g lo hi : Nat} {t : Bool} {f : Int} (h : I2 w g t f) (F : Far lo hi w w') (hd : g < lo ∨ hi ≤ g) : I2 w' g t f :=
  ⟨(F.cell g 0 h.lt hd).trans h.c0, (F.cell g 1 h.lt hd).trans h.c1, Nat.lt_of_lt_of_le h.lt F.size⟩
theorem H3.far {w w' : World} {g lo hi : Nat} {k a b : Int} (h : H3 w g k a b) (F : Far lo hi w w') (hd : g < lo ∨ hi ≤ g) : H3 w' g k a b :=
  ⟨(F.cell g 0 h.lt hd).trans h.c0, (F.cell g 1 h.lt hd).trans h.c1, (F.cell g 2 h.lt hd).trans h.c2⟩
theorem h3_new (w : World) (k a b : Int) (T : TypeId) : H3 (w.alloc (.cells #[.int .i64 k, .int .i64 a, .int .i64 b] T)) w.heap.size k a b := ⟨by simp, by simp, by simp⟩
theorem r6_at {w : World} {B : Nat} {v0 v1 v2 v3 v4 v5 : Value} {T : TypeId} (h : w.heap[B]? = some (.cells #[v0, v1, v2, v3, v4, v5] T)) : R6 w B v0 v1 v2 v3 v4 v5 := by
  have hB : B < w.heap.size := (Array.getElem?_eq_some_iff.1 h).1
  exact ⟨by simp [World.cell?, h], by simp [World.cell?, h], by simp [World.cell?, h], by simp [World.cell?, h], by simp [World.cell?, h], by simp [World.cell?, h], fun c => by simp [World.frozen?, h], hB⟩
theorem R6.put {w : World} {b : Nat} {v0 v1 v2 v3 v4 v5 : Value} (h : R6 w b v0 v1 v2 v3 v4 v5) (u0 u1 u2 u3 u4 u5 : Value) : R6 (six w b u0 u1 u2 u3 u4 u5) b u0 u1 u2 u3 u4 u5 := by
  refine ⟨?_, ?_, ?_, ?_, ?_, ?_, fun c => by simpa using h.fr c, by simpa using h.lt⟩
  · iterate 5 rw [cell_set_other (by omega)]
    exact cell_set_same h.c0
  · iterate 4 rw [cell_set_other (by omega)]
    exact cell_set_same ((cell_set_other (by omega)).trans h.c1)
  · iterate 3 rw [cell_set_other (by omega)]
    exact cell_set_same ((cell_set_other (by omega)).trans ((cell_set_other (by omega)).trans h.c2))
  · iterate 2 rw [cell_set_other (by omega)]
    exact cell_set_same ((cell_set_other (by omega)).trans ((cell_set_other (by omega)).trans ((cell_set_other (by omega)).trans h.c3)))
  · rw [cell_set_other (by omega)]
    exact cell_set_same ((cell_set_other (by omega)).trans ((cell_set_other (by omega)).trans ((cell_set_other (by omega)).trans ((cell_set_other (by omega)).trans h.c4))))
  · exact cell_set_same ((cell_set_other (by omega)).trans ((cell_set_other (by omega)).trans ((cell_set_other (by omega)).trans ((cell_set_other (by omega)).trans ((cell_set_other (by omega)).trans h.c5)))))
theorem far_sixR {w : World} {b : Nat} (u0 u1 u2 u3 u4 u5 : Value) : Far b (b + 1) w (six w b u0 u1 u2 u3 u4 u5) :=
  ((((((Far.refl b (b + 1) w).setCell (p := ⟨b, 0, none⟩) (Nat.le_refl _) (Nat.lt_succ_self _) u0).setCell (p := ⟨b, 1, none⟩) (Nat.le_refl _) (Nat.lt_succ_self _) u1).setCell (p := ⟨b, 2, none⟩) (Nat.le_refl _) (Nat.lt_succ_self _) u2).setCell (p := ⟨b, 3, none⟩) (Nat.le_refl _) (Nat.lt_succ_self _) u3).setCell (p := ⟨b, 4, none⟩) (Nat.le_refl _) (Nat.lt_succ_self _) u4).setCell (p := ⟨b, 5, none⟩) (Nat.le_refl _) (Nat.lt_succ_self _) u5

theorem clickR_len (o : Option Wc) (a b : Int) : (clickR o a b).D.length ≤ 3 := by cases o <;> simp [clickR]
theorem rtR_len (C : List Wc) (t : Bool) (f k a b : Int) : (rtR C t f k a b).D.length ≤ 3 := by
  unfold rtR rtA keyR rtNo
  repeat' split
  all_goals first | exact clickR_len _ _ _ | (simp; done)

/-- A result in its box, its bytes in memory of its own. -/
structure PR (W : World) (b lo hi : Nat) (r : Rt) (ao : Option Addr) (ca : Nat) : Prop where
  box : R6 W b (.int .i64 r.z) (.int .i64 r.tg) (.int .i64 r.kd) (.slice ao r.D.length ca) (.bool r.tr) (.int .i64 r.fo)
  row : Wrt .u8 W lo hi ao r.D
  le : lo ≤ hi
  hs : hi ≤ W.heap.size
theorem PR.keep {W W' : World} {b lo hi B : Nat} {r : Rt} {ao : Option Addr} {ca : Nat} (h : PR W b lo hi r ao ca) (k : Below B W W') (hb : b < B) (hh : hi ≤ B) : PR W' b lo hi r ao ca :=
  ⟨h.box.keep k hb, h.row.keep k hh, h.le, Nat.le_trans h.hs k.size⟩
theorem PR.far {W W' : World} {b lo hi lo' hi' : Nat} {r : Rt} {ao : Option Addr} {ca : Nat} (h : PR W b lo hi r ao ca) (f : Far lo' hi' W W') (hb : b < lo' ∨ hi' ≤ b) (hd : hi ≤ lo' ∨ hi' ≤ lo) : PR W' b lo hi r ao ca :=
  ⟨h.box.far f hb, h.row.far f hd h.hs, h.le, Nat.le_trans h.hs f.size⟩

set_option maxHeartbeats 400000 in
theorem eqMsgH (lo hi lo2 hi2 : Nat) (k : Int) (ao bo : Option Addr) (ca cb : Nat) (D : List Int) (w : World) (ha : Row .u8 w lo hi ao D) (hb : Row .u8 w lo2 hi2 bo D) (h1 : hi ≤ w.heap.size) (h2 : hi2 ≤ w.heap.size) (hl : D.length ≤ 1048576) :
    Calls Try.prog 56 #[.agg #[.int .i64 k, .slice ao D.length ca], .agg #[.int .i64 k, .slice bo D.length cb]] w fun e w' => e = .returned (.bool true) ∧ Below w.heap.size w w' := by
  have HA := hideP ha
  have HB := hideP hb
  have e1 : (k != k) = false := by simp
  clear ha hb
  go_enter Try.func56, Try.ntmps56
  go_wp2_with fail
  refine Calls.mono (eqB_same lo hi lo2 hi2 ao bo ca cb D _ (HA.out.keep (B := w.heap.size) (by go_grown) h1) (HB.out.keep (B := w.heap.size) (by go_grown) h2) (by simp; omega) (by simp; omega) hl) ?_
  rintro e w1 ⟨rfl, k1⟩
  go_wp2
  go_returns
  refine ⟨rfl, ?_⟩
  repeat' (first | (with_reducible exact Below.refl _ _) | (with_reducible refine kept_below ?_ (by assumption) ?_) | (with_reducible refine Below.alloc ?_ ?_ _) | (with_reducible refine Below.drew ?_) | (with_reducible refine Below.setCell ?_ ?_ _) | go_size)

set_option maxHeartbeats 800000 in
theorem eqRR_same (lo hi lo2 hi2 : Nat) (r : Rt) (ao bo : Option Addr) (ca cb : Nat) (w : World) (ha : Row .u8 w lo hi ao r.D) (hb : Row .u8 w lo2 hi2 bo r.D) (h1 : hi ≤ w.heap.size) (h2 : hi2 ≤ w.heap.size) (hl : r.D.length ≤ 1048576) :
    Calls Try.prog 29 #[.agg #[.int .i64 r.z, .int .i64 r.tg, .int .i64 r.kd, .slice ao r.D.length ca, .bool r.tr, .int .i64 r.fo], .agg #[.int .i64 r.z, .int .i64 r.tg, .int .i64 r.kd, .slice bo r.D.length cb, .bool r.tr, .int .i64 r.fo]] w fun e w' => e = .returned (.bool true) ∧ Below w.heap.size w w' := by
  have HM := hideP (fun w1 (kk : Below w.heap.size w w1) => eqMsgH lo hi lo2 hi2 r.kd ao bo ca cb r.D w1 (ha.keep kk h1) (hb.keep kk h2) (Nat.le_trans h1 kk.size) (Nat.le_trans h2 kk.size) hl)
  obtain ⟨z, tg, kd, D, tr, fo⟩ := r
  simp only at HM ⊢
  have e1 : (z != z) = false := by simp
  have e2 : (tg != tg) = false := by simp
  clear ha hb hl h1 h2
  generalize D.length = dl at *
  go_enter Try.func29, Try.ntmps29
  go_wp2_with (first | (go_at_call 56; refine Calls.mono (HM.out _ (by repeat' (first | (with_reducible exact Below.refl _ _) | (with_reducible refine kept_below ?_ (by assumption) ?_) | (with_reducible refine Below.alloc ?_ ?_ _) | (with_reducible refine Below.drew ?_) | (with_reducible refine Below.setCell ?_ ?_ _) | go_size))) ?_; (all_goals try (first | (with_reducible assumption) | omega)); rintro e w1 ⟨rfl, k1⟩; (try replace k1 := kept_join (by assumption) k1); have hc1 := Kept.cell k1; have hf1 := Kept.frozen k1; have hz1 := k1.size; (try simp only [World.size_alloc] at hz1); (try simp only [World.size_setCell] at hz1); (try simp only [World.size_drew] at hz1); (try (first | have hs1 := sz12 hz1 | have hs1 := sz11 hz1 | have hs1 := sz10 hz1 | have hs1 := sz9 hz1 | have hs1 := sz8 hz1 | have hs1 := sz7 hz1 | have hs1 := sz6 hz1 | have hs1 := sz5 hz1 | have hs1 := sz4 hz1 | have hs1 := sz3 hz1 | have hs1 := sz2 hz1 | have hs1 := sz1 hz1))) | (go_at_call 34; refine Calls.mono (eqInput_same _ _ _) ?_; (all_goals try (first | (with_reducible assumption) | omega)); rintro e w1 ⟨rfl, k1⟩; (try replace k1 := kept_join (by assumption) k1); have hc1 := Kept.cell k1; have hf1 := Kept.frozen k1; have hz1 := k1.size; (try simp only [World.size_alloc] at hz1); (try simp only [World.size_setCell] at hz1); (try simp only [World.size_drew] at hz1); (try (first | have hs1 := sz12 hz1 | have hs1 := sz11 hz1 | have hs1 := sz10 hz1 | have hs1 := sz9 hz1 | have hs1 := sz8 hz1 | have hs1 := sz7 hz1 | have hs1 := sz6 hz1 | have hs1 := sz5 hz1 | have hs1 := sz4 hz1 | have hs1 := sz3 hz1 | have hs1 := sz2 hz1 | have hs1 := sz1 hz1))))
  go_returns
  refine ⟨rfl, ?_⟩
  repeat' (first | (with_reducible exact Below.refl _ _) | (with_reducible refine kept_below ?_ (by assumption) ?_) | (with_reducible refine Below.alloc ?_ ?_ _) | (with_reducible refine Below.drew ?_) | (with_reducible refine Below.setCell ?_ ?_ _) | go_size)

theorem Far.afterR {lo hi : Nat} {w w1 w2 : World} (k : Below w.heap.size w w1) (f : Far lo hi w1 w2) : Far lo hi w w2 := (Far.of_below k).trans f

set_option maxHeartbeats 400000 in
theorem markMsgH (lo hi : Nat) (q : Int) (ao : Option Addr) (ca : Nat) (k : Int) (L : List Int) (w : World) (ha : Wrt .u8 w lo hi ao L) (h1 : hi ≤ w.heap.size) (hl : L.length ≤ 1048576) (k0 : 0 ≤ k) (k1 : k ≤ 4194304) :
    Calls Try.prog 59 #[.agg #[.int .i64 q, .slice ao L.length ca], .int .i64 k] w fun e w' => e = .returned (.int .i64 (k + L.length)) ∧ Far lo hi w w' ∧ Wrt .u8 w' lo hi ao (rowOf (mkB k) L.length) := by
  have HA := hideP ha
  clear ha
  go_enter Try.func59, Try.ntmps59
  go_wp2_with fail
  refine Calls.mono (markB_any lo hi ao ca k L _ (HA.out.keep (B := w.heap.size) (by go_grown) h1) (by simp; omega) hl k0 k1) ?_
  rintro e w1 ⟨rfl, f1, W1⟩
  have F1 : Hid (Far lo hi w w1) := hideP (Far.afterR (by go_grown) f1)
  have H1 := hideP W1
  clear f1 W1
  go_wp2
  go_returns
  exact ⟨rfl, F1.out, H1.out⟩

set_option maxHeartbeats 400000 in
theorem markRR_any (lo hi : Nat) (r : Rt) (ao : Option Addr) (ca : Nat) (k : Int) (w : World) (ha : Wrt .u8 w lo hi ao r.D) (h1 : hi ≤ w.heap.size) (hl : r.D.length ≤ 1048576) (k0 : 0 ≤ k) (k1 : k ≤ 4194304) :
    Calls Try.prog 32 #[.agg #[.int .i64 r.z, .int .i64 r.tg, .int .i64 r.kd, .slice ao r.D.length ca, .bool r.tr, .int .i64 r.fo], .int .i64 k] w fun e w' => e = .returned (.int .i64 (k + r.D.length)) ∧ Far lo hi w w' ∧ Wrt .u8 w' lo hi ao (rowOf (mkB k) r.D.length) := by
  have HA := hideP ha
  clear ha
  go_enter Try.func32, Try.ntmps32
  go_wp2_with fail
  refine Calls.mono (markMsgH lo hi r.kd ao ca k r.D _ (HA.out.keep (B := w.heap.size) (by go_grown) h1) (by simp; omega) hl k0 k1) ?_
  rintro e w1 ⟨rfl, f1, W1⟩
  have F1 : Hid (Far lo hi w w1) := hideP (Far.afterR (by go_grown) f1)
  have H1 := hideP W1
  clear f1 W1
  go_wp2
  go_returns
  exact ⟨rfl, F1.out, H1.out⟩

set_option maxHeartbeats 400000 in
theorem heldMsgH (lo hi : Nat) (q : Int) (ao : Option Addr) (ca n : Nat) (k : Int) (w : World) (ha : Row .u8 w lo hi ao (rowOf (mkB k) n)) (h1 : hi ≤ w.heap.size) (hl : n ≤ 1048576) (k0 : 0 ≤ k) (k1 : k ≤ 4194304) :
    Calls Try.prog 60 #[.agg #[.int .i64 q, .slice ao n ca], .int .i64 k] w fun e w' => e = .returned (.int .i64 (k + n)) ∧ Below w.heap.size w w' := by
  have HA := hideP ha
  have hk : ¬ k + (n : Int) < 0 := by omega
  clear ha
  go_enter Try.func60, Try.ntmps60
  go_wp2_with fail
  refine Calls.mono (heldB_any lo hi ao ca n k _ (HA.out.keep (B := w.heap.size) (by go_grown) h1) hl k0 k1) ?_
  rintro e w1 ⟨rfl, rfl⟩
  go_wp2
  go_returns
  exact ⟨rfl, by go_grown⟩

set_option maxHeartbeats 400000 in
theorem heldRR_any (lo hi : Nat) (r : Rt) (ao : Option Addr) (ca n : Nat) (k : Int) (w : World) (ha : Row .u8 w lo hi ao (rowOf (mkB k) n)) (h1 : hi ≤ w.heap.size) (hl : n ≤ 1048576) (k0 : 0 ≤ k) (k1 : k ≤ 4194304) :
    Calls Try.prog 33 #[.agg #[.int .i64 r.z, .int .i64 r.tg, .int .i64 r.kd, .slice ao n ca, .bool r.tr, .int .i64 r.fo], .int .i64 k] w fun e w' => e = .returned (.int .i64 (k + n)) ∧ Below w.heap.size w w' := by
  have HA := hideP ha
  have hk : ¬ k + (n : Int) < 0 := by omega
  clear ha
  go_enter Try.func33, Try.ntmps33
  go_wp2_with fail
  refine Calls.mono (heldMsgH lo hi r.kd ao ca n k _ (HA.out.keep (B := w.heap.size) (by go_grown) h1) (by simp; omega) hl k0 k1) ?_
  rintro e w1 ⟨rfl, k2⟩
  replace k2 := hideP k2
  go_wp2
  go_returns
  exact ⟨rfl, (Below.alloc (Below.refl _ _) (Nat.le_refl _) _).trans (k2.out.mono (by simp))⟩
end Go.Proofs.Ytoipcnpemmajaaa

namespace Go.Proofs.Ytoipcnpemmajaaa
open Go.RowKit
set_option linter.unusedVariables false

/-- A hand that is drawn. -/
def HandD (w : World) (B b : Nat) (a : Option Addr) (len cap : Nat) (f : Nat → Int) (t : Int) (e : Ending) (w' : World) : Prop :=
  ∃ k x y u : Int, e = .returned (.agg #[.int .i64 k, .int .i64 x, .int .i64 y]) ∧ 0 ≤ u ∧ u ≤ t + 10 ∧ Turn b w w' ∧ Src w' B b a len cap f u
theorem handD_end {w w1 : World} {B b : Nat} {a : Option Addr} {len cap : Nat} {f : Nat → Int} {t u : Int} (T : Turn b w w1) (S : Src w1 B b a len cap f u) (hb : b < w.heap.size) (hu : 0 ≤ u ∧ u ≤ t + 10) (k x y : Int) :
    HandD w B b a len cap f t (.returned (.agg #[.int .i64 k, .int .i64 x, .int .i64 y])) (((w1.setCell ⟨w.heap.size, 0, none⟩ (.int .i64 k)).setCell ⟨w.heap.size, 1, none⟩ (.int .i64 x)).setCell ⟨w.heap.size, 2, none⟩ (.int .i64 y)) :=
  ⟨k, x, y, u, rfl, hu.1, hu.2, ((T.setCell (p := ⟨w.heap.size, 0, none⟩) (Nat.le_refl _) _).setCell (p := ⟨w.heap.size, 1, none⟩) (Nat.le_refl _) _).setCell (p := ⟨w.heap.size, 2, none⟩) (Nat.le_refl _) _, ((S.store ⟨w.heap.size, 0, none⟩ _ hb).store ⟨w.heap.size, 1, none⟩ _ hb).store ⟨w.heap.size, 2, none⟩ _ hb⟩

set_option maxRecDepth 100000 in
set_option maxHeartbeats 4000000 in
theorem l10Draw_any (w : World) (B b : Nat) (a : Option Addr) (len cap : Nat) (f : Nat → Int) (t : Int) (S : Src w B b a len cap f t) (t0 : 0 ≤ t) (t1 : t ≤ 60000) :
    Calls Try.prog 53 #[.pointer (some ⟨b, 0, none⟩)] w (HandD w B b a len cap f t) := by
  have hlt := S.lt
  have S0 := hideP (S.grow (kalC w (.cells #[.int .i64 0, .int .i64 0, .int .i64 0] 28)))
  clear S
  go_enter Try.func53, Try.ntmps53
  go_wp2_with fail
  refine Calls.mono (next_any _ B b a len cap f t 8 S0.out (by omega) (by omega) (by omega) (by omega)) ?_
  rintro e w1 ⟨r, rfl, r0, r1, ht, hs⟩
  have X1 := hideP ((r3_new w (.int .i64 0) (.int .i64 0) (.int .i64 0) 28).turnD ht (by omega))
  have T1 := hideP ((Turn.of_below (b := b) (kalC w (.cells #[.int .i64 0, .int .i64 0, .int .i64 0] 28))).trans ht)
  have S1 := hideP hs
  have hr : r = 0 ∨ r = 1 ∨ r = 2 ∨ r = 3 ∨ r = 4 ∨ 5 ≤ r := by omega
  clear ht hs S0
  obtain ⟨x0, x1, x2, xf, xl⟩ := X1.out
  rcases hr with rfl | rfl | rfl | rfl | rfl | hr
  · clear r0 r1
    go_wp2
    exact bodyPost_ret (v := .agg #[.int .i64 3, .int .i64 0, .int .i64 0]) (by simp [results, Try.results53, go_sem, x0, x1, x2]) rfl (handD_end T1.out S1.out hlt (by omega) _ _ _)
  · clear r0 r1
    go_wp2
    exact bodyPost_ret (v := .agg #[.int .i64 4, .int .i64 0, .int .i64 0]) (by simp [results, Try.results53, go_sem, x0, x1, x2]) rfl (handD_end T1.out S1.out hlt (by omega) _ _ _)
  · clear r0 r1
    go_wp2
    exact bodyPost_ret (v := .agg #[.int .i64 4, .int .i64 0, .int .i64 0]) (by simp [results, Try.results53, go_sem, x0, x1, x2]) rfl (handD_end T1.out S1.out hlt (by omega) _ _ _)
  · clear r0 r1
    go_wp2_with fail
    refine Calls.mono (next_any _ B b a len cap f (t + 1) 256 S1.out (by omega) (by omega) (by omega) (by omega)) ?_
    rintro e w2 ⟨q, rfl, q0, q1, ht, hs⟩
    have X2 := hideP (X1.out.turnD ht (by omega))
    have T2 := hideP (T1.out.trans ht)
    have S2 := hideP hs
    clear ht hs S1 T1 X1 x0 x1 x2 xf xl
    obtain ⟨x0, x1, x2, xf, xl⟩ := X2.out
    go_wp2
    exact bodyPost_ret (v := .agg #[.int .i64 1, .int .i64 q, .int .i64 0]) (by simp [results, Try.results53, go_sem, x0, x1, x2]) rfl (handD_end T2.out S2.out hlt (by omega) _ _ _)
  · clear r0 r1
    go_wp2_with fail
    refine Calls.mono (next_any _ B b a len cap f (t + 1) 256 S1.out (by omega) (by omega) (by omega) (by omega)) ?_
    rintro e w2 ⟨q, rfl, q0, q1, ht, hs⟩
    have X2 := hideP (X1.out.turnD ht (by omega))
    have T2 := hideP (T1.out.trans ht)
    have S2 := hideP hs
    clear ht hs S1 T1 X1 x0 x1 x2 xf xl
    obtain ⟨x0, x1, x2, xf, xl⟩ := X2.out
    go_wp2
    exact bodyPost_ret (v := .agg #[.int .i64 1, .int .i64 q, .int .i64 0]) (by simp [results, Try.results53, go_sem, x0, x1, x2]) rfl (handD_end T2.out S2.out hlt (by omega) _ _ _)
  · have e0 : (r == 0) = false := beq_eq_false_iff_ne.2 (by omega)
    have e1 : (r == 1) = false := beq_eq_false_iff_ne.2 (by omega)
    have e2 : (r == 2) = false := beq_eq_false_iff_ne.2 (by omega)
    have e3 : (r == 3) = false := beq_eq_false_iff_ne.2 (by omega)
    have e4 : (r == 4) = false := beq_eq_false_iff_ne.2 (by omega)
    clear r0 r1 hr
    go_wp2_with fail
    refine Calls.mono (next_any _ B b a len cap f (t + 1) 12 S1.out (by omega) (by omega) (by omega) (by omega)) ?_
    rintro e w2 ⟨q, rfl, q0, q1, ht, hs⟩
    have X2 := hideP (X1.out.turnD ht (by omega))
    have T2 := hideP (T1.out.trans ht)
    have S2 := hideP hs
    clear ht hs S1 T1 X1 x0 x1 x2 xf xl
    go_wp2_with fail
    refine Calls.mono (next_any _ B b a len cap f (t + 1 + 1) 8 S2.out (by omega) (by omega) (by omega) (by omega)) ?_
    rintro e w3 ⟨p, rfl, p0, p1, ht, hs⟩
    have X3 := hideP (X2.out.turnD ht (by omega))
    have T3 := hideP (T2.out.trans ht)
    have S3 := hideP hs
    clear ht hs S2 T2 X2
    obtain ⟨x0, x1, x2, xf, xl⟩ := X3.out
    go_wp2
    exact bodyPost_ret (v := .agg #[.int .i64 2, .int .i64 q, .int .i64 p]) (by simp [results, Try.results53, go_sem, x0, x1, x2]) rfl (handD_end T3.out S3.out hlt (by omega) _ _ _)

/-- .. and bent. -/
def HandB (w : World) (B b : Nat) (a : Option Addr) (len cap : Nat) (f : Nat → Int) (t : Int) (e : Ending) (w' : World) : Prop :=
  ∃ k x y u : Int, e = .returned (.agg #[.int .i64 k, .int .i64 x, .int .i64 y]) ∧ 0 ≤ u ∧ u ≤ t + 20 ∧ Turn b w w' ∧ Src w' B b a len cap f u
theorem handB_end {w w1 : World} {B b : Nat} {a : Option Addr} {len cap : Nat} {f : Nat → Int} {t u : Int} (T : Turn b w w1) (S : Src w1 B b a len cap f u) (hb : b < w.heap.size) (hu : 0 ≤ u ∧ u ≤ t + 20) (k x y : Int) :
    HandB w B b a len cap f t (.returned (.agg #[.int .i64 k, .int .i64 x, .int .i64 y])) (((w1.setCell ⟨w.heap.size, 0, none⟩ (.int .i64 k)).setCell ⟨w.heap.size, 1, none⟩ (.int .i64 x)).setCell ⟨w.heap.size, 2, none⟩ (.int .i64 y)) :=
  ⟨k, x, y, u, rfl, hu.1, hu.2, ((T.setCell (p := ⟨w.heap.size, 0, none⟩) (Nat.le_refl _) _).setCell (p := ⟨w.heap.size, 1, none⟩) (Nat.le_refl _) _).setCell (p := ⟨w.heap.size, 2, none⟩) (Nat.le_refl _) _, ((S.store ⟨w.heap.size, 0, none⟩ _ hb).store ⟨w.heap.size, 1, none⟩ _ hb).store ⟨w.heap.size, 2, none⟩ _ hb⟩
theorem R3.set0 {w : World} {b : Nat} {v0 v1 v2 : Value} (h : R3 w b v0 v1 v2) (u : Value) : R3 (w.setCell ⟨b, 0, none⟩ u) b u v1 v2 :=
  ⟨cell_set_same h.c0, (cell_set_other (by omega)).trans h.c1, (cell_set_other (by omega)).trans h.c2, fun c => by simpa using h.fr c, by simpa using h.lt⟩
theorem R3.set1 {w : World} {b : Nat} {v0 v1 v2 : Value} (h : R3 w b v0 v1 v2) (u : Value) : R3 (w.setCell ⟨b, 1, none⟩ u) b v0 u v2 :=
  ⟨(cell_set_other (by omega)).trans h.c0, cell_set_same h.c1, (cell_set_other (by omega)).trans h.c2, fun c => by simpa using h.fr c, by simpa using h.lt⟩

set_option maxRecDepth 100000 in
set_option maxHeartbeats 4000000 in
theorem l10Bent_any (w : World) (B b : Nat) (a : Option Addr) (len cap : Nat) (f : Nat → Int) (t : Int) (S : Src w B b a len cap f t) (t0 : 0 ≤ t) (t1 : t ≤ 50000) :
    Calls Try.prog 37 #[.pointer (some ⟨b, 0, none⟩)] w (HandB w B b a len cap f t) := by
  have hlt := S.lt
  have S0 := hideP (S.grow (kalC w (.cells #[.int .i64 0, .int .i64 0, .int .i64 0] 28)))
  clear S
  go_enter Try.func37, Try.ntmps37
  go_wp2_with fail
  refine Calls.mono (l10Draw_any _ B b a len cap f t S0.out (by omega) (by omega)) ?_
  rintro e w1 ⟨k, x, y, u1, rfl, p1, q1, ht, hs⟩
  have m1 := ht.size
  simp only [World.size_alloc] at m1
  have X1 := hideP (((r3_new w (.int .i64 0) (.int .i64 0) (.int .i64 0) 28).turnD ht (by omega)).keep (kalC w1 (.cells #[.int .i64 k, .int .i64 x, .int .i64 y] 28)) (by omega))
  have Y1 := hideP (r3_new w1 (.int .i64 k) (.int .i64 x) (.int .i64 y) 28)
  have T1 := hideP (((Turn.of_below (b := b) (kalC w (.cells #[.int .i64 0, .int .i64 0, .int .i64 0] 28))).trans ht).alloc (.cells #[.int .i64 k, .int .i64 x, .int .i64 y] 28))
  have S1 := hideP (hs.grow (kalC w1 (.cells #[.int .i64 k, .int .i64 x, .int .i64 y] 28)))
  clear ht hs S0
  go_wp2_with fail
  refine Calls.mono (next_any _ B b a len cap f u1 12 S1.out (by omega) (by omega) (by omega) (by omega)) ?_
  rintro e w2 ⟨r, rfl, r0, r1, ht, hs⟩
  have m2 := ht.size
  simp only [World.size_alloc] at m2
  have X2 := hideP (X1.out.turnD ht (by omega))
  have Y2 := hideP (Y1.out.turnD ht (by omega))
  have T2 := hideP (T1.out.trans ht)
  have S2 := hideP hs
  have hr : r = 0 ∨ r = 1 ∨ 2 ≤ r := by omega
  have hb1 : b < w1.heap.size := by omega
  have hne : ¬ w.heap.size = w1.heap.size ∧ ¬ w1.heap.size = w.heap.size := by omega
  obtain ⟨hn1, hn2⟩ := hne
  clear ht hs S1 T1 X1 Y1
  rcases hr with rfl | rfl | hr
  · clear r0 r1
    go_wp2_with fail
    refine Calls.mono (pick5 (fun _ => True) w2 _ _ a len cap f (u1 + 1) _ 2 4 w2.heap.size rfl (inbL5 [0, 1, 3, 5] (by simp)) S2.out (by omega) (by omega) (by omega) (by omega)) ?_
    rintro e w3 ⟨v, rfl, -, ht, hs⟩
    have Y3 := hideP (Y2.out.turnD ht (by omega))
    have X3 := hideP ((X2.out.turnD ht (by omega)).far ((Turn.store w3 ⟨w1.heap.size, 0, none⟩ (.int .i64 v)).far) (.inl (by show w.heap.size < w1.heap.size; omega)))
    have T3 := hideP (T2.out.trans ht)
    have TT := hideP (T3.out.setCell (p := ⟨w1.heap.size, 0, none⟩) (by show w.heap.size ≤ w1.heap.size; omega) (.int .i64 v))
    have SS := hideP (hs.store ⟨w1.heap.size, 0, none⟩ (.int .i64 v) hb1)
    clear ht hs S2 T2 X2 Y2
    obtain ⟨x0, x1, x2, xf, xl⟩ := X3.out
    obtain ⟨y0, y1, y2, yf, yl⟩ := Y3.out
    obtain ⟨z0, z1, z2, zf, zl⟩ := Y3.out.set0 (.int .i64 v)
    go_wp2
    exact bodyPost_ret (v := .agg #[.int .i64 v, .int .i64 x, .int .i64 y]) (by simp [results, Try.results37, go_sem, x0, x1, x2]) rfl (handB_end TT.out SS.out hlt (by omega) _ _ _)
  · clear r0 r1
    go_wp2_with fail
    refine Calls.mono (pick5 (fun _ => True) w2 _ _ a len cap f (u1 + 1) _ 2 5 w2.heap.size rfl (inbL5 [11, 12, 255, 256, -1] (by simp)) S2.out (by omega) (by omega) (by omega) (by omega)) ?_
    rintro e w3 ⟨v, rfl, -, ht, hs⟩
    have Y3 := hideP (Y2.out.turnD ht (by omega))
    have X3 := hideP ((X2.out.turnD ht (by omega)).far ((Turn.store w3 ⟨w1.heap.size, 1, none⟩ (.int .i64 v)).far) (.inl (by show w.heap.size < w1.heap.size; omega)))
    have T3 := hideP (T2.out.trans ht)
    have TT := hideP (T3.out.setCell (p := ⟨w1.heap.size, 1, none⟩) (by show w.heap.size ≤ w1.heap.size; omega) (.int .i64 v))
    have SS := hideP (hs.store ⟨w1.heap.size, 1, none⟩ (.int .i64 v) hb1)
    clear ht hs S2 T2 X2 Y2
    obtain ⟨x0, x1, x2, xf, xl⟩ := X3.out
    obtain ⟨y0, y1, y2, yf, yl⟩ := Y3.out
    obtain ⟨z0, z1, z2, zf, zl⟩ := Y3.out.set1 (.int .i64 v)
    go_wp2
    exact bodyPost_ret (v := .agg #[.int .i64 k, .int .i64 v, .int .i64 y]) (by simp [results, Try.results37, go_sem, x0, x1, x2]) rfl (handB_end TT.out SS.out hlt (by omega) _ _ _)
  · have e0 : (r == 0) = false := beq_eq_false_iff_ne.2 (by omega)
    have e1 : (r == 1) = false := beq_eq_false_iff_ne.2 (by omega)
    clear r0 r1 hr
    obtain ⟨x0, x1, x2, xf, xl⟩ := X2.out
    obtain ⟨y0, y1, y2, yf, yl⟩ := Y2.out
    go_wp2
    exact bodyPost_ret (v := .agg #[.int .i64 k, .int .i64 x, .int .i64 y]) (by simp [results, Try.results37, go_sem, x0, x1, x2]) rfl (handB_end T2.out S2.out hlt (by omega) _ _ _)
end Go.Proofs.Ytoipcnpemmajaaa

namespace Go.Proofs.Ytoipcnpemmajaaa
open Go.RowKit
set_option linter.unusedVariables false

end Go.Proofs.Ytoipcnpemmajaaa
