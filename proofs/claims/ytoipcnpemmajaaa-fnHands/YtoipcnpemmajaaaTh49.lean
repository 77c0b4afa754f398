/- An input with its stack, drawn; and a hand beside it. (Written by mkhw1.py.) What FnFills draws: a window and one of its cells. What FnHands draws. -/
import Derived.Test.YtoipcnpemmajaaaTh42
import Derived.Test.YtoipcnpemmajaaaTh48
import Derived.Test.YtoipcnpemmajaaaTh36
import Derived.Test.YtoipcnpemmajaaaTh27
namespace Go.Proofs.Ytoipcnpemmajaaa
open Go.RowKit
set_option linter.unusedVariables false

theorem rb_newH (w : World) (v0 v1 : Value) (T : TypeId) : Rb (w.alloc (.cells #[v0, v1] T)) w.heap.size v0 v1 := ⟨by simp, by simp, by simp, by simp, by simp⟩
/-- An input and its stack that are drawn. -/
def WithP (w : World) (B b : Nat) (a : Option Addr) (len cap : Nat) (f : Nat → Int) (t : Int) (e : Ending) (w' : World) : Prop :=
  ∃ (tr : Bool) (fo : Int) (so : Option Addr) (sc : Nat) (M : List Wn) (u : Int), e = .returned (.tuple #[.agg #[.bool tr, .int .i64 fo], .slice so M.length sc]) ∧ M.length ≤ 13 ∧ wzs M ≤ 624 ∧ 0 ≤ u ∧ u ≤ t + 1020 ∧ Ws w' w.heap.size w'.heap.size so M ∧ Turn b w w' ∧ Src w' B b a len cap f u

/-- On the way: the answer's box yet empty, the input's box, the stack behind it. -/
structure InMid (w W : World) (B b : Nat) (a : Option Addr) (len cap : Nat) (f : Nat → Int) (u : Int) (q : Nat) (tr : Bool) (fo : Int) (so : Option Addr) (M : List Wn) : Prop where
  turn : Turn b w W
  src : Src W B b a len cap f u
  out : Rb W w.heap.size (.bool false) (.int .i64 0)
  inp : Rb W q (.bool tr) (.int .i64 fo)
  ws : Ws W (w.heap.size + 1) q so M
  bw : b < w.heap.size
  qw : w.heap.size + 1 ≤ q
section
variable {w W W1 : World} {B b len cap q : Nat} {a so : Option Addr} {f : Nat → Int} {u u1 : Int} {tr : Bool} {fo : Int} {M : List Wn}
theorem InMid.next (h : InMid w W B b a len cap f u q tr fo so M) (t : Turn b W W1) (s : Src W1 B b a len cap f u1) : InMid w W1 B b a len cap f u1 q tr fo so M := by
  have h1 := h.bw
  have h2 := h.qw
  have h3 := h.inp.lt
  exact ⟨h.turn.trans t, s, h.out.far t.far (.inr (by omega)), h.inp.far t.far (.inr (by omega)), h.ws.turn t (by omega) (by omega), h1, h2⟩
theorem InMid.put (h : InMid w W B b a len cap f u q tr fo so M) (v : Int) : InMid w (W.setCell ⟨q, 1, none⟩ (.int .i64 v)) B b a len cap f u q tr v so M := by
  have h1 := h.bw
  have h2 := h.qw
  have h3 := h.inp.lt
  have F := (Turn.store W ⟨q, 1, none⟩ (.int .i64 v)).far
  exact ⟨h.turn.setCell (p := ⟨q, 1, none⟩) (by show w.heap.size ≤ q; omega) _, h.src.store ⟨q, 1, none⟩ _ (by show b < q; omega), h.out.far F (.inl (by show w.heap.size < q; omega)), h.inp.put1 _, h.ws.far F (.inl (Nat.le_refl _)) (by omega), h1, h2⟩
theorem InMid.end_ (h : InMid w W B b a len cap f u q tr fo so M) {t : Int} {sc : Nat} (hM : M.length ≤ 13) (hz : wzs M ≤ 624) (hu : 0 ≤ u ∧ u ≤ t + 1020) : WithP w B b a len cap f t (.returned (.tuple #[.agg #[.bool tr, .int .i64 fo], .slice so M.length sc])) ((W.setCell ⟨w.heap.size, 0, none⟩ (.bool tr)).setCell ⟨w.heap.size, 1, none⟩ (.int .i64 fo)) := by
  have h1 := h.bw
  have h2 := h.qw
  have h3 := h.inp.lt
  have F0 := (Turn.store W ⟨w.heap.size, 0, none⟩ (.bool tr)).far
  have F1 := (Turn.store (W.setCell ⟨w.heap.size, 0, none⟩ (.bool tr)) ⟨w.heap.size, 1, none⟩ (.int .i64 fo)).far
  exact ⟨tr, fo, so, sc, M, u, rfl, hM, hz, hu.1, hu.2, (((h.ws.far F0 (.inr (Nat.le_refl _)) (by omega)).far F1 (.inr (Nat.le_refl _)) (by simp; omega)).wide (Nat.le_succ _) (by simp; omega)), (h.turn.setCell (p := ⟨w.heap.size, 0, none⟩) (Nat.le_refl _) _).setCell (p := ⟨w.heap.size, 1, none⟩) (Nat.le_refl _) _, (h.src.store ⟨w.heap.size, 0, none⟩ _ h1).store ⟨w.heap.size, 1, none⟩ _ h1⟩
end

set_option maxRecDepth 100000 in
set_option maxHeartbeats 8000000 in
theorem l10With_any (w : World) (B b : Nat) (a : Option Addr) (len cap : Nat) (f : Nat → Int) (t : Int) (S : Src w B b a len cap f t) (t0 : 0 ≤ t) (t1 : t ≤ 40000) :
    Calls Try.prog 36 #[.pointer (some ⟨b, 0, none⟩)] w (WithP w B b a len cap f t) := by
  have hlt := S.lt
  have S0 := hideP (S.grow (kalC w (.cells #[.bool false, .int .i64 0] 25)))
  clear S
  go_enter Try.func36, Try.ntmps36
  go_wp2_with fail
  refine Calls.mono (wbent_any _ B b a len cap f t S0.out (by omega) (by omega)) ?_
  rintro e w1 ⟨so, sc, M, u1, rfl, hM, hz, p1, q1, hW, ht, hs⟩
  have m1 := ht.size
  simp only [World.size_alloc] at m1 hW
  have X1 := hideP ((rb_newH w (.bool false) (.int .i64 0) 25).far ht.far (.inr (by omega)))
  have T1 := hideP ((Turn.of_below (b := b) (kalC w (.cells #[.bool false, .int .i64 0] 25))).trans ht)
  have S1 := hideP hs
  have W1 := hideP hW
  clear ht hs hW S0
  go_wp2_with fail
  refine Calls.mono (chance_any _ B b a len cap f u1 4 S1.out (by omega) (by omega) (by omega) (by omega)) ?_
  rintro e w2 ⟨tr, rfl, ht, hs⟩
  have m2 := ht.size
  have I2 : Hid (InMid w (w2.alloc (.cells #[.bool tr, .int .i64 0] 25)) B b a len cap f (u1 + 1) w2.heap.size tr 0 so M) := by
    refine hideP ⟨(T1.out.trans ht).alloc _, hs.grow (kalC w2 _), (X1.out.far ht.far (.inr (by omega))).keep (kalC w2 _) (by omega), rb_newH w2 _ _ _, ((W1.out.turn ht (by omega) (Nat.le_refl _)).keep (kalC w2 _) m2).wide (Nat.le_refl _) m2, hlt, by omega⟩
  have hq : ¬ w.heap.size = w2.heap.size ∧ ¬ w2.heap.size = w.heap.size := by omega
  obtain ⟨hq1, hq2⟩ := hq
  clear ht hs S1 T1 X1 W1
  by_cases h0 : M.length = 0
  · have hn0 : ¬ (0 : Int) < (M.length : Int) := by omega
    clear h0
    obtain ⟨fo, hfo⟩ : ∃ x : Int, 0 = x := ⟨_, rfl⟩
    have I3 := hideP I2.out
    rw [hfo] at I3
    obtain ⟨x0, x1, xf0, xf1, xl⟩ := I3.out.out
    obtain ⟨q0, q1', qf0, qf1, ql⟩ := I3.out.inp
    go_wp2_with fail
    refine Calls.mono (chance_any _ B b a len cap f (u1 + 1) 12 I3.out.src (by omega) (by omega) (by omega) (by omega)) ?_
    rintro e v1 ⟨r, rfl, ht, hs⟩
    have J1 := hideP (I3.out.next ht hs)
    clear ht hs I3 x0 x1 xf0 xf1 xl q0 q1' qf0 qf1 ql
    cases r
    · obtain ⟨x0, x1, xf0, xf1, xl⟩ := J1.out.out
      obtain ⟨q0, q1', qf0, qf1, ql⟩ := J1.out.inp
      go_wp2
      exact bodyPost_ret (v := .tuple #[.agg #[.bool tr, .int .i64 fo], .slice so M.length sc]) (by simp [results, Try.results36, go_sem, x0, x1]) rfl (J1.out.end_ hM hz (by omega))
    · go_wp2_with fail
      refine Calls.mono (pick5 (fun _ => True) v1 _ _ a len cap f (u1 + 1 + 1) _ 2 3 v1.heap.size rfl (inbL5 [1, 66, 7] (by simp)) J1.out.src (by omega) (by omega) (by omega) (by omega)) ?_
      rintro e v2 ⟨v, rfl, -, ht, hs⟩
      have J2 := hideP (J1.out.next ht hs)
      have J3 := hideP (J2.out.put v)
      clear ht hs J1
      obtain ⟨x0, x1, xf0, xf1, xl⟩ := J2.out.out
      obtain ⟨q0, q1', qf0, qf1, ql⟩ := J2.out.inp
      clear J2
      go_wp2
      obtain ⟨y0, y1, yf0, yf1, yl⟩ := J3.out.out
      exact bodyPost_ret (v := .tuple #[.agg #[.bool tr, .int .i64 v], .slice so M.length sc]) (by simp [results, Try.results36, go_sem, y0, y1]) rfl (J3.out.end_ hM hz (by omega))

  · have hn0 : (0 : Int) < (M.length : Int) := by omega
    have hn1 : (M.length : Int) ≤ 13 := by omega
    have hne : M ≠ [] := fun e => h0 (by rw [e]; rfl)
    go_wp2_with fail
    refine Calls.mono (chance_any _ B b a len cap f (u1 + 1) 2 I2.out.src (by omega) (by omega) (by omega) (by omega)) ?_
    rintro e w3 ⟨r2, rfl, ht, hs⟩
    have I3 := hideP (I2.out.next ht hs)
    clear ht hs I2
    cases r2
    · obtain ⟨fo, hfo⟩ : ∃ x : Int, 0 = x := ⟨_, rfl⟩
      rw [hfo] at I3
      obtain ⟨x0, x1, xf0, xf1, xl⟩ := I3.out.out
      obtain ⟨q0, q1', qf0, qf1, ql⟩ := I3.out.inp
      go_wp2_with fail
      refine Calls.mono (chance_any _ B b a len cap f (u1 + 1 + 1) 12 I3.out.src (by omega) (by omega) (by omega) (by omega)) ?_
      rintro e v1 ⟨r, rfl, ht, hs⟩
      have J1 := hideP (I3.out.next ht hs)
      clear ht hs I3 x0 x1 xf0 xf1 xl q0 q1' qf0 qf1 ql
      cases r
      · obtain ⟨x0, x1, xf0, xf1, xl⟩ := J1.out.out
        obtain ⟨q0, q1', qf0, qf1, ql⟩ := J1.out.inp
        go_wp2
        exact bodyPost_ret (v := .tuple #[.agg #[.bool tr, .int .i64 fo], .slice so M.length sc]) (by simp [results, Try.results36, go_sem, x0, x1]) rfl (J1.out.end_ hM hz (by omega))
      · go_wp2_with fail
        refine Calls.mono (pick5 (fun _ => True) v1 _ _ a len cap f (u1 + 1 + 1 + 1) _ 2 3 v1.heap.size rfl (inbL5 [1, 66, 7] (by simp)) J1.out.src (by omega) (by omega) (by omega) (by omega)) ?_
        rintro e v2 ⟨v, rfl, -, ht, hs⟩
        have J2 := hideP (J1.out.next ht hs)
        have J3 := hideP (J2.out.put v)
        clear ht hs J1
        obtain ⟨x0, x1, xf0, xf1, xl⟩ := J2.out.out
        obtain ⟨q0, q1', qf0, qf1, ql⟩ := J2.out.inp
        clear J2
        go_wp2
        obtain ⟨y0, y1, yf0, yf1, yl⟩ := J3.out.out
        exact bodyPost_ret (v := .tuple #[.agg #[.bool tr, .int .i64 v], .slice so M.length sc]) (by simp [results, Try.results36, go_sem, y0, y1]) rfl (J3.out.end_ hM hz (by omega))

    · obtain ⟨g, o, hso, -, hg, hc⟩ : ∃ g o, so = some ⟨g, o, none⟩ ∧ w.heap.size + 1 ≤ g ∧ g < w2.heap.size ∧ ∀ i (h : i < M.length), Cl Wn.vals w3 g (o + i * 7) M[i] ∧ True := by
        rcases I3.out.ws with e | ⟨g, o, e, h1, h2, h3⟩
        · exact absurd e hne
        · exact ⟨g, o, e, h1, h2, fun i hi => ⟨(h3 i hi).1, trivial⟩⟩
      subst hso
      obtain ⟨a0, a1, a2, a3, a4, a5, a6⟩ := (hc 0 (by omega)).1.seven
      obtain ⟨fo, hfo⟩ : ∃ x : Int, M[0].i = x := ⟨_, rfl⟩
      simp only [Nat.zero_mul, Nat.add_zero, hfo] at a0
      have I4 := hideP (I3.out.put fo)
      obtain ⟨z0, z1, zf0, zf1, zl⟩ := I3.out.inp
      obtain ⟨y0, y1, yf0, yf1, yl⟩ := I3.out.out
      clear a1 a2 a3 a4 a5 a6 hc I3
      obtain ⟨x0, x1, xf0, xf1, xl⟩ := I4.out.out
      obtain ⟨q0, q1', qf0, qf1, ql⟩ := I4.out.inp
      go_wp2_with fail
      refine Calls.mono (chance_any _ B b a len cap f (u1 + 1 + 1) 12 I4.out.src (by omega) (by omega) (by omega) (by omega)) ?_
      rintro e v1 ⟨r, rfl, ht, hs⟩
      have J1 := hideP (I4.out.next ht hs)
      clear ht hs I4 x0 x1 xf0 xf1 xl q0 q1' qf0 qf1 ql
      cases r
      · obtain ⟨x0, x1, xf0, xf1, xl⟩ := J1.out.out
        obtain ⟨q0, q1', qf0, qf1, ql⟩ := J1.out.inp
        go_wp2
        exact bodyPost_ret (v := .tuple #[.agg #[.bool tr, .int .i64 fo], .slice (some ⟨g, o, none⟩) M.length sc]) (by simp [results, Try.results36, go_sem, x0, x1]) rfl (J1.out.end_ hM hz (by omega))
      · go_wp2_with fail
        refine Calls.mono (pick5 (fun _ => True) v1 _ _ a len cap f (u1 + 1 + 1 + 1) _ 2 3 v1.heap.size rfl (inbL5 [1, 66, 7] (by simp)) J1.out.src (by omega) (by omega) (by omega) (by omega)) ?_
        rintro e v2 ⟨v, rfl, -, ht, hs⟩
        have J2 := hideP (J1.out.next ht hs)
        have J3 := hideP (J2.out.put v)
        clear ht hs J1
        obtain ⟨x0, x1, xf0, xf1, xl⟩ := J2.out.out
        obtain ⟨q0, q1', qf0, qf1, ql⟩ := J2.out.inp
        clear J2
        go_wp2
        obtain ⟨y0, y1, yf0, yf1, yl⟩ := J3.out.out
        exact bodyPost_ret (v := .tuple #[.agg #[.bool tr, .int .i64 v], .slice (some ⟨g, o, none⟩) M.length sc]) (by simp [results, Try.results36, go_sem, y0, y1]) rfl (J3.out.end_ hM hz (by omega))


end Go.Proofs.Ytoipcnpemmajaaa

namespace Go.Proofs.Ytoipcnpemmajaaa
open Go.RowKit
set_option linter.unusedVariables false
attribute [local go_sem] growUponR growAtR

theorem R7.put {w : World} {b : Nat} {v0 v1 v2 v3 v4 v5 v6 : Value} (h : R7 w b v0 v1 v2 v3 v4 v5 v6) (u0 u1 u2 u3 u4 u5 u6 : Value) : R7 (((((((w.setCell ⟨b, 0, none⟩ u0).setCell ⟨b, 1, none⟩ u1).setCell ⟨b, 2, none⟩ u2).setCell ⟨b, 3, none⟩ u3).setCell ⟨b, 4, none⟩ u4).setCell ⟨b, 5, none⟩ u5).setCell ⟨b, 6, none⟩ u6) b u0 u1 u2 u3 u4 u5 u6 := by
  have hp := put7 (w := w) (g := b) (o := 0) u0 u1 u2 u3 u4 u5 u6 (fun j hj => by
    have : j = 0 ∨ j = 1 ∨ j = 2 ∨ j = 3 ∨ j = 4 ∨ j = 5 ∨ j = 6 := by omega
    rcases this with rfl | rfl | rfl | rfl | rfl | rfl | rfl
    · exact ⟨_, h.c0⟩
    · exact ⟨_, h.c1⟩
    · exact ⟨_, h.c2⟩
    · exact ⟨_, h.c3⟩
    · exact ⟨_, h.c4⟩
    · exact ⟨_, h.c5⟩
    · exact ⟨_, h.c6⟩)
  simp only [Nat.zero_add] at hp
  obtain ⟨⟨a0, a1, a2, a3, a4, a5, a6⟩, _, _⟩ := hp
  exact ⟨a0, a1, a2, a3, a4, a5, a6, fun c => by simpa using h.fr c, by simpa using h.lt⟩

theorem row_set {w w' : World} {B lo hi : Nat} {ao : Option Addr} {D : List Int} (k : Below B w w') (h : Row .i64 w' lo hi ao D) (hs : hi ≤ w'.heap.size) {g o : Nat} (hg : g < lo) (hB : B ≤ g) (v : Value) : Below B w (w'.setCell ⟨g, o, none⟩ v) ∧ Row .i64 (w'.setCell ⟨g, o, none⟩ v) lo hi ao D ∧ hi ≤ (w'.setCell ⟨g, o, none⟩ v).heap.size :=
  ⟨k.setCell hB v, h.far ((Far.refl g (g + 1) w').setCell (p := ⟨g, o, none⟩) (Nat.le_refl _) (Nat.lt_succ_self _) v) (.inr (by omega)) hs, by simpa using hs⟩

theorem rel_farD (lo hi : Nat) : Rel (Far lo hi) := ⟨fun w => Far.refl lo hi w, fun h k => h.trans k, fun w o => Far.of_below ((Below.refl _ _).alloc (Nat.le_refl _) _), fun w => Far.of_below (Below.refl _ _).drew⟩
theorem far_put7 {w : World} {lo hi : Nat} (b : Nat) (h1 : lo ≤ b) (h2 : b < hi) (u0 u1 u2 u3 u4 u5 u6 : Value) : Far lo hi w (((((((w.setCell ⟨b, 0, none⟩ u0).setCell ⟨b, 1, none⟩ u1).setCell ⟨b, 2, none⟩ u2).setCell ⟨b, 3, none⟩ u3).setCell ⟨b, 4, none⟩ u4).setCell ⟨b, 5, none⟩ u5).setCell ⟨b, 6, none⟩ u6) :=
  ((((((((Far.refl lo hi w).setCell (p := ⟨b, 0, none⟩) h1 h2 u0).setCell (p := ⟨b, 1, none⟩) h1 h2 u1).setCell (p := ⟨b, 2, none⟩) h1 h2 u2).setCell (p := ⟨b, 3, none⟩) h1 h2 u3).setCell (p := ⟨b, 4, none⟩) h1 h2 u4).setCell (p := ⟨b, 5, none⟩) h1 h2 u5).setCell (p := ⟨b, 6, none⟩) h1 h2 u6)

end Go.Proofs.Ytoipcnpemmajaaa

namespace Go.Proofs.Ytoipcnpemmajaaa
open Go.RowKit
set_option linter.unusedVariables false
attribute [local go_sem] growUponR growAtR

theorem Rb.set0H {w : World} {b : Nat} {v0 v1 : Value} (h : Rb w b v0 v1) (u : Value) : Rb (w.setCell ⟨b, 0, none⟩ u) b u v1 :=
  ⟨cell_set_same h.c0, (cell_set_other (by omega)).trans h.c1, by simpa using h.f0, by simpa using h.f1, by simpa using h.lt⟩
/-- An input and a stack were drawn, and the rest R of an answer. -/
def DrawN (w : World) (R : World → Array Value → Prop) (e : Ending) (w' : World) : Prop :=
  ∃ (tr : Bool) (fo : Int) (so : Option Addr) (sc : Nat) (M : List Wn) (vs : Array Value), e = .returned (.tuple (#[.agg #[.bool tr, .int .i64 fo], .slice so M.length sc] ++ vs)) ∧ R w' vs ∧ M.length ≤ 13 ∧ wzs M ≤ 624 ∧ Below w.heap.size w w' ∧ Ws w' w.heap.size w'.heap.size so M

set_option maxRecDepth 100000 in
set_option maxHeartbeats 2000000 in
theorem drawLose_any (w : World) (a : Option Addr) (len cap : Nat) (f : Nat → Int) (hB : Bytes w w.heap.size a len f) (hl : len ≤ 1048576) :
    Calls Try.prog 12 #[.slice a len cap] w (DrawN w fun _ vs => vs = #[]) := by
  have ka := (Below.refl w.heap.size w).alloc (Nat.le_refl _) (.cells #[.bool false, .int .i64 0] 25)
  have S0 := hideP (Src.neww w _ (w.heap.size + 1) a len cap f 103 hB hl ka (by simp))
  have Q0 := hideP ((rb_newH w (.bool false) (.int .i64 0) 25).keep (kalC _ (.cells #[.slice a len cap, .int .i64 0] 103)) (by simp))
  have KA := hideP (ka.alloc (by simp) (.cells #[.slice a len cap, .int .i64 0] 103))
  clear hB ka
  go_enter Try.func12, Try.ntmps12
  go_wp2_with (first | (go_at_call 35; go_in))
  refine Calls.mono (l10With_any _ _ _ a len cap f 0 S0.out (by omega) (by omega)) ?_
  rintro e w1 ⟨tr, fo, so, sc, M, u, rfl, hM, hz, u0, u1, hW, ht, hs⟩
  have K1 := hideP (Turn.below KA.out (Nat.le_succ _) (by simp only [World.size_alloc]; omega) ht)
  have Q1 := hideP (Q0.out.far ht.far (.inl (Nat.lt_succ_self _)))
  have W1 := hideP hW
  clear ht hs S0 hW Q0 KA
  obtain ⟨q0, q1, qf0, qf1, ql⟩ := Q1.out
  go_wp2
  obtain ⟨k5, W5, n5⟩ := drawn_set K1.out W1.out (Nat.le_refl _) (g := w.heap.size) (o := 0) (by simp; omega) (Nat.le_refl _) (.bool tr)
  obtain ⟨k6, W6, n6⟩ := drawn_set k5 W5 n5 (g := w.heap.size) (o := 1) (by simp; omega) (Nat.le_refl _) (.int .i64 fo)
  exact bodyPost_ret (v := .tuple #[.agg #[.bool tr, .int .i64 fo], .slice so M.length sc]) (by simp [results, Try.results12, go_sem, q0, q1]) rfl ⟨tr, fo, so, sc, M, #[], rfl, rfl, hM, hz, k6, W6.wide (by simp; omega) n6⟩

set_option maxRecDepth 100000 in
set_option maxHeartbeats 4000000 in
theorem drawRoute_any (w : World) (a : Option Addr) (len cap : Nat) (f : Nat → Int) (hB : Bytes w w.heap.size a len f) (hl : len ≤ 1048576) :
    Calls Try.prog 10 #[.slice a len cap] w (DrawN w fun _ vs => ∃ k x y : Int, vs = #[.agg #[.int .i64 k, .int .i64 x, .int .i64 y]]) := by
  have ka := (Below.refl w.heap.size w).alloc (Nat.le_refl _) (.cells #[.bool false, .int .i64 0] 25)
  have kb := ka.alloc (by simp) (.cells #[.int .i64 0, .int .i64 0, .int .i64 0] 28)
  have S0 := hideP (Src.neww w _ (w.heap.size + 1 + 1) a len cap f 103 hB hl kb (by simp))
  have Q0 := hideP (((rb_newH w (.bool false) (.int .i64 0) 25).keep (kalC _ (.cells #[.int .i64 0, .int .i64 0, .int .i64 0] 28)) (by simp)).keep (kalC _ (.cells #[.slice a len cap, .int .i64 0] 103)) (by simp; omega))
  have X0 : Hid (R3 _ (w.heap.size + 1) (.int .i64 0) (.int .i64 0) (.int .i64 0)) := hideP (by simpa using (r3_new (w.alloc (.cells #[.bool false, .int .i64 0] 25)) (.int .i64 0) (.int .i64 0) (.int .i64 0) 28).keep (kalC _ (.cells #[.slice a len cap, .int .i64 0] 103)) (by simp))
  have KA := hideP (kb.alloc (by simp; omega) (.cells #[.slice a len cap, .int .i64 0] 103))
  clear hB ka kb
  go_enter Try.func10, Try.ntmps10
  go_wp2_with (first | (go_at_call 35; go_in))
  refine Calls.mono (l10With_any _ _ _ a len cap f 0 S0.out (by omega) (by omega)) ?_
  rintro e w1 ⟨tr, fo, so, sc, M, u, rfl, hM, hz, u0, u1, hW, ht, hs⟩
  have n1 := ht.size
  simp only [World.size_alloc] at n1 hW
  have K1 := hideP (Turn.below KA.out (by omega) (by simp only [World.size_alloc]; omega) ht)
  have Q1 := hideP (Q0.out.far ht.far (.inl (by omega)))
  have X1 := hideP (X0.out.far ht.far (.inl (by omega)))
  have W1 := hideP hW
  have S1 := hideP hs
  clear ht hs S0 hW Q0 KA X0
  go_wp2
  have B1 := hideP (rb_newH w1 (.bool tr) (.int .i64 fo) 25)
  have kk := kalC w1 (.cells #[.bool tr, .int .i64 fo] 25)
  have K2 := hideP (K1.out.trans (kk.mono (by omega)))
  have Q2 := hideP (Q1.out.keep kk (by omega))
  have X2 := hideP (X1.out.keep kk (by omega))
  have W2 := hideP (W1.out.keep kk (Nat.le_refl _))
  have S2 := hideP (S1.out.grow kk)
  have n2 : w1.heap.size < (w1.alloc (.cells #[.bool tr, .int .i64 fo] 25)).heap.size := by simp
  clear kk K1 Q1 X1 W1 S1
  generalize w1.alloc (.cells #[.bool tr, .int .i64 fo] 25) = w2 at *
  generalize w1.heap.size = q at *
  obtain ⟨b0, b1, bf0, bf1, bl⟩ := B1.out
  have hqb : ¬ q = w.heap.size + 1 + 1 := by omega
  have hqr : w.heap.size + 1 + 1 + 1 ≤ q := by omega
  refine wp_region_plan (R := Far w.heap.size (w.heap.size + 1 + 1 + 1)) (G := Kept) (rel_farD _ _) rel_keptA (fun h => Far.of_below h) 5 [(true, 0), (true, 1), (true, 2), (false, 3), (false, 4)] (by kernel_rfl) (by kernel_rfl) ?_
  simp only [selP, List.filterMap_cons, List.filterMap_nil, List.getElem?_cons_succ, List.getElem?_cons_zero, Option.map_some]
  repeat (refine plan_take _ (by first | exact wanted_free rfl | exact wanted_yes rfl rfl | exact wanted_no rfl rfl) (by first | with_reducible rfl | decide) ?_; apply Exists.intro; refine ⟨fun w' k1 => ?_, fun K hK => ?_⟩; (focus (have hc := fun o => (Far.cell k1 q o bl (.inr hqr)); go_simp; first | done | rfl)); (go_simp; refine hK _ ?_; clear hK K))
  refine plan_made _ (by first | exact wanted_free rfl | exact wanted_yes rfl rfl | exact wanted_no rfl rfl) (by first | with_reducible rfl | decide) fun w3 k3 => ?_
  have kk3 := Kept.below k3
  refine made_callsR (by go_simp; first | done | rfl) ((l10Bent_any w3 _ _ a len cap f u (S2.out.grow kk3) (by omega) (by omega)).mono ?_)
  rintro e w4 ⟨hk, hx, hy, u2, rfl, -, -, ht, -⟩
  have W4 := hideP ((W2.out.keep kk3 (by omega)).turn ht (by omega) (Nat.le_trans (Nat.le_of_lt n2) kk3.size))
  have Q4 := hideP ((Q2.out.keep kk3 (by omega)).far ht.far (.inl (by omega)))
  have X4 := hideP ((X2.out.keep kk3 (by omega)).far ht.far (.inl (by omega)))
  have K4 := hideP (Turn.below (K2.out.trans (kk3.mono (by omega))) (by omega) (by have := kk3.size; omega) ht)
  have n4 := Nat.le_trans (Nat.le_trans (Nat.le_of_lt n2) kk3.size) ht.size
  refine ⟨_, rfl, ht.far.wide (by omega) (Nat.le_refl _), fun K hK => ?_⟩
  go_simp
  refine hK _ ?_
  clear hK K ht kk3 k3 W2 Q2 X2 K2 S2 B1 b0 b1 bf0 bf1 bl
  repeat (refine plan_take _ (by first | exact wanted_free rfl | exact wanted_yes rfl rfl | exact wanted_no rfl rfl) (by first | with_reducible rfl | decide) ?_; apply Exists.intro; refine ⟨fun w' k1 => ?_, fun K hK => ?_⟩; (focus (go_simp; first | done | rfl)); (go_simp; refine hK _ ?_; clear hK K))
  refine plan_made _ (by first | exact wanted_free rfl | exact wanted_yes rfl rfl | exact wanted_no rfl rfl) (by first | with_reducible rfl | decide) fun w5 k5 => ?_
  have kk5 := Kept.below k5
  have W5 := hideP (W4.out.keep kk5 n4)
  have Q5 := hideP (Q4.out.keep kk5 (by omega))
  have X5 := hideP (X4.out.keep kk5 (by omega))
  have K5 := hideP (K4.out.trans (kk5.mono (by omega)))
  have n5 := Nat.le_trans n4 kk5.size
  clear kk5 k5 W4 Q4 X4 K4
  obtain ⟨q0, q1, qf0, qf1, ql⟩ := Q5.out
  refine made_skipR (by go_simp; first | done | rfl) (((Far.refl w.heap.size (w.heap.size + 1 + 1 + 1) w5).setCell (p := ⟨w.heap.size, 0, none⟩) (Nat.le_refl _) (by show w.heap.size < _; omega) (.bool tr)).setCell (p := ⟨w.heap.size, 1, none⟩) (Nat.le_refl _) (by show w.heap.size < _; omega) (.int .i64 fo)) fun K hK => ?_
  go_simp
  refine hK _ ?_
  clear hK K
  clear q0 q1 qf0 qf1 ql
  obtain ⟨k6, W6, n6⟩ := drawn_set K5.out W5.out n5 (g := w.heap.size) (o := 0) (by omega) (Nat.le_refl _) (.bool tr)
  obtain ⟨k7, W7, n7⟩ := drawn_set k6 W6 n6 (g := w.heap.size) (o := 1) (by omega) (Nat.le_refl _) (.int .i64 fo)
  have F0 := (Turn.store w5 ⟨w.heap.size, 0, none⟩ (.bool tr)).far
  have F1 := (Turn.store (w5.setCell ⟨w.heap.size, 0, none⟩ (.bool tr)) ⟨w.heap.size, 1, none⟩ (.int .i64 fo)).far
  have Q7 := hideP ((Q5.out.set0H (.bool tr)).put1 (.int .i64 fo))
  have X7 := hideP ((X5.out.far F0 (.inr (Nat.le_refl _))).far F1 (.inr (Nat.le_refl _)))
  have K7 := hideP k7
  have W7' := hideP W7
  clear F0 F1 k6 k7 W6 W7 K5 W5 Q5 X5 n6 n5
  generalize (w5.setCell ⟨w.heap.size, 0, none⟩ (.bool tr)).setCell ⟨w.heap.size, 1, none⟩ (.int .i64 fo) = w6 at *
  refine plan_nil fun w7 k7 => ?_
  try simp only [List.drop_succ_cons, List.drop_zero]
  have kk7 := Kept.below k7
  have K8 := hideP (K7.out.trans (kk7.mono K7.out.size))
  have W8 := hideP (W7'.out.keep kk7 n7)
  have n8 := Nat.le_trans n7 kk7.size
  obtain ⟨q0, q1, qf0, qf1, ql⟩ := Q7.out.keep kk7 Q7.out.lt
  obtain ⟨x0, x1, x2, xf, xl⟩ := X7.out.keep kk7 X7.out.lt
  clear kk7 k7 K7 W7' Q7 X7
  go_wp2
  obtain ⟨k8, W8, n8⟩ := drawn_set K8.out W8.out n8 (g := w.heap.size + 1) (o := 0) (by omega) (by omega) (.int .i64 hk)
  obtain ⟨k9, W9, n9⟩ := drawn_set k8 W8 n8 (g := w.heap.size + 1) (o := 1) (by omega) (by omega) (.int .i64 hx)
  obtain ⟨ka, Wa, na⟩ := drawn_set k9 W9 n9 (g := w.heap.size + 1) (o := 2) (by omega) (by omega) (.int .i64 hy)
  exact bodyPost_ret (v := .tuple #[.agg #[.bool tr, .int .i64 fo], .slice so M.length sc, .agg #[.int .i64 hk, .int .i64 hx, .int .i64 hy]]) (by simp [results, Try.results10, go_sem, q0, q1, x0, x1, x2]) rfl ⟨tr, fo, so, sc, M, #[.agg #[.int .i64 hk, .int .i64 hx, .int .i64 hy]], rfl, ⟨_, _, _, rfl⟩, hM, hz, ka, Wa.wide (by omega) na⟩
end Go.Proofs.Ytoipcnpemmajaaa
