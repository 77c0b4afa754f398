/- An id of a stack that was drawn, or another one. What FnFills draws: a stack, an id, a rectangle and a colour; a point of a window; a window and a cell. What the laws of chapter 7 draw. (Written by gendw.py.) -/
import Derived.Test.YtejgcheddloffaaTr44
namespace Go.Proofs.Ytejgcheddloffaa
open Go.RowKit
set_option linter.unusedVariables false

set_option maxRecDepth 100000 in
set_option maxHeartbeats 2000000 in
theorem wid_any (w : World) (B b : Nat) (a : Option Addr) (len cap : Nat) (f : Nat → Int) (t : Int) (S : Src w B b a len cap f t) (t0 : 0 ≤ t) (t1 : t ≤ 90000) (lo hi : Nat) (so : Option Addr) (sc : Nat) (M : List Wn) (hW : Ws w lo hi so M) (hb : b < lo) (hs : hi ≤ w.heap.size) (hM : M.length ≤ 13) :
    Calls Try.prog 29 #[.pointer (some ⟨b, 0, none⟩), .slice so M.length sc] w fun e w' => ∃ (id u : Int), e = .returned (.int .i64 id) ∧ 0 ≤ u ∧ u ≤ t + 3 ∧ Turn b w w' ∧ Src w' B b a len cap f u := by
  have HW := hideP hW
  have hlt := S.lt
  by_cases h0 : M.length = 0
  · rw [h0]
    clear hW
    go_enter Try.func29, Try.ntmps29
    go_wp2_with fail
    refine Calls.mono (pick5 (fun _ => True) w B b a len cap f t _ 2 4 w.heap.size rfl (inbL5 [1, 66, 0, 193] (by simp)) S (by omega) (by omega) (by omega) (by omega)) ?_
    rintro e w1 ⟨z, rfl, -, ht, hs1⟩
    go_wp2
    go_returns
    exact ⟨z, t + 1, rfl, by omega, by omega, ht, hs1⟩
  · obtain ⟨n, hn⟩ : ∃ n, M.length = n := ⟨_, rfl⟩
    have HN := hideP hn
    rw [hn] at h0 hM ⊢
    have hnp : 0 < n := by omega
    have hni : (0 : Int) < (n : Int) := by omega
    have hn13 : (n : Int) ≤ 13 := by omega
    clear hW hn
    go_enter Try.func29, Try.ntmps29
    go_wp2_with fail
    refine Calls.mono (chance_any _ B b a len cap f t 6 S (by omega) (by omega) (by omega) (by omega)) ?_
    rintro e w1 ⟨m, rfl, ht, hs1⟩
    have W1 := hideP (HW.out.turn ht hb hs)
    have z1 := ht.size
    cases m
    · go_wp2_with fail
      refine Calls.mono (next_any _ B b a len cap f (t + 1) n hs1 (by omega) (by omega) (by omega) (by omega)) ?_
      rintro e w2 ⟨k, rfl, k0, k1, ht2, hs2⟩
      have W2 := W1.out.turn ht2 hb (Nat.le_trans hs z1)
      obtain ⟨q, rfl⟩ : ∃ q : Nat, k = (q : Int) := ⟨k.toNat, by omega⟩
      have hqn : q < n := by omega
      rcases W2 with e | ⟨g, o, rfl, g1, g2, hc⟩
      · have := HN.out; rw [e] at this; simp at this; omega
      have hqM : q < M.length := by rw [HN.out]; exact hqn
      have c0 := (hc q hqM).1.seven.1
      have hg2 : g < w2.heap.size := by have := ht2.size; omega
      obtain ⟨d, hd⟩ : ∃ d, M[q].i = d := ⟨_, rfl⟩
      rw [hd] at c0
      have T2 := hideP (ht.trans ht2)
      clear hc ht ht2 W1 HW HN hd
      go_wp2
      go_returns
      exact ⟨d, t + 1 + 1, rfl, by omega, by omega, T2.out, hs2⟩
    · go_wp2_with fail
      refine Calls.mono (pick5 (fun _ => True) w1 B b a len cap f (t + 1) _ 2 4 w1.heap.size rfl (inbL5 [1, 66, 0, 193] (by simp)) hs1 (by omega) (by omega) (by omega) (by omega)) ?_
      rintro e w2 ⟨z, rfl, -, ht2, hs2⟩
      have T2 := hideP (ht.trans ht2)
      clear ht ht2
      go_wp2
      go_returns
      exact ⟨z, t + 1 + 1, rfl, by omega, by omega, T2.out, hs2⟩
end Go.Proofs.Ytejgcheddloffaa

namespace Go.Proofs.Ytejgcheddloffaa
open Go.RowKit
set_option linter.unusedVariables false

theorem Src.neww (w W : World) (b : Nat) (a : Option Addr) (len cap : Nat) (f : Nat → Int) (T : TypeId) (hB : Bytes w w.heap.size a len f) (hl : len ≤ 1048576) (hW : Below w.heap.size w W) (hb : b = W.heap.size) :
    Src (W.alloc (.cells #[.slice a len cap, .int .i64 0] T)) w.heap.size b a len cap f 0 := by
  subst hb
  exact ⟨by simp, hW.size, by simp [go_sem], by simp [go_sem], by simp [go_sem], hB.stay (Nat.le_refl _) (Turn.of_below (b := w.heap.size) (hW.alloc hW.size _)) (Nat.le_refl _), hl⟩

/-- A stack was drawn, and the rest R of an answer. -/
def DrawW (w : World) (R : Array Value → Prop) (e : Ending) (w' : World) : Prop :=
  ∃ (so : Option Addr) (sc : Nat) (M : List Wn) (vs : Array Value), e = .returned (.tuple (#[.slice so M.length sc] ++ vs)) ∧ R vs ∧ M.length ≤ 13 ∧ wzs M ≤ 624 ∧ Below w.heap.size w w' ∧ Ws w' w.heap.size w'.heap.size so M

/-- A box of four cells that is written later. -/
structure Q4 (w : World) (b : Nat) (v0 v1 v2 v3 : Value) : Prop where
  c0 : w.cell? ⟨b, 0, none⟩ = some v0
  c1 : w.cell? ⟨b, 1, none⟩ = some v1
  c2 : w.cell? ⟨b, 2, none⟩ = some v2
  c3 : w.cell? ⟨b, 3, none⟩ = some v3
  fr : ∀ c, w.frozen? ⟨b, c, none⟩ = false
  lt : b < w.heap.size
theorem Q4.far {w w' : World} {b lo hi : Nat} {v0 v1 v2 v3 : Value} (q : Q4 w b v0 v1 v2 v3) (f : Far lo hi w w') (hd : b < lo ∨ hi ≤ b) : Q4 w' b v0 v1 v2 v3 :=
  ⟨(f.cell b 0 q.lt hd).trans q.c0, (f.cell b 1 q.lt hd).trans q.c1, (f.cell b 2 q.lt hd).trans q.c2, (f.cell b 3 q.lt hd).trans q.c3, fun c => (f.frozen b c q.lt hd).trans (q.fr c), Nat.lt_of_lt_of_le q.lt f.size⟩
theorem Q4.turn {w w' : World} {b q : Nat} {v0 v1 v2 v3 : Value} (h : Q4 w q v0 v1 v2 v3) (t : Turn b w w') (hd : q < b) : Q4 w' q v0 v1 v2 v3 := h.far t.far (.inl hd)
theorem q4_new (w : World) (v0 v1 v2 v3 : Value) (T : TypeId) : Q4 (w.alloc (.cells #[v0, v1, v2, v3] T)) w.heap.size v0 v1 v2 v3 := ⟨by simp, by simp, by simp, by simp, by simp, by simp⟩
theorem Q4.put {w : World} {b : Nat} {v0 v1 v2 v3 : Value} (h : Q4 w b v0 v1 v2 v3) (u0 u1 u2 u3 : Value) : Q4 ((((w.setCell ⟨b, 0, none⟩ u0).setCell ⟨b, 1, none⟩ u1).setCell ⟨b, 2, none⟩ u2).setCell ⟨b, 3, none⟩ u3) b u0 u1 u2 u3 := by
  refine ⟨?_, ?_, ?_, ?_, fun c => by simpa using h.fr c, by simpa using h.lt⟩
  · rw [cell_set_other (by omega), cell_set_other (by omega), cell_set_other (by omega)]; exact cell_set_same h.c0
  · rw [cell_set_other (by omega), cell_set_other (by omega)]; exact cell_set_same ((cell_set_other (by omega)).trans h.c1)
  · rw [cell_set_other (by omega)]; exact cell_set_same ((cell_set_other (by omega)).trans ((cell_set_other (by omega)).trans h.c2))
  · exact cell_set_same ((cell_set_other (by omega)).trans ((cell_set_other (by omega)).trans ((cell_set_other (by omega)).trans h.c3)))
theorem R7.turn {w w' : World} {b q : Nat} {v0 v1 v2 v3 v4 v5 v6 : Value} (h : R7 w q v0 v1 v2 v3 v4 v5 v6) (t : Turn b w w') (hd : q < b) : R7 w' q v0 v1 v2 v3 v4 v5 v6 := h.far t.far (.inl hd)
/-- A box of before was written: what is drawn stands. -/
theorem drawn_set {w w' : World} {B lo hi : Nat} {so : Option Addr} {M : List Wn} (k : Below B w w') (h : Ws w' lo hi so M) (hs : hi ≤ w'.heap.size) {g o : Nat} (hg : g < lo) (hB : B ≤ g) (v : Value) : Below B w (w'.setCell ⟨g, o, none⟩ v) ∧ Ws (w'.setCell ⟨g, o, none⟩ v) lo hi so M ∧ hi ≤ (w'.setCell ⟨g, o, none⟩ v).heap.size :=
  ⟨k.setCell hB v, h.far ((Far.refl g (g + 1) w').setCell (p := ⟨g, o, none⟩) (Nat.le_refl _) (Nat.lt_succ_self _) v) (.inr (by omega)) hs, by simpa using hs⟩

end Go.Proofs.Ytejgcheddloffaa

namespace Go.Proofs.Ytejgcheddloffaa
open Go.RowKit
set_option linter.unusedVariables false

set_option maxRecDepth 100000 in
set_option maxHeartbeats 2000000 in
theorem drawDrop_any (w : World) (a : Option Addr) (len cap : Nat) (f : Nat → Int) (hB : Bytes w w.heap.size a len f) (hl : len ≤ 1048576) :
    Calls Try.prog 7 #[.slice a len cap] w (DrawW w (fun vs => ∃ v1 : Int, vs = #[.int .i64 v1])) := by
  have S0 := hideP (Src.neww w w w.heap.size a len cap f 80 hB hl (Below.refl _ _) rfl)
  have KA := hideP ((Below.refl _ w).alloc (Nat.le_refl _) (.cells #[.slice a len cap, .int .i64 0] 80))
  clear hB
  go_enter Try.func7, Try.ntmps7
  go_wp2_with (first | (go_at_call 18; go_in))
  refine Calls.mono (wbent_any _ _ _ a len cap f 0 S0.out (by omega) (by omega)) ?_
  rintro e w1 ⟨so, sc, M, u1, rfl, hM, hz, p1, q1, hW, ht, hs⟩
  have W1 := hideP hW
  have m1 := ht.size
  simp only [World.size_alloc] at m1 hW
  have T1 := hideP ht
  have S1 := hideP hs
  have n1 : w1.heap.size ≤ w1.heap.size := Nat.le_refl _
  clear ht hs S0 hW
  go_wp2_with fail
  refine Calls.mono (wid_any w1 w.heap.size w.heap.size a len cap f u1 S1.out (by omega) (by omega) _ _ so sc M W1.out (by simp) n1 hM) ?_
  rintro e w2 ⟨v1, u2, rfl, p2, q2, ht, hs⟩
  have T2 := hideP (T1.out.trans ht)
  have W2 := hideP (W1.out.turn ht (by simp) n1)
  have S2 := hideP hs
  have n2 := Nat.le_trans n1 ht.size
  clear ht hs S1 W1 T1
  have K := hideP (Turn.below KA.out (Nat.le_refl _) (by simp) T2.out)
  have P := hideP (W2.out.wide (lo' := w.heap.size) (by simp) n2)
  go_wp2
  go_returns
  exact ⟨so, sc, M, #[.int .i64 v1], rfl, ⟨_, rfl⟩, hM, hz, K.out, P.out⟩

set_option maxRecDepth 100000 in
set_option maxHeartbeats 2000000 in
theorem drawOff_any (w : World) (a : Option Addr) (len cap : Nat) (f : Nat → Int) (hB : Bytes w w.heap.size a len f) (hl : len ≤ 1048576) :
    Calls Try.prog 9 #[.slice a len cap] w (DrawW w (fun vs => ∃ v1 : Int, vs = #[.int .i64 v1])) := by
  have S0 := hideP (Src.neww w w w.heap.size a len cap f 80 hB hl (Below.refl _ _) rfl)
  have KA := hideP ((Below.refl _ w).alloc (Nat.le_refl _) (.cells #[.slice a len cap, .int .i64 0] 80))
  clear hB
  go_enter Try.func9, Try.ntmps9
  go_wp2_with (first | (go_at_call 18; go_in))
  refine Calls.mono (wbent_any _ _ _ a len cap f 0 S0.out (by omega) (by omega)) ?_
  rintro e w1 ⟨so, sc, M, u1, rfl, hM, hz, p1, q1, hW, ht, hs⟩
  have W1 := hideP hW
  have m1 := ht.size
  simp only [World.size_alloc] at m1 hW
  have T1 := hideP ht
  have S1 := hideP hs
  have n1 : w1.heap.size ≤ w1.heap.size := Nat.le_refl _
  clear ht hs S0 hW
  go_wp2_with fail
  refine Calls.mono (pick5 (fun _ => True) w1 _ _ a len cap f u1 _ 2 5 w1.heap.size rfl (inbL5 [0, 1, 2, 3, 4] (by simp)) S1.out (by omega) (by omega) (by omega) (by omega)) ?_
  rintro e w2 ⟨v1, rfl, -, ht, hs⟩
  obtain ⟨u2, hu2⟩ : ∃ u : Int, u1 + 1 = u := ⟨_, rfl⟩
  rw [hu2] at hs
  have T2 := hideP (T1.out.trans ht)
  have W2 := hideP (W1.out.turn ht (by simp) n1)
  have S2 := hideP hs
  have n2 := Nat.le_trans n1 ht.size
  clear ht hs S1 W1 T1
  have K := hideP (Turn.below KA.out (Nat.le_refl _) (by simp) T2.out)
  have P := hideP (W2.out.wide (lo' := w.heap.size) (by simp) n2)
  go_wp2
  go_returns
  exact ⟨so, sc, M, #[.int .i64 v1], rfl, ⟨_, rfl⟩, hM, hz, K.out, P.out⟩

set_option maxRecDepth 100000 in
set_option maxHeartbeats 2000000 in
theorem drawMakeW_any (w : World) (a : Option Addr) (len cap : Nat) (f : Nat → Int) (hB : Bytes w w.heap.size a len f) (hl : len ≤ 1048576) :
    Calls Try.prog 5 #[.slice a len cap] w (DrawW w (fun vs => ∃ v1 rx ry rp rh : Int, vs = #[.int .i64 v1, .agg #[.int .i64 rx, .int .i64 ry, .int .i64 rp, .int .i64 rh]])) := by
  have ka := (Below.refl w.heap.size w).alloc (Nat.le_refl _) (.cells #[.int .i64 0, .int .i64 0, .int .i64 0, .int .i64 0] 26)
  have S0 := hideP (Src.neww w _ (w.heap.size + 1) a len cap f 80 hB hl ka (by simp))
  have Q0 := hideP ((q4_new w (.int .i64 0) (.int .i64 0) (.int .i64 0) (.int .i64 0) 26).far (Far.of_below (lo := 0) (hi := 0) ((Below.refl _ _).alloc (Nat.le_refl _) (.cells #[.slice a len cap, .int .i64 0] 80))) (.inr (Nat.zero_le _)))
  have KA := hideP (ka.alloc (by simp) (.cells #[.slice a len cap, .int .i64 0] 80))
  clear hB ka
  go_enter Try.func5, Try.ntmps5
  go_wp2_with (first | (go_at_call 18; go_in))
  refine Calls.mono (wbent_any _ _ _ a len cap f 0 S0.out (by omega) (by omega)) ?_
  rintro e w1 ⟨so, sc, M, u1, rfl, hM, hz, p1, q1, hW, ht, hs⟩
  have W1 := hideP hW
  have m1 := ht.size
  simp only [World.size_alloc] at m1 hW
  have T1 := hideP ht
  have S1 := hideP hs
  have n1 : w1.heap.size ≤ w1.heap.size := Nat.le_refl _
  clear ht hs S0 hW
  go_wp2_with fail
  refine Calls.mono (pick5 (fun _ => True) w1 _ _ a len cap f u1 _ 2 5 w1.heap.size rfl (inbL5 [0, 1, 2, 3, 4] (by simp)) S1.out (by omega) (by omega) (by omega) (by omega)) ?_
  rintro e w2 ⟨v1, rfl, -, ht, hs⟩
  obtain ⟨u2, hu2⟩ : ∃ u : Int, u1 + 1 = u := ⟨_, rfl⟩
  rw [hu2] at hs
  have T2 := hideP (T1.out.trans ht)
  have W2 := hideP (W1.out.turn ht (by simp) n1)
  have S2 := hideP hs
  have n2 := Nat.le_trans n1 ht.size
  clear ht hs S1 W1 T1
  go_wp2_with fail
  refine Calls.mono (rbent_any w2 _ _ a len cap f u2 S2.out (by omega) (by omega)) ?_
  rintro e w3 ⟨⟨rx, ry, rp, rh⟩, u3, rfl, ht, p3, q3, hs⟩
  have T3 := hideP (T2.out.trans ht)
  have W3 := hideP (W2.out.turn ht (by simp) n2)
  have S3 := hideP hs
  have n3 := Nat.le_trans n2 ht.size
  clear ht hs S2 W2 T2
  have K := hideP (Turn.below KA.out (Nat.le_succ _) (by simp only [World.size_alloc]; omega) T3.out)
  have Q := hideP (Q0.out.turn T3.out (by simp))
  obtain ⟨q0, q11, q22, q33, qf, ql⟩ := Q.out
  go_wp2
  clear q0 q11 q22 q33 qf ql
  obtain ⟨k0, X0, e0⟩ := drawn_set K.out W3.out n3 (g := w.heap.size) (o := 0) (by simp; omega) (Nat.le_refl _) (.int .i64 rx)
  obtain ⟨k1, X1, e1⟩ := drawn_set k0 X0 e0 (g := w.heap.size) (o := 1) (by simp; omega) (Nat.le_refl _) (.int .i64 ry)
  obtain ⟨k2, X2, e2⟩ := drawn_set k1 X1 e1 (g := w.heap.size) (o := 2) (by simp; omega) (Nat.le_refl _) (.int .i64 rp)
  obtain ⟨k3, X3, e3⟩ := drawn_set k2 X2 e2 (g := w.heap.size) (o := 3) (by simp; omega) (Nat.le_refl _) (.int .i64 rh)
  have HK := hideP k3
  have HP := hideP (X3.wide (lo' := w.heap.size) (by simp; omega) e3)
  obtain ⟨q0, q11, q22, q33, qf, ql⟩ := Q.out.put (.int .i64 rx) (.int .i64 ry) (.int .i64 rp) (.int .i64 rh)
  clear k0 k1 k2 k3 X0 X1 X2 X3 e0 e1 e2 e3 K Q
  generalize (((w3.setCell ⟨w.heap.size, 0, none⟩ (.int .i64 rx)).setCell ⟨w.heap.size, 1, none⟩ (.int .i64 ry)).setCell ⟨w.heap.size, 2, none⟩ (.int .i64 rp)).setCell ⟨w.heap.size, 3, none⟩ (.int .i64 rh) = w9 at *
  refine bodyPost_ret (v := .tuple #[.slice so M.length sc, .int .i64 v1, .agg #[.int .i64 rx, .int .i64 ry, .int .i64 rp, .int .i64 rh]]) (by simp [results, Try.results5, go_sem, q0, q11, q22, q33]) rfl ⟨so, sc, M, #[.int .i64 v1, .agg #[.int .i64 rx, .int .i64 ry, .int .i64 rp, .int .i64 rh]], rfl, ⟨_, _, _, _, _, rfl⟩, hM, hz, HK.out, HP.out⟩

end Go.Proofs.Ytejgcheddloffaa
