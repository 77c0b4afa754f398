/- What FnTyped draws: an input, its stack, a list of hands. RouteMany, by the program. RouteMany, by the model: where none is asked. -/
import Derived.Test.YtoipcnpemmajaaaTt48
import Derived.Test.YtoipcnpemmajaaaTt44
import Derived.Test.YtoipcnpemmajaaaTt46
import Derived.Test.YtoipcnpemmajaaaTt47
namespace Go.Proofs.Ytoipcnpemmajaaa
open Go.RowKit
set_option linter.unusedVariables false

theorem Turn.grownByH {b : Nat} {w w' : World} (t : Turn b w w') : w.grownBy w' (some b) := ⟨t.os, t.tape, t.output, t.size, fun k hk hne => t.block k hk (fun e => hne (by rw [e]))⟩
theorem Turn.ofGrownH {b B : Nat} {w w' : World} {row : Option Nat} (hg : w.grownBy w' row) (hB : ∀ k, row = some k → B ≤ k) (w0 : World) (h0 : Turn b w0 w) (hw : w0.heap.size ≤ B) : Turn b w0 w' :=
  ⟨hg.os.trans h0.os, hg.tape.trans h0.tape, hg.output.trans h0.output, Nat.le_trans h0.size hg.size, fun k hk hb => (hg.block k (Nat.lt_of_lt_of_le hk h0.size) (fun e => by have := hB k e.symm; omega)).trans (h0.block k hk hb)⟩
theorem Src.grownH {w w' : World} {B b : Nat} {a : Option Addr} {len cap : Nat} {f : Nat → Int} {t : Int} {row : Option Nat} (h : Src w B b a len cap f t) (hg : w.grownBy w' row) (hr : ∀ k, row = some k → b < k) : Src w' B b a len cap f t := by
  cases row with
  | none => exact h.grow ⟨hg.os, hg.tape, hg.output, hg.size, fun i hi => hg.block i hi (by simp)⟩
  | some k =>
    have hk := hr k rfl
    exact h.turn (c := k) ⟨hg.os, hg.tape, hg.output, hg.size, fun i hi hb => hg.block i hi (by simpa using hb)⟩ (by have := h.le; omega) (by omega)
theorem OwnH.turn {w w' : World} {B b : Nat} {ao : Option Addr} {cap : Nat} {L : List Hd} (h : OwnH w B ao cap L) (t : Turn b w w') (hb : b < B) : OwnH w' B ao cap L :=
  World.ownsRow.kept h t.grownByH (by
    cases e : Value.ownBlock (.slice ao L.length cap) with
    | none => exact .inl rfl
    | some g => right; have := (World.ownsRow.lt h g e).1; intro h'; simp at h'; omega)
theorem ownH_form {w : World} {base : Nat} {v : Value} {L : List Hd} (h : w.ownsRow base 28 3 v L.length (hds L)) : ∃ ao cap, v = .slice ao L.length cap ∧ OwnH w base ao cap L := by
  have h' := h
  rcases h.2 with ⟨rfl, h0⟩ | ⟨g, cap, cur, rfl, _⟩
  · exact ⟨none, 0, by rw [h0], by unfold OwnH; rw [h0]; rw [h0] at h'; exact h'⟩
  · exact ⟨_, cap, rfl, h'⟩
theorem ownH_new (W : World) (n : Nat) (h : n = W.heap.size) : OwnH (W.alloc (.cells #[] 28)) n (some ⟨n, 0, none⟩) 0 [] := by
  subst h
  exact World.ownsRow_lit W #[] 0 (Nat.le_refl _) (by unfold maxLen; omega) rfl
theorem Hds.far {w w' : World} {lo hi lo' hi' : Nat} {ao : Option Addr} {L : List Hd} (h : Hds w lo hi ao L) (f : Far lo' hi' w w') (hd : hi ≤ lo' ∨ hi' ≤ lo) (hs : hi ≤ w.heap.size) : Hds w' lo hi ao L := by
  rcases h with h | ⟨g, o, ha, h1, h2, hc⟩
  · exact .inl h
  · have hg : g < w.heap.size := by omega
    have hq : g < lo' ∨ hi' ≤ g := by omega
    exact .inr ⟨g, o, ha, h1, h2, fun i hi => ⟨(f.cell g _ hg hq).trans (hc i hi).c0, (f.cell g _ hg hq).trans (hc i hi).c1, (f.cell g _ hg hq).trans (hc i hi).c2⟩⟩
def zeroHd : Hd := ⟨0, 0, 0⟩
theorem made21 : (madeCells (Value.cells (.agg #[.int .i64 0, .int .i64 0, .int .i64 0])) (21 * 3)).toList = hds (List.replicate 21 zeroHd) := by kernel_rfl

/-- Between two rounds: the list so far, the source. -/
structure HMid (w wr : World) (B b : Nat) (a : Option Addr) (len cap : Nat) (f : Nat → Int) (t' : Int) (ao : Option Addr) (ca : Nat) (L : List Hd) : Prop where
  own : OwnH wr w.heap.size ao ca L
  turn : Turn b w wr
  src : Src wr B b a len cap f t'
theorem HMid.next {w wr w1 : World} {B b : Nat} {a : Option Addr} {len cap : Nat} {f : Nat → Int} {t' t1 : Int} {ao : Option Addr} {ca : Nat} {L : List Hd} (h : HMid w wr B b a len cap f t' ao ca L) (hb : b < w.heap.size) (t : Turn b wr w1) (s : Src w1 B b a len cap f t1) : HMid w w1 B b a len cap f t1 ao ca L :=
  ⟨h.own.turn t hb, h.turn.trans t, s⟩
theorem HMid.app {w w1 w2 : World} {B b : Nat} {a : Option Addr} {len cap : Nat} {f : Nat → Int} {t' : Int} {ao : Option Addr} {ca : Nat} {L : List Hd} {r : Hd} {o : Obj} {v2 : Value} (h : HMid w w1 B b a len cap f t' ao ca L) (hb : b < w.heap.size)
    (ho : w2.ownsRow w.heap.size 28 3 v2 (L.length + 1) (hds L ++ [.int .i64 r.k, .int .i64 r.a, .int .i64 r.b])) (hg : (w1.alloc o).grownBy w2 (Value.ownBlock (.slice ao L.length ca))) :
    ∃ ao' ca', v2 = .slice ao' (L ++ [r]).length ca' ∧ HMid w w2 B b a len cap f t' ao' ca' (L ++ [r]) := by
  have hlt : ∀ k, Value.ownBlock (.slice ao L.length ca) = some k → w.heap.size ≤ k ∧ k < w1.heap.size := fun k hk => World.ownsRow.lt h.own k hk
  have e : w2.ownsRow w.heap.size 28 3 v2 (L ++ [r]).length (hds (L ++ [r])) := by
    rw [hds_app, List.length_append]; exact ho
  obtain ⟨ao', ca', rfl, O⟩ := ownH_form e
  refine ⟨ao', ca', rfl, O, ?_, ?_⟩
  · have t1 : Turn b w (w1.alloc o) := h.turn.alloc o
    exact Turn.ofGrownH (B := w.heap.size) hg (fun k hk => (hlt k hk).1) w t1 (Nat.le_refl _)
  · exact Src.grownH (h.src.grow (by go_grown)) hg (fun k hk => by have := hlt k hk; omega)

/-- The end of the draw: both boxes written. -/
theorem many_end {w w2 w5 : World} {b q n : Nat} {tr : Bool} {fo : Int} {so : Option Addr} {sc : Nat} {M : List Wn} {ho : Option Addr} {hc : Nat} {LL : List Hd} (hn : n = w.heap.size) (hb : b = n + 1) (hq : n + 1 + 1 ≤ q) (hq2 : q ≤ w2.heap.size) (K2 : Below n w w2) (W2 : Ws w2 (n + 1 + 1) q so M) (t : Turn b w2 w5) (o : OwnH w5 w2.heap.size ho hc LL) (hM : M.length ≤ 13) (hz : wzs M ≤ 624) (hL : LL.length ≤ 21) :
    DrawN w (fun w' vs => ∃ (ho : Option Addr) (hc : Nat) (LL : List Hd), vs = #[.slice ho LL.length hc] ∧ LL.length ≤ 21 ∧ Hds w' w.heap.size w'.heap.size ho LL) (.returned (.tuple #[.agg #[.bool tr, .int .i64 fo], .slice so M.length sc, .slice ho LL.length hc])) ((w5.setCell ⟨w.heap.size, 0, none⟩ (.bool tr)).setCell ⟨w.heap.size, 1, none⟩ (.int .i64 fo)) := by
  subst hn hb
  have hs := t.size
  have K5 := Turn.below K2 (Nat.le_succ _) (by omega) t
  have W5 := W2.turn t (by omega) hq2
  obtain ⟨k6, W6, n6⟩ := drawn_set K5 W5 (by omega) (g := w.heap.size) (o := 0) (by omega) (Nat.le_refl _) (.bool tr)
  obtain ⟨k7, W7, n7⟩ := drawn_set k6 W6 n6 (g := w.heap.size) (o := 1) (by omega) (Nat.le_refl _) (.int .i64 fo)
  have F0 : Far w.heap.size (w.heap.size + 1) w5 _ := (Turn.store w5 ⟨w.heap.size, 0, none⟩ (.bool tr)).far
  have F1 : Far w.heap.size (w.heap.size + 1) _ _ := (Turn.store (w5.setCell ⟨w.heap.size, 0, none⟩ (.bool tr)) ⟨w.heap.size, 1, none⟩ (.int .i64 fo)).far
  have H := (o.hds.far F0 (.inr (by omega)) (Nat.le_refl _)).far F1 (.inr (by omega)) (by simp)
  exact ⟨tr, fo, so, sc, M, #[.slice ho LL.length hc], rfl, ⟨ho, hc, LL, rfl, hL, H.wide (by omega) (by simp)⟩, hM, hz, k7, W7.wide (by omega) n7⟩

set_option maxRecDepth 100000 in
set_option maxHeartbeats 8000000 in
theorem drawMany_any (w : World) (a : Option Addr) (len cap : Nat) (f : Nat → Int) (hB : Bytes w w.heap.size a len f) (hl : len ≤ 1048576) :
    Calls Try.prog 22 #[.slice a len cap] w (DrawN w fun w' vs => ∃ (ho : Option Addr) (hc : Nat) (LL : List Hd), vs = #[.slice ho LL.length hc] ∧ LL.length ≤ 21 ∧ Hds w' w.heap.size w'.heap.size ho LL) := by
  have ka := (Below.refl w.heap.size w).alloc (Nat.le_refl _) (.cells #[.bool false, .int .i64 0] 25)
  have S0 := hideP (Src.neww w _ (w.heap.size + 1) a len cap f 103 hB hl ka (by simp))
  have Q0 := hideP ((rb_newH w (.bool false) (.int .i64 0) 25).keep (kalC _ (.cells #[.slice a len cap, .int .i64 0] 103)) (by simp))
  have KA := hideP (ka.alloc (by simp) (.cells #[.slice a len cap, .int .i64 0] 103))
  obtain ⟨i0, hi0, hz0, hz1, hz2⟩ := info_parts Try.infoHd
  clear hB ka
  go_enter Try.func22, Try.ntmps22
  go_wp2_with (first | (go_at_call 35; go_in))
  refine Calls.mono (l10With_any _ _ _ a len cap f 0 S0.out (by omega) (by omega)) ?_
  rintro e w1 ⟨tr, fo, so, sc, M, u, rfl, hM, hz, u0, u1, hW, ht, hs⟩
  have m1 := ht.size
  simp only [World.size_alloc] at m1 hW
  have kk := kalC w1 (.cells #[.bool tr, .int .i64 fo] 25)
  have K2 := hideP ((Turn.below KA.out (Nat.le_succ _) (by simp only [World.size_alloc]; omega) ht).trans (kk.mono (by omega)))
  have Q2 := hideP ((Q0.out.far ht.far (.inl (Nat.lt_succ_self _))).keep kk (by omega))
  have W2 := hideP (hW.keep kk (Nat.le_refl _))
  have S2 := hideP (hs.grow kk)
  have B2 := hideP (rb_newH w1 (.bool tr) (.int .i64 fo) 25)
  have n2 : w1.heap.size < (w1.alloc (.cells #[.bool tr, .int .i64 fo] 25)).heap.size := by simp
  have M3 : Hid (HMid (w1.alloc (.cells #[.bool tr, .int .i64 fo] 25)) ((w1.alloc (.cells #[.bool tr, .int .i64 fo] 25)).alloc (.cells #[] 28)) w.heap.size (w.heap.size + 1) a len cap f u (some ⟨w1.heap.size + 1, 0, none⟩) 0 []) :=
    hideP ⟨by simpa using ownH_new (w1.alloc (.cells #[.bool tr, .int .i64 fo] 25)) _ rfl, Turn.of_below (kalC _ _), S2.out.grow (kalC _ _)⟩
  clear ht hs S0 hW Q0 KA kk S2
  go_wp2_with fail
  generalize w1.alloc (.cells #[.bool tr, .int .i64 fo] 25) = w2 at *
  generalize w1.heap.size = q at *
  refine Calls.mono (next_any _ _ _ a len cap f u 7 M3.out.src (by omega) (by omega) (by omega) (by omega)) ?_
  rintro e w4 ⟨n, rfl, n0, n1, ht, hs⟩
  have hlt : w.heap.size + 1 < w2.heap.size := by omega
  have M4 := hideP (M3.out.next hlt ht hs)
  clear M3 ht hs
  go_wp2
  go_loopw [8, 9] (fun v i wr => ∃ (k : Nat) (ao : Option Addr) (ca : Nat) (L : List Hd) (t' : Int), i = .int .i64 k ∧ v = .slice ao L.length ca ∧ L.length + k ≤ 6 ∧ 0 ≤ t' ∧ t' ≤ u + 1 + 10 * L.length ∧ HMid w2 wr w.heap.size (w.heap.size + 1) a len cap f t' ao ca L) (fun _ i _ => (intOf i).toNat)
  case atStart => exact ⟨n.toNat, some ⟨q + 1, 0, none⟩, 0, [], u + 1, by rw [Int.toNat_of_nonneg n0], rfl, by simp; omega, by omega, by simp, M4.out⟩
  case round =>
    obtain ⟨k, ao, ca, L, t', rfl, rfl, hLk, h0, h1, M⟩ := hrel
    have HM := hideP M
    clear M M4
    cases k with
    | zero =>
      go_wp2_with fail
      refine Calls.mono (next_any _ _ _ a len cap f t' 12 HM.out.src (by omega) (by omega) (by omega) (by omega)) ?_
      rintro e w5 ⟨m, rfl, m0, m1', ht2, hs2⟩
      have M5 := hideP (HM.out.next hlt ht2 hs2)
      clear HM ht2 hs2
      by_cases e0 : m = 0
      · subst e0
        go_wp2_with fail
        refine Calls.mono (l10Bent_any _ _ _ a len cap f (t' + 1) M5.out.src (by omega) (by omega)) ?_
        rintro e w6 ⟨hk, hx, hy, t3, rfl, a3, b3, ht3, hs3⟩
        have M6 := hideP (M5.out.next hlt ht3 hs3)
        have hw6 : w2.heap.size ≤ w6.heap.size := M6.out.turn.size
        clear M5 ht3 hs3
        go_wp2_with (first | (at_builtin; refine wpList_append_own _ rfl _ _ 45 rfl w2.heap.size 28 i0 (.agg #[.int .i64 0, .int .i64 0, .int .i64 0]) 3 24 Try.underlying45 hi0 hz0 hz1 hz2 rfl (by decide) _ _ _ rfl (M6.out.own.alloc _) ⟨w6.heap.size, 0, none⟩ 1 1 [.int .i64 hk, .int .i64 hx, .int .i64 hy] rfl rfl (World.news_of_block (heap_alloc_new w6 _)) (by intro u hu; simp at hu; rcases hu with rfl | rfl | rfl <;> rfl) (by unfold maxLen; omega) (by omega) (by simp; omega) ?_; intro v7 w7 hown7 hgrow7 _; have R := hideP (M6.out.app (r := ⟨hk, hx, hy⟩) hlt hown7 hgrow7); clear hown7 hgrow7 M6; obtain ⟨ao', ca', rfl, M7⟩ := R.out; have HM7 := hideP M7; clear M7 R; have hLL : (L ++ [(⟨hk, hx, hy⟩ : Hd)]).length ≤ 21 := (by simp; omega); generalize L ++ [(⟨hk, hx, hy⟩ : Hd)] = LL at *; have T7 := HM7.out.turn; obtain ⟨q0, q1, qf0, qf1, ql⟩ := Q2.out.far T7.far (.inl (Nat.lt_succ_self _)); obtain ⟨b0, b1, bf0, bf1, bl⟩ := B2.out.far T7.far (.inr (by omega)); clear T7) | go_in)
        have RB := hideP (many_end (tr := tr) (fo := fo) (sc := sc) rfl rfl (by omega) (Nat.le_of_lt n2) K2.out W2.out HM7.out.turn HM7.out.own hM hz hLL)
        show bodyPost Try.prog Try.f22 _ .ret _ _
        exact bodyPost_ret (v := .tuple #[.agg #[.bool tr, .int .i64 fo], .slice so M.length sc, .slice ao' LL.length ca']) (by simp [results, Try.results22, go_sem, q0, q1]) rfl RB.out
      · have q0' : (m == 0) = false := by simpa using e0
        by_cases e1 : m = 1
        · subst e1
          have hw5 : w2.heap.size ≤ w5.heap.size := M5.out.turn.size
          go_wp2_with (first | (at_make; refine wpList_make_full _ rfl _ _ 45 rfl w2.heap.size 28 i0 (.agg #[.int .i64 0, .int .i64 0, .int .i64 0]) 3 Try.underlying45 hi0 hz0 hz1 .i64 .i64 _ _ 21 rfl rfl rfl rfl (by rw [hz2]; omega) (by unfold maxLen; omega) hw5 ?_; intro w7 hown7 hgrow7; have R : Hid (HMid w2 w7 w.heap.size (w.heap.size + 1) a len cap f (t' + 1) (some ⟨w5.heap.size, 0, none⟩) 21 (List.replicate 21 zeroHd)) := (by have kk : Below w5.heap.size w5 w7 := ⟨hgrow7.os, hgrow7.tape, hgrow7.output, hgrow7.size, fun i hi => hgrow7.block i hi (by simp)⟩; refine ⟨?_, M5.out.turn.trans (Turn.of_below kk), M5.out.src.grow kk⟩; show w7.ownsRow _ _ 3 _ _ _; rw [List.length_replicate, ← made21]; exact hown7); clear hown7 hgrow7 M5; have T7 := R.out.turn; obtain ⟨q0, q1, qf0, qf1, ql⟩ := Q2.out.far T7.far (.inl (Nat.lt_succ_self _)); obtain ⟨b0, b1, bf0, bf1, bl⟩ := B2.out.far T7.far (.inr (by omega)); clear T7) | go_in)
          have RB := hideP (many_end (tr := tr) (fo := fo) (sc := sc) rfl rfl (by omega) (Nat.le_of_lt n2) K2.out W2.out R.out.turn R.out.own hM hz (by simp))
          show bodyPost Try.prog Try.f22 _ .ret _ _
          exact bodyPost_ret (v := .tuple #[.agg #[.bool tr, .int .i64 fo], .slice so M.length sc, .slice (some ⟨w5.heap.size, 0, none⟩) (List.replicate 21 zeroHd).length 21]) (by simp [results, Try.results22, go_sem, q0, q1]) rfl RB.out
        · have q1' : (m == 1) = false := by simpa using e1
          have T7 := M5.out.turn
          obtain ⟨q0, q1, qf0, qf1, ql⟩ := Q2.out.far T7.far (.inl (Nat.lt_succ_self _))
          obtain ⟨b0, b1, bf0, bf1, bl⟩ := B2.out.far T7.far (.inr (by omega))
          clear T7
          go_wp2
          have RB := hideP (many_end (tr := tr) (fo := fo) (sc := sc) rfl rfl (by omega) (Nat.le_of_lt n2) K2.out W2.out M5.out.turn M5.out.own hM hz (by omega))
          show bodyPost Try.prog Try.f22 _ .ret _ _
          exact bodyPost_ret (v := .tuple #[.agg #[.bool tr, .int .i64 fo], .slice so M.length sc, .slice ao L.length ca]) (by simp [results, Try.results22, go_sem, q0, q1]) rfl RB.out
    | succ k =>
      have hk' : (k : Int) ≤ 6 := by omega
      have hk2 : ((k + 1 : Nat) : Int) = (k : Int) + 1 := by omega
      rw [hk2]
      clear hk2
      go_wp2_with fail
      refine Calls.mono (l10Draw_any _ _ _ a len cap f t' HM.out.src (by omega) (by omega)) ?_
      rintro e w6 ⟨hk, hx, hy, t3, rfl, a3, b3, ht3, hs3⟩
      have M6 := hideP (HM.out.next hlt ht3 hs3)
      have hw6 : w2.heap.size ≤ w6.heap.size := M6.out.turn.size
      clear HM ht3 hs3
      go_wp2_with (first | (at_builtin; refine wpList_append_own _ rfl _ _ 45 rfl w2.heap.size 28 i0 (.agg #[.int .i64 0, .int .i64 0, .int .i64 0]) 3 24 Try.underlying45 hi0 hz0 hz1 hz2 rfl (by decide) _ _ _ rfl (M6.out.own.alloc _) ⟨w6.heap.size, 0, none⟩ 1 1 [.int .i64 hk, .int .i64 hx, .int .i64 hy] rfl rfl (World.news_of_block (heap_alloc_new w6 _)) (by intro u hu; simp at hu; rcases hu with rfl | rfl | rfl <;> rfl) (by unfold maxLen; omega) (by omega) (by simp; omega) ?_; intro v7 w7 hown7 hgrow7 _) | go_in)
      have R := hideP (M6.out.app (r := ⟨hk, hx, hy⟩) hlt hown7 hgrow7)
      clear hown7 hgrow7 M6
      obtain ⟨ao', ca', rfl, M7⟩ := R.out
      have HM7 := hideP M7
      clear M7 R
      go_wp2
      go_roundw
      case rel => exact ⟨k, ao', ca', L ++ [⟨hk, hx, hy⟩], t3, by go_num, rfl, by simp; omega, by omega, by simp; omega, HM7.out⟩
      case measure => simp [intOf]
end Go.Proofs.Ytoipcnpemmajaaa

namespace Go.Proofs.Ytoipcnpemmajaaa
open Go.RowKit Go.Maps
set_option linter.unusedVariables false

set_option maxRecDepth 100000 in
set_option maxHeartbeats 4000000 in
theorem iMany_ok (t : Bool) (f : Int) (so : Option Addr) (sc : Nat) (L : List Wn) (lo : Option Addr) (lc : Nat) (LL : List Hd) (w : World) (hL : Ws w 0 w.heap.size so L) (hn : L.length + wzs L ≤ 1048576) (hH : Hds w 0 w.heap.size lo LL) (hl : LL.length ≤ 20) (h0 : inpF (L.map Wn.ct) f = 0) :
    Calls Try.prog 23 #[.agg #[.bool t, .int .i64 f], .slice so L.length sc, .slice lo LL.length lc] w (IsA w (goM (L.map Wn.ct) LL t f []).1 (goM (L.map Wn.ct) LL t f []).2) := by
  have SF := fun w1 (kk : Below w.heap.size w w1) => iInput_any 0 w.heap.size t f so sc L w1 (hL.keep kk (Nat.le_refl _)) kk.size hn
  rw [h0] at SF
  have SF' := hideP SF
  have RT := hideP (fun t' f' k a b w1 (kk : Below w.heap.size w w1) => iRoute_any t' f' k a b so sc L w1 ((hL.keep kk (Nat.le_refl _)).wide (Nat.le_refl _) kk.size) hn)
  have HH := hideP hH
  have hl' : (LL.length : Int) ≤ 20 := by omega
  obtain ⟨C, hC⟩ : ∃ C, L.map Wn.ct = C := ⟨_, rfl⟩
  rw [hC] at RT ⊢
  obtain ⟨P, hP⟩ : ∃ P, goM C LL t f [] = P := ⟨_, rfl⟩
  rw [hP]
  have HP := hideP hP
  generalize L.length = n at *
  clear SF hL hH hn h0 hC hP
  go_enter Try.func23, Try.ntmps23
  go_wp2_with fail
  refine Calls.mono (SF'.out _ (by go_grown)) ?_
  rintro e w1 ⟨rfl, k1⟩
  have n1 := k1.size
  simp only [World.size_alloc] at n1
  have K1 : Hid (Below w.heap.size w w1) := hideP (Below.trans (by go_grown) (k1.mono (by simp; omega)))
  have X1 : Hid (Rb w1 (w.heap.size + 1) (.int .i64 0) (.slice none 0 0)) := hideP (Rb.keep ⟨by simp [go_sem], by simp [go_sem], by simp [go_sem], by simp [go_sem], by simp⟩ k1 (by simp))
  have M1 : Hid (RM w w1 w1.heap.size t f none 0 []) := hideP ⟨K1.out, OwnR.nil _ _ _ _, (k1.cell (p := ⟨w.heap.size, 0, none⟩) (by simp; omega)).trans (by simp [go_sem]), (k1.cell (p := ⟨w.heap.size, 1, none⟩) (by simp; omega)).trans (by simp [go_sem]), (k1.frozen (p := ⟨w.heap.size, 0, none⟩) (by simp; omega)).trans (by simp [go_sem]), (k1.frozen (p := ⟨w.heap.size, 1, none⟩) (by simp; omega)).trans (by simp [go_sem]), X1.out, by omega, Nat.le_refl _⟩
  clear k1 SF' X1 K1
  go_wp2
  go_loopw [8, 25] (fun q i wr => ∃ (k : Nat) (s : Option Addr) (c : Nat) (M : List Int) (t' : Bool) (f' : Int), k ≤ LL.length ∧ i = .int .i64 k ∧ q = .slice s M.length c ∧ M.length = k ∧ goM C (LL.drop k) t' f' M = P ∧ RM w wr w1.heap.size t' f' s c M) (fun _ i _ => LL.length - (intOf i).toNat)
  case atStart => exact ⟨0, _, _, [], t, f, Nat.zero_le _, rfl, rfl, rfl, HP.out, M1.out⟩
  case round =>
    obtain ⟨k, s3, c3, M, t', f', hk, rfl, rfl, hMl, hG, R3⟩ := hrel
    have HMl := hideP hMl
    have hMM : M.length ≤ 20 := by omega
    clear M1 HP hMl
    by_cases hlt : k < LL.length
    · have hlt' : (k : Int) < (LL.length : Int) := by omega
      have hne : LL ≠ [] := fun e => by rw [e] at hlt; simp at hlt
      rcases HH.out with e | ⟨g, o, rfl, _, hg, hc⟩
      · exact absurd e hne
      obtain ⟨a0, a1, a2⟩ := (hc k hlt).keep R3.below (by omega)
      have hgl : g < wr.heap.size := by have := R3.below.size; omega
      have q0 := R3.i0
      have q1 := R3.i1
      have hil : w.heap.size < wr.heap.size := by have := R3.bs; have := R3.hb; omega
      obtain ⟨R, hR⟩ : ∃ R, rtR C t' f' LL[k].k LL[k].a LL[k].b = R := ⟨_, rfl⟩
      have RTk := hideP (fun w2 (kk : Below w.heap.size w w2) => by
        have hh := RT.out t' f' LL[k].k LL[k].a LL[k].b w2 kk
        rw [hR] at hh
        exact hh)
      rw [List.drop_eq_getElem_cons hlt] at hG
      have HGy := hideP (fun hz => goM_yes hG hR hz)
      have HGn := hideP (fun hz => goM_no hG hR hz)
      have RR := hideP R3
      clear hc hG hR R3 RT HH
      generalize LL[k].k = x at *
      generalize LL[k].a = y at *
      generalize LL[k].b = z at *
      go_wp2_with fail
      refine Calls.mono (RTk.out _ (RR.out.below.alloc RR.out.below.size _)) ?_
      rintro e w2 ⟨ao, ca, rfl, O2, k2⟩
      have R2 := hideP ((RR.out.keep (kalH _ (.cells #[.int .i64 x, .int .i64 y, .int .i64 z] 28))).keep k2)
      clear O2 k2 a0 a1 a2 q0 q1 RR RTk
      by_cases hz : R.z = 0
      · have e0 : (R.z != 0) = false := by simp [hz]
        have hGk := HGy.out hz
        have hHG := hideP hGk
        clear HGy HGn hGk hz
        go_wp2_with (first | (at_builtin; refine wpList_snoc rfl _ _ rfl w1.heap.size s3 c3 M rfl ((R2.out.keep (kalH _ _)).keep (kalH _ _)).own ⟨w2.heap.size + 1, 0, none⟩ 1 R.tg rfl (by simp [go_sem]) (by omega) (by have := R2.out.hb; simp; omega) ?_; intro s6 c6 w6 SN; replace SN := hideP SN; refine Hid.out ?_) | go_in)
        have R5 := hideP ((R2.out.keep (kalH _ (.cells #[.int .i64 R.z, .int .i64 R.tg, .int .i64 R.kd, .slice ao R.D.length ca, .bool R.tr, .int .i64 R.fo] 34))).keep (kalH _ (.cells #[.int .i64 R.tg] 2)))
        have R6 := hideP (R5.out.snoc SN.out)
        have hb6 := SN.out.blk w2.heap.size (by simp; omega) R2.out.away
        have x4 : w6.cell? ⟨w2.heap.size, 4, none⟩ = some (.bool R.tr) := (World.cell?_of_block (a := ⟨w2.heap.size, 4, none⟩) hb6).trans (by simp [go_sem])
        have x5 : w6.cell? ⟨w2.heap.size, 5, none⟩ = some (.int .i64 R.fo) := (World.cell?_of_block (a := ⟨w2.heap.size, 5, none⟩) hb6).trans (by simp [go_sem])
        have n6 := SN.out.below.size
        have q0 := R6.out.i0
        have q1 := R6.out.i1
        have q2 := R6.out.f0
        have q3 := R6.out.f1
        have hil6 : w.heap.size < w6.heap.size := by have := R6.out.bs; have := R6.out.hb; omega
        have hbx6 : w2.heap.size < w6.heap.size := World.block_lt_of_cell? w6 _ x4
        have R7 := hideP (R6.out.put R.tr R.fo)
        clear R5 R6 SN hb6 R2 n6
        refine hideP ?_
        go_wp2
        go_roundw
        case rel => exact ⟨k + 1, s6, c6, M ++ [R.tg], R.tr, R.fo, by omega, by go_num, by simp, by simp [HMl.out], hHG.out, R7.out⟩
        case measure => simp [intOf]; omega
      · have e0 : (R.z != 0) = true := by simpa using hz
        have hPn := HGn.out hz
        obtain ⟨r0, r1, r2, r3, r4⟩ := R2.out.res
        have hil2 : w.heap.size + 1 < w2.heap.size := r4
        have RB := hideP ((R2.out.bad R.z).alloc (.cells #[.int .i64 R.z, .int .i64 R.tg, .int .i64 R.kd, .slice ao R.D.length ca, .bool R.tr, .int .i64 R.fo] 34))
        clear HGy HGn
        go_wp2
        rw [hPn]
        exact bodyPost_ret (v := .agg #[.int .i64 R.z, .slice none 0 0]) (by simp [results, Try.results23, go_sem, *]; done) rfl RB.out
    · obtain rfl : k = LL.length := by omega
      rw [List.drop_length] at hG
      have hPn : P = (0, M) := hG.symm
      obtain ⟨r0, r1, r2, r3, r4⟩ := R3.res
      have RB := hideP (R3.end_ 0)
      clear hG R3 HH RT
      go_wp2
      rw [hPn]
      exact bodyPost_ret (v := .agg #[.int .i64 0, .slice s3 M.length c3]) (by simp [results, Try.results23, go_sem, *]; done) rfl RB.out

set_option maxHeartbeats 1000000 in
theorem iMany_bad (t : Bool) (f : Int) (so : Option Addr) (sc : Nat) (L : List Wn) (lo : Option Addr) (lc ln : Nat) (w : World) (hL : Ws w 0 w.heap.size so L) (hn : L.length + wzs L ≤ 1048576) (h : ¬ inpF (L.map Wn.ct) f = 0) :
    Calls Try.prog 23 #[.agg #[.bool t, .int .i64 f], .slice so L.length sc, .slice lo ln lc] w (IsA w (inpF (L.map Wn.ct) f) []) := by
  have SF := fun w1 (kk : Below w.heap.size w w1) => iInput_any 0 w.heap.size t f so sc L w1 (hL.keep kk (Nat.le_refl _)) kk.size hn
  obtain ⟨F, hF⟩ : ∃ F, inpF (L.map Wn.ct) f = F := ⟨_, rfl⟩
  rw [hF] at SF h ⊢
  have hne' : (F != 0) = true := by simpa using h
  have AN' := hideP SF
  clear SF hL h hF
  go_enter Try.func23, Try.ntmps23
  go_wp2_with fail
  refine Calls.mono (AN'.out _ (by go_grown)) ?_
  rintro e w1 ⟨rfl, k1⟩
  have K1 : Hid (Below w.heap.size w w1) := hideP (Below.trans (by go_grown) (k1.mono (by simp; omega)))
  have X1 : Rb w1 (w.heap.size + 1) (.int .i64 0) (.slice none 0 0) := Rb.keep ⟨by simp [go_sem], by simp [go_sem], by simp [go_sem], by simp [go_sem], by simp⟩ k1 (by simp)
  obtain ⟨x0, x1, x2, x3, x4⟩ := X1
  clear k1 AN'
  go_wp2
  exact bodyPost_ret (v := .agg #[.int .i64 F, .slice none 0 0]) (by simp [results, Try.results23, go_sem, *]; done) rfl (IsA.nil w F rfl ((K1.out.setCell (p := ⟨w.heap.size + 1, 0, none⟩) (by show w.heap.size ≤ w.heap.size + 1; omega) _).setCell (p := ⟨w.heap.size + 1, 1, none⟩) (by show w.heap.size ≤ w.heap.size + 1; omega) _))

set_option maxHeartbeats 1000000 in
theorem iMany_long (t : Bool) (f : Int) (so : Option Addr) (sc : Nat) (L : List Wn) (lo : Option Addr) (lc ln : Nat) (w : World) (hL : Ws w 0 w.heap.size so L) (hn : L.length + wzs L ≤ 1048576) (h : inpF (L.map Wn.ct) f = 0) (hl : 20 < ln) :
    Calls Try.prog 23 #[.agg #[.bool t, .int .i64 f], .slice so L.length sc, .slice lo ln lc] w (IsA w 2 []) := by
  have SF := fun w1 (kk : Below w.heap.size w w1) => iInput_any 0 w.heap.size t f so sc L w1 (hL.keep kk (Nat.le_refl _)) kk.size hn
  rw [h] at SF
  have hl' : 20 < (ln : Int) := by omega
  have AN' := hideP SF
  clear SF hL h
  go_enter Try.func23, Try.ntmps23
  go_wp2_with fail
  refine Calls.mono (AN'.out _ (by go_grown)) ?_
  rintro e w1 ⟨rfl, k1⟩
  have K1 : Hid (Below w.heap.size w w1) := hideP (Below.trans (by go_grown) (k1.mono (by simp; omega)))
  have X1 : Rb w1 (w.heap.size + 1) (.int .i64 0) (.slice none 0 0) := Rb.keep ⟨by simp [go_sem], by simp [go_sem], by simp [go_sem], by simp [go_sem], by simp⟩ k1 (by simp)
  obtain ⟨x0, x1, x2, x3, x4⟩ := X1
  clear k1 AN'
  go_wp2
  exact bodyPost_ret (v := .agg #[.int .i64 2, .slice none 0 0]) (by simp [results, Try.results23, go_sem, *]; done) rfl (IsA.nil w 2 rfl ((K1.out.setCell (p := ⟨w.heap.size + 1, 0, none⟩) (by show w.heap.size ≤ w.heap.size + 1; omega) _).setCell (p := ⟨w.heap.size + 1, 1, none⟩) (by show w.heap.size ≤ w.heap.size + 1; omega) _))

theorem iMany_any (t : Bool) (f : Int) (so : Option Addr) (sc : Nat) (L : List Wn) (lo : Option Addr) (lc : Nat) (LL : List Hd) (w : World) (hL : Ws w 0 w.heap.size so L) (hn : L.length + wzs L ≤ 1048576) (hH : Hds w 0 w.heap.size lo LL) :
    Calls Try.prog 23 #[.agg #[.bool t, .int .i64 f], .slice so L.length sc, .slice lo LL.length lc] w (IsA w (manyR (L.map Wn.ct) t f LL).1 (manyR (L.map Wn.ct) t f LL).2) := by
  by_cases h : inpF (L.map Wn.ct) f = 0
  · by_cases hl : LL.length ≤ 20
    · rw [show manyR (L.map Wn.ct) t f LL = goM (L.map Wn.ct) LL t f [] by unfold manyR; rw [if_pos h, if_pos hl]]
      exact iMany_ok t f so sc L lo lc LL w hL hn hH hl h
    · rw [show manyR (L.map Wn.ct) t f LL = (2, []) by unfold manyR; rw [if_pos h, if_neg hl]]
      exact iMany_long t f so sc L lo lc LL.length w hL hn h (by omega)
  · rw [show manyR (L.map Wn.ct) t f LL = (inpF (L.map Wn.ct) f, []) by unfold manyR; rw [if_neg h]]
    exact iMany_bad t f so sc L lo lc LL.length w hL hn h
end Go.Proofs.Ytoipcnpemmajaaa

namespace Go.Proofs.Ytoipcnpemmajaaa
open Go.RowKit Go.Maps
set_option linter.unusedVariables false

set_option maxHeartbeats 1000000 in
theorem sMany_bad (t : Bool) (f : Int) (so : Option Addr) (sc : Nat) (L : List Wn) (lo : Option Addr) (lc ln : Nat) (w : World) (hL : Ws w 0 w.heap.size so L) (hn : L.length + wzs L ≤ 1048576) (h : ¬ inpF (L.map Wn.ct) f = 0) :
    Calls Try.prog 24 #[.agg #[.bool t, .int .i64 f], .slice so L.length sc, .slice lo ln lc] w (IsA w (inpF (L.map Wn.ct) f) []) := by
  have SF := fun w1 (hi : I2 w1 w.heap.size t f) (kk : Below w.heap.size w w1) => l10Input_any 0 w.heap.size w.heap.size t f so sc L w1 hi (hL.keep kk (Nat.le_refl _)) kk.size hn
  obtain ⟨F, hF⟩ : ∃ F, inpF (L.map Wn.ct) f = F := ⟨_, rfl⟩
  rw [hF] at SF h ⊢
  have hne' : (F != 0) = true := by simpa using h
  have AN' := hideP SF
  clear SF hL h hF
  go_enter Try.func24, Try.ntmps24
  go_wp2_with fail
  refine Calls.mono (AN'.out _ ⟨by simp [go_sem], by simp [go_sem], by simp; omega⟩ (by go_grown)) ?_
  rintro e w1 ⟨rfl, k1⟩
  have K1 : Hid (Below w.heap.size w w1) := hideP (Below.trans (by go_grown) (k1.mono (by simp; omega)))
  have X1 : Rb w1 (w.heap.size + 1) (.int .i64 0) (.slice none 0 0) := Rb.keep ⟨by simp [go_sem], by simp [go_sem], by simp [go_sem], by simp [go_sem], by simp⟩ k1 (by simp)
  obtain ⟨x0, x1, x2, x3, x4⟩ := X1
  clear k1 AN'
  go_wp2
  exact bodyPost_ret (v := .agg #[.int .i64 F, .slice none 0 0]) (by simp [results, Try.results24, go_sem, *]; done) rfl (IsA.nil w F rfl ((K1.out.setCell (p := ⟨w.heap.size + 1, 0, none⟩) (by show w.heap.size ≤ w.heap.size + 1; omega) _).setCell (p := ⟨w.heap.size + 1, 1, none⟩) (by show w.heap.size ≤ w.heap.size + 1; omega) _))

set_option maxHeartbeats 1000000 in
theorem sMany_long (t : Bool) (f : Int) (so : Option Addr) (sc : Nat) (L : List Wn) (lo : Option Addr) (lc ln : Nat) (w : World) (hL : Ws w 0 w.heap.size so L) (hn : L.length + wzs L ≤ 1048576) (h : inpF (L.map Wn.ct) f = 0) (hl : 20 < ln) :
    Calls Try.prog 24 #[.agg #[.bool t, .int .i64 f], .slice so L.length sc, .slice lo ln lc] w (IsA w 2 []) := by
  have SF := fun w1 (hi : I2 w1 w.heap.size t f) (kk : Below w.heap.size w w1) => l10Input_any 0 w.heap.size w.heap.size t f so sc L w1 hi (hL.keep kk (Nat.le_refl _)) kk.size hn
  rw [h] at SF
  have hl' : 20 < (ln : Int) := by omega
  have AN' := hideP SF
  clear SF hL h
  go_enter Try.func24, Try.ntmps24
  go_wp2_with fail
  refine Calls.mono (AN'.out _ ⟨by simp [go_sem], by simp [go_sem], by simp; omega⟩ (by go_grown)) ?_
  rintro e w1 ⟨rfl, k1⟩
  have K1 : Hid (Below w.heap.size w w1) := hideP (Below.trans (by go_grown) (k1.mono (by simp; omega)))
  have X1 : Rb w1 (w.heap.size + 1) (.int .i64 0) (.slice none 0 0) := Rb.keep ⟨by simp [go_sem], by simp [go_sem], by simp [go_sem], by simp [go_sem], by simp⟩ k1 (by simp)
  obtain ⟨x0, x1, x2, x3, x4⟩ := X1
  clear k1 AN'
  go_wp2
  exact bodyPost_ret (v := .agg #[.int .i64 2, .slice none 0 0]) (by simp [results, Try.results24, go_sem, *]; done) rfl (IsA.nil w 2 rfl ((K1.out.setCell (p := ⟨w.heap.size + 1, 0, none⟩) (by show w.heap.size ≤ w.heap.size + 1; omega) _).setCell (p := ⟨w.heap.size + 1, 1, none⟩) (by show w.heap.size ≤ w.heap.size + 1; omega) _))

theorem sMany_any (t : Bool) (f : Int) (so : Option Addr) (sc : Nat) (L : List Wn) (lo : Option Addr) (lc : Nat) (LL : List Hd) (w : World) (hL : Ws w 0 w.heap.size so L) (hn : L.length + wzs L ≤ 1048576) (hH : Hds w 0 w.heap.size lo LL) :
    Calls Try.prog 24 #[.agg #[.bool t, .int .i64 f], .slice so L.length sc, .slice lo LL.length lc] w (IsA w (manyR (L.map Wn.ct) t f LL).1 (manyR (L.map Wn.ct) t f LL).2) := by
  by_cases h : inpF (L.map Wn.ct) f = 0
  · by_cases hl : LL.length ≤ 20
    · rw [show manyR (L.map Wn.ct) t f LL = goM (L.map Wn.ct) LL t f [] by unfold manyR; rw [if_pos h, if_pos hl]]
      exact sMany_ok t f so sc L lo lc LL w hL hn hH hl h
    · rw [show manyR (L.map Wn.ct) t f LL = (2, []) by unfold manyR; rw [if_pos h, if_neg hl]]
      exact sMany_long t f so sc L lo lc LL.length w hL hn h (by omega)
  · rw [show manyR (L.map Wn.ct) t f LL = (inpF (L.map Wn.ct) f, []) by unfold manyR; rw [if_neg h]]
    exact sMany_bad t f so sc L lo lc LL.length w hL hn h
end Go.Proofs.Ytoipcnpemmajaaa
