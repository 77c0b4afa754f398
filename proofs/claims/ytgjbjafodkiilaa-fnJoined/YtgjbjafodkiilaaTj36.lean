/- A request of a client, drawn: whichever kind, a right one. (Written by gendrawq.py.) -/
import Derived.Test.YtgjbjafodkiilaaTj35
namespace Go.Proofs.Ytgjbjafodkiilaa
open Go.RowKit
set_option linter.unusedVariables false

/-- While a request is drawn. -/
structure DS (w wr : World) (B b : Nat) (a : Option Addr) (len cap : Nat) (f : Nat → Int) (rb : Nat) (k t : Int) : Prop where
  turn : Turn b w wr
  res : R3 wr w.heap.size (.int .i64 0) (.slice none 0 0) (.slice none 0 0)
  box : R3 wr rb (.int .i64 k) (.slice none 0 0) (.slice none 0 0)
  src : Src wr B b a len cap f t
  ne0 : ¬ w.heap.size = b
  ne1 : ¬ rb = b
  lt : w.heap.size < rb
theorem DS.next {w wr wr' : World} {B b : Nat} {a : Option Addr} {len cap : Nat} {f : Nat → Int} {rb : Nat} {k t t' : Int} (h : DS w wr B b a len cap f rb k t) (ht : Turn b wr wr') (hs : Src wr' B b a len cap f t') : DS w wr' B b a len cap f rb k t' :=
  ⟨h.turn.trans ht, h.res.turn ht h.ne0, h.box.turn ht h.ne1, hs, h.ne0, h.ne1, h.lt⟩

/-- A right request was drawn. -/
def ReqQ (w : World) (B b : Nat) (a : Option Addr) (len cap : Nat) (f : Nat → Int) (t : Int) (e : Ending) (w' : World) : Prop :=
  ∃ (k : Int) (ao : Option Addr) (ca : Nat) (A : List Int) (bo : Option Addr) (cb : Nat) (D : List Int) (t' : Int), e = .returned (.agg #[.int .i64 k, .slice ao A.length ca, .slice bo D.length cb]) ∧ rF k A D.length = 0 ∧ byts D ∧ Turn b w w' ∧ 0 ≤ t' ∧ t' ≤ t + 20 ∧ Src w' B b a len cap f t' ∧ Row .i64 w' w.heap.size w'.heap.size ao A ∧ Row .u8 w' w.heap.size w'.heap.size bo D ∧ OwnR .i64 2 w' w.heap.size ao ca A ∧ OwnR .u8 5 w' w.heap.size bo cb D

theorem Turn.setW {b : Nat} {w w' : World} (h : Turn b w w') (p : Addr) (v : Value) (hp : w.heap.size ≤ p.block) : Turn b w (w'.setCell p v) := Turn.setCell h hp v
theorem rF_right {k : Int} {A : List Int} {nd : Nat} (h1 : 1 ≤ k) (h2 : k ≤ 13) (h : mny k A.length nd = false) (h3 : A.all isB = true) : rF k A nd = 0 := by unfold rF; rw [aC_yes h1 h2, h, h3]; rfl

theorem fin_arg {w wr : World} {B b : Nat} {a : Option Addr} {len cap : Nat} {f : Nat → Int} {rb : Nat} {t : Int} (HT : Turn b w wr) (HS : Src wr B b a len cap f t) (hrb : w.heap.size < rb) (hb : b < w.heap.size) (v1 v2 v3 v4 : Value) (cs : Array Value) (A : List Int) (hc : cs.toList = A.map (Value.int .i64)) (hm : A.length ≤ maxLen) :
    Turn b w (((((wr.setCell ⟨rb, 1, none⟩ v1).setCell ⟨w.heap.size, 0, none⟩ v2).setCell ⟨w.heap.size, 1, none⟩ v3).setCell ⟨w.heap.size, 2, none⟩ v4).alloc (.cells cs 2)) ∧
    Src (((((wr.setCell ⟨rb, 1, none⟩ v1).setCell ⟨w.heap.size, 0, none⟩ v2).setCell ⟨w.heap.size, 1, none⟩ v3).setCell ⟨w.heap.size, 2, none⟩ v4).alloc (.cells cs 2)) B b a len cap f t ∧
    Row .i64 (((((wr.setCell ⟨rb, 1, none⟩ v1).setCell ⟨w.heap.size, 0, none⟩ v2).setCell ⟨w.heap.size, 1, none⟩ v3).setCell ⟨w.heap.size, 2, none⟩ v4).alloc (.cells cs 2)) w.heap.size (((((wr.setCell ⟨rb, 1, none⟩ v1).setCell ⟨w.heap.size, 0, none⟩ v2).setCell ⟨w.heap.size, 1, none⟩ v3).setCell ⟨w.heap.size, 2, none⟩ v4).alloc (.cells cs 2)).heap.size (some ⟨wr.heap.size, 0, none⟩) A ∧
    OwnR .i64 2 (((((wr.setCell ⟨rb, 1, none⟩ v1).setCell ⟨w.heap.size, 0, none⟩ v2).setCell ⟨w.heap.size, 1, none⟩ v3).setCell ⟨w.heap.size, 2, none⟩ v4).alloc (.cells cs 2)) w.heap.size (some ⟨wr.heap.size, 0, none⟩) A.length A := by
  refine ⟨((((HT.setCell (by show w.heap.size ≤ rb; omega) _).setCell (Nat.le_refl _) _).setCell (Nat.le_refl _) _).setCell (Nat.le_refl _) _).alloc _, ?_, ?_, ?_⟩
  · exact ((((HS.store ⟨rb, 1, none⟩ v1 (by show b < rb; omega)).store ⟨w.heap.size, 0, none⟩ v2 hb).store ⟨w.heap.size, 1, none⟩ v3 hb).store ⟨w.heap.size, 2, none⟩ v4 hb).grow ((Below.refl _ _).alloc (Nat.le_refl _) _)
  · have O := OwnR.lit .i64 2 ((((wr.setCell ⟨rb, 1, none⟩ v1).setCell ⟨w.heap.size, 0, none⟩ v2).setCell ⟨w.heap.size, 1, none⟩ v3).setCell ⟨w.heap.size, 2, none⟩ v4) wr.heap.size A cs hc (by simp) hm
    have R := O.wrt.row
    simp only [World.size_setCell] at R
    exact R.wide HT.size (Nat.le_refl _)
  · have O := OwnR.lit .i64 2 ((((wr.setCell ⟨rb, 1, none⟩ v1).setCell ⟨w.heap.size, 0, none⟩ v2).setCell ⟨w.heap.size, 1, none⟩ v3).setCell ⟨w.heap.size, 2, none⟩ v4) wr.heap.size A cs hc (by simp) hm
    simp only [World.size_setCell] at O
    exact O.le HT.size

set_option maxRecDepth 100000 in
set_option maxHeartbeats 20000000 in
theorem draw3_any (w : World) (B b : Nat) (a : Option Addr) (len cap : Nat) (f : Nat → Int) (t s : Int) (S : Src w B b a len cap f t) (t0 : 0 ≤ t) (t1 : t ≤ 80000) (s0 : 0 ≤ s) (s1 : s ≤ 3) :
    Calls Try.prog 16 #[.pointer (some ⟨b, 0, none⟩), .int .i64 s] w (ReqQ w B b a len cap f t) := by
  have HS := hideP S
  have hlt := S.lt
  have hne : ¬ w.heap.size = b := by omega
  clear S
  go_enter Try.func16, Try.ntmps16
  go_wp2_with fail
  refine Calls.mono (pickQ (fun n => 1 ≤ n ∧ n ≤ 13) _ B b a len cap f t _ _ _ _ (by simp) (inbL [1, 1, 2, 3, 3, 3, 4, 5, 6, 7, 7, 8, 9, 10, 11, 12, 13] (by simp)) (HS.out.grow (by go_grown)) (by omega) (by omega) (by decide) (by decide)) ?_
  rintro e w1 ⟨k, rfl, ⟨hk0, hk1⟩, ht, hs⟩
  have n1 : w.heap.size < w1.heap.size := by have := ht.size; simp at this; omega
  have R1 : R3 w1 w.heap.size (.int .i64 0) (.slice none 0 0) (.slice none 0 0) := R3.turn ⟨by simp, by simp, by simp, by simp, by simp, by simp, by simp⟩ ht hne
  have HD : Hid (DS w (w1.alloc (.cells #[.int .i64 k, .slice none 0 0, .slice none 0 0] 42)) B b a len cap f w1.heap.size k (t + 1)) := hideP ⟨((Turn.of_below (by go_grown)).trans ht).alloc _, R1.turn (Turn.alloc (Turn.refl b w1) _) hne, ⟨by simp, by simp, by simp, by simp, by simp, by simp, by simp⟩, hs.grow (by go_grown), hne, by have := hs.lt; omega, n1⟩
  clear ht hs R1 HS
  go_wp2_with fail
  generalize w1.alloc (.cells #[.int .i64 k, .slice none 0 0, .slice none 0 0] 42) = w2 at *
  generalize w1.heap.size = rb at *
  refine Calls.mono (next_any _ _ _ _ _ _ _ _ 3 HD.out.src (by omega) (by omega) (by omega) (by omega)) ?_
  rintro e w3 ⟨x, rfl, x0, x1, ht, hs⟩
  have HD3 := hideP (HD.out.next ht hs)
  clear ht hs HD
  go_wp2_with fail
  refine Calls.mono (chance_any _ _ _ _ _ _ _ _ 10 HD3.out.src (by omega) (by omega) (by omega) (by omega)) ?_
  rintro e w4 ⟨q, rfl, ht, hs⟩
  have HD4 := hideP (HD3.out.next ht hs)
  clear ht hs HD3
  have hid : 0 ≤ 64 * s + 1 + x ∧ 64 * s + 1 + x ≤ 255 := by omega
  generalize 64 * s + 1 + x = id at *
  clear x0 x1
  rcases kinds hk0 hk1 with rfl | rfl | rfl | rfl | rfl | rfl | rfl | rfl | rfl | rfl | rfl | rfl | rfl
  · cases q with
    | false =>
      obtain ⟨c0, c1, c2, c3, c4, c5, c6⟩ := HD4.out.box
      go_wp2_with fail
      clear c0 c1 c2 c3 c4 c5 c6
      refine Calls.mono (next_any _ _ _ _ _ _ _ _ 10 HD4.out.src (by omega) (by omega) (by omega) (by omega)) ?_
      rintro e v1 ⟨y1, rfl, y1a, y1b, ht, hs⟩
      have E1 := hideP (HD4.out.next ht hs)
      clear ht hs HD4
      go_wp2_with fail
      refine Calls.mono (next_any _ _ _ _ _ _ _ _ 7 E1.out.src (by omega) (by omega) (by omega) (by omega)) ?_
      rintro e v2 ⟨y2, rfl, y2a, y2b, ht, hs⟩
      have E2 := hideP (E1.out.next ht hs)
      clear ht hs E1
      go_wp2_with fail
      refine Calls.mono (next_any _ _ _ _ _ _ _ _ 6 E2.out.src (by omega) (by omega) (by omega) (by omega)) ?_
      rintro e v3 ⟨y3, rfl, y3a, y3b, ht, hs⟩
      have E3 := hideP (E2.out.next ht hs)
      clear ht hs E2
      go_wp2_with fail
      refine Calls.mono (next_any _ _ _ _ _ _ _ _ 4 E3.out.src (by omega) (by omega) (by omega) (by omega)) ?_
      rintro e v4 ⟨y4, rfl, y4a, y4b, ht, hs⟩
      have E4 := hideP (E3.out.next ht hs)
      clear ht hs E3
      obtain ⟨a0, a1, a2, a3, a4, a5, a6⟩ := E4.out.res
      obtain ⟨b0, b1, b2, b3, b4, b5, b6⟩ := E4.out.box
      have hrb := E4.out.lt
      have hrb' : ¬ rb = w.heap.size := by omega
      have hrb'' : ¬ w.heap.size = rb := by omega
      have HT := hideP E4.out.turn
      have HSr := hideP E4.out.src
      have hbl : b < w.heap.size := hlt
      go_wp2
      refine bodyPost_ret (v := .agg #[.int .i64 1, .slice (some ⟨v4.heap.size, 0, none⟩) 4 4, .slice none 0 0]) (by simp [results, Try.results16, go_sem, *]) rfl ⟨1, some ⟨v4.heap.size, 0, none⟩, 4, [y1, y2, 1 + y3, 1 + y4], none, 0, [], t + 1 + 1 + 1 + 1 + 1 + 1 + 1, rfl, rF_right (by omega) (by omega) (by rfl) (by simp [isB]; omega), (fun i hi => by simp at hi), ?_, by omega, by omega, ?_, ?_, .inl rfl, ?_, OwnR.nil _ _ _ _⟩
      · exact (fin_arg HT.out HSr.out hrb hbl _ _ _ _ _ [y1, y2, 1 + y3, 1 + y4] rfl (by unfold maxLen; simp)).1
      · exact (fin_arg HT.out HSr.out hrb hbl _ _ _ _ _ [y1, y2, 1 + y3, 1 + y4] rfl (by unfold maxLen; simp)).2.1
      · exact (fin_arg HT.out HSr.out hrb hbl _ _ _ _ _ [y1, y2, 1 + y3, 1 + y4] rfl (by unfold maxLen; simp)).2.2.1
      · exact (fin_arg HT.out HSr.out hrb hbl _ _ _ _ _ [y1, y2, 1 + y3, 1 + y4] rfl (by unfold maxLen; simp)).2.2.2
    | true =>
      go_wp2_with fail
      refine Calls.mono (next_any _ _ _ _ _ _ _ _ 256 HD4.out.src (by omega) (by omega) (by omega) (by omega)) ?_
      rintro e w5 ⟨z, rfl, z0, z1, ht, hs⟩
      have HD5 := hideP (HD4.out.next ht hs)
      clear ht hs HD4 hid
      have hid : 0 ≤ z ∧ z ≤ 255 := by omega
      obtain ⟨c0, c1, c2, c3, c4, c5, c6⟩ := HD5.out.box
      go_wp2_with fail
      clear c0 c1 c2 c3 c4 c5 c6
      refine Calls.mono (next_any _ _ _ _ _ _ _ _ 10 HD5.out.src (by omega) (by omega) (by omega) (by omega)) ?_
      rintro e v1 ⟨y1, rfl, y1a, y1b, ht, hs⟩
      have E1 := hideP (HD5.out.next ht hs)
      clear ht hs HD5
      go_wp2_with fail
      refine Calls.mono (next_any _ _ _ _ _ _ _ _ 7 E1.out.src (by omega) (by omega) (by omega) (by omega)) ?_
      rintro e v2 ⟨y2, rfl, y2a, y2b, ht, hs⟩
      have E2 := hideP (E1.out.next ht hs)
      clear ht hs E1
      go_wp2_with fail
      refine Calls.mono (next_any _ _ _ _ _ _ _ _ 6 E2.out.src (by omega) (by omega) (by omega) (by omega)) ?_
      rintro e v3 ⟨y3, rfl, y3a, y3b, ht, hs⟩
      have E3 := hideP (E2.out.next ht hs)
      clear ht hs E2
      go_wp2_with fail
      refine Calls.mono (next_any _ _ _ _ _ _ _ _ 4 E3.out.src (by omega) (by omega) (by omega) (by omega)) ?_
      rintro e v4 ⟨y4, rfl, y4a, y4b, ht, hs⟩
      have E4 := hideP (E3.out.next ht hs)
      clear ht hs E3
      obtain ⟨a0, a1, a2, a3, a4, a5, a6⟩ := E4.out.res
      obtain ⟨b0, b1, b2, b3, b4, b5, b6⟩ := E4.out.box
      have hrb := E4.out.lt
      have hrb' : ¬ rb = w.heap.size := by omega
      have hrb'' : ¬ w.heap.size = rb := by omega
      have HT := hideP E4.out.turn
      have HSr := hideP E4.out.src
      have hbl : b < w.heap.size := hlt
      go_wp2
      refine bodyPost_ret (v := .agg #[.int .i64 1, .slice (some ⟨v4.heap.size, 0, none⟩) 4 4, .slice none 0 0]) (by simp [results, Try.results16, go_sem, *]) rfl ⟨1, some ⟨v4.heap.size, 0, none⟩, 4, [y1, y2, 1 + y3, 1 + y4], none, 0, [], t + 1 + 1 + 1 + 1 + 1 + 1 + 1 + 1, rfl, rF_right (by omega) (by omega) (by rfl) (by simp [isB]; omega), (fun i hi => by simp at hi), ?_, by omega, by omega, ?_, ?_, .inl rfl, ?_, OwnR.nil _ _ _ _⟩
      · exact (fin_arg HT.out HSr.out hrb hbl _ _ _ _ _ [y1, y2, 1 + y3, 1 + y4] rfl (by unfold maxLen; simp)).1
      · exact (fin_arg HT.out HSr.out hrb hbl _ _ _ _ _ [y1, y2, 1 + y3, 1 + y4] rfl (by unfold maxLen; simp)).2.1
      · exact (fin_arg HT.out HSr.out hrb hbl _ _ _ _ _ [y1, y2, 1 + y3, 1 + y4] rfl (by unfold maxLen; simp)).2.2.1
      · exact (fin_arg HT.out HSr.out hrb hbl _ _ _ _ _ [y1, y2, 1 + y3, 1 + y4] rfl (by unfold maxLen; simp)).2.2.2
  · cases q with
    | false =>
      obtain ⟨a0, a1, a2, a3, a4, a5, a6⟩ := HD4.out.res
      obtain ⟨b0, b1, b2, b3, b4, b5, b6⟩ := HD4.out.box
      have hrb := HD4.out.lt
      have hrb' : ¬ rb = w.heap.size := by omega
      have hrb'' : ¬ w.heap.size = rb := by omega
      have HT := hideP HD4.out.turn
      have HSr := hideP HD4.out.src
      have hbl : b < w.heap.size := hlt
      go_wp2
      refine bodyPost_ret (v := .agg #[.int .i64 2, .slice (some ⟨w4.heap.size, 0, none⟩) 1 1, .slice none 0 0]) (by simp [results, Try.results16, go_sem, *]) rfl ⟨2, some ⟨w4.heap.size, 0, none⟩, 1, [id], none, 0, [], t + 1 + 1 + 1, rfl, rF_right (by omega) (by omega) (by rfl) (by simp [isB]; omega), (fun i hi => by simp at hi), ?_, by omega, by omega, ?_, ?_, .inl rfl, ?_, OwnR.nil _ _ _ _⟩
      · exact (fin_arg HT.out HSr.out hrb hbl _ _ _ _ _ [id] rfl (by unfold maxLen; simp)).1
      · exact (fin_arg HT.out HSr.out hrb hbl _ _ _ _ _ [id] rfl (by unfold maxLen; simp)).2.1
      · exact (fin_arg HT.out HSr.out hrb hbl _ _ _ _ _ [id] rfl (by unfold maxLen; simp)).2.2.1
      · exact (fin_arg HT.out HSr.out hrb hbl _ _ _ _ _ [id] rfl (by unfold maxLen; simp)).2.2.2
    | true =>
      go_wp2_with fail
      refine Calls.mono (next_any _ _ _ _ _ _ _ _ 256 HD4.out.src (by omega) (by omega) (by omega) (by omega)) ?_
      rintro e w5 ⟨z, rfl, z0, z1, ht, hs⟩
      have HD5 := hideP (HD4.out.next ht hs)
      clear ht hs HD4 hid
      have hid : 0 ≤ z ∧ z ≤ 255 := by omega
      obtain ⟨a0, a1, a2, a3, a4, a5, a6⟩ := HD5.out.res
      obtain ⟨b0, b1, b2, b3, b4, b5, b6⟩ := HD5.out.box
      have hrb := HD5.out.lt
      have hrb' : ¬ rb = w.heap.size := by omega
      have hrb'' : ¬ w.heap.size = rb := by omega
      have HT := hideP HD5.out.turn
      have HSr := hideP HD5.out.src
      have hbl : b < w.heap.size := hlt
      go_wp2
      refine bodyPost_ret (v := .agg #[.int .i64 2, .slice (some ⟨w5.heap.size, 0, none⟩) 1 1, .slice none 0 0]) (by simp [results, Try.results16, go_sem, *]) rfl ⟨2, some ⟨w5.heap.size, 0, none⟩, 1, [z], none, 0, [], t + 1 + 1 + 1 + 1, rfl, rF_right (by omega) (by omega) (by rfl) (by simp [isB]; omega), (fun i hi => by simp at hi), ?_, by omega, by omega, ?_, ?_, .inl rfl, ?_, OwnR.nil _ _ _ _⟩
      · exact (fin_arg HT.out HSr.out hrb hbl _ _ _ _ _ [z] rfl (by unfold maxLen; simp)).1
      · exact (fin_arg HT.out HSr.out hrb hbl _ _ _ _ _ [z] rfl (by unfold maxLen; simp)).2.1
      · exact (fin_arg HT.out HSr.out hrb hbl _ _ _ _ _ [z] rfl (by unfold maxLen; simp)).2.2.1
      · exact (fin_arg HT.out HSr.out hrb hbl _ _ _ _ _ [z] rfl (by unfold maxLen; simp)).2.2.2
  · cases q with
    | false =>
      obtain ⟨a0, a1, a2, a3, a4, a5, a6⟩ := HD4.out.res
      obtain ⟨b0, b1, b2, b3, b4, b5, b6⟩ := HD4.out.box
      have hrb := HD4.out.lt
      have hrb' : ¬ rb = w.heap.size := by omega
      have hrb'' : ¬ w.heap.size = rb := by omega
      have HT := hideP HD4.out.turn
      have HSr := hideP HD4.out.src
      have hbl : b < w.heap.size := hlt
      go_wp2
      refine bodyPost_ret (v := .agg #[.int .i64 3, .slice (some ⟨w4.heap.size, 0, none⟩) 1 1, .slice none 0 0]) (by simp [results, Try.results16, go_sem, *]) rfl ⟨3, some ⟨w4.heap.size, 0, none⟩, 1, [id], none, 0, [], t + 1 + 1 + 1, rfl, rF_right (by omega) (by omega) (by rfl) (by simp [isB]; omega), (fun i hi => by simp at hi), ?_, by omega, by omega, ?_, ?_, .inl rfl, ?_, OwnR.nil _ _ _ _⟩
      · exact (fin_arg HT.out HSr.out hrb hbl _ _ _ _ _ [id] rfl (by unfold maxLen; simp)).1
      · exact (fin_arg HT.out HSr.out hrb hbl _ _ _ _ _ [id] rfl (by unfold maxLen; simp)).2.1
      · exact (fin_arg HT.out HSr.out hrb hbl _ _ _ _ _ [id] rfl (by unfold maxLen; simp)).2.2.1
      · exact (fin_arg HT.out HSr.out hrb hbl _ _ _ _ _ [id] rfl (by unfold maxLen; simp)).2.2.2
    | true =>
      go_wp2_with fail
      refine Calls.mono (next_any _ _ _ _ _ _ _ _ 256 HD4.out.src (by omega) (by omega) (by omega) (by omega)) ?_
      rintro e w5 ⟨z, rfl, z0, z1, ht, hs⟩
      have HD5 := hideP (HD4.out.next ht hs)
      clear ht hs HD4 hid
      have hid : 0 ≤ z ∧ z ≤ 255 := by omega
      obtain ⟨a0, a1, a2, a3, a4, a5, a6⟩ := HD5.out.res
      obtain ⟨b0, b1, b2, b3, b4, b5, b6⟩ := HD5.out.box
      have hrb := HD5.out.lt
      have hrb' : ¬ rb = w.heap.size := by omega
      have hrb'' : ¬ w.heap.size = rb := by omega
      have HT := hideP HD5.out.turn
      have HSr := hideP HD5.out.src
      have hbl : b < w.heap.size := hlt
      go_wp2
      refine bodyPost_ret (v := .agg #[.int .i64 3, .slice (some ⟨w5.heap.size, 0, none⟩) 1 1, .slice none 0 0]) (by simp [results, Try.results16, go_sem, *]) rfl ⟨3, some ⟨w5.heap.size, 0, none⟩, 1, [z], none, 0, [], t + 1 + 1 + 1 + 1, rfl, rF_right (by omega) (by omega) (by rfl) (by simp [isB]; omega), (fun i hi => by simp at hi), ?_, by omega, by omega, ?_, ?_, .inl rfl, ?_, OwnR.nil _ _ _ _⟩
      · exact (fin_arg HT.out HSr.out hrb hbl _ _ _ _ _ [z] rfl (by unfold maxLen; simp)).1
      · exact (fin_arg HT.out HSr.out hrb hbl _ _ _ _ _ [z] rfl (by unfold maxLen; simp)).2.1
      · exact (fin_arg HT.out HSr.out hrb hbl _ _ _ _ _ [z] rfl (by unfold maxLen; simp)).2.2.1
      · exact (fin_arg HT.out HSr.out hrb hbl _ _ _ _ _ [z] rfl (by unfold maxLen; simp)).2.2.2
  · cases q with
    | false =>
      obtain ⟨a0, a1, a2, a3, a4, a5, a6⟩ := HD4.out.res
      obtain ⟨b0, b1, b2, b3, b4, b5, b6⟩ := HD4.out.box
      have hrb := HD4.out.lt
      have hrb' : ¬ rb = w.heap.size := by omega
      have hrb'' : ¬ w.heap.size = rb := by omega
      have HT := hideP HD4.out.turn
      have HSr := hideP HD4.out.src
      have hbl : b < w.heap.size := hlt
      go_wp2
      refine bodyPost_ret (v := .agg #[.int .i64 4, .slice (some ⟨w4.heap.size, 0, none⟩) 1 1, .slice none 0 0]) (by simp [results, Try.results16, go_sem, *]) rfl ⟨4, some ⟨w4.heap.size, 0, none⟩, 1, [id], none, 0, [], t + 1 + 1 + 1, rfl, rF_right (by omega) (by omega) (by rfl) (by simp [isB]; omega), (fun i hi => by simp at hi), ?_, by omega, by omega, ?_, ?_, .inl rfl, ?_, OwnR.nil _ _ _ _⟩
      · exact (fin_arg HT.out HSr.out hrb hbl _ _ _ _ _ [id] rfl (by unfold maxLen; simp)).1
      · exact (fin_arg HT.out HSr.out hrb hbl _ _ _ _ _ [id] rfl (by unfold maxLen; simp)).2.1
      · exact (fin_arg HT.out HSr.out hrb hbl _ _ _ _ _ [id] rfl (by unfold maxLen; simp)).2.2.1
      · exact (fin_arg HT.out HSr.out hrb hbl _ _ _ _ _ [id] rfl (by unfold maxLen; simp)).2.2.2
    | true =>
      go_wp2_with fail
      refine Calls.mono (next_any _ _ _ _ _ _ _ _ 256 HD4.out.src (by omega) (by omega) (by omega) (by omega)) ?_
      rintro e w5 ⟨z, rfl, z0, z1, ht, hs⟩
      have HD5 := hideP (HD4.out.next ht hs)
      clear ht hs HD4 hid
      have hid : 0 ≤ z ∧ z ≤ 255 := by omega
      obtain ⟨a0, a1, a2, a3, a4, a5, a6⟩ := HD5.out.res
      obtain ⟨b0, b1, b2, b3, b4, b5, b6⟩ := HD5.out.box
      have hrb := HD5.out.lt
      have hrb' : ¬ rb = w.heap.size := by omega
      have hrb'' : ¬ w.heap.size = rb := by omega
      have HT := hideP HD5.out.turn
      have HSr := hideP HD5.out.src
      have hbl : b < w.heap.size := hlt
      go_wp2
      refine bodyPost_ret (v := .agg #[.int .i64 4, .slice (some ⟨w5.heap.size, 0, none⟩) 1 1, .slice none 0 0]) (by simp [results, Try.results16, go_sem, *]) rfl ⟨4, some ⟨w5.heap.size, 0, none⟩, 1, [z], none, 0, [], t + 1 + 1 + 1 + 1, rfl, rF_right (by omega) (by omega) (by rfl) (by simp [isB]; omega), (fun i hi => by simp at hi), ?_, by omega, by omega, ?_, ?_, .inl rfl, ?_, OwnR.nil _ _ _ _⟩
      · exact (fin_arg HT.out HSr.out hrb hbl _ _ _ _ _ [z] rfl (by unfold maxLen; simp)).1
      · exact (fin_arg HT.out HSr.out hrb hbl _ _ _ _ _ [z] rfl (by unfold maxLen; simp)).2.1
      · exact (fin_arg HT.out HSr.out hrb hbl _ _ _ _ _ [z] rfl (by unfold maxLen; simp)).2.2.1
      · exact (fin_arg HT.out HSr.out hrb hbl _ _ _ _ _ [z] rfl (by unfold maxLen; simp)).2.2.2
  · cases q with
    | false =>
      obtain ⟨a0, a1, a2, a3, a4, a5, a6⟩ := HD4.out.res
      obtain ⟨b0, b1, b2, b3, b4, b5, b6⟩ := HD4.out.box
      have hrb := HD4.out.lt
      have hrb' : ¬ rb = w.heap.size := by omega
      have hrb'' : ¬ w.heap.size = rb := by omega
      have HT := hideP HD4.out.turn
      have HSr := hideP HD4.out.src
      have hbl : b < w.heap.size := hlt
      go_wp2
      refine bodyPost_ret (v := .agg #[.int .i64 5, .slice (some ⟨w4.heap.size, 0, none⟩) 1 1, .slice none 0 0]) (by simp [results, Try.results16, go_sem, *]) rfl ⟨5, some ⟨w4.heap.size, 0, none⟩, 1, [id], none, 0, [], t + 1 + 1 + 1, rfl, rF_right (by omega) (by omega) (by rfl) (by simp [isB]; omega), (fun i hi => by simp at hi), ?_, by omega, by omega, ?_, ?_, .inl rfl, ?_, OwnR.nil _ _ _ _⟩
      · exact (fin_arg HT.out HSr.out hrb hbl _ _ _ _ _ [id] rfl (by unfold maxLen; simp)).1
      · exact (fin_arg HT.out HSr.out hrb hbl _ _ _ _ _ [id] rfl (by unfold maxLen; simp)).2.1
      · exact (fin_arg HT.out HSr.out hrb hbl _ _ _ _ _ [id] rfl (by unfold maxLen; simp)).2.2.1
      · exact (fin_arg HT.out HSr.out hrb hbl _ _ _ _ _ [id] rfl (by unfold maxLen; simp)).2.2.2
    | true =>
      go_wp2_with fail
      refine Calls.mono (next_any _ _ _ _ _ _ _ _ 256 HD4.out.src (by omega) (by omega) (by omega) (by omega)) ?_
      rintro e w5 ⟨z, rfl, z0, z1, ht, hs⟩
      have HD5 := hideP (HD4.out.next ht hs)
      clear ht hs HD4 hid
      have hid : 0 ≤ z ∧ z ≤ 255 := by omega
      obtain ⟨a0, a1, a2, a3, a4, a5, a6⟩ := HD5.out.res
      obtain ⟨b0, b1, b2, b3, b4, b5, b6⟩ := HD5.out.box
      have hrb := HD5.out.lt
      have hrb' : ¬ rb = w.heap.size := by omega
      have hrb'' : ¬ w.heap.size = rb := by omega
      have HT := hideP HD5.out.turn
      have HSr := hideP HD5.out.src
      have hbl : b < w.heap.size := hlt
      go_wp2
      refine bodyPost_ret (v := .agg #[.int .i64 5, .slice (some ⟨w5.heap.size, 0, none⟩) 1 1, .slice none 0 0]) (by simp [results, Try.results16, go_sem, *]) rfl ⟨5, some ⟨w5.heap.size, 0, none⟩, 1, [z], none, 0, [], t + 1 + 1 + 1 + 1, rfl, rF_right (by omega) (by omega) (by rfl) (by simp [isB]; omega), (fun i hi => by simp at hi), ?_, by omega, by omega, ?_, ?_, .inl rfl, ?_, OwnR.nil _ _ _ _⟩
      · exact (fin_arg HT.out HSr.out hrb hbl _ _ _ _ _ [z] rfl (by unfold maxLen; simp)).1
      · exact (fin_arg HT.out HSr.out hrb hbl _ _ _ _ _ [z] rfl (by unfold maxLen; simp)).2.1
      · exact (fin_arg HT.out HSr.out hrb hbl _ _ _ _ _ [z] rfl (by unfold maxLen; simp)).2.2.1
      · exact (fin_arg HT.out HSr.out hrb hbl _ _ _ _ _ [z] rfl (by unfold maxLen; simp)).2.2.2
  · cases q with
    | false =>
      obtain ⟨c0, c1, c2, c3, c4, c5, c6⟩ := HD4.out.box
      go_wp2_with fail
      clear c0 c1 c2 c3 c4 c5 c6
      refine Calls.mono (next_any _ _ _ _ _ _ _ _ 7 HD4.out.src (by omega) (by omega) (by omega) (by omega)) ?_
      rintro e v1 ⟨y1, rfl, y1a, y1b, ht, hs⟩
      have E1 := hideP (HD4.out.next ht hs)
      clear ht hs HD4
      go_wp2_with fail
      refine Calls.mono (next_any _ _ _ _ _ _ _ _ 5 E1.out.src (by omega) (by omega) (by omega) (by omega)) ?_
      rintro e v2 ⟨y2, rfl, y2a, y2b, ht, hs⟩
      have E2 := hideP (E1.out.next ht hs)
      clear ht hs E1
      obtain ⟨a0, a1, a2, a3, a4, a5, a6⟩ := E2.out.res
      obtain ⟨b0, b1, b2, b3, b4, b5, b6⟩ := E2.out.box
      have hrb := E2.out.lt
      have hrb' : ¬ rb = w.heap.size := by omega
      have hrb'' : ¬ w.heap.size = rb := by omega
      have HT := hideP E2.out.turn
      have HSr := hideP E2.out.src
      have hbl : b < w.heap.size := hlt
      go_wp2
      refine bodyPost_ret (v := .agg #[.int .i64 6, .slice (some ⟨v2.heap.size, 0, none⟩) 3 3, .slice none 0 0]) (by simp [results, Try.results16, go_sem, *]) rfl ⟨6, some ⟨v2.heap.size, 0, none⟩, 3, [id, y1, y2], none, 0, [], t + 1 + 1 + 1 + 1 + 1, rfl, rF_right (by omega) (by omega) (by rfl) (by simp [isB]; omega), (fun i hi => by simp at hi), ?_, by omega, by omega, ?_, ?_, .inl rfl, ?_, OwnR.nil _ _ _ _⟩
      · exact (fin_arg HT.out HSr.out hrb hbl _ _ _ _ _ [id, y1, y2] rfl (by unfold maxLen; simp)).1
      · exact (fin_arg HT.out HSr.out hrb hbl _ _ _ _ _ [id, y1, y2] rfl (by unfold maxLen; simp)).2.1
      · exact (fin_arg HT.out HSr.out hrb hbl _ _ _ _ _ [id, y1, y2] rfl (by unfold maxLen; simp)).2.2.1
      · exact (fin_arg HT.out HSr.out hrb hbl _ _ _ _ _ [id, y1, y2] rfl (by unfold maxLen; simp)).2.2.2
    | true =>
      go_wp2_with fail
      refine Calls.mono (next_any _ _ _ _ _ _ _ _ 256 HD4.out.src (by omega) (by omega) (by omega) (by omega)) ?_
      rintro e w5 ⟨z, rfl, z0, z1, ht, hs⟩
      have HD5 := hideP (HD4.out.next ht hs)
      clear ht hs HD4 hid
      have hid : 0 ≤ z ∧ z ≤ 255 := by omega
      obtain ⟨c0, c1, c2, c3, c4, c5, c6⟩ := HD5.out.box
      go_wp2_with fail
      clear c0 c1 c2 c3 c4 c5 c6
      refine Calls.mono (next_any _ _ _ _ _ _ _ _ 7 HD5.out.src (by omega) (by omega) (by omega) (by omega)) ?_
      rintro e v1 ⟨y1, rfl, y1a, y1b, ht, hs⟩
      have E1 := hideP (HD5.out.next ht hs)
      clear ht hs HD5
      go_wp2_with fail
      refine Calls.mono (next_any _ _ _ _ _ _ _ _ 5 E1.out.src (by omega) (by omega) (by omega) (by omega)) ?_
      rintro e v2 ⟨y2, rfl, y2a, y2b, ht, hs⟩
      have E2 := hideP (E1.out.next ht hs)
      clear ht hs E1
      obtain ⟨a0, a1, a2, a3, a4, a5, a6⟩ := E2.out.res
      obtain ⟨b0, b1, b2, b3, b4, b5, b6⟩ := E2.out.box
      have hrb := E2.out.lt
      have hrb' : ¬ rb = w.heap.size := by omega
      have hrb'' : ¬ w.heap.size = rb := by omega
      have HT := hideP E2.out.turn
      have HSr := hideP E2.out.src
      have hbl : b < w.heap.size := hlt
      go_wp2
      refine bodyPost_ret (v := .agg #[.int .i64 6, .slice (some ⟨v2.heap.size, 0, none⟩) 3 3, .slice none 0 0]) (by simp [results, Try.results16, go_sem, *]) rfl ⟨6, some ⟨v2.heap.size, 0, none⟩, 3, [z, y1, y2], none, 0, [], t + 1 + 1 + 1 + 1 + 1 + 1, rfl, rF_right (by omega) (by omega) (by rfl) (by simp [isB]; omega), (fun i hi => by simp at hi), ?_, by omega, by omega, ?_, ?_, .inl rfl, ?_, OwnR.nil _ _ _ _⟩
      · exact (fin_arg HT.out HSr.out hrb hbl _ _ _ _ _ [z, y1, y2] rfl (by unfold maxLen; simp)).1
      · exact (fin_arg HT.out HSr.out hrb hbl _ _ _ _ _ [z, y1, y2] rfl (by unfold maxLen; simp)).2.1
      · exact (fin_arg HT.out HSr.out hrb hbl _ _ _ _ _ [z, y1, y2] rfl (by unfold maxLen; simp)).2.2.1
      · exact (fin_arg HT.out HSr.out hrb hbl _ _ _ _ _ [z, y1, y2] rfl (by unfold maxLen; simp)).2.2.2
  · cases q with
    | false =>
      obtain ⟨c0, c1, c2, c3, c4, c5, c6⟩ := HD4.out.box
      go_wp2_with fail
      clear c0 c1 c2 c3 c4 c5 c6
      refine Calls.mono (next_any _ _ _ _ _ _ _ _ 4 HD4.out.src (by omega) (by omega) (by omega) (by omega)) ?_
      rintro e v1 ⟨y1, rfl, y1a, y1b, ht, hs⟩
      have E1 := hideP (HD4.out.next ht hs)
      clear ht hs HD4
      go_wp2_with fail
      refine Calls.mono (next_any _ _ _ _ _ _ _ _ 4 E1.out.src (by omega) (by omega) (by omega) (by omega)) ?_
      rintro e v2 ⟨y2, rfl, y2a, y2b, ht, hs⟩
      have E2 := hideP (E1.out.next ht hs)
      clear ht hs E1
      go_wp2_with fail
      refine Calls.mono (next_any _ _ _ _ _ _ _ _ 4 E2.out.src (by omega) (by omega) (by omega) (by omega)) ?_
      rintro e v3 ⟨y3, rfl, y3a, y3b, ht, hs⟩
      have E3 := hideP (E2.out.next ht hs)
      clear ht hs E2
      go_wp2_with fail
      refine Calls.mono (next_any _ _ _ _ _ _ _ _ 3 E3.out.src (by omega) (by omega) (by omega) (by omega)) ?_
      rintro e v4 ⟨y4, rfl, y4a, y4b, ht, hs⟩
      have E4 := hideP (E3.out.next ht hs)
      clear ht hs E3
      go_wp2_with fail
      refine Calls.mono (next_any _ _ _ _ _ _ _ _ 9 E4.out.src (by omega) (by omega) (by omega) (by omega)) ?_
      rintro e v5 ⟨y5, rfl, y5a, y5b, ht, hs⟩
      have E5 := hideP (E4.out.next ht hs)
      clear ht hs E4
      obtain ⟨a0, a1, a2, a3, a4, a5, a6⟩ := E5.out.res
      obtain ⟨b0, b1, b2, b3, b4, b5, b6⟩ := E5.out.box
      have hrb := E5.out.lt
      have hrb' : ¬ rb = w.heap.size := by omega
      have hrb'' : ¬ w.heap.size = rb := by omega
      have HT := hideP E5.out.turn
      have HSr := hideP E5.out.src
      have hbl : b < w.heap.size := hlt
      go_wp2
      refine bodyPost_ret (v := .agg #[.int .i64 7, .slice (some ⟨v5.heap.size, 0, none⟩) 6 6, .slice none 0 0]) (by simp [results, Try.results16, go_sem, *]) rfl ⟨7, some ⟨v5.heap.size, 0, none⟩, 6, [id, y1, y2, 1 + y3, 1 + y4, 1 + y5], none, 0, [], t + 1 + 1 + 1 + 1 + 1 + 1 + 1 + 1, rfl, rF_right (by omega) (by omega) (by rfl) (by simp [isB]; omega), (fun i hi => by simp at hi), ?_, by omega, by omega, ?_, ?_, .inl rfl, ?_, OwnR.nil _ _ _ _⟩
      · exact (fin_arg HT.out HSr.out hrb hbl _ _ _ _ _ [id, y1, y2, 1 + y3, 1 + y4, 1 + y5] rfl (by unfold maxLen; simp)).1
      · exact (fin_arg HT.out HSr.out hrb hbl _ _ _ _ _ [id, y1, y2, 1 + y3, 1 + y4, 1 + y5] rfl (by unfold maxLen; simp)).2.1
      · exact (fin_arg HT.out HSr.out hrb hbl _ _ _ _ _ [id, y1, y2, 1 + y3, 1 + y4, 1 + y5] rfl (by unfold maxLen; simp)).2.2.1
      · exact (fin_arg HT.out HSr.out hrb hbl _ _ _ _ _ [id, y1, y2, 1 + y3, 1 + y4, 1 + y5] rfl (by unfold maxLen; simp)).2.2.2
    | true =>
      go_wp2_with fail
      refine Calls.mono (next_any _ _ _ _ _ _ _ _ 256 HD4.out.src (by omega) (by omega) (by omega) (by omega)) ?_
      rintro e w5 ⟨z, rfl, z0, z1, ht, hs⟩
      have HD5 := hideP (HD4.out.next ht hs)
      clear ht hs HD4 hid
      have hid : 0 ≤ z ∧ z ≤ 255 := by omega
      obtain ⟨c0, c1, c2, c3, c4, c5, c6⟩ := HD5.out.box
      go_wp2_with fail
      clear c0 c1 c2 c3 c4 c5 c6
      refine Calls.mono (next_any _ _ _ _ _ _ _ _ 4 HD5.out.src (by omega) (by omega) (by omega) (by omega)) ?_
      rintro e v1 ⟨y1, rfl, y1a, y1b, ht, hs⟩
      have E1 := hideP (HD5.out.next ht hs)
      clear ht hs HD5
      go_wp2_with fail
      refine Calls.mono (next_any _ _ _ _ _ _ _ _ 4 E1.out.src (by omega) (by omega) (by omega) (by omega)) ?_
      rintro e v2 ⟨y2, rfl, y2a, y2b, ht, hs⟩
      have E2 := hideP (E1.out.next ht hs)
      clear ht hs E1
      go_wp2_with fail
      refine Calls.mono (next_any _ _ _ _ _ _ _ _ 4 E2.out.src (by omega) (by omega) (by omega) (by omega)) ?_
      rintro e v3 ⟨y3, rfl, y3a, y3b, ht, hs⟩
      have E3 := hideP (E2.out.next ht hs)
      clear ht hs E2
      go_wp2_with fail
      refine Calls.mono (next_any _ _ _ _ _ _ _ _ 3 E3.out.src (by omega) (by omega) (by omega) (by omega)) ?_
      rintro e v4 ⟨y4, rfl, y4a, y4b, ht, hs⟩
      have E4 := hideP (E3.out.next ht hs)
      clear ht hs E3
      go_wp2_with fail
      refine Calls.mono (next_any _ _ _ _ _ _ _ _ 9 E4.out.src (by omega) (by omega) (by omega) (by omega)) ?_
      rintro e v5 ⟨y5, rfl, y5a, y5b, ht, hs⟩
      have E5 := hideP (E4.out.next ht hs)
      clear ht hs E4
      obtain ⟨a0, a1, a2, a3, a4, a5, a6⟩ := E5.out.res
      obtain ⟨b0, b1, b2, b3, b4, b5, b6⟩ := E5.out.box
      have hrb := E5.out.lt
      have hrb' : ¬ rb = w.heap.size := by omega
      have hrb'' : ¬ w.heap.size = rb := by omega
      have HT := hideP E5.out.turn
      have HSr := hideP E5.out.src
      have hbl : b < w.heap.size := hlt
      go_wp2
      refine bodyPost_ret (v := .agg #[.int .i64 7, .slice (some ⟨v5.heap.size, 0, none⟩) 6 6, .slice none 0 0]) (by simp [results, Try.results16, go_sem, *]) rfl ⟨7, some ⟨v5.heap.size, 0, none⟩, 6, [z, y1, y2, 1 + y3, 1 + y4, 1 + y5], none, 0, [], t + 1 + 1 + 1 + 1 + 1 + 1 + 1 + 1 + 1, rfl, rF_right (by omega) (by omega) (by rfl) (by simp [isB]; omega), (fun i hi => by simp at hi), ?_, by omega, by omega, ?_, ?_, .inl rfl, ?_, OwnR.nil _ _ _ _⟩
      · exact (fin_arg HT.out HSr.out hrb hbl _ _ _ _ _ [z, y1, y2, 1 + y3, 1 + y4, 1 + y5] rfl (by unfold maxLen; simp)).1
      · exact (fin_arg HT.out HSr.out hrb hbl _ _ _ _ _ [z, y1, y2, 1 + y3, 1 + y4, 1 + y5] rfl (by unfold maxLen; simp)).2.1
      · exact (fin_arg HT.out HSr.out hrb hbl _ _ _ _ _ [z, y1, y2, 1 + y3, 1 + y4, 1 + y5] rfl (by unfold maxLen; simp)).2.2.1
      · exact (fin_arg HT.out HSr.out hrb hbl _ _ _ _ _ [z, y1, y2, 1 + y3, 1 + y4, 1 + y5] rfl (by unfold maxLen; simp)).2.2.2
  · cases q with
    | false =>
      obtain ⟨c0, c1, c2, c3, c4, c5, c6⟩ := HD4.out.box
      go_wp2_with fail
      clear c0 c1 c2 c3 c4 c5 c6
      refine Calls.mono (next_any _ _ _ _ _ _ _ _ 3 HD4.out.src (by omega) (by omega) (by omega) (by omega)) ?_
      rintro e v1 ⟨y1, rfl, y1a, y1b, ht, hs⟩
      have E1 := hideP (HD4.out.next ht hs)
      clear ht hs HD4
      go_wp2_with fail
      refine Calls.mono (next_any _ _ _ _ _ _ _ _ 3 E1.out.src (by omega) (by omega) (by omega) (by omega)) ?_
      rintro e v2 ⟨y2, rfl, y2a, y2b, ht, hs⟩
      have E2 := hideP (E1.out.next ht hs)
      clear ht hs E1
      go_wp2_with fail
      refine Calls.mono (next_any _ _ _ _ _ _ _ _ 3 E2.out.src (by omega) (by omega) (by omega) (by omega)) ?_
      rintro e v3 ⟨y3, rfl, y3a, y3b, ht, hs⟩
      have E3 := hideP (E2.out.next ht hs)
      clear ht hs E2
      go_wp2_with fail
      refine Calls.mono (next_any _ _ _ _ _ _ _ _ 3 E3.out.src (by omega) (by omega) (by omega) (by omega)) ?_
      rintro e v4 ⟨y4, rfl, y4a, y4b, ht, hs⟩
      have E4 := hideP (E3.out.next ht hs)
      clear ht hs E3
      go_wp2_with fail
      refine Calls.mono (next_any _ _ _ _ _ _ _ _ 4 E4.out.src (by omega) (by omega) (by omega) (by omega)) ?_
      rintro e v5 ⟨y5, rfl, y5a, y5b, ht, hs⟩
      have E5 := hideP (E4.out.next ht hs)
      clear ht hs E4
      go_wp2_with fail
      refine Calls.mono (next_any _ _ _ _ _ _ _ _ 3 E5.out.src (by omega) (by omega) (by omega) (by omega)) ?_
      rintro e v6 ⟨y6, rfl, y6a, y6b, ht, hs⟩
      have E6 := hideP (E5.out.next ht hs)
      clear ht hs E5
      obtain ⟨a0, a1, a2, a3, a4, a5, a6⟩ := E6.out.res
      obtain ⟨b0, b1, b2, b3, b4, b5, b6⟩ := E6.out.box
      have hrb := E6.out.lt
      have hrb' : ¬ rb = w.heap.size := by omega
      have hrb'' : ¬ w.heap.size = rb := by omega
      have HT := hideP E6.out.turn
      have HSr := hideP E6.out.src
      have hbl : b < w.heap.size := hlt
      go_wp2
      refine bodyPost_ret (v := .agg #[.int .i64 8, .slice (some ⟨v6.heap.size, 0, none⟩) 7 7, .slice none 0 0]) (by simp [results, Try.results16, go_sem, *]) rfl ⟨8, some ⟨v6.heap.size, 0, none⟩, 7, [id, y1, y2, 1 + y3, 1 + y4, y5, y6], none, 0, [], t + 1 + 1 + 1 + 1 + 1 + 1 + 1 + 1 + 1, rfl, rF_right (by omega) (by omega) (by rfl) (by simp [isB]; omega), (fun i hi => by simp at hi), ?_, by omega, by omega, ?_, ?_, .inl rfl, ?_, OwnR.nil _ _ _ _⟩
      · exact (fin_arg HT.out HSr.out hrb hbl _ _ _ _ _ [id, y1, y2, 1 + y3, 1 + y4, y5, y6] rfl (by unfold maxLen; simp)).1
      · exact (fin_arg HT.out HSr.out hrb hbl _ _ _ _ _ [id, y1, y2, 1 + y3, 1 + y4, y5, y6] rfl (by unfold maxLen; simp)).2.1
      · exact (fin_arg HT.out HSr.out hrb hbl _ _ _ _ _ [id, y1, y2, 1 + y3, 1 + y4, y5, y6] rfl (by unfold maxLen; simp)).2.2.1
      · exact (fin_arg HT.out HSr.out hrb hbl _ _ _ _ _ [id, y1, y2, 1 + y3, 1 + y4, y5, y6] rfl (by unfold maxLen; simp)).2.2.2
    | true =>
      go_wp2_with fail
      refine Calls.mono (next_any _ _ _ _ _ _ _ _ 256 HD4.out.src (by omega) (by omega) (by omega) (by omega)) ?_
      rintro e w5 ⟨z, rfl, z0, z1, ht, hs⟩
      have HD5 := hideP (HD4.out.next ht hs)
      clear ht hs HD4 hid
      have hid : 0 ≤ z ∧ z ≤ 255 := by omega
      obtain ⟨c0, c1, c2, c3, c4, c5, c6⟩ := HD5.out.box
      go_wp2_with fail
      clear c0 c1 c2 c3 c4 c5 c6
      refine Calls.mono (next_any _ _ _ _ _ _ _ _ 3 HD5.out.src (by omega) (by omega) (by omega) (by omega)) ?_
      rintro e v1 ⟨y1, rfl, y1a, y1b, ht, hs⟩
      have E1 := hideP (HD5.out.next ht hs)
      clear ht hs HD5
      go_wp2_with fail
      refine Calls.mono (next_any _ _ _ _ _ _ _ _ 3 E1.out.src (by omega) (by omega) (by omega) (by omega)) ?_
      rintro e v2 ⟨y2, rfl, y2a, y2b, ht, hs⟩
      have E2 := hideP (E1.out.next ht hs)
      clear ht hs E1
      go_wp2_with fail
      refine Calls.mono (next_any _ _ _ _ _ _ _ _ 3 E2.out.src (by omega) (by omega) (by omega) (by omega)) ?_
      rintro e v3 ⟨y3, rfl, y3a, y3b, ht, hs⟩
      have E3 := hideP (E2.out.next ht hs)
      clear ht hs E2
      go_wp2_with fail
      refine Calls.mono (next_any _ _ _ _ _ _ _ _ 3 E3.out.src (by omega) (by omega) (by omega) (by omega)) ?_
      rintro e v4 ⟨y4, rfl, y4a, y4b, ht, hs⟩
      have E4 := hideP (E3.out.next ht hs)
      clear ht hs E3
      go_wp2_with fail
      refine Calls.mono (next_any _ _ _ _ _ _ _ _ 4 E4.out.src (by omega) (by omega) (by omega) (by omega)) ?_
      rintro e v5 ⟨y5, rfl, y5a, y5b, ht, hs⟩
      have E5 := hideP (E4.out.next ht hs)
      clear ht hs E4
      go_wp2_with fail
      refine Calls.mono (next_any _ _ _ _ _ _ _ _ 3 E5.out.src (by omega) (by omega) (by omega) (by omega)) ?_
      rintro e v6 ⟨y6, rfl, y6a, y6b, ht, hs⟩
      have E6 := hideP (E5.out.next ht hs)
      clear ht hs E5
      obtain ⟨a0, a1, a2, a3, a4, a5, a6⟩ := E6.out.res
      obtain ⟨b0, b1, b2, b3, b4, b5, b6⟩ := E6.out.box
      have hrb := E6.out.lt
      have hrb' : ¬ rb = w.heap.size := by omega
      have hrb'' : ¬ w.heap.size = rb := by omega
      have HT := hideP E6.out.turn
      have HSr := hideP E6.out.src
      have hbl : b < w.heap.size := hlt
      go_wp2
      refine bodyPost_ret (v := .agg #[.int .i64 8, .slice (some ⟨v6.heap.size, 0, none⟩) 7 7, .slice none 0 0]) (by simp [results, Try.results16, go_sem, *]) rfl ⟨8, some ⟨v6.heap.size, 0, none⟩, 7, [z, y1, y2, 1 + y3, 1 + y4, y5, y6], none, 0, [], t + 1 + 1 + 1 + 1 + 1 + 1 + 1 + 1 + 1 + 1, rfl, rF_right (by omega) (by omega) (by rfl) (by simp [isB]; omega), (fun i hi => by simp at hi), ?_, by omega, by omega, ?_, ?_, .inl rfl, ?_, OwnR.nil _ _ _ _⟩
      · exact (fin_arg HT.out HSr.out hrb hbl _ _ _ _ _ [z, y1, y2, 1 + y3, 1 + y4, y5, y6] rfl (by unfold maxLen; simp)).1
      · exact (fin_arg HT.out HSr.out hrb hbl _ _ _ _ _ [z, y1, y2, 1 + y3, 1 + y4, y5, y6] rfl (by unfold maxLen; simp)).2.1
      · exact (fin_arg HT.out HSr.out hrb hbl _ _ _ _ _ [z, y1, y2, 1 + y3, 1 + y4, y5, y6] rfl (by unfold maxLen; simp)).2.2.1
      · exact (fin_arg HT.out HSr.out hrb hbl _ _ _ _ _ [z, y1, y2, 1 + y3, 1 + y4, y5, y6] rfl (by unfold maxLen; simp)).2.2.2
  · cases q with
    | false =>
      obtain ⟨c0, c1, c2, c3, c4, c5, c6⟩ := HD4.out.box
      go_wp2_with fail
      clear c0 c1 c2 c3 c4 c5 c6
      refine Calls.mono (next_any _ _ _ _ _ _ _ _ 7 HD4.out.src (by omega) (by omega) (by omega) (by omega)) ?_
      rintro e v1 ⟨y1, rfl, y1a, y1b, ht, hs⟩
      have E1 := hideP (HD4.out.next ht hs)
      clear ht hs HD4
      go_wp2_with fail
      refine Calls.mono (next_any _ _ _ _ _ _ _ _ 5 E1.out.src (by omega) (by omega) (by omega) (by omega)) ?_
      rintro e v2 ⟨y2, rfl, y2a, y2b, ht, hs⟩
      have E2 := hideP (E1.out.next ht hs)
      clear ht hs E1
      obtain ⟨a0, a1, a2, a3, a4, a5, a6⟩ := E2.out.res
      obtain ⟨b0, b1, b2, b3, b4, b5, b6⟩ := E2.out.box
      have hrb := E2.out.lt
      have hrb' : ¬ rb = w.heap.size := by omega
      have hrb'' : ¬ w.heap.size = rb := by omega
      have HT := hideP E2.out.turn
      have HSr := hideP E2.out.src
      have hbl : b < w.heap.size := hlt
      go_wp2
      refine bodyPost_ret (v := .agg #[.int .i64 9, .slice (some ⟨v2.heap.size, 0, none⟩) 3 3, .slice none 0 0]) (by simp [results, Try.results16, go_sem, *]) rfl ⟨9, some ⟨v2.heap.size, 0, none⟩, 3, [id, y1, y2], none, 0, [], t + 1 + 1 + 1 + 1 + 1, rfl, rF_right (by omega) (by omega) (by rfl) (by simp [isB]; omega), (fun i hi => by simp at hi), ?_, by omega, by omega, ?_, ?_, .inl rfl, ?_, OwnR.nil _ _ _ _⟩
      · exact (fin_arg HT.out HSr.out hrb hbl _ _ _ _ _ [id, y1, y2] rfl (by unfold maxLen; simp)).1
      · exact (fin_arg HT.out HSr.out hrb hbl _ _ _ _ _ [id, y1, y2] rfl (by unfold maxLen; simp)).2.1
      · exact (fin_arg HT.out HSr.out hrb hbl _ _ _ _ _ [id, y1, y2] rfl (by unfold maxLen; simp)).2.2.1
      · exact (fin_arg HT.out HSr.out hrb hbl _ _ _ _ _ [id, y1, y2] rfl (by unfold maxLen; simp)).2.2.2
    | true =>
      go_wp2_with fail
      refine Calls.mono (next_any _ _ _ _ _ _ _ _ 256 HD4.out.src (by omega) (by omega) (by omega) (by omega)) ?_
      rintro e w5 ⟨z, rfl, z0, z1, ht, hs⟩
      have HD5 := hideP (HD4.out.next ht hs)
      clear ht hs HD4 hid
      have hid : 0 ≤ z ∧ z ≤ 255 := by omega
      obtain ⟨c0, c1, c2, c3, c4, c5, c6⟩ := HD5.out.box
      go_wp2_with fail
      clear c0 c1 c2 c3 c4 c5 c6
      refine Calls.mono (next_any _ _ _ _ _ _ _ _ 7 HD5.out.src (by omega) (by omega) (by omega) (by omega)) ?_
      rintro e v1 ⟨y1, rfl, y1a, y1b, ht, hs⟩
      have E1 := hideP (HD5.out.next ht hs)
      clear ht hs HD5
      go_wp2_with fail
      refine Calls.mono (next_any _ _ _ _ _ _ _ _ 5 E1.out.src (by omega) (by omega) (by omega) (by omega)) ?_
      rintro e v2 ⟨y2, rfl, y2a, y2b, ht, hs⟩
      have E2 := hideP (E1.out.next ht hs)
      clear ht hs E1
      obtain ⟨a0, a1, a2, a3, a4, a5, a6⟩ := E2.out.res
      obtain ⟨b0, b1, b2, b3, b4, b5, b6⟩ := E2.out.box
      have hrb := E2.out.lt
      have hrb' : ¬ rb = w.heap.size := by omega
      have hrb'' : ¬ w.heap.size = rb := by omega
      have HT := hideP E2.out.turn
      have HSr := hideP E2.out.src
      have hbl : b < w.heap.size := hlt
      go_wp2
      refine bodyPost_ret (v := .agg #[.int .i64 9, .slice (some ⟨v2.heap.size, 0, none⟩) 3 3, .slice none 0 0]) (by simp [results, Try.results16, go_sem, *]) rfl ⟨9, some ⟨v2.heap.size, 0, none⟩, 3, [z, y1, y2], none, 0, [], t + 1 + 1 + 1 + 1 + 1 + 1, rfl, rF_right (by omega) (by omega) (by rfl) (by simp [isB]; omega), (fun i hi => by simp at hi), ?_, by omega, by omega, ?_, ?_, .inl rfl, ?_, OwnR.nil _ _ _ _⟩
      · exact (fin_arg HT.out HSr.out hrb hbl _ _ _ _ _ [z, y1, y2] rfl (by unfold maxLen; simp)).1
      · exact (fin_arg HT.out HSr.out hrb hbl _ _ _ _ _ [z, y1, y2] rfl (by unfold maxLen; simp)).2.1
      · exact (fin_arg HT.out HSr.out hrb hbl _ _ _ _ _ [z, y1, y2] rfl (by unfold maxLen; simp)).2.2.1
      · exact (fin_arg HT.out HSr.out hrb hbl _ _ _ _ _ [z, y1, y2] rfl (by unfold maxLen; simp)).2.2.2
  · cases q with
    | false =>
      obtain ⟨a0, a1, a2, a3, a4, a5, a6⟩ := HD4.out.res
      obtain ⟨b0, b1, b2, b3, b4, b5, b6⟩ := HD4.out.box
      have hrb := HD4.out.lt
      have hrb' : ¬ rb = w.heap.size := by omega
      have hrb'' : ¬ w.heap.size = rb := by omega
      have HT := hideP HD4.out.turn
      have HSr := hideP HD4.out.src
      have hbl : b < w.heap.size := hlt
      go_wp2
      refine bodyPost_ret (v := .agg #[.int .i64 10, .slice none 0 0, .slice none 0 0]) (by simp [results, Try.results16, go_sem, *]) rfl ⟨10, none, 0, [], none, 0, [], t + 1 + 1 + 1, rfl, rF_right (by omega) (by omega) (by rfl) (by rfl), (fun i hi => by simp at hi), ?_, by omega, by omega, ?_, ?_, .inl rfl, ?_, OwnR.nil _ _ _ _⟩
      · exact ((HT.out.setCell (Nat.le_refl _) _).setCell (Nat.le_refl _) _).setCell (Nat.le_refl _) _
      · exact ((HSr.out.store ⟨w.heap.size, 0, none⟩ _ hbl).store ⟨w.heap.size, 1, none⟩ _ hbl).store ⟨w.heap.size, 2, none⟩ _ hbl
      · exact .inl rfl
      · exact OwnR.nil _ _ _ _
    | true =>
      go_wp2_with fail
      refine Calls.mono (next_any _ _ _ _ _ _ _ _ 256 HD4.out.src (by omega) (by omega) (by omega) (by omega)) ?_
      rintro e w5 ⟨z, rfl, z0, z1, ht, hs⟩
      have HD5 := hideP (HD4.out.next ht hs)
      clear ht hs HD4 hid
      have hid : 0 ≤ z ∧ z ≤ 255 := by omega
      obtain ⟨a0, a1, a2, a3, a4, a5, a6⟩ := HD5.out.res
      obtain ⟨b0, b1, b2, b3, b4, b5, b6⟩ := HD5.out.box
      have hrb := HD5.out.lt
      have hrb' : ¬ rb = w.heap.size := by omega
      have hrb'' : ¬ w.heap.size = rb := by omega
      have HT := hideP HD5.out.turn
      have HSr := hideP HD5.out.src
      have hbl : b < w.heap.size := hlt
      go_wp2
      refine bodyPost_ret (v := .agg #[.int .i64 10, .slice none 0 0, .slice none 0 0]) (by simp [results, Try.results16, go_sem, *]) rfl ⟨10, none, 0, [], none, 0, [], t + 1 + 1 + 1 + 1, rfl, rF_right (by omega) (by omega) (by rfl) (by rfl), (fun i hi => by simp at hi), ?_, by omega, by omega, ?_, ?_, .inl rfl, ?_, OwnR.nil _ _ _ _⟩
      · exact ((HT.out.setCell (Nat.le_refl _) _).setCell (Nat.le_refl _) _).setCell (Nat.le_refl _) _
      · exact ((HSr.out.store ⟨w.heap.size, 0, none⟩ _ hbl).store ⟨w.heap.size, 1, none⟩ _ hbl).store ⟨w.heap.size, 2, none⟩ _ hbl
      · exact .inl rfl
      · exact OwnR.nil _ _ _ _
  · cases q with
    | false =>
      obtain ⟨c0, c1, c2, c3, c4, c5, c6⟩ := HD4.out.box
      go_wp2_with fail
      clear c0 c1 c2 c3 c4 c5 c6
      refine Calls.mono (next_any _ _ _ _ _ _ _ _ 5 HD4.out.src (by omega) (by omega) (by omega) (by omega)) ?_
      rintro e v1 ⟨y1, rfl, y1a, y1b, ht, hs⟩
      have E1 := hideP (HD4.out.next ht hs)
      clear ht hs HD4
      obtain ⟨m, rfl⟩ : ∃ m : Nat, y1 = m := ⟨y1.toNat, by omega⟩
      go_wp2_with fail
      refine Calls.mono (some_any _ _ _ _ _ _ _ _ m E1.out.src (by omega) (by omega) (by omega)) ?_
      rintro e v2 ⟨bo, cb, D, rfl, hDl, hDB, ht, hs, O2⟩
      have E2 := hideP (E1.out.next ht hs)
      have n2 := E1.out.box.lt
      have O2' := hideP O2
      have HDB := hideP hDB
      have HDl := hideP hDl
      clear ht hs E1 O2 hDB hDl
      obtain ⟨a0, a1, a2, a3, a4, a5, a6⟩ := E2.out.res
      obtain ⟨b0, b1, b2, b3, b4, b5, b6⟩ := E2.out.box
      have hrb := E2.out.lt
      have hrb' : ¬ rb = w.heap.size := by omega
      have hrb'' : ¬ w.heap.size = rb := by omega
      have HT := hideP E2.out.turn
      have HSr := hideP E2.out.src
      have hbl : b < w.heap.size := hlt
      go_wp2
      refine bodyPost_ret (v := .agg #[.int .i64 11, .slice none 0 0, .slice bo D.length cb]) (by simp [results, Try.results16, go_sem, *]) rfl ⟨11, none, 0, [], bo, cb, D, t + 1 + 1 + 1 + 1 + (m : Int), rfl, rF_right (by omega) (by omega) (by simp [mny, aN, mD]; have := HDl.out; omega) (by rfl), HDB.out, ?_, by omega, by omega, ?_, .inl rfl, ?_, OwnR.nil _ _ _ _, ?_⟩
      · exact (((HT.out.setCell (by show w.heap.size ≤ rb; omega) _).setCell (Nat.le_refl _) _).setCell (Nat.le_refl _) _).setCell (Nat.le_refl _) _
      · exact (((HSr.out.store ⟨rb, 2, none⟩ _ (by show b < rb; omega)).store ⟨w.heap.size, 0, none⟩ _ hbl).store ⟨w.heap.size, 1, none⟩ _ hbl).store ⟨w.heap.size, 2, none⟩ _ hbl
      · exact ((((O2'.out.set ⟨rb, 2, none⟩ _ (by show rb < v1.heap.size; omega)).set ⟨w.heap.size, 0, none⟩ _ (by show w.heap.size < v1.heap.size; omega)).set ⟨w.heap.size, 1, none⟩ _ (by show w.heap.size < v1.heap.size; omega)).set ⟨w.heap.size, 2, none⟩ _ (by show w.heap.size < v1.heap.size; omega)).wrt.row.wide (by omega) (Nat.le_refl _)
      · exact ((((O2'.out.set ⟨rb, 2, none⟩ _ (by show rb < v1.heap.size; omega)).set ⟨w.heap.size, 0, none⟩ _ (by show w.heap.size < v1.heap.size; omega)).set ⟨w.heap.size, 1, none⟩ _ (by show w.heap.size < v1.heap.size; omega)).set ⟨w.heap.size, 2, none⟩ _ (by show w.heap.size < v1.heap.size; omega)).le (by omega)
    | true =>
      go_wp2_with fail
      refine Calls.mono (next_any _ _ _ _ _ _ _ _ 256 HD4.out.src (by omega) (by omega) (by omega) (by omega)) ?_
      rintro e w5 ⟨z, rfl, z0, z1, ht, hs⟩
      have HD5 := hideP (HD4.out.next ht hs)
      clear ht hs HD4 hid
      have hid : 0 ≤ z ∧ z ≤ 255 := by omega
      obtain ⟨c0, c1, c2, c3, c4, c5, c6⟩ := HD5.out.box
      go_wp2_with fail
      clear c0 c1 c2 c3 c4 c5 c6
      refine Calls.mono (next_any _ _ _ _ _ _ _ _ 5 HD5.out.src (by omega) (by omega) (by omega) (by omega)) ?_
      rintro e v1 ⟨y1, rfl, y1a, y1b, ht, hs⟩
      have E1 := hideP (HD5.out.next ht hs)
      clear ht hs HD5
      obtain ⟨m, rfl⟩ : ∃ m : Nat, y1 = m := ⟨y1.toNat, by omega⟩
      go_wp2_with fail
      refine Calls.mono (some_any _ _ _ _ _ _ _ _ m E1.out.src (by omega) (by omega) (by omega)) ?_
      rintro e v2 ⟨bo, cb, D, rfl, hDl, hDB, ht, hs, O2⟩
      have E2 := hideP (E1.out.next ht hs)
      have n2 := E1.out.box.lt
      have O2' := hideP O2
      have HDB := hideP hDB
      have HDl := hideP hDl
      clear ht hs E1 O2 hDB hDl
      obtain ⟨a0, a1, a2, a3, a4, a5, a6⟩ := E2.out.res
      obtain ⟨b0, b1, b2, b3, b4, b5, b6⟩ := E2.out.box
      have hrb := E2.out.lt
      have hrb' : ¬ rb = w.heap.size := by omega
      have hrb'' : ¬ w.heap.size = rb := by omega
      have HT := hideP E2.out.turn
      have HSr := hideP E2.out.src
      have hbl : b < w.heap.size := hlt
      go_wp2
      refine bodyPost_ret (v := .agg #[.int .i64 11, .slice none 0 0, .slice bo D.length cb]) (by simp [results, Try.results16, go_sem, *]) rfl ⟨11, none, 0, [], bo, cb, D, t + 1 + 1 + 1 + 1 + 1 + (m : Int), rfl, rF_right (by omega) (by omega) (by simp [mny, aN, mD]; have := HDl.out; omega) (by rfl), HDB.out, ?_, by omega, by omega, ?_, .inl rfl, ?_, OwnR.nil _ _ _ _, ?_⟩
      · exact (((HT.out.setCell (by show w.heap.size ≤ rb; omega) _).setCell (Nat.le_refl _) _).setCell (Nat.le_refl _) _).setCell (Nat.le_refl _) _
      · exact (((HSr.out.store ⟨rb, 2, none⟩ _ (by show b < rb; omega)).store ⟨w.heap.size, 0, none⟩ _ hbl).store ⟨w.heap.size, 1, none⟩ _ hbl).store ⟨w.heap.size, 2, none⟩ _ hbl
      · exact ((((O2'.out.set ⟨rb, 2, none⟩ _ (by show rb < v1.heap.size; omega)).set ⟨w.heap.size, 0, none⟩ _ (by show w.heap.size < v1.heap.size; omega)).set ⟨w.heap.size, 1, none⟩ _ (by show w.heap.size < v1.heap.size; omega)).set ⟨w.heap.size, 2, none⟩ _ (by show w.heap.size < v1.heap.size; omega)).wrt.row.wide (by omega) (Nat.le_refl _)
      · exact ((((O2'.out.set ⟨rb, 2, none⟩ _ (by show rb < v1.heap.size; omega)).set ⟨w.heap.size, 0, none⟩ _ (by show w.heap.size < v1.heap.size; omega)).set ⟨w.heap.size, 1, none⟩ _ (by show w.heap.size < v1.heap.size; omega)).set ⟨w.heap.size, 2, none⟩ _ (by show w.heap.size < v1.heap.size; omega)).le (by omega)
  · cases q with
    | false =>
      obtain ⟨c0, c1, c2, c3, c4, c5, c6⟩ := HD4.out.box
      go_wp2_with fail
      clear c0 c1 c2 c3 c4 c5 c6
      refine Calls.mono (pickQ (fun n => 0 ≤ n ∧ n ≤ 255) _ B b a len cap f _ _ _ _ _ rfl (inbL [0, 1, 16, 17, 32, 48, 51, 99] (by simp)) HD4.out.src (by omega) (by omega) (by decide) (by decide)) ?_
      rintro e v1 ⟨y1, rfl, ⟨y1a, y1b⟩, ht, hs⟩
      have E1 := hideP (HD4.out.next ht hs)
      clear ht hs HD4
      obtain ⟨a0, a1, a2, a3, a4, a5, a6⟩ := E1.out.res
      obtain ⟨b0, b1, b2, b3, b4, b5, b6⟩ := E1.out.box
      have hrb := E1.out.lt
      have hrb' : ¬ rb = w.heap.size := by omega
      have hrb'' : ¬ w.heap.size = rb := by omega
      have HT := hideP E1.out.turn
      have HSr := hideP E1.out.src
      have hbl : b < w.heap.size := hlt
      go_wp2
      refine bodyPost_ret (v := .agg #[.int .i64 12, .slice (some ⟨v1.heap.size, 0, none⟩) 1 1, .slice none 0 0]) (by simp [results, Try.results16, go_sem, *]) rfl ⟨12, some ⟨v1.heap.size, 0, none⟩, 1, [y1], none, 0, [], t + 1 + 1 + 1 + 1, rfl, rF_right (by omega) (by omega) (by rfl) (by simp [isB]; omega), (fun i hi => by simp at hi), ?_, by omega, by omega, ?_, ?_, .inl rfl, ?_, OwnR.nil _ _ _ _⟩
      · exact (fin_arg HT.out HSr.out hrb hbl _ _ _ _ _ [y1] rfl (by unfold maxLen; simp)).1
      · exact (fin_arg HT.out HSr.out hrb hbl _ _ _ _ _ [y1] rfl (by unfold maxLen; simp)).2.1
      · exact (fin_arg HT.out HSr.out hrb hbl _ _ _ _ _ [y1] rfl (by unfold maxLen; simp)).2.2.1
      · exact (fin_arg HT.out HSr.out hrb hbl _ _ _ _ _ [y1] rfl (by unfold maxLen; simp)).2.2.2
    | true =>
      go_wp2_with fail
      refine Calls.mono (next_any _ _ _ _ _ _ _ _ 256 HD4.out.src (by omega) (by omega) (by omega) (by omega)) ?_
      rintro e w5 ⟨z, rfl, z0, z1, ht, hs⟩
      have HD5 := hideP (HD4.out.next ht hs)
      clear ht hs HD4 hid
      have hid : 0 ≤ z ∧ z ≤ 255 := by omega
      obtain ⟨c0, c1, c2, c3, c4, c5, c6⟩ := HD5.out.box
      go_wp2_with fail
      clear c0 c1 c2 c3 c4 c5 c6
      refine Calls.mono (pickQ (fun n => 0 ≤ n ∧ n ≤ 255) _ B b a len cap f _ _ _ _ _ rfl (inbL [0, 1, 16, 17, 32, 48, 51, 99] (by simp)) HD5.out.src (by omega) (by omega) (by decide) (by decide)) ?_
      rintro e v1 ⟨y1, rfl, ⟨y1a, y1b⟩, ht, hs⟩
      have E1 := hideP (HD5.out.next ht hs)
      clear ht hs HD5
      obtain ⟨a0, a1, a2, a3, a4, a5, a6⟩ := E1.out.res
      obtain ⟨b0, b1, b2, b3, b4, b5, b6⟩ := E1.out.box
      have hrb := E1.out.lt
      have hrb' : ¬ rb = w.heap.size := by omega
      have hrb'' : ¬ w.heap.size = rb := by omega
      have HT := hideP E1.out.turn
      have HSr := hideP E1.out.src
      have hbl : b < w.heap.size := hlt
      go_wp2
      refine bodyPost_ret (v := .agg #[.int .i64 12, .slice (some ⟨v1.heap.size, 0, none⟩) 1 1, .slice none 0 0]) (by simp [results, Try.results16, go_sem, *]) rfl ⟨12, some ⟨v1.heap.size, 0, none⟩, 1, [y1], none, 0, [], t + 1 + 1 + 1 + 1 + 1, rfl, rF_right (by omega) (by omega) (by rfl) (by simp [isB]; omega), (fun i hi => by simp at hi), ?_, by omega, by omega, ?_, ?_, .inl rfl, ?_, OwnR.nil _ _ _ _⟩
      · exact (fin_arg HT.out HSr.out hrb hbl _ _ _ _ _ [y1] rfl (by unfold maxLen; simp)).1
      · exact (fin_arg HT.out HSr.out hrb hbl _ _ _ _ _ [y1] rfl (by unfold maxLen; simp)).2.1
      · exact (fin_arg HT.out HSr.out hrb hbl _ _ _ _ _ [y1] rfl (by unfold maxLen; simp)).2.2.1
      · exact (fin_arg HT.out HSr.out hrb hbl _ _ _ _ _ [y1] rfl (by unfold maxLen; simp)).2.2.2
  · cases q with
    | false =>
      obtain ⟨c0, c1, c2, c3, c4, c5, c6⟩ := HD4.out.box
      go_wp2_with fail
      clear c0 c1 c2 c3 c4 c5 c6
      refine Calls.mono (pickQ (fun n => 0 ≤ n ∧ n ≤ 255) _ B b a len cap f _ _ _ _ _ rfl (inbL [0, 1, 16, 17, 32, 48, 51, 99] (by simp)) HD4.out.src (by omega) (by omega) (by decide) (by decide)) ?_
      rintro e v1 ⟨y1, rfl, ⟨y1a, y1b⟩, ht, hs⟩
      have E1 := hideP (HD4.out.next ht hs)
      clear ht hs HD4
      obtain ⟨a0, a1, a2, a3, a4, a5, a6⟩ := E1.out.res
      obtain ⟨b0, b1, b2, b3, b4, b5, b6⟩ := E1.out.box
      have hrb := E1.out.lt
      have hrb' : ¬ rb = w.heap.size := by omega
      have hrb'' : ¬ w.heap.size = rb := by omega
      have HT := hideP E1.out.turn
      have HSr := hideP E1.out.src
      have hbl : b < w.heap.size := hlt
      go_wp2
      refine bodyPost_ret (v := .agg #[.int .i64 13, .slice (some ⟨v1.heap.size, 0, none⟩) 1 1, .slice none 0 0]) (by simp [results, Try.results16, go_sem, *]) rfl ⟨13, some ⟨v1.heap.size, 0, none⟩, 1, [y1], none, 0, [], t + 1 + 1 + 1 + 1, rfl, rF_right (by omega) (by omega) (by rfl) (by simp [isB]; omega), (fun i hi => by simp at hi), ?_, by omega, by omega, ?_, ?_, .inl rfl, ?_, OwnR.nil _ _ _ _⟩
      · exact (fin_arg HT.out HSr.out hrb hbl _ _ _ _ _ [y1] rfl (by unfold maxLen; simp)).1
      · exact (fin_arg HT.out HSr.out hrb hbl _ _ _ _ _ [y1] rfl (by unfold maxLen; simp)).2.1
      · exact (fin_arg HT.out HSr.out hrb hbl _ _ _ _ _ [y1] rfl (by unfold maxLen; simp)).2.2.1
      · exact (fin_arg HT.out HSr.out hrb hbl _ _ _ _ _ [y1] rfl (by unfold maxLen; simp)).2.2.2
    | true =>
      go_wp2_with fail
      refine Calls.mono (next_any _ _ _ _ _ _ _ _ 256 HD4.out.src (by omega) (by omega) (by omega) (by omega)) ?_
      rintro e w5 ⟨z, rfl, z0, z1, ht, hs⟩
      have HD5 := hideP (HD4.out.next ht hs)
      clear ht hs HD4 hid
      have hid : 0 ≤ z ∧ z ≤ 255 := by omega
      obtain ⟨c0, c1, c2, c3, c4, c5, c6⟩ := HD5.out.box
      go_wp2_with fail
      clear c0 c1 c2 c3 c4 c5 c6
      refine Calls.mono (pickQ (fun n => 0 ≤ n ∧ n ≤ 255) _ B b a len cap f _ _ _ _ _ rfl (inbL [0, 1, 16, 17, 32, 48, 51, 99] (by simp)) HD5.out.src (by omega) (by omega) (by decide) (by decide)) ?_
      rintro e v1 ⟨y1, rfl, ⟨y1a, y1b⟩, ht, hs⟩
      have E1 := hideP (HD5.out.next ht hs)
      clear ht hs HD5
      obtain ⟨a0, a1, a2, a3, a4, a5, a6⟩ := E1.out.res
      obtain ⟨b0, b1, b2, b3, b4, b5, b6⟩ := E1.out.box
      have hrb := E1.out.lt
      have hrb' : ¬ rb = w.heap.size := by omega
      have hrb'' : ¬ w.heap.size = rb := by omega
      have HT := hideP E1.out.turn
      have HSr := hideP E1.out.src
      have hbl : b < w.heap.size := hlt
      go_wp2
      refine bodyPost_ret (v := .agg #[.int .i64 13, .slice (some ⟨v1.heap.size, 0, none⟩) 1 1, .slice none 0 0]) (by simp [results, Try.results16, go_sem, *]) rfl ⟨13, some ⟨v1.heap.size, 0, none⟩, 1, [y1], none, 0, [], t + 1 + 1 + 1 + 1 + 1, rfl, rF_right (by omega) (by omega) (by rfl) (by simp [isB]; omega), (fun i hi => by simp at hi), ?_, by omega, by omega, ?_, ?_, .inl rfl, ?_, OwnR.nil _ _ _ _⟩
      · exact (fin_arg HT.out HSr.out hrb hbl _ _ _ _ _ [y1] rfl (by unfold maxLen; simp)).1
      · exact (fin_arg HT.out HSr.out hrb hbl _ _ _ _ _ [y1] rfl (by unfold maxLen; simp)).2.1
      · exact (fin_arg HT.out HSr.out hrb hbl _ _ _ _ _ [y1] rfl (by unfold maxLen; simp)).2.2.1
      · exact (fin_arg HT.out HSr.out hrb hbl _ _ _ _ _ [y1] rfl (by unfold maxLen; simp)).2.2.2

end Go.Proofs.Ytgjbjafodkiilaa
