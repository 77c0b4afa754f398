/- FnScreens: labels that are drawn. -/
import Derived.Test.YtmmjannkfmiohaaTs3
import Derived.Test.YtmmjannkfmiohaaTs4
import Derived.Test.YtmmjannkfmiohaaTs29
namespace Go.Proofs.Ytmmjannkfmiohaa
open Go.RowKit
set_option linter.unusedVariables false

theorem Turn.grownByS {b : Nat} {w w' : World} (t : Turn b w w') : w.grownBy w' (some b) := ⟨t.os, t.tape, t.output, t.size, fun k hk hne => t.block k hk (fun e => hne (by rw [e]))⟩
theorem Turn.ofGrownS {b B : Nat} {w w' : World} {row : Option Nat} (hg : w.grownBy w' row) (hB : ∀ k, row = some k → B ≤ k) (w0 : World) (h0 : Turn b w0 w) (hw : w0.heap.size ≤ B) : Turn b w0 w' :=
  ⟨hg.os.trans h0.os, hg.tape.trans h0.tape, hg.output.trans h0.output, Nat.le_trans h0.size hg.size, fun k hk hb => (hg.block k (Nat.lt_of_lt_of_le hk h0.size) (fun e => by have := hB k e.symm; omega)).trans (h0.block k hk hb)⟩
theorem Src.grownS {w w' : World} {B b : Nat} {a : Option Addr} {len cap : Nat} {f : Nat → Int} {t : Int} {row : Option Nat} (h : Src w B b a len cap f t) (hg : w.grownBy w' row) (hr : ∀ k, row = some k → b < k) : Src w' B b a len cap f t := by
  cases row with
  | none => exact h.grow ⟨hg.os, hg.tape, hg.output, hg.size, fun i hi => hg.block i hi (by simp)⟩
  | some k =>
    have hk := hr k rfl
    exact h.turn (c := k) ⟨hg.os, hg.tape, hg.output, hg.size, fun i hi hb => hg.block i hi (by simpa using hb)⟩ (by have := h.le; omega) (by omega)
theorem OwnL.turn {w w' : World} {B b : Nat} {ao : Option Addr} {cap : Nat} {L : List La} (h : OwnL w B ao cap L) (t : Turn b w w') (hb : b < B) : OwnL w' B ao cap L :=
  World.ownsRow.kept h t.grownByS (by
    cases e : Value.ownBlock (.slice ao L.length cap) with
    | none => exact .inl rfl
    | some g => right; have := (World.ownsRow.lt h g e).1; intro h'; simp at h'; omega)
theorem ownL_form {w : World} {base : Nat} {v : Value} {L : List La} (h : w.ownsRow base 34 2 v L.length (las L)) : ∃ ao cap, v = .slice ao L.length cap ∧ OwnL w base ao cap L := by
  have h' := h
  rcases h.2 with ⟨rfl, h0⟩ | ⟨g, cap, cur, rfl, _⟩
  · exact ⟨none, 0, by rw [h0], by unfold OwnL; rw [h0]; rw [h0] at h'; exact h'⟩
  · exact ⟨_, cap, rfl, h'⟩
theorem ownL_new (W : World) (n : Nat) (h : n = W.heap.size) : OwnL (W.alloc (.cells #[] 34)) n (some ⟨n, 0, none⟩) 0 [] := by
  subst h
  exact World.ownsRow_lit W #[] 0 (Nat.le_refl _) (by unfold maxLen; omega) rfl
theorem Las.far {w w' : World} {lo hi lo' hi' : Nat} {ao : Option Addr} {L : List La} (h : Las w lo hi ao L) (f : Far lo' hi' w w') (hd : hi ≤ lo' ∨ hi' ≤ lo) (hs : hi ≤ w.heap.size) : Las w' lo hi ao L := by
  rcases h with h | ⟨g, o, ha, h1, h2, hc⟩
  · exact .inl h
  · have hg : g < w.heap.size := by omega
    have hq : g < lo' ∨ hi' ≤ g := by omega
    exact .inr ⟨g, o, ha, h1, h2, fun i hi => ⟨(f.cell g _ hg hq).trans (hc i hi).c0, (f.cell g _ hg hq).trans (hc i hi).c1⟩⟩
theorem len4 {L : List La} (h : L.length = 4) : ∃ r0 r1 r2 r3, L = [r0, r1, r2, r3] := by
  match L, h with
  | [r0, r1, r2, r3], _ => exact ⟨r0, r1, r2, r3, rfl⟩
/-- Four labels of one's own, by their cells. -/
structure Own4 (w : World) (base g cap : Nat) (r0 r1 r2 r3 : La) : Prop where
  a0 : w.cell? ⟨g, 0, none⟩ = some (.int .i64 r0.l)
  b0 : w.cell? ⟨g, 1, none⟩ = some (.int .i64 r0.p)
  a1 : w.cell? ⟨g, 2, none⟩ = some (.int .i64 r1.l)
  b1 : w.cell? ⟨g, 3, none⟩ = some (.int .i64 r1.p)
  a2 : w.cell? ⟨g, 4, none⟩ = some (.int .i64 r2.l)
  b2 : w.cell? ⟨g, 5, none⟩ = some (.int .i64 r2.p)
  a3 : w.cell? ⟨g, 6, none⟩ = some (.int .i64 r3.l)
  b3 : w.cell? ⟨g, 7, none⟩ = some (.int .i64 r3.p)
  fr : ∀ c, w.frozen? ⟨g, c, none⟩ = false
  lo : base ≤ g
  lt : g < w.heap.size
  room : 4 ≤ cap
theorem own4_of {w : World} {base : Nat} {ao : Option Addr} {cap : Nat} {r0 r1 r2 r3 : La} (h : OwnL w base ao cap [r0, r1, r2, r3]) : ∃ g, ao = some ⟨g, 0, none⟩ ∧ Own4 w base g cap r0 r1 r2 r3 := by
  have hroom : 4 ≤ cap := by
    rcases h.2 with ⟨hx, h0⟩ | ⟨g', cap', cur, hv, _, _, hnc, _⟩
    · injection hx with _ h1 h2; simp at h1
    · cases hv; exact hnc
  obtain ⟨g, cap', hv, hb, hlt⟩ := World.ownsRow.form h (by simp)
  cases hv
  have c : ∀ j, j < 8 → w.cell? ⟨g, j, none⟩ = (las [r0, r1, r2, r3])[j]? := fun j hj => World.ownsRow.cellAt h j (by simpa using hj)
  exact ⟨g, rfl, c 0 (by omega), c 1 (by omega), c 2 (by omega), c 3 (by omega), c 4 (by omega), c 5 (by omega), c 6 (by omega), c 7 (by omega), fun c => World.ownsRow.frozenAt h c, hb, hlt, hroom⟩
theorem Own4.las {w : World} {base g cap : Nat} {r0 r1 r2 r3 : La} (h : Own4 w base g cap r0 r1 r2 r3) : Las w base w.heap.size (some ⟨g, 0, none⟩) [r0, r1, r2, r3] := by
  refine .inr ⟨g, 0, rfl, h.lo, h.lt, fun i hi => ?_⟩
  have : i = 0 ∨ i = 1 ∨ i = 2 ∨ i = 3 := by simp at hi; omega
  rcases this with rfl | rfl | rfl | rfl
  · exact ⟨h.a0, h.b0⟩
  · exact ⟨h.a1, h.b1⟩
  · exact ⟨h.a2, h.b2⟩
  · exact ⟨h.a3, h.b3⟩
theorem Own4.tail {w : World} {base g cap : Nat} {r0 r1 r2 r3 : La} (h : Own4 w base g cap r0 r1 r2 r3) : Las w base w.heap.size (some ⟨g, 2, none⟩) [r1, r2, r3] := by
  refine .inr ⟨g, 2, rfl, h.lo, h.lt, fun i hi => ?_⟩
  have : i = 0 ∨ i = 1 ∨ i = 2 := by simp at hi; omega
  rcases this with rfl | rfl | rfl
  · exact ⟨h.a1, h.b1⟩
  · exact ⟨h.a2, h.b2⟩
  · exact ⟨h.a3, h.b3⟩
theorem Own4.set1 {w : World} {base g cap : Nat} {r0 r1 r2 r3 : La} (h : Own4 w base g cap r0 r1 r2 r3) (l p : Int) : Own4 ((w.setCell ⟨g, 2, none⟩ (.int .i64 l)).setCell ⟨g, 3, none⟩ (.int .i64 p)) base g cap r0 ⟨l, p⟩ r2 r3 := by
  obtain ⟨a0, b0, a1, b1, a2, b2, a3, b3, fr, lo, lt, rm⟩ := h
  refine ⟨?_, ?_, ?_, ?_, ?_, ?_, ?_, ?_, fun c => by simpa using fr c, lo, by simpa using lt, rm⟩ <;> simp [go_sem, *]

theorem Try.infoLs : (Try.prog.info? 34).map (fun i => (i.zero, i.size, i.bytes)) = some (some (.agg #[.int .i64 0, .int .i64 0]), 2, 16) := by kernel_rfl
theorem elemLa : Try.prog.elem 25 = 34 := by kernel_rfl
theorem Try.sizeLa (w : World) : (sizeOf 34).run Try.prog w = .ok 2 w := by
  obtain ⟨i0, hi0, hz0, hz1, hz2⟩ := info_parts Try.infoLs
  simp [sizeOf, typeInfo, hi0, hz1]
set_option maxRecDepth 100000 in
theorem sl1L (g len cap : Nat) (kl : IntKind) (h1 : 1 ≤ len) (hc : 4 ≤ cap) (w : World) :
    (Instr.slice 25 (.slice (some ⟨g, 0, none⟩) len cap) (some (.int kl 1)) none none).run Try.prog w = .ok (.slice (some ⟨g, 2, none⟩) (len - 1) (cap - 1)) w := by
  rw [run_slice_l w 25 _ len cap Try.underlying25 kl 1 (by omega) (by omega), elemLa, Try.sizeLa]
  simp only [Result.andThen_ok]
  unfold sliced
  have h : ¬ cap = 1 := by omega
  simp [h, add_none]
attribute [local go_sem high] sl1L

/-- Between two rounds: the list so far, the source. -/
structure LbMid (w wr : World) (B b : Nat) (a : Option Addr) (len cap : Nat) (f : Nat → Int) (t' : Int) (ao : Option Addr) (ca : Nat) (L : List La) : Prop where
  own : OwnL wr w.heap.size ao ca L
  turn : Turn b w wr
  src : Src wr B b a len cap f t'
theorem LbMid.next {w wr w1 : World} {B b : Nat} {a : Option Addr} {len cap : Nat} {f : Nat → Int} {t' t1 : Int} {ao : Option Addr} {ca : Nat} {L : List La} (h : LbMid w wr B b a len cap f t' ao ca L) (hb : b < w.heap.size) (t : Turn b wr w1) (s : Src w1 B b a len cap f t1) : LbMid w w1 B b a len cap f t1 ao ca L :=
  ⟨h.own.turn t hb, h.turn.trans t, s⟩
theorem LbMid.app {w w1 w2 : World} {B b : Nat} {a : Option Addr} {len cap : Nat} {f : Nat → Int} {t' : Int} {ao : Option Addr} {ca : Nat} {L : List La} {r : La} {o : Obj} {v2 : Value} (h : LbMid w w1 B b a len cap f t' ao ca L) (hb : b < w.heap.size)
    (ho : w2.ownsRow w.heap.size 34 2 v2 (L.length + 1) (las L ++ [.int .i64 r.l, .int .i64 r.p])) (hg : (w1.alloc o).grownBy w2 (Value.ownBlock (.slice ao L.length ca))) :
    ∃ ao' ca', v2 = .slice ao' (L ++ [r]).length ca' ∧ LbMid w w2 B b a len cap f t' ao' ca' (L ++ [r]) := by
  have hlt : ∀ k, Value.ownBlock (.slice ao L.length ca) = some k → w.heap.size ≤ k ∧ k < w1.heap.size := fun k hk => World.ownsRow.lt h.own k hk
  have e : w2.ownsRow w.heap.size 34 2 v2 (L ++ [r]).length (las (L ++ [r])) := by
    rw [las_app, List.length_append]; exact ho
  obtain ⟨ao', ca', rfl, O⟩ := ownL_form e
  refine ⟨ao', ca', rfl, O, ?_, ?_⟩
  · have t1 : Turn b w (w1.alloc o) := h.turn.alloc o
    exact Turn.ofGrownS (B := w.heap.size) hg (fun k hk => (hlt k hk).1) w t1 (Nat.le_refl _)
  · exact Src.grownS (h.src.grow (by go_grown)) hg (fun k hk => by have := hlt k hk; omega)

/-- Labels were drawn. -/
def LabD (w : World) (B b : Nat) (a : Option Addr) (len cap : Nat) (f : Nat → Int) (t : Int) (e : Ending) (w' : World) : Prop :=
  ∃ (ao : Option Addr) (ca : Nat) (LL : List La) (u : Int), e = .returned (.slice ao LL.length ca) ∧ LL.length ≤ 4 ∧ 0 ≤ u ∧ u ≤ t + 40 ∧ Las w' w.heap.size w'.heap.size ao LL ∧ Turn b w w' ∧ Src w' B b a len cap f u

set_option maxRecDepth 100000 in
set_option maxHeartbeats 4000000 in
theorem labs_any (w : World) (B b : Nat) (a : Option Addr) (len cap : Nat) (f : Nat → Int) (t : Int) (S : Src w B b a len cap f t) (t0 : 0 ≤ t) (t1 : t ≤ 40000) :
    Calls Try.prog 20 #[.pointer (some ⟨b, 0, none⟩)] w (LabD w B b a len cap f t) := by
  have hlt := S.lt
  obtain ⟨i0, hi0, hz0, hz1, hz2⟩ := info_parts Try.infoLs
  have M0 : Hid (LbMid w (w.alloc (.cells #[] 34)) B b a len cap f t (some ⟨w.heap.size, 0, none⟩) 0 []) := ⟨ownL_new w _ rfl, Turn.of_below (by go_grown), S.grow (by go_grown)⟩
  clear S
  go_enter Try.func20, Try.ntmps20
  go_wp2
  go_loopw [3, 4] (fun v i wr => ∃ (k : Nat) (ao : Option Addr) (ca : Nat) (L : List La) (t' : Int), i = .int .i64 k ∧ v = .slice ao L.length ca ∧ L.length = k ∧ k ≤ 4 ∧ 0 ≤ t' ∧ t' ≤ t + 2 * k ∧ LbMid w wr B b a len cap f t' ao ca L) (fun _ i _ => 4 - (intOf i).toNat)
  case atStart => exact ⟨0, some ⟨w.heap.size, 0, none⟩, 0, [], t, rfl, rfl, rfl, by omega, by omega, by simp, M0.out⟩
  case round =>
    obtain ⟨k, ao, ca, L, t', rfl, rfl, hLk, hk4, h0, h1, M⟩ := hrel
    have HM := hideP M
    clear M M0
    by_cases hk : k < 4
    · have hk' : (k : Int) < 4 := by omega
      have hl4 : L.length ≤ 3 := by omega
      have HLk := hideP hLk
      clear hLk
      go_wp2_with fail
      refine Calls.mono (draw_any _ B b a len cap f t' HM.out.src (by omega) (by omega)) ?_
      rintro e w3 ⟨l, p, rfl, ht3, hs3⟩
      have M3 := hideP (HM.out.next hlt ht3 hs3)
      have hw3 : w.heap.size ≤ w3.heap.size := M3.out.turn.size
      clear HM ht3 hs3
      go_wp2_with (first | (at_builtin; refine wpList_append_own _ rfl _ _ 25 rfl w.heap.size 34 i0 (.agg #[.int .i64 0, .int .i64 0]) 2 16 Try.underlying25 hi0 hz0 hz1 hz2 rfl (by decide) _ _ _ rfl (M3.out.own.alloc _) ⟨w3.heap.size, 0, none⟩ 1 1 [.int .i64 l, .int .i64 p] rfl rfl (World.news_of_block (heap_alloc_new w3 _)) (by intro u hu; simp at hu; rcases hu with rfl | rfl <;> rfl) (by unfold maxLen; omega) (by omega) (by simp; omega) ?_; intro v4 w4 hown4 hgrow4 _) | go_in)
      have R := hideP (M3.out.app (r := ⟨l, p⟩) hlt hown4 hgrow4)
      clear hown4 hgrow4 M3
      obtain ⟨ao', ca', rfl, M4⟩ := R.out
      have HM4 := hideP M4
      clear M4 R
      go_wp2
      go_roundw
      case rel => exact ⟨k + 1, ao', ca', L ++ [⟨l, p⟩], t' + 1 + 1, by go_num, rfl, by simp [HLk.out], by omega, by omega, by omega, HM4.out⟩
      case measure => simp [intOf]; omega
    · obtain rfl : k = 4 := by omega
      obtain ⟨r0, r1, r2, r3, rfl⟩ := len4 hLk
      simp only [List.length_cons, List.length_nil]
      go_wp2_with fail
      refine Calls.mono (next_any _ B b a len cap f t' 12 HM.out.src (by omega) (by omega) (by omega) (by omega)) ?_
      rintro e w2 ⟨m, rfl, m0, m1, ht2, hs2⟩
      have M2 := hideP (HM.out.next hlt ht2 hs2)
      clear HM ht2 hs2
      by_cases e0 : m = 0
      · subst e0
        go_wp2_with fail
        refine Calls.mono (bent_any _ B b a len cap f (t' + 1) M2.out.src (by omega) (by omega)) ?_
        rintro e w3 ⟨l, p, t3, rfl, ht3, a3, b3, hs3⟩
        have M3 := hideP (M2.out.next hlt ht3 hs3)
        clear M2 ht3 hs3
        obtain ⟨g, hg, O⟩ := own4_of M3.out.own
        have HO := hideP O
        have HS := hideP ((O.set1 l p).las)
        have HT := hideP ((M3.out.turn.setCell (p := ⟨g, 2, none⟩) (by have := O.lo; exact this) (.int .i64 l)).setCell (p := ⟨g, 3, none⟩) (by have := O.lo; exact this) (.int .i64 p))
        have HC := hideP ((M3.out.src.store ⟨g, 2, none⟩ (.int .i64 l) (by have := O.lo; show b < g; omega)).store ⟨g, 3, none⟩ (.int .i64 p) (by have := O.lo; show b < g; omega))
        subst hg
        clear O M3
        obtain ⟨c0, d0, c1, d1, c2, d2, c3, d3, fr, lo, lt, rm⟩ := HO.out
        go_wp2
        go_returns
        exact ⟨some ⟨g, 0, none⟩, ca, [r0, ⟨l, p⟩, r2, r3], t3, rfl, by simp, by omega, by omega, by simpa using HS.out, HT.out, HC.out⟩
      · have q0 : (m == 0) = false := by simpa using e0
        by_cases e1 : m = 1
        · subst e1
          obtain ⟨g, hg, O⟩ := own4_of M2.out.own
          have HS := hideP O.tail
          have hrm : 4 ≤ ca := O.room
          subst hg
          clear O
          go_wp2
          go_returns
          exact ⟨some ⟨g, 2, none⟩, ca - 1, [r1, r2, r3], t' + 1, rfl, by simp, by omega, by omega, HS.out, M2.out.turn, M2.out.src⟩
        · have q1 : (m == 1) = false := by simpa using e1
          go_wp2
          go_returns
          exact ⟨ao, ca, [r0, r1, r2, r3], t' + 1, rfl, by simp, by omega, by omega, M2.out.own.las, M2.out.turn, M2.out.src⟩

set_option maxRecDepth 100000 in
set_option maxHeartbeats 2000000 in
theorem drawLabs_any (w : World) (a : Option Addr) (len cap : Nat) (f : Nat → Int) (hB : Bytes w w.heap.size a len f) (hl : len ≤ 1048576) :
    Calls Try.prog 7 #[.slice a len cap] w fun e w' => ∃ (ao : Option Addr) (ca : Nat) (LL : List La), e = .returned (.slice ao LL.length ca) ∧ LL.length ≤ 4 ∧ Below w.heap.size w w' ∧ Las w' 0 w'.heap.size ao LL := by
  have S0 : Hid (Src (w.alloc (.cells #[.slice a len cap, .int .i64 0] 83)) w.heap.size w.heap.size a len cap f 0) := hideP
    ⟨by simp, Nat.le_refl _, by simp [go_sem], by simp [go_sem], by simp [go_sem], hB.stay (Nat.le_refl _) (Turn.of_below (b := w.heap.size) ((Below.refl _ _).alloc (Nat.le_refl _) _)) (Nat.le_refl _), hl⟩
  clear hB
  go_enter Try.func7, Try.ntmps7
  go_wp2_with (first | (go_at_call 18; go_in))
  refine Calls.mono (labs_any _ _ _ a len cap f 0 S0.out (by omega) (by omega)) ?_
  rintro e w1 ⟨ao, ca, LL, u, rfl, hL, -, -, hA, ht, -⟩
  have K := hideP (Turn.below ((Below.refl w.heap.size w).alloc (Nat.le_refl _) (.cells #[.slice a len cap, .int .i64 0] 83)) (Nat.le_refl _) (by simp) ht)
  have P := hideP (hA.wide (lo' := 0) (Nat.zero_le _) (Nat.le_refl _))
  clear ht hA S0
  go_wp2
  go_returns
  exact ⟨ao, ca, LL, rfl, hL, K.out, P.out⟩

set_option maxRecDepth 100000 in
set_option maxHeartbeats 2000000 in
theorem drawBan_any (w : World) (a : Option Addr) (len cap : Nat) (f : Nat → Int) (hB : Bytes w w.heap.size a len f) (hl : len ≤ 1048576) :
    Calls Try.prog 8 #[.slice a len cap] w fun e w' => ∃ l p : Int, e = .returned (.agg #[.int .i64 l, .int .i64 p]) ∧ Below w.heap.size w w' := by
  have ka := (Below.refl w.heap.size w).alloc (Nat.le_refl _) (.cells #[.int .i64 0, .int .i64 0] 34)
  have hB' : Bytes (w.alloc (.cells #[.int .i64 0, .int .i64 0] 34)) w.heap.size a len f := hB.stay (Nat.le_refl _) (Turn.of_below (b := w.heap.size) ka) (Nat.le_refl _)
  have kb := ka.alloc (by simp) (.cells #[.slice a len cap, .int .i64 0] 83)
  have S0 : Hid (Src ((w.alloc (.cells #[.int .i64 0, .int .i64 0] 34)).alloc (.cells #[.slice a len cap, .int .i64 0] 83)) w.heap.size (w.heap.size + 1) a len cap f 0) := hideP
    ⟨by simp, Nat.le_succ _, by simp [go_sem], by simp [go_sem], by simp [go_sem], hB.stay (Nat.le_refl _) (Turn.of_below (b := w.heap.size) kb) (Nat.le_refl _), hl⟩
  have KA := hideP kb
  clear hB hB' ka kb
  go_enter Try.func8, Try.ntmps8
  go_wp2_with (first | (go_at_call 18; go_in))
  refine Calls.mono (bent_any _ _ _ a len cap f 0 S0.out (by omega) (by omega)) ?_
  rintro e w1 ⟨l, p, u, rfl, ht, -, -, -⟩
  have K := hideP (Turn.below KA.out (Nat.le_succ _) (by simp only [World.size_alloc]; omega) ht)
  have q0 : w1.cell? ⟨w.heap.size, 0, none⟩ = some (.int .i64 0) := (ht.cell _ 0 (by simp; omega) (by omega)).trans (by simp [go_sem])
  have q1 : w1.cell? ⟨w.heap.size, 1, none⟩ = some (.int .i64 0) := (ht.cell _ 1 (by simp; omega) (by omega)).trans (by simp [go_sem])
  have qf0 : w1.frozen? ⟨w.heap.size, 0, none⟩ = false := (ht.frozen _ 0 (by simp; omega) (by omega)).trans (by simp [go_sem])
  have qf1 : w1.frozen? ⟨w.heap.size, 1, none⟩ = false := (ht.frozen _ 1 (by simp; omega) (by omega)).trans (by simp [go_sem])
  clear ht S0 KA
  go_wp2
  exact bodyPost_ret (v := .agg #[.int .i64 l, .int .i64 p]) (by simp [results, Try.results8, go_sem, q0, q1]) rfl ⟨l, p, rfl, (K.out.setCell (p := ⟨w.heap.size, 0, none⟩) (Nat.le_refl _) _).setCell (p := ⟨w.heap.size, 1, none⟩) (Nat.le_refl _) _⟩
end Go.Proofs.Ytmmjannkfmiohaa
