/- Windows held against each other by the laws' own functions. -/
import Derived.Test.YtdigknenijmjcaaRr9
namespace Go.Proofs.Ytdigknenijmjcaa
open Go.RowKit
set_option linter.unusedVariables false

set_option maxHeartbeats 400000 in
theorem eqRect7_same (x y ww hh : Int) (w : World) :
    Calls Try.prog 41 #[.agg #[.int .i64 x, .int .i64 y, .int .i64 ww, .int .i64 hh], .agg #[.int .i64 x, .int .i64 y, .int .i64 ww, .int .i64 hh]] w fun e w' => e = .returned (.bool true) ∧ Below w.heap.size w w' := by
  go_enter Try.func41, Try.ntmps41
  go_wp2
  go_returns
  exact ⟨rfl, by go_grown⟩

set_option maxRecDepth 100000 in
set_option maxHeartbeats 800000 in
theorem eqW_same (lo hi lo2 hi2 : Nat) (i x y p h : Int) (m : Bool) (ao bo : Option Addr) (ca cb : Nat) (D : List Int) (w : World) (ha : Row .i64 w lo hi ao D) (hb : Row .i64 w lo2 hi2 bo D) (h1 : hi ≤ w.heap.size) (h2 : hi2 ≤ w.heap.size) (hl : D.length ≤ 1048576) :
    Calls Try.prog 26 #[.agg #[.int .i64 i, .int .i64 x, .int .i64 y, .int .i64 p, .int .i64 h, .bool m, .slice ao D.length ca], .agg #[.int .i64 i, .int .i64 x, .int .i64 y, .int .i64 p, .int .i64 h, .bool m, .slice bo D.length cb]] w fun e w' => e = .returned (.bool true) ∧ Below w.heap.size w w' := by
  have EQ := hideP (fun w1 (kk : Below w.heap.size w w1) => eqI_same lo hi lo2 hi2 ao bo ca cb D w1 (ha.keep kk h1) (hb.keep kk h2) (by have := kk.size; omega) (by have := kk.size; omega) hl)
  have hii : (i != i) = false := by simp
  have hmm : (m != m) = false := by simp
  clear ha hb
  generalize D.length = n at *
  go_enter Try.func26, Try.ntmps26
  go_wp2_with fail
  refine Calls.mono (eqRect7_same x y p h _) ?_
  rintro e w1 ⟨rfl, k1⟩
  have K1 : Hid (Below w.heap.size w w1) := hideP (Below.trans (by go_grown) (k1.mono (by simp; omega)))
  have X1 : Hid (R7 w1 w.heap.size (.int .i64 i) (.int .i64 x) (.int .i64 y) (.int .i64 p) (.int .i64 h) (.bool m) (.slice ao n ca)) := hideP (R7.keep ⟨by simp, by simp, by simp, by simp, by simp, by simp, by simp, by simp, by simp; omega⟩ k1 (by simp; omega))
  have Y1 : Hid (R7 w1 (w.heap.size + 1) (.int .i64 i) (.int .i64 x) (.int .i64 y) (.int .i64 p) (.int .i64 h) (.bool m) (.slice bo n cb)) := hideP (R7.keep ⟨by simp, by simp, by simp, by simp, by simp, by simp, by simp, by simp, by simp⟩ k1 (by simp))
  clear k1
  obtain ⟨x0, x1, x2, x3, x4, x5, x6, x7, x8⟩ := X1.out
  obtain ⟨y0, y1, y2, y3, y4, y5, y6, y7, y8⟩ := Y1.out
  go_wp2_with fail
  refine Calls.mono (EQ.out w1 K1.out) ?_
  rintro e w2 ⟨rfl, k2⟩
  have K2 : Hid (Below w.heap.size w w2) := hideP (K1.out.trans (k2.mono K1.out.size))
  clear k2
  go_wp2
  go_returns
  exact ⟨rfl, K2.out⟩

theorem ctW_at {X Y : List Wn} {r : Wn} {M : List Wn} (h : M.map Wn.ct = (X ++ r :: Y).map Wn.ct) : ∃ Z W s, M = Z ++ s :: W ∧ Z.length = X.length ∧ s.i = r.i ∧ s.x = r.x ∧ s.y = r.y ∧ s.w = r.w ∧ s.h = r.h ∧ s.m = r.m ∧ s.b.L = r.b.L := by
  have hl : M.length = X.length + Y.length + 1 := by have := congrArg List.length h; simp at this; omega
  have hlt : X.length < M.length := by omega
  have e : M = M.take X.length ++ M[X.length] :: M.drop (X.length + 1) := by simp
  have h2 : (M[X.length]).ct = r.ct := by
    have : (M.map Wn.ct)[X.length]'(by simpa using hlt) = ((X ++ r :: Y).map Wn.ct)[X.length]'(by simp) := by simp only [h]
    simpa using this
  simp only [Wn.ct, Wc.mk.injEq] at h2
  exact ⟨_, _, _, e, by simp; omega, h2⟩

set_option maxRecDepth 100000 in
set_option maxHeartbeats 2000000 in
theorem eqWS_same (lo hi lo2 hi2 : Nat) (so so2 : Option Addr) (sc sc2 : Nat) (L M : List Wn) (w : World) (hE : M.map Wn.ct = L.map Wn.ct) (hL : Ws w lo hi so L) (hM : Ws w lo2 hi2 so2 M) (h1 : hi ≤ w.heap.size) (h2 : hi2 ≤ w.heap.size) (hn : L.length + wzs L ≤ 1048576) :
    Calls Try.prog 12 #[.slice so L.length sc, .slice so2 M.length sc2] w fun e w' => e = .returned (.bool true) ∧ Below w.heap.size w w' := by
  have hlen : M.length = L.length := lenW hE
  rw [hlen]
  have hn' : (L.length : Int) ≤ 1048576 := by omega
  have HE := hideP hE
  have HL := hideP hL
  have HM := hideP hM
  clear hE hL hM hlen
  go_enter Try.func12, Try.ntmps12
  go_wp2
  go_loopw [5] (fun i wr => ∃ X Y : List Wn, X ++ Y = L ∧ i = .int .i64 (X.length : Nat) ∧ Below w.heap.size w wr) (fun i _ => L.length - (intOf i).toNat)
  case atStart => exact ⟨[], L, rfl, rfl, Below.refl _ _⟩
  case round =>
    obtain ⟨X, Y, hXY, rfl, kb⟩ := hrel
    have hlen : X.length + Y.length = L.length := by rw [← hXY]; simp
    have hz := kb.size
    cases Y with
    | cons r Y =>
      have hlt : (X.length : Int) < (L.length : Int) := by simp at hlen; omega
      have hsz : r.b.L.length ≤ wzs L := wzs_mem (v := r) (by rw [← hXY]; simp)
      have h0 := HL.out
      have e0 := HE.out
      rw [← hXY] at h0 e0
      obtain ⟨Z, V, s, hMe, hZ, s0, s1, s2, s3, s4, s5, s6⟩ := ctW_at e0
      have m0 := HM.out
      rw [hMe] at m0
      obtain ⟨g, o, rfl, hg, hc, rD⟩ := Ws.at h0
      obtain ⟨g2, o2, rfl, hg2, hc2, qD⟩ := Ws.at m0
      obtain ⟨a0, a1, a2, a3, a4, a5, a6⟩ := (hc.keep kb (by omega)).seven
      obtain ⟨b0, b1, b2, b3, b4, b5, b6⟩ := (hc2.keep kb (by omega)).seven
      rw [hZ] at b0 b1 b2 b3 b4 b5 b6
      have hgl : g < wr.heap.size := by omega
      have hgl2 : g2 < wr.heap.size := by omega
      have HB := hideP kb
      have HXY := hideP hXY
      obtain ⟨ri, rx, ry, rp, rh, rm, ⟨ao, cap, gb, D⟩⟩ := r
      obtain ⟨si, sx, sy, sp, sh, sm, ⟨ao2, cap2, gb2, D2⟩⟩ := s
      simp only at s0 s1 s2 s3 s4 s5 s6 rD qD a0 a1 a2 a3 a4 a5 a6 b0 b1 b2 b3 b4 b5 b6 hsz
      subst s0 s1 s2 s3 s4 s5 s6
      have EQ := hideP (fun w1 (kk : Kept wr w1) => eqW_same lo hi lo2 hi2 si sx sy sp sh sm ao ao2 cap cap2 D2 w1 (rD.keep (HB.out.trans (Below.mono kk hz)) h1) (qD.keep (HB.out.trans (Below.mono kk hz)) h2) (by have := Below.size kk; omega) (by have := Below.size kk; omega) (by omega))
      clear h0 e0 m0 hc hc2 kb hXY hMe rD qD HL HM HE
      go_wp2
      refine wp_region_kept (by kernel_rfl) (by kernel_rfl) ?_
      repeat (refine kept_step (by rfl) ?_; apply Exists.intro; refine ⟨fun w1 k1 => ?_, fun K hK => ?_⟩; (focus (have hc := Kept.cell k1; go_simp; first | done | rfl | (go_at_call 26; exact kept_call k1 (EQ.out _ k1)))); (go_simp; refine hK _ ?_; clear hK K))
      refine wpQuiet_nil ?_
      intro w6 k6
      replace k6 := Kept.below k6
      have hc6 := Kept.cell k6
      have hf6 := Kept.frozen k6
      have hz6 := k6.size
      try simp only [World.size_alloc] at hz6
      try simp only [World.size_setCell] at hz6
      try simp only [World.size_drew] at hz6
      try (first | have hs6 := sz12 hz6 | have hs6 := sz11 hz6 | have hs6 := sz10 hz6 | have hs6 := sz9 hz6 | have hs6 := sz8 hz6 | have hs6 := sz7 hz6 | have hs6 := sz6 hz6 | have hs6 := sz5 hz6 | have hs6 := sz4 hz6 | have hs6 := sz3 hz6 | have hs6 := sz2 hz6 | have hs6 := sz1 hz6)
      go_wp2
      go_roundw
      case rel => exact ⟨X ++ [⟨si, sx, sy, sp, sh, sm, ⟨ao, cap, gb, D2⟩⟩], Y, midW HXY.out, by simp, HB.out.trans (k6.mono HB.out.size)⟩
      case measure => simp [intOf]; omega
    | nil =>
      have HB := hideP kb
      have hX : X = L := by simpa using hXY
      subst hX
      clear kb hXY
      go_wp2
      go_returns
      exact ⟨rfl, HB.out⟩

/-- Three cells in a box. -/
structure R3 (w : World) (b : Nat) (v0 v1 v2 : Value) : Prop where
  c0 : w.cell? ⟨b, 0, none⟩ = some v0
  c1 : w.cell? ⟨b, 1, none⟩ = some v1
  c2 : w.cell? ⟨b, 2, none⟩ = some v2
  fr : ∀ c, w.frozen? ⟨b, c, none⟩ = false
  lt : b < w.heap.size
theorem R3.keep {w w' : World} {b B : Nat} {v0 v1 v2 : Value} (h : R3 w b v0 v1 v2) (k : Below B w w') (hb : b < B) : R3 w' b v0 v1 v2 :=
  ⟨(k.cell (p := ⟨b, 0, none⟩) hb).trans h.c0, (k.cell (p := ⟨b, 1, none⟩) hb).trans h.c1, (k.cell (p := ⟨b, 2, none⟩) hb).trans h.c2, fun c => (k.frozen (p := ⟨b, c, none⟩) hb).trans (h.fr c), Nat.lt_of_lt_of_le h.lt k.size⟩
theorem R3.far {w w' : World} {b lo hi : Nat} {v0 v1 v2 : Value} (h : R3 w b v0 v1 v2) (f : Far lo hi w w') (hd : b < lo ∨ hi ≤ b) : R3 w' b v0 v1 v2 :=
  ⟨(f.cell b 0 h.lt hd).trans h.c0, (f.cell b 1 h.lt hd).trans h.c1, (f.cell b 2 h.lt hd).trans h.c2, fun c => (f.frozen b c h.lt hd).trans (h.fr c), Nat.lt_of_lt_of_le h.lt f.size⟩
theorem r3_new (w : World) (v0 v1 v2 : Value) (T : TypeId) : R3 (w.alloc (.cells #[v0, v1, v2] T)) w.heap.size v0 v1 v2 := ⟨by simp, by simp, by simp, by simp, by simp⟩

end Go.Proofs.Ytdigknenijmjcaa
