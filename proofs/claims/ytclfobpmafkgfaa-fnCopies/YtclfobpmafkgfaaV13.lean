/- A window filled: the cells one by one, by the specification and by the program. -/
import Derived.Test.YtclfobpmafkgfaaV10
import Derived.Test.YtclfobpmafkgfaaV11
import Derived.Test.YtclfobpmafkgfaaV12
namespace Go.Proofs.Ytclfobpmafkgfaa
open Go.RowKit Go.Maps
set_option linter.unusedVariables false

theorem Wrt.one {k : IntKind} {w : World} {lo hi g o : Nat} {L : List Int} (h : Wrt k w lo hi (some ⟨g, o, none⟩) L) {n : Nat} (hn : n < L.length) (v : Int) : Wrt k (w.setCell ⟨g, o + n, none⟩ (.int k v)) lo hi (some ⟨g, o, none⟩) (L.set n v) := by
  rcases h with e | ⟨g', o', ha, h1, h2, hc, hf⟩
  · rw [e] at hn; simp at hn
  · cases ha
    refine .inr ⟨g, o, rfl, h1, h2, fun i hi => ?_, fun c => by simpa using hf c⟩
    have hi' : i < L.length := by simpa using hi
    rw [List.getElem_set]
    by_cases e : n = i
    · subst e
      rw [if_pos rfl]
      exact cell_set_same (hc n hn)
    · rw [if_neg e, cell_set_other (by omega)]
      exact hc i hi'
theorem Wrt.cells {k : IntKind} {w : World} {lo hi g o : Nat} {L : List Int} (h : Wrt k w lo hi (some ⟨g, o, none⟩) L) {n : Nat} (hn : n < L.length) : lo ≤ g ∧ g < hi ∧ w.cell? ⟨g, o + n, none⟩ = some (.int k L[n]) ∧ ∀ c, w.frozen? ⟨g, c, none⟩ = false := by
  rcases h with e | ⟨g', o', ha, h1, h2, hc, hf⟩
  · rw [e] at hn; simp at hn
  · cases ha
    exact ⟨h1, h2, hc n hn, hf⟩

/-- Points of a rectangle that come ahead of x, y. -/
def fpB (rx ry rp rh x y a b : Int) : Bool := inB rx ry rp rh a b && ahB x y a b
section
variable {rx ry rp rh x y a b p h : Int}
theorem fp_start : fpB rx ry rp rh rx ry a b = false := by unfold fpB inB ahB; rw [Bool.eq_false_iff]; simp only [ne_eq, Bool.and_eq_true, decide_eq_true_eq]; omega
theorem fp_zero (ha : 0 ≤ a) (hb : 0 ≤ b) : fpB rx ry rp rh 0 0 a b = false := by unfold fpB ahB; rw [Bool.eq_false_iff]; simp only [ne_eq, Bool.and_eq_true, decide_eq_true_eq]; omega
theorem fp_next (hn : ¬ (a = x ∧ b = y)) : fpB rx ry rp rh x y a b = fpB rx ry rp rh (x + 1) y a b := by unfold fpB ahB; rw [Bool.eq_iff_iff]; simp only [Bool.and_eq_true, decide_eq_true_eq]; constructor <;> rintro ⟨h1, h2⟩ <;> exact ⟨h1, by omega⟩
theorem fp_self (hi : inB rx ry rp rh x y = true) : fpB rx ry rp rh (x + 1) y x y = true := by unfold fpB ahB; rw [hi]; simp; omega
theorem fp_skip (hi : inB rx ry rp rh x y = false) : fpB rx ry rp rh x y a b = fpB rx ry rp rh (x + 1) y a b := by
  by_cases e : a = x ∧ b = y
  · rw [e.1, e.2]; unfold fpB; rw [hi]; rfl
  · exact fp_next e
theorem fp_row : fpB rx ry rp rh (rx + rp) y a b = fpB rx ry rp rh rx (y + 1) a b := by unfold fpB inB ahB; rw [Bool.eq_iff_iff]; simp only [Bool.and_eq_true, decide_eq_true_eq]; constructor <;> rintro ⟨h1, h2⟩ <;> exact ⟨h1, by omega⟩
theorem fp_row2 (h1 : 0 ≤ a) (h2 : a < p) : fpB rx ry rp rh p y a b = fpB rx ry rp rh 0 (y + 1) a b := by unfold fpB ahB; rw [Bool.eq_iff_iff]; simp only [Bool.and_eq_true, decide_eq_true_eq]; constructor <;> rintro ⟨h1, h2⟩ <;> exact ⟨h1, by omega⟩
theorem fp_end : fpB rx ry rp rh rx (ry + rh) a b = inB rx ry rp rh a b := by
  unfold fpB inB ahB; rw [Bool.eq_iff_iff]; simp only [Bool.and_eq_true, decide_eq_true_eq]
  exact ⟨fun h => h.1, fun h => ⟨h, by omega⟩⟩
theorem fp_end2 (h1 : b < h) : fpB rx ry rp rh 0 h a b = inB rx ry rp rh a b := by
  unfold fpB ahB; rw [Bool.eq_iff_iff]; simp only [Bool.and_eq_true, decide_eq_true_eq]
  exact ⟨fun h => h.1, fun h => ⟨h, .inl h1⟩⟩
end
/-- The cells, those painted that come ahead of x, y. -/
def fpL (p rx ry rp rh col : Int) (D : List Int) (x y : Int) : List Int := pntL p (fpB rx ry rp rh x y) (fun _ _ => col) D
def fillL (p rx ry rp rh col : Int) (D : List Int) : List Int := pntL p (inB rx ry rp rh) (fun _ _ => col) D
section
variable {p h rx ry rp rh col x y : Int} {D : List Int}
theorem fpL_len : (fpL p rx ry rp rh col D x y).length = D.length := pntL_len
theorem fpL_start : fpL p rx ry rp rh col D rx ry = D := pntL_none fun _ _ => fp_start
theorem fpL_zero (hp : 0 < p) (hC : (D.length : Int) ≤ h * p) : fpL p rx ry rp rh col D 0 0 = D :=
  (pntL_congr (P' := fun _ _ => false) hp hC fun a b h1 _ h2 _ => fp_zero h1 h2).trans (pntL_none fun _ _ => rfl)
theorem fpL_set (hx : 0 ≤ x) (hxp : x < p) (hC : (D.length : Int) ≤ h * p) (hi : inB rx ry rp rh x y = true) {n : Nat} (hn : (n : Int) = y * p + x) : (fpL p rx ry rp rh col D x y).set n col = fpL p rx ry rp rh col D (x + 1) y :=
  pntL_set (f := fun _ _ => col) hx hxp hC (fp_self hi) (fun a b _ _ _ _ hne => fp_next hne) hn
theorem fpL_skip (hp : 0 < p) (hC : (D.length : Int) ≤ h * p) (hi : inB rx ry rp rh x y = false ∨ ownB p h x y = false) : fpL p rx ry rp rh col D x y = fpL p rx ry rp rh col D (x + 1) y :=
  pntL_congr hp hC fun a b h1 h2 h3 h4 => by
    rcases hi with hi | hi
    · exact fp_skip hi
    · exact fp_next fun e => ownB_no hi (by omega)
theorem fpL_row : fpL p rx ry rp rh col D (rx + rp) y = fpL p rx ry rp rh col D rx (y + 1) := by
  unfold fpL
  rw [show fpB rx ry rp rh (rx + rp) y = fpB rx ry rp rh rx (y + 1) from funext fun a => funext fun b => fp_row]
theorem fpL_row2 (hp : 0 < p) (hC : (D.length : Int) ≤ h * p) : fpL p rx ry rp rh col D p y = fpL p rx ry rp rh col D 0 (y + 1) := pntL_congr hp hC fun a b h1 h2 _ _ => fp_row2 h1 h2
theorem fpL_end : fpL p rx ry rp rh col D rx (ry + rh) = fillL p rx ry rp rh col D := by
  unfold fpL fillL
  rw [show fpB rx ry rp rh rx (ry + rh) = inB rx ry rp rh from funext fun a => funext fun b => fp_end]
theorem fpL_end2 (hp : 0 < p) (hC : (D.length : Int) ≤ h * p) : fpL p rx ry rp rh col D 0 h = fillL p rx ry rp rh col D := pntL_congr hp hC fun a b _ _ _ h4 => fp_end2 h4
end

/-- While cells are painted: nothing else of what was has turned. -/
structure PS (w wr : World) (bg : Nat) (L : List Int) : Prop where
  far : Far bg (bg + 1) w wr
  wrt : Wrt .i64 wr bg (bg + 1) (some ⟨bg, 0, none⟩) L
section
variable {w wr w' : World} {bg g o : Nat} {L : List Int}
theorem PS.keep (h : PS w wr bg L) (k : Below wr.heap.size wr w') (hb : bg < w.heap.size) : PS w w' bg L :=
  ⟨h.far.trans (Far.of_below k), h.wrt.keep k (by have := h.far.size; omega)⟩
theorem PS.cell (h : PS w wr bg L) {u : Value} (hc : w.cell? ⟨g, o, none⟩ = some u) (hn : g ≠ bg) : wr.cell? ⟨g, o, none⟩ = some u ∧ g < wr.heap.size :=
  have hg : g < w.heap.size := World.block_lt_of_cell? w _ hc
  ⟨(h.far.cell g o hg (by omega)).trans hc, Nat.lt_of_lt_of_le hg h.far.size⟩
theorem PS.one (h : PS w wr bg L) {n : Nat} (hn : n < L.length) (v : Int) : PS w (wr.setCell ⟨bg, 0 + n, none⟩ (.int .i64 v)) bg (L.set n v) :=
  ⟨h.far.setCell (p := ⟨bg, 0 + n, none⟩) (Nat.le_refl _) (Nat.lt_succ_self _) _, h.wrt.one hn v⟩
theorem PS.rect (h : PS w wr bg L) {b : Nat} {x y p q : Int} (R : IsRect w b 0 x y p q) (hn : b ≠ bg) : wr.cell? ⟨b, 0, none⟩ = some (.int .i64 x) ∧ wr.cell? ⟨b, 1, none⟩ = some (.int .i64 y) ∧ wr.cell? ⟨b, 2, none⟩ = some (.int .i64 p) ∧ wr.cell? ⟨b, 3, none⟩ = some (.int .i64 q) :=
  ⟨(h.cell R.1 hn).1, by simpa using (h.cell R.2 hn).1, by simpa using (h.cell R.3 hn).1, by simpa using (h.cell R.4 hn).1⟩
end
/-- What the specification's painter reads. -/
structure Pin (w : World) (g o b bg ca : Nat) (p h rx ry rp rh : Int) (n : Nat) : Prop where
  a3 : w.cell? ⟨g, o + 3, none⟩ = some (.int .i64 p)
  a4 : w.cell? ⟨g, o + 4, none⟩ = some (.int .i64 h)
  a6 : w.cell? ⟨g, o + 6, none⟩ = some (.slice (some ⟨bg, 0, none⟩) n ca)
  R : IsRect w b 0 rx ry rp rh
  n1 : g ≠ bg
  n2 : b ≠ bg

set_option maxRecDepth 100000 in
set_option maxHeartbeats 2000000 in
theorem l8Fill_any (g o b bg ca : Nat) (p h rx ry rp rh col : Int) (D : List Int) (w : World) (I : Pin w g o b bg ca p h rx ry rp rh D.length) (hW : Wrt .i64 w bg (bg + 1) (some ⟨bg, 0, none⟩) D) (h1 : 1 ≤ p ∧ p ≤ 8) (h2 : 1 ≤ h ∧ h ≤ 6) (hl : (D.length : Int) = p * h) (hD : D ≠ []) (hr : rfB rx ry rp rh = false) :
    Calls Try.prog 56 #[.pointer (some ⟨g, o, none⟩), .pointer (some ⟨b, 0, none⟩), .int .i64 col] w fun e w' => e = .returned (.tuple #[]) ∧ PS w w' bg (fillL p rx ry rp rh col D) := by
  obtain ⟨⟨f1, f2⟩, ⟨f3, f4⟩, ⟨f5, f6⟩, f7, f8⟩ := rfB_no hr
  have ab := area_le h1 h2
  have hC : (D.length : Int) ≤ h * p := by rw [hl, Int.mul_comm]; omega
  have hlen : (D.length : Int) ≤ 48 := by omega
  have hlt0 : 0 < D.length := List.length_pos_iff.2 hD
  have hbg : bg < w.heap.size := World.block_lt_of_cell? w _ (hW.cells hlt0).2.2.1
  have HC := hideP hC
  have HL := hideP hl
  have HW := hideP hW
  have HI := hideP I
  have hp0 : 0 < p := by omega
  have hw1 : IntKind.i64.wrap (ry + rh) = ry + rh := IntWalk.i64_in _ (by omega)
  have hw2 : IntKind.i64.wrap (rx + rp) = rx + rp := IntWalk.i64_in _ (by omega)
  obtain ⟨d0, d1, d2, d3⟩ := I.R
  have hb : b < w.heap.size := World.block_lt_of_cell? w _ d0
  simp only [Nat.zero_add] at d0 d1 d2 d3
  clear hC hl hW I ab
  go_enter Try.func56, Try.ntmps56
  go_wp2
  clear d0 d1 d2 d3
  go_loopw [6] (fun yy wr => ∃ j : Nat, (j : Int) ≤ rh ∧ yy = .int .i64 (ry + j) ∧ PS w wr bg (fpL p rx ry rp rh col D rx (ry + j))) (fun yy _ => (ry + rh - intOf yy).toNat)
  case atStart => exact ⟨0, by omega, by simp, Far.refl _ _ _, by rw [show ry + ((0 : Nat) : Int) = ry by omega, fpL_start]; exact HW.out⟩
  case round =>
    obtain ⟨j, hj, rfl, F1⟩ := hrel
    have HF1 := hideP F1
    have z1 := F1.far.size
    obtain ⟨d0, d1, d2, d3⟩ := F1.rect HI.out.R HI.out.n2
    have hbr : b < wr.heap.size := by omega
    clear F1
    by_cases hj2 : (j : Int) < rh
    · have hle : ry + (j : Int) < ry + rh := by omega
      go_wp2
      refine wp_region_kept (by kernel_rfl) (by kernel_rfl) ?_
      repeat (refine kept_step (by rfl) ?_; apply Exists.intro; refine ⟨fun w1 k1 => ?_, fun K hK => ?_⟩; (focus (have hc := Kept.cell k1; go_simp; first | done | rfl)); (go_simp; refine hK _ ?_; clear hK K))
      refine wpQuiet_nil ?_
      intro w1 k1
      replace k1 := Kept.below k1
      have hc1 := Kept.cell k1
      have hf1 := Kept.frozen k1
      have hz1 := k1.size
      try simp only [World.size_alloc] at hz1
      try simp only [World.size_setCell] at hz1
      try simp only [World.size_drew] at hz1
      try (first | have hs1 := sz12 hz1 | have hs1 := sz11 hz1 | have hs1 := sz10 hz1 | have hs1 := sz9 hz1 | have hs1 := sz8 hz1 | have hs1 := sz7 hz1 | have hs1 := sz6 hz1 | have hs1 := sz5 hz1 | have hs1 := sz4 hz1 | have hs1 := sz3 hz1 | have hs1 := sz2 hz1 | have hs1 := sz1 hz1)
      have HF2 := hideP (HF1.out.keep k1 hbg)
      clear d0 d1 d2 d3
      obtain ⟨d0, d1, d2, d3⟩ := HF2.out.rect HI.out.R HI.out.n2
      have hbr1 : b < w1.heap.size := by omega
      clear k1 hc1 hf1
      go_wp2
      clear d0 d1 d2 d3
      go_loopw [7] (fun xx wr => ∃ i : Nat, (i : Int) ≤ rp ∧ xx = .int .i64 (rx + i) ∧ PS w wr bg (fpL p rx ry rp rh col D (rx + i) (ry + j))) (fun xx _ => (rx + rp - intOf xx).toNat)
      case atStart => exact ⟨0, by omega, by simp, by rw [show rx + ((0 : Nat) : Int) = rx by omega]; exact HF2.out⟩
      case round =>
        obtain ⟨i, hi, rfl, F3⟩ := hrel
        have HF3 := hideP F3
        have z3 := F3.far.size
        obtain ⟨d0, d1, d2, d3⟩ := F3.rect HI.out.R HI.out.n2
        have hbr3 : b < wr.heap.size := by omega
        clear F3
        by_cases hi2 : (i : Int) < rp
        · have hli : rx + (i : Int) < rx + rp := by omega
          go_wp2
          refine wp_region_kept (by kernel_rfl) (by kernel_rfl) ?_
          repeat (refine kept_step (by rfl) ?_; apply Exists.intro; refine ⟨fun w1 k1 => ?_, fun K hK => ?_⟩; (focus (have hc := Kept.cell k1; go_simp; first | done | rfl)); (go_simp; refine hK _ ?_; clear hK K))
          refine wpQuiet_nil ?_
          intro w4 k4
          replace k4 := Kept.below k4
          have hc4 := Kept.cell k4
          have hf4 := Kept.frozen k4
          have hz4 := k4.size
          try simp only [World.size_alloc] at hz4
          try simp only [World.size_setCell] at hz4
          try simp only [World.size_drew] at hz4
          try (first | have hs4 := sz12 hz4 | have hs4 := sz11 hz4 | have hs4 := sz10 hz4 | have hs4 := sz9 hz4 | have hs4 := sz8 hz4 | have hs4 := sz7 hz4 | have hs4 := sz6 hz4 | have hs4 := sz5 hz4 | have hs4 := sz4 hz4 | have hs4 := sz3 hz4 | have hs4 := sz2 hz4 | have hs4 := sz1 hz4)
          have HF4 := hideP (HF3.out.keep k4 hbg)
          clear d0 d1 d2 d3 k4 hc4 hf4
          have hin : inB rx ry rp rh (rx + (i : Int)) (ry + (j : Int)) = true := by unfold inB; exact decide_eq_true (by omega)
          have hXb : -20 ≤ rx + (i : Int) ∧ rx + (i : Int) ≤ 40 := by omega
          have c3 := (HF4.out.cell HI.out.a3 HI.out.n1).1
          have c4 := (HF4.out.cell HI.out.a4 HI.out.n1).1
          have c6 := HF4.out.cell HI.out.a6 HI.out.n1
          have hgr := c6.2
          replace c6 := c6.1
          cases ho : ownB p h (rx + (i : Int)) (ry + (j : Int))
          · have LP := hideP (l8Place_no g o p h (rx + (i : Int)) (ry + (j : Int)) w4 h1 h2 c3 c4 ho)
            have SK := hideP (fpL_skip (rx := rx) (ry := ry) (rp := rp) (rh := rh) (col := col) (D := D) hp0 HC.out (.inr ho))
            rw [SK.out] at HF4
            clear c3 c4 c6 ho hin
            go_wp2_with fail
            refine Calls.mono LP.out ?_
            rintro e w5 ⟨rfl, hw⟩
            subst hw
            go_wp2
            go_roundw
            case rel => exact ⟨i + 1, by omega, by go_num, by rw [show rx + ((i + 1 : Nat) : Int) = (rx + (i : Int)) + 1 by omega]; exact HF4.out⟩
            case measure => simp [intOf]; omega
          · obtain ⟨r1, r2, r3⟩ := row_le h1 h2 ho
            obtain ⟨o1, o2, o3, o4⟩ := ownB_yes ho
            have LP := l8Place_yes g o p h (rx + (i : Int)) (ry + (j : Int)) w4 h1 h2 c3 c4 ho
            obtain ⟨q, hq⟩ : ∃ q : Nat, (q : Int) = (ry + (j : Int)) * p + (rx + (i : Int)) := ⟨((ry + (j : Int)) * p + (rx + (i : Int))).toNat, by omega⟩
            rw [← hq] at LP
            have hqL : q < D.length := by have := HL.out; omega
            have hqi : (q : Int) < (D.length : Int) := by omega
            have hqF : q < (fpL p rx ry rp rh col D (rx + (i : Int)) (ry + (j : Int))).length := by rw [fpL_len]; exact hqL
            obtain ⟨_, _, cq0, cf⟩ := HF4.out.wrt.cells hqF
            obtain ⟨dq, cq⟩ : ∃ dq : Int, w4.cell? ⟨bg, 0 + q, none⟩ = some (.int .i64 dq) := ⟨_, cq0⟩
            clear cq0
            have HF5 := HF4.out.one hqF col
            rw [fpL_set o1 o2 HC.out hin hq] at HF5
            rw [Nat.zero_add] at HF5
            have HF5' := hideP HF5
            have LP' := hideP LP
            simp only [Nat.zero_add] at cq
            have hbg4 : bg < w4.heap.size := World.block_lt_of_cell? w4 _ cq
            clear c3 c4 ho hin LP r1 r2 r3 o1 o2 o3 o4 HF5 hqF HF4 hq
            go_wp2_with fail
            refine Calls.mono LP'.out ?_
            rintro e w5 ⟨rfl, hw⟩
            subst hw
            go_wp2
            go_roundw
            case rel => exact ⟨i + 1, by omega, by go_num, by rw [show rx + ((i + 1 : Nat) : Int) = (rx + (i : Int)) + 1 by omega]; exact HF5'.out⟩
            case measure => simp [intOf]; omega
        · have hli : ¬ rx + (i : Int) < rx + rp := by omega
          go_wp2
          refine wp_region_kept (by kernel_rfl) (by kernel_rfl) ?_
          repeat (refine kept_step (by rfl) ?_; apply Exists.intro; refine ⟨fun w1 k1 => ?_, fun K hK => ?_⟩; (focus (have hc := Kept.cell k1; go_simp; first | done | rfl)); (go_simp; refine hK _ ?_; clear hK K))
          refine wpQuiet_nil ?_
          intro w4 k4
          replace k4 := Kept.below k4
          have hc4 := Kept.cell k4
          have hf4 := Kept.frozen k4
          have hz4 := k4.size
          try simp only [World.size_alloc] at hz4
          try simp only [World.size_setCell] at hz4
          try simp only [World.size_drew] at hz4
          try (first | have hs4 := sz12 hz4 | have hs4 := sz11 hz4 | have hs4 := sz10 hz4 | have hs4 := sz9 hz4 | have hs4 := sz8 hz4 | have hs4 := sz7 hz4 | have hs4 := sz6 hz4 | have hs4 := sz5 hz4 | have hs4 := sz4 hz4 | have hs4 := sz3 hz4 | have hs4 := sz2 hz4 | have hs4 := sz1 hz4)
          have HF4 := hideP (HF3.out.keep k4 hbg)
          clear d0 d1 d2 d3 k4 hc4 hf4
          go_wp2
          go_roundw
          case rel => exact ⟨j + 1, by omega, by go_num, by rw [show ry + ((j + 1 : Nat) : Int) = ry + (j : Int) + 1 by omega, ← fpL_row, show rx + rp = rx + (i : Int) by omega]; exact HF4.out⟩
          case measure => simp [intOf]; omega
    · have hle : ¬ ry + (j : Int) < ry + rh := by omega
      go_wp2
      refine wp_region_kept (by kernel_rfl) (by kernel_rfl) ?_
      repeat (refine kept_step (by rfl) ?_; apply Exists.intro; refine ⟨fun w1 k1 => ?_, fun K hK => ?_⟩; (focus (have hc := Kept.cell k1; go_simp; first | done | rfl)); (go_simp; refine hK _ ?_; clear hK K))
      refine wpQuiet_nil ?_
      intro w1 k1
      replace k1 := Kept.below k1
      have hc1 := Kept.cell k1
      have hf1 := Kept.frozen k1
      have hz1 := k1.size
      try simp only [World.size_alloc] at hz1
      try simp only [World.size_setCell] at hz1
      try simp only [World.size_drew] at hz1
      try (first | have hs1 := sz12 hz1 | have hs1 := sz11 hz1 | have hs1 := sz10 hz1 | have hs1 := sz9 hz1 | have hs1 := sz8 hz1 | have hs1 := sz7 hz1 | have hs1 := sz6 hz1 | have hs1 := sz5 hz1 | have hs1 := sz4 hz1 | have hs1 := sz3 hz1 | have hs1 := sz2 hz1 | have hs1 := sz1 hz1)
      have HF2 := hideP (HF1.out.keep k1 hbg)
      clear d0 d1 d2 d3 k1 hc1 hf1
      go_wp2
      go_returns
      exact ⟨rfl, by rw [← fpL_end, show ry + rh = ry + (j : Int) by omega]; exact HF2.out⟩

/-- What the program's painter reads: a pane. -/
structure Pip (w : World) (g o bg ca : Nat) (x y p h : Int) (n : Nat) : Prop where
  a0 : w.cell? ⟨g, o, none⟩ = some (.int .i64 x)
  a1 : w.cell? ⟨g, o + 1, none⟩ = some (.int .i64 y)
  a2 : w.cell? ⟨g, o + 2, none⟩ = some (.int .i64 p)
  a3 : w.cell? ⟨g, o + 3, none⟩ = some (.int .i64 h)
  a6 : w.cell? ⟨g, o + 6, none⟩ = some (.slice (some ⟨bg, 0, none⟩) n ca)
  n1 : g ≠ bg
theorem PS.pip {w wr : World} {bg g o ca n : Nat} {L : List Int} {x y p h : Int} (s : PS w wr bg L) (h1 : Pip w g o bg ca x y p h n) : Pip wr g o bg ca x y p h n ∧ g < wr.heap.size :=
  ⟨⟨(s.cell h1.a0 h1.n1).1, (s.cell h1.a1 h1.n1).1, (s.cell h1.a2 h1.n1).1, (s.cell h1.a3 h1.n1).1, (s.cell h1.a6 h1.n1).1, h1.n1⟩, (s.cell h1.a0 h1.n1).2⟩

set_option maxRecDepth 100000 in
set_option maxHeartbeats 2000000 in
theorem fill_any (g o bg ca : Nat) (x y p h rx ry rp rh col : Int) (D : List Int) (w : World) (I : Pip w g o bg ca x y p h D.length) (hW : Wrt .i64 w bg (bg + 1) (some ⟨bg, 0, none⟩) D) (h1 : 1 ≤ p ∧ p ≤ 8) (h2 : 1 ≤ h ∧ h ≤ 6) (hl : (D.length : Int) = p * h) (hD : D ≠ []) (hr : rfB rx ry rp rh = false) :
    Calls Try.prog 43 #[.pointer (some ⟨g, o, none⟩), .agg #[.int .i64 rx, .int .i64 ry, .int .i64 rp, .int .i64 rh], .int .i64 col] w fun e w' => e = .returned (.tuple #[]) ∧ PS w w' bg (fillL p rx ry rp rh col D) := by
  have ab := area_le h1 h2
  have hC : (D.length : Int) ≤ h * p := by rw [hl, Int.mul_comm]; omega
  have hlen : (D.length : Int) ≤ 48 := by omega
  have hlt0 : 0 < D.length := List.length_pos_iff.2 hD
  have hbg : bg < w.heap.size := World.block_lt_of_cell? w _ (hW.cells hlt0).2.2.1
  have HC := hideP hC
  have HL := hideP hl
  have HW := hideP hW
  have HI := hideP I
  have HH : Hid (∀ a b, hpB rx ry rp rh a b = inB rx ry rp rh a b) := hideP (fun a b => by unfold hpB; rw [hr]; rfl)
  have hp0 : 0 < p := by omega
  clear hC hl hW I ab
  go_enter Try.func43, Try.ntmps43
  have k0 : Below w.heap.size w (w.alloc (.cells #[.int .i64 rx, .int .i64 ry, .int .i64 rp, .int .i64 rh] 26)) := by go_grown
  have P0 : PS w (w.alloc (.cells #[.int .i64 rx, .int .i64 ry, .int .i64 rp, .int .i64 rh] 26)) bg D := PS.keep ⟨Far.refl _ _ _, HW.out⟩ k0 hbg
  have R0 : IsRect (w.alloc (.cells #[.int .i64 rx, .int .i64 ry, .int .i64 rp, .int .i64 rh] 26)) w.heap.size 0 rx ry rp rh := ⟨by simp, by simp, by simp, by simp⟩
  have z0 : (w.alloc (.cells #[.int .i64 rx, .int .i64 ry, .int .i64 rp, .int .i64 rh] 26)).heap.size = w.heap.size + 1 := by simp
  obtain ⟨i0, hg0⟩ := P0.pip HI.out
  obtain ⟨a0, a1, a2, a3, a6, n1⟩ := i0
  go_wp2
  clear a0 a1 a2 a3 a6
  generalize w.alloc (.cells #[.int .i64 rx, .int .i64 ry, .int .i64 rp, .int .i64 rh] 26) = w0 at *
  have hR0 : w.heap.size < w0.heap.size := by omega
  have hRb : ∀ wr, Far bg (bg + 1) w0 wr → IsRect wr w.heap.size 0 rx ry rp rh := fun wr f => by
    have e := fun c => f.cell w.heap.size c hR0 (by omega)
    exact ⟨(e _).trans R0.1, (e _).trans R0.2, (e _).trans R0.3, (e _).trans R0.4⟩
  have HRb := hideP hRb
  have HP0 := hideP P0
  have HF0 : Hid (Far bg (bg + 1) w w0) := hideP P0.far
  have HW0 := hideP P0.wrt
  have hbg0 : bg < w0.heap.size := by omega
  have HI0 := hideP (P0.pip HI.out).1
  clear R0 hRb P0 HP0 hg0
  go_loopw [13] (fun yy wr => ∃ j : Nat, (j : Int) ≤ h ∧ yy = .int .i64 (j : Int) ∧ PS w0 wr bg (fpL p rx ry rp rh col D 0 (j : Int))) (fun yy _ => (h - intOf yy).toNat)
  case atStart => exact ⟨0, by omega, rfl, Far.refl _ _ _, by rw [show ((0 : Nat) : Int) = 0 from rfl, fpL_zero hp0 HC.out]; exact HW0.out⟩
  case round =>
    obtain ⟨j, hj, rfl, F1⟩ := hrel
    have HF1 := hideP F1
    have z1 := F1.far.size
    obtain ⟨i1, hg1⟩ := F1.pip HI0.out
    obtain ⟨a0, a1, a2, a3, a6, _⟩ := i1
    clear F1
    by_cases hj2 : (j : Int) < h
    · go_wp2
      clear a0 a1 a2 a3 a6
      go_loopw [21] (fun xx wr => ∃ i : Nat, (i : Int) ≤ p ∧ xx = .int .i64 (i : Int) ∧ PS w0 wr bg (fpL p rx ry rp rh col D (i : Int) (j : Int))) (fun xx _ => (p - intOf xx).toNat)
      case atStart => exact ⟨0, by omega, rfl, HF1.out⟩
      case round =>
        obtain ⟨i, hi, rfl, F3⟩ := hrel
        have HF3 := hideP F3
        have z3 := F3.far.size
        obtain ⟨d0, d1, d2, d3⟩ := HRb.out wr F3.far
        simp only [Nat.zero_add] at d0 d1 d2 d3
        have hr3 : w.heap.size < wr.heap.size := by omega
        clear F3
        by_cases hi2 : (i : Int) < p
        · have HP := hp_any rx ry rp rh (i : Int) (j : Int) wr
          rw [HH.out] at HP
          have ho : ownB p h (i : Int) (j : Int) = true := ownB_of (by omega)
          obtain ⟨q, hq⟩ : ∃ q : Nat, (q : Int) = (j : Int) * p + (i : Int) := ⟨((j : Int) * p + (i : Int)).toNat, by have := row_le h1 h2 ho; omega⟩
          have hqL : q < D.length := by have := row_le h1 h2 ho; have := HL.out; omega
          cases hin : inB rx ry rp rh (i : Int) (j : Int)
          · rw [hin] at HP
            have SK := fpL_skip (rx := rx) (ry := ry) (rp := rp) (rh := rh) (col := col) (D := D) hp0 HC.out (.inl hin)
            rw [SK] at HF3
            have HP' := hideP HP
            clear HP SK ho hq hqL hin
            go_wp2_with fail
            refine Calls.mono HP'.out ?_
            rintro e w7 ⟨rfl, k7⟩
            have HF7 := hideP (HF3.out.keep k7 hbg0)
            clear k7 d0 d1 d2 d3
            go_wp2
            go_roundw
            case rel => exact ⟨i + 1, by omega, by go_num, HF7.out⟩
            case measure => simp [intOf]; omega
          · rw [hin] at HP
            have HP' := hideP HP
            have HIN := hideP hin
            have PO := fun w1 => placeOf_any x y p h (i : Int) (j : Int) w1 h1 h2 ho
            rw [← hq] at PO
            have PO' := hideP PO
            have HQ := hideP hq
            have hqi : (q : Int) < (D.length : Int) := by omega
            clear HP ho hq hin PO
            go_wp2_with fail
            refine Calls.mono HP'.out ?_
            rintro e w7 ⟨rfl, k7⟩
            have HF7 := hideP (HF3.out.keep k7 hbg0)
            obtain ⟨i7, hg7⟩ := HF7.out.pip HI0.out
            obtain ⟨a0, a1, a2, a3, a6, _⟩ := i7
            clear k7 d0 d1 d2 d3
            go_wp2
            refine wp_region_kept_tail 13 (by kernel_rfl) (by kernel_rfl) ?_
            simp only [List.take_succ_cons, List.take_zero, List.drop_succ_cons, List.drop_zero]
            repeat (refine kept_step (by rfl) ?_; apply Exists.intro; refine ⟨fun w1 k1 => ?_, fun K hK => ?_⟩; (focus (have hc := Kept.cell k1; go_simp; first | done | rfl | (go_at_call 49; exact kept_call k1 (PO'.out _)))); (go_simp; refine hK _ ?_; clear hK K))
            refine wpQuiet_nil ?_
            intro w8 k8
            replace k8 := Kept.below k8
            have hc8 := Kept.cell k8
            have hf8 := Kept.frozen k8
            have hz8 := k8.size
            try simp only [World.size_alloc] at hz8
            try simp only [World.size_setCell] at hz8
            try simp only [World.size_drew] at hz8
            try (first | have hs8 := sz12 hz8 | have hs8 := sz11 hz8 | have hs8 := sz10 hz8 | have hs8 := sz9 hz8 | have hs8 := sz8 hz8 | have hs8 := sz7 hz8 | have hs8 := sz6 hz8 | have hs8 := sz5 hz8 | have hs8 := sz4 hz8 | have hs8 := sz3 hz8 | have hs8 := sz2 hz8 | have hs8 := sz1 hz8)
            have HF8 := HF7.out.keep k8 hbg0
            have hqF : q < (fpL p rx ry rp rh col D (i : Int) (j : Int)).length := by rw [fpL_len]; exact hqL
            obtain ⟨_, _, cq0, cf⟩ := HF8.wrt.cells hqF
            obtain ⟨dq, cq⟩ : ∃ dq : Int, w8.cell? ⟨bg, 0 + q, none⟩ = some (.int .i64 dq) := ⟨_, cq0⟩
            clear cq0
            have hbg8 : bg < w8.heap.size := World.block_lt_of_cell? w8 _ cq
            have HF9 := HF8.one hqF col
            rw [fpL_set (by omega) hi2 HC.out HIN.out HQ.out, Nat.zero_add] at HF9
            have HF9' := hideP HF9
            simp only [Nat.zero_add] at cq
            clear k8 hc8 hf8 HF8 HF9 hqF a0 a1 a2 a3 a6
            go_wp2
            go_roundw
            case rel => exact ⟨i + 1, by omega, by go_num, HF9'.out⟩
            case measure => simp [intOf]; omega
        · obtain rfl : p = (i : Int) := by omega
          clear d0 d1 d2 d3
          go_wp2
          go_roundw
          case rel => exact ⟨j + 1, by omega, by go_num, by rw [show ((j + 1 : Nat) : Int) = (j : Int) + 1 by omega, ← fpL_row2 hp0 HC.out]; exact HF3.out⟩
          case measure => simp [intOf]; omega
    · obtain rfl : h = (j : Int) := by omega
      go_wp2
      go_returns
      exact ⟨rfl, HF0.out.trans HF1.out.far, by rw [← fpL_end2 hp0 HC.out]; exact HF1.out.wrt⟩
end Go.Proofs.Ytclfobpmafkgfaa
