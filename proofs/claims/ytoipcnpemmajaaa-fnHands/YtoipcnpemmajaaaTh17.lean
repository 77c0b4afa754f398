/- The input: the model's side. -/
import Derived.Test.YtoipcnpemmajaaaTh16
namespace Go.Proofs.Ytoipcnpemmajaaa
open Go.RowKit Go.Maps
set_option linter.unusedVariables false

/-- A box with an input. -/
structure I2 (w : World) (g : Nat) (t : Bool) (f : Int) : Prop where
  c0 : w.cell? ⟨g, 0, none⟩ = some (.bool t)
  c1 : w.cell? ⟨g, 1, none⟩ = some (.int .i64 f)
  lt : g < w.heap.size
theorem I2.keep {w w' : World} {g B : Nat} {t : Bool} {f : Int} (h : I2 w g t f) (k : Below B w w') (hb : g < B) : I2 w' g t f :=
  ⟨(k.cell (p := ⟨g, 0, none⟩) hb).trans h.c0, (k.cell (p := ⟨g, 1, none⟩) hb).trans h.c1, Nat.lt_of_lt_of_le h.lt k.size⟩
theorem i2_new (w : World) (t : Bool) (f : Int) (T : TypeId) : I2 (w.alloc (.cells #[.bool t, .int .i64 f] T)) w.heap.size t f := ⟨by simp, by simp, by simp⟩

/-- The model's place of an id: below zero where there is none. -/
theorem l7At_sgn (lo hi : Nat) (so : Option Addr) (sc : Nat) (L : List Wn) (f : Int) (w : World) (hL : Ws w lo hi so L) (hs : hi ≤ w.heap.size) (hn : L.length ≤ 1048576) :
    Calls Try.prog 74 #[.slice so L.length sc, .int .i64 f] w fun e w' => ∃ p : Int, e = .returned (.int .i64 p) ∧ w' = w ∧ decide (p < 0) = !hasI (L.map Wn.i) f := by
  rcases fst_or f L with h | ⟨X, r, Y, h⟩
  · refine (l7At_none lo hi so sc L f w hL hs hn h).mono fun e w' ⟨he, hw⟩ => ⟨-1, he, hw, ?_⟩
    have : hasI (L.map Wn.i) f = false := by
      rw [Bool.eq_false_iff]
      intro e2
      obtain ⟨v, hv, e3⟩ := List.mem_map.1 ((hasI_mem _ _).1 e2)
      exact h v hv e3
    rw [this]
    rfl
  · refine (l7At_some lo hi so sc L X Y r f w hL hs hn h).mono fun e w' ⟨he, hw⟩ => ⟨(X.length : Nat), he, hw, ?_⟩
    have : hasI (L.map Wn.i) f = true := (hasI_mem _ _).2 (by rw [h.eq]; simp [h.at'])
    rw [this]
    simp

set_option maxRecDepth 100000 in
set_option maxHeartbeats 800000 in
theorem l10Input_any (lo hi : Nat) (g : Nat) (t : Bool) (f : Int) (so : Option Addr) (sc : Nat) (L : List Wn) (w : World) (hI : I2 w g t f) (hL : Ws w lo hi so L) (hs : hi ≤ w.heap.size) (hn : L.length + wzs L ≤ 1048576) :
    Calls Try.prog 42 #[.pointer (some ⟨g, 0, none⟩), .slice so L.length sc] w fun e w' => e = .returned (.int .i64 (inpF (L.map Wn.ct) f)) ∧ Below w.heap.size w w' := by
  have SF := l7F_any lo hi so sc L w hL hs hn
  have AT := fun w1 (kk : Below w.heap.size w w1) => l7At_sgn lo hi so sc L f w1 (hL.keep kk hs) (Nat.le_trans hs kk.size) (by omega)
  have hv : inpF (L.map Wn.ct) f = if stF (L.map Wn.ct) = 0 then (if (f == 0 || hasI (L.map Wn.i) f) then 0 else 4) else stF (L.map Wn.ct) := by unfold inpF; rw [isFo_map]
  rw [hv]
  obtain ⟨F, hF⟩ : ∃ F, stF (L.map Wn.ct) = F := ⟨_, rfl⟩
  obtain ⟨b, hb⟩ : ∃ b, hasI (L.map Wn.i) f = b := ⟨_, rfl⟩
  rw [hF] at SF ⊢
  simp only [hb] at AT ⊢
  generalize L.length = n at *
  have SF' := hideP SF
  have AT' := hideP AT
  have HI := hideP (fun w1 (kk : Below w.heap.size w w1) => hI.keep kk hI.lt)
  clear SF AT hv hb hF hL hn hI
  have ST := SF'.out
  by_cases h0 : F = 0
  · subst h0
    rw [if_pos rfl]
    by_cases hf : f = 0
    · subst hf
      rw [if_pos (by simp)]
      go_enter Try.func42, Try.ntmps42
      go_wp2_with fail
      refine Calls.mono ST ?_
      rintro e w1 ⟨rfl, k1⟩
      have K1 := hideP k1
      obtain ⟨b0, b1, b2⟩ := HI.out w1 k1
      have AT1 := AT'.out w1 k1
      clear k1 HI AT'
      clear AT1
      go_wp2
      go_returns
      exact ⟨rfl, K1.out⟩
    · have e0 : (f != 0) = true := by simpa using hf
      have e1 : (f == 0) = false := by simpa using hf
      rw [e1, Bool.false_or]
      cases b
      all_goals
        go_enter Try.func42, Try.ntmps42
        go_wp2_with fail
        refine Calls.mono ST ?_
        rintro e w1 ⟨rfl, k1⟩
        have K1 := hideP k1
        obtain ⟨b0, b1, b2⟩ := HI.out w1 k1
        have AT1 := AT'.out w1 k1
        clear k1 HI AT'
        go_wp2_with fail
        refine Calls.mono AT1 ?_
        rintro e w2 ⟨p, rfl, rfl, hp⟩
        go_wp2
        go_returns
        exact ⟨rfl, K1.out⟩
  · have hne : (F != 0) = true := by simpa using h0
    rw [if_neg h0]
    go_enter Try.func42, Try.ntmps42
    go_wp2_with fail
    refine Calls.mono ST ?_
    rintro e w1 ⟨rfl, k1⟩
    have K1 := hideP k1
    clear k1
    go_wp2
    go_returns
    exact ⟨rfl, K1.out⟩

theorem sInput_any (lo hi : Nat) (t : Bool) (f : Int) (so : Option Addr) (sc : Nat) (L : List Wn) (w : World) (hL : Ws w lo hi so L) (hs : hi ≤ w.heap.size) (hn : L.length + wzs L ≤ 1048576) :
    Calls Try.prog 16 #[.agg #[.bool t, .int .i64 f], .slice so L.length sc] w fun e w' => e = .returned (.int .i64 (inpF (L.map Wn.ct) f)) ∧ Below w.heap.size w w' := by
  have LI := hideP (fun w1 (h : I2 w1 w.heap.size t f) (kk : Below w.heap.size w w1) => l10Input_any lo hi w.heap.size t f so sc L w1 h (hL.keep kk hs) (Nat.le_trans hs kk.size) hn)
  generalize inpF (L.map Wn.ct) f = F at *
  generalize L.length = n at *
  clear hL hn
  go_enter Try.func16, Try.ntmps16
  go_wp2_with fail
  refine Calls.mono (LI.out _ (i2_new _ _ _ _) (by go_grown)) ?_
  rintro e w1 ⟨rfl, k1⟩
  replace k1 := hideP k1
  go_wp2
  go_returns
  exact ⟨rfl, (Below.alloc (Below.refl _ _) (Nat.le_refl _) _).trans (k1.out.mono (by simp))⟩

set_option maxRecDepth 100000 in
set_option maxHeartbeats 800000 in
theorem l10Lose_any (lo hi : Nat) (t : Bool) (f : Int) (so : Option Addr) (sc : Nat) (L : List Wn) (w : World) (hL : Ws w lo hi so L) (hs : hi ≤ w.heap.size) (hn : L.length + wzs L ≤ 1048576) :
    Calls Try.prog 41 #[.agg #[.bool t, .int .i64 f], .slice so L.length sc] w fun e w' => e = .returned (.agg #[.bool t, .int .i64 (if hasI (L.map Wn.i) f then f else 0)]) ∧ Below w.heap.size w w' := by
  have AT := fun w1 (kk : Below w.heap.size w w1) => l7At_sgn lo hi so sc L f w1 (hL.keep kk hs) (Nat.le_trans hs kk.size) (by omega)
  obtain ⟨b, hb⟩ : ∃ b, hasI (L.map Wn.i) f = b := ⟨_, rfl⟩
  simp only [hb] at AT ⊢
  generalize L.length = n at *
  have AT' := hideP AT
  clear AT hb hL hn
  go_enter Try.func41, Try.ntmps41
  go_wp2_with fail
  refine Calls.mono (AT'.out _ (by go_grown)) ?_
  rintro e w2 ⟨p, rfl, rfl, hp⟩
  clear AT'
  cases b
  · go_wp2
    go_returns
    refine ⟨rfl, ?_⟩
    repeat' (first | (with_reducible exact Below.refl _ _) | (with_reducible refine kept_below ?_ (by assumption) ?_) | (with_reducible refine Below.alloc ?_ ?_ _) | (with_reducible refine Below.drew ?_) | (with_reducible refine Below.setCell ?_ ?_ _) | go_size)
  · go_wp2
    go_returns
    refine ⟨rfl, ?_⟩
    repeat' (first | (with_reducible exact Below.refl _ _) | (with_reducible refine kept_below ?_ (by assumption) ?_) | (with_reducible refine Below.alloc ?_ ?_ _) | (with_reducible refine Below.drew ?_) | (with_reducible refine Below.setCell ?_ ?_ _) | go_size)

theorem loseF_bad {C : List Wc} {f : Int} (h : stF C ≠ 0) : loseF C f = f := by unfold loseF; rw [if_neg (fun x => h x.1)]
theorem loseF_ok {L : List Wn} {f : Int} (h : stF (L.map Wn.ct) = 0) : loseF (L.map Wn.ct) f = if hasI (L.map Wn.i) f then f else 0 := by
  unfold loseF
  rw [isFo_map]
  cases hh : hasI (L.map Wn.i) f
  · by_cases hf : f = 0
    · subst hf; simp
    · simp [h, hf]
  · simp

set_option maxRecDepth 100000 in
set_option maxHeartbeats 800000 in
theorem sLose_any (lo hi : Nat) (t : Bool) (f : Int) (so : Option Addr) (sc : Nat) (L : List Wn) (w : World) (hL : Ws w lo hi so L) (hs : hi ≤ w.heap.size) (hn : L.length + wzs L ≤ 1048576) :
    Calls Try.prog 14 #[.agg #[.bool t, .int .i64 f], .slice so L.length sc] w fun e w' => e = .returned (.agg #[.bool t, .int .i64 (loseF (L.map Wn.ct) f)]) ∧ Below w.heap.size w w' := by
  have SF := fun w1 (kk : Below w.heap.size w w1) => l7F_any lo hi so sc L w1 (hL.keep kk hs) (Nat.le_trans hs kk.size) hn
  have LO := fun w1 (kk : Below w.heap.size w w1) => l10Lose_any lo hi t f so sc L w1 (hL.keep kk hs) (Nat.le_trans hs kk.size) hn
  by_cases h0 : stF (L.map Wn.ct) = 0
  · rw [loseF_ok h0]
    rw [h0] at SF
    generalize (if hasI (L.map Wn.i) f = true then f else 0) = v at *
    generalize L.length = n at *
    have SF' := hideP SF
    have LO' := hideP LO
    clear SF LO h0 hL hn
    go_enter Try.func14, Try.ntmps14
    go_wp2_with (first | (go_at_call 40; refine Calls.mono (SF'.out _ (by repeat' (first | (with_reducible exact Below.refl _ _) | (with_reducible refine kept_below ?_ (by assumption) ?_) | (with_reducible refine Below.alloc ?_ ?_ _) | (with_reducible refine Below.drew ?_) | (with_reducible refine Below.setCell ?_ ?_ _) | go_size))) ?_; (all_goals try (first | (with_reducible assumption) | omega)); rintro e w1 ⟨rfl, k1⟩; (try replace k1 := kept_join (by assumption) k1); have hc1 := Kept.cell k1; have hf1 := Kept.frozen k1; have hz1 := k1.size; (try simp only [World.size_alloc] at hz1); (try simp only [World.size_setCell] at hz1); (try simp only [World.size_drew] at hz1); (try (first | have hs1 := sz12 hz1 | have hs1 := sz11 hz1 | have hs1 := sz10 hz1 | have hs1 := sz9 hz1 | have hs1 := sz8 hz1 | have hs1 := sz7 hz1 | have hs1 := sz6 hz1 | have hs1 := sz5 hz1 | have hs1 := sz4 hz1 | have hs1 := sz3 hz1 | have hs1 := sz2 hz1 | have hs1 := sz1 hz1))) | (go_at_call 41; refine Calls.mono (LO'.out _ (by repeat' (first | (with_reducible exact Below.refl _ _) | (with_reducible refine kept_below ?_ (by assumption) ?_) | (with_reducible refine Below.alloc ?_ ?_ _) | (with_reducible refine Below.drew ?_) | (with_reducible refine Below.setCell ?_ ?_ _) | go_size))) ?_; (all_goals try (first | (with_reducible assumption) | omega)); rintro e w1 ⟨rfl, k1⟩; (try replace k1 := kept_join (by assumption) k1); have hc1 := Kept.cell k1; have hf1 := Kept.frozen k1; have hz1 := k1.size; (try simp only [World.size_alloc] at hz1); (try simp only [World.size_setCell] at hz1); (try simp only [World.size_drew] at hz1); (try (first | have hs1 := sz12 hz1 | have hs1 := sz11 hz1 | have hs1 := sz10 hz1 | have hs1 := sz9 hz1 | have hs1 := sz8 hz1 | have hs1 := sz7 hz1 | have hs1 := sz6 hz1 | have hs1 := sz5 hz1 | have hs1 := sz4 hz1 | have hs1 := sz3 hz1 | have hs1 := sz2 hz1 | have hs1 := sz1 hz1))))
    have x0 := hc1 (w.heap.size + 1) 0 (by simp)
    have x1 := hc1 (w.heap.size + 1) 1 (by simp)
    simp at x0 x1
    refine bodyPost_ret (v := .agg #[.bool t, .int .i64 v]) (by simp [results, Try.results14, go_sem, x0, x1]) rfl ⟨rfl, ?_⟩
    repeat' (first | (with_reducible exact Below.refl _ _) | (with_reducible refine kept_below ?_ (by assumption) ?_) | (with_reducible refine Below.alloc ?_ ?_ _) | (with_reducible refine Below.drew ?_) | (with_reducible refine Below.setCell ?_ ?_ _) | go_size)
  · rw [loseF_bad h0]
    generalize stF (L.map Wn.ct) = F at *
    generalize L.length = n at *
    have hne : (F != 0) = true := by simpa using h0
    have SF' := hideP SF
    clear SF LO h0 hL hn
    go_enter Try.func14, Try.ntmps14
    go_wp2_with (go_at_call 40; refine Calls.mono (SF'.out _ (by repeat' (first | (with_reducible exact Below.refl _ _) | (with_reducible refine kept_below ?_ (by assumption) ?_) | (with_reducible refine Below.alloc ?_ ?_ _) | (with_reducible refine Below.drew ?_) | (with_reducible refine Below.setCell ?_ ?_ _) | go_size))) ?_; (all_goals try (first | (with_reducible assumption) | omega)); rintro e w1 ⟨rfl, k1⟩; (try replace k1 := kept_join (by assumption) k1); have hc1 := Kept.cell k1; have hf1 := Kept.frozen k1; have hz1 := k1.size; (try simp only [World.size_alloc] at hz1); (try simp only [World.size_setCell] at hz1); (try simp only [World.size_drew] at hz1); (try (first | have hs1 := sz12 hz1 | have hs1 := sz11 hz1 | have hs1 := sz10 hz1 | have hs1 := sz9 hz1 | have hs1 := sz8 hz1 | have hs1 := sz7 hz1 | have hs1 := sz6 hz1 | have hs1 := sz5 hz1 | have hs1 := sz4 hz1 | have hs1 := sz3 hz1 | have hs1 := sz2 hz1 | have hs1 := sz1 hz1)))
    have x0 := hc1 (w.heap.size + 1) 0 (by simp)
    have x1 := hc1 (w.heap.size + 1) 1 (by simp)
    simp at x0 x1
    refine bodyPost_ret (v := .agg #[.bool t, .int .i64 f]) (by simp [results, Try.results14, go_sem, x0, x1]) rfl ⟨rfl, ?_⟩
    repeat' (first | (with_reducible exact Below.refl _ _) | (with_reducible refine kept_below ?_ (by assumption) ?_) | (with_reducible refine Below.alloc ?_ ?_ _) | (with_reducible refine Below.drew ?_) | (with_reducible refine Below.setCell ?_ ?_ _) | go_size)
end Go.Proofs.Ytoipcnpemmajaaa
