/- The input: whether a focus is one, its fault, a focus that is lost: by the program and by the model. -/
import Derived.Test.YtoipcnpemmajaaaRr21
import Derived.Test.YtoipcnpemmajaaaRr24
namespace Go.Proofs.Ytoipcnpemmajaaa
open Go.RowKit Go.Maps
set_option linter.unusedVariables false

/-- Whether that is a focus over that stack; the fault of an input; the focus behind LoseFocus. -/
def isFo (C : List Wc) (f : Int) : Bool := f == 0 || hasI (C.map Wc.i) f
def inpF (C : List Wc) (f : Int) : Int := if stF C = 0 then (if isFo C f then 0 else 4) else stF C
def loseF (C : List Wc) (f : Int) : Int := if stF C = 0 ∧ isFo C f = false then 0 else f
theorem isFo_map (L : List Wn) (f : Int) : isFo (L.map Wn.ct) f = (f == 0 || hasI (L.map Wn.i) f) := by unfold isFo; rw [mapI]
theorem hasI_mem (I : List Int) (f : Int) : hasI I f = true ↔ f ∈ I := by unfold hasI; simp

set_option maxRecDepth 100000 in
set_option maxHeartbeats 800000 in
theorem iFocus_any (lo hi : Nat) (so : Option Addr) (sc : Nat) (L : List Wn) (f : Int) (w : World) (hL : Ws w lo hi so L) (hs : hi ≤ w.heap.size) (hn : L.length + wzs L ≤ 1048576) :
    Calls Try.prog 39 #[.int .i64 f, .slice so L.length sc] w fun e w' => e = .returned (.bool (isFo (L.map Wn.ct) f)) ∧ Below w.heap.size w w' := by
  rw [isFo_map]
  by_cases h0 : f = 0
  · subst h0
    rw [show ((0 : Int) == 0 || hasI (L.map Wn.i) 0) = true from rfl]
    clear hL
    go_enter Try.func39, Try.ntmps39
    go_wp2
    go_returns
    exact ⟨rfl, Below.refl _ _⟩
  · have e0 : (f == 0) = false := by simpa using h0
    rw [e0, Bool.false_or]
    have ID := idsIn_any lo hi so sc L w hL hs (by omega)
    have hlI : (L.map Wn.i).length ≤ 1048576 := by simp; omega
    generalize L.map Wn.i = I at *
    have ID' := hideP ID
    clear ID hL hn
    go_enter Try.func39, Try.ntmps39
    go_wp2_with fail
    refine Calls.mono ID'.out ?_
    rintro e w1 ⟨ao, cap, rfl, O1, k1⟩
    have IX := hideP (contains_any w.heap.size w1.heap.size ao cap I f w1 (OwnR.wrt O1).row (Nat.le_refl _) hlI)
    have K1 := hideP k1
    clear k1 O1 ID'
    go_wp2_with fail
    refine Calls.mono IX.out ?_
    rintro e w2 ⟨rfl, rfl⟩
    go_wp2
    go_returns
    exact ⟨rfl, K1.out⟩

set_option maxRecDepth 100000 in
set_option maxHeartbeats 800000 in
theorem iInput_any (lo hi : Nat) (t : Bool) (f : Int) (so : Option Addr) (sc : Nat) (L : List Wn) (w : World) (hL : Ws w lo hi so L) (hs : hi ≤ w.heap.size) (hn : L.length + wzs L ≤ 1048576) :
    Calls Try.prog 15 #[.agg #[.bool t, .int .i64 f], .slice so L.length sc] w fun e w' => e = .returned (.int .i64 (inpF (L.map Wn.ct) f)) ∧ Below w.heap.size w w' := by
  have SF := fun w1 (kk : Below w.heap.size w w1) => iStack_any lo hi so sc L w1 (hL.keep kk hs) (Nat.le_trans hs kk.size) hn
  have FO := fun w1 (kk : Below w.heap.size w w1) => iFocus_any lo hi so sc L f w1 (hL.keep kk hs) (Nat.le_trans hs kk.size) hn
  obtain ⟨C, hC⟩ : ∃ C, L.map Wn.ct = C := ⟨_, rfl⟩
  obtain ⟨n, hnL⟩ : ∃ n, L.length = n := ⟨_, rfl⟩
  simp only [hC, hnL] at SF FO ⊢
  obtain ⟨F, hF⟩ : ∃ F, stF C = F := ⟨_, rfl⟩
  obtain ⟨b, hb⟩ : ∃ b, isFo C f = b := ⟨_, rfl⟩
  have hv : inpF C f = if F = 0 then (if b then 0 else 4) else F := by unfold inpF; rw [hF, hb]
  rw [hv]
  simp only [hF] at SF
  simp only [hb] at FO
  have SF' := hideP SF
  have FO' := hideP FO
  clear SF FO hv hb hF hC hnL hL hn
  by_cases h0 : F = 0
  · subst h0
    cases b
    all_goals
      go_enter Try.func15, Try.ntmps15
      go_wp2_with (first | (go_at_call 17; refine Calls.mono (SF'.out _ (by repeat' (first | (with_reducible exact Below.refl _ _) | (with_reducible refine kept_below ?_ (by assumption) ?_) | (with_reducible refine Below.alloc ?_ ?_ _) | (with_reducible refine Below.drew ?_) | (with_reducible refine Below.setCell ?_ ?_ _) | go_size))) ?_; (all_goals try (first | (with_reducible assumption) | omega)); rintro e w1 ⟨rfl, k1⟩; (try replace k1 := kept_join (by assumption) k1); have hc1 := Kept.cell k1; have hf1 := Kept.frozen k1; have hz1 := k1.size; (try simp only [World.size_alloc] at hz1); (try simp only [World.size_setCell] at hz1); (try simp only [World.size_drew] at hz1); (try (first | have hs1 := sz12 hz1 | have hs1 := sz11 hz1 | have hs1 := sz10 hz1 | have hs1 := sz9 hz1 | have hs1 := sz8 hz1 | have hs1 := sz7 hz1 | have hs1 := sz6 hz1 | have hs1 := sz5 hz1 | have hs1 := sz4 hz1 | have hs1 := sz3 hz1 | have hs1 := sz2 hz1 | have hs1 := sz1 hz1))) | (go_at_call 39; refine Calls.mono (FO'.out _ (by repeat' (first | (with_reducible exact Below.refl _ _) | (with_reducible refine kept_below ?_ (by assumption) ?_) | (with_reducible refine Below.alloc ?_ ?_ _) | (with_reducible refine Below.drew ?_) | (with_reducible refine Below.setCell ?_ ?_ _) | go_size))) ?_; (all_goals try (first | (with_reducible assumption) | omega)); rintro e w1 ⟨rfl, k1⟩; (try replace k1 := kept_join (by assumption) k1); have hc1 := Kept.cell k1; have hf1 := Kept.frozen k1; have hz1 := k1.size; (try simp only [World.size_alloc] at hz1); (try simp only [World.size_setCell] at hz1); (try simp only [World.size_drew] at hz1); (try (first | have hs1 := sz12 hz1 | have hs1 := sz11 hz1 | have hs1 := sz10 hz1 | have hs1 := sz9 hz1 | have hs1 := sz8 hz1 | have hs1 := sz7 hz1 | have hs1 := sz6 hz1 | have hs1 := sz5 hz1 | have hs1 := sz4 hz1 | have hs1 := sz3 hz1 | have hs1 := sz2 hz1 | have hs1 := sz1 hz1))))
      go_returns
      refine ⟨rfl, ?_⟩
      repeat' (first | (with_reducible exact Below.refl _ _) | (with_reducible refine kept_below ?_ (by assumption) ?_) | (with_reducible refine Below.alloc ?_ ?_ _) | (with_reducible refine Below.drew ?_) | (with_reducible refine Below.setCell ?_ ?_ _) | go_size)
  · have hne : (F != 0) = true := by simpa using h0
    rw [if_neg h0]
    go_enter Try.func15, Try.ntmps15
    go_wp2_with (first | (go_at_call 17; refine Calls.mono (SF'.out _ (by repeat' (first | (with_reducible exact Below.refl _ _) | (with_reducible refine kept_below ?_ (by assumption) ?_) | (with_reducible refine Below.alloc ?_ ?_ _) | (with_reducible refine Below.drew ?_) | (with_reducible refine Below.setCell ?_ ?_ _) | go_size))) ?_; (all_goals try (first | (with_reducible assumption) | omega)); rintro e w1 ⟨rfl, k1⟩; (try replace k1 := kept_join (by assumption) k1); have hc1 := Kept.cell k1; have hf1 := Kept.frozen k1; have hz1 := k1.size; (try simp only [World.size_alloc] at hz1); (try simp only [World.size_setCell] at hz1); (try simp only [World.size_drew] at hz1); (try (first | have hs1 := sz12 hz1 | have hs1 := sz11 hz1 | have hs1 := sz10 hz1 | have hs1 := sz9 hz1 | have hs1 := sz8 hz1 | have hs1 := sz7 hz1 | have hs1 := sz6 hz1 | have hs1 := sz5 hz1 | have hs1 := sz4 hz1 | have hs1 := sz3 hz1 | have hs1 := sz2 hz1 | have hs1 := sz1 hz1))) | (go_at_call 39; refine Calls.mono (FO'.out _ (by repeat' (first | (with_reducible exact Below.refl _ _) | (with_reducible refine kept_below ?_ (by assumption) ?_) | (with_reducible refine Below.alloc ?_ ?_ _) | (with_reducible refine Below.drew ?_) | (with_reducible refine Below.setCell ?_ ?_ _) | go_size))) ?_; (all_goals try (first | (with_reducible assumption) | omega)); rintro e w1 ⟨rfl, k1⟩; (try replace k1 := kept_join (by assumption) k1); have hc1 := Kept.cell k1; have hf1 := Kept.frozen k1; have hz1 := k1.size; (try simp only [World.size_alloc] at hz1); (try simp only [World.size_setCell] at hz1); (try simp only [World.size_drew] at hz1); (try (first | have hs1 := sz12 hz1 | have hs1 := sz11 hz1 | have hs1 := sz10 hz1 | have hs1 := sz9 hz1 | have hs1 := sz8 hz1 | have hs1 := sz7 hz1 | have hs1 := sz6 hz1 | have hs1 := sz5 hz1 | have hs1 := sz4 hz1 | have hs1 := sz3 hz1 | have hs1 := sz2 hz1 | have hs1 := sz1 hz1))))
    go_returns
    refine ⟨rfl, ?_⟩
    repeat' (first | (with_reducible exact Below.refl _ _) | (with_reducible refine kept_below ?_ (by assumption) ?_) | (with_reducible refine Below.alloc ?_ ?_ _) | (with_reducible refine Below.drew ?_) | (with_reducible refine Below.setCell ?_ ?_ _) | go_size)

set_option maxRecDepth 100000 in
set_option maxHeartbeats 800000 in
theorem iLose_any (lo hi : Nat) (t : Bool) (f : Int) (so : Option Addr) (sc : Nat) (L : List Wn) (w : World) (hL : Ws w lo hi so L) (hs : hi ≤ w.heap.size) (hn : L.length + wzs L ≤ 1048576) :
    Calls Try.prog 13 #[.agg #[.bool t, .int .i64 f], .slice so L.length sc] w fun e w' => e = .returned (.agg #[.bool t, .int .i64 (loseF (L.map Wn.ct) f)]) ∧ Below w.heap.size w w' := by
  have SF := fun w1 (kk : Below w.heap.size w w1) => iStack_any lo hi so sc L w1 (hL.keep kk hs) (Nat.le_trans hs kk.size) hn
  have FO := fun w1 (kk : Below w.heap.size w w1) => iFocus_any lo hi so sc L f w1 (hL.keep kk hs) (Nat.le_trans hs kk.size) hn
  obtain ⟨C, hC⟩ : ∃ C, L.map Wn.ct = C := ⟨_, rfl⟩
  obtain ⟨n, hnL⟩ : ∃ n, L.length = n := ⟨_, rfl⟩
  simp only [hC, hnL] at SF FO ⊢
  obtain ⟨F, hF⟩ : ∃ F, stF C = F := ⟨_, rfl⟩
  obtain ⟨b, hb⟩ : ∃ b, isFo C f = b := ⟨_, rfl⟩
  have hv : loseF C f = if F = 0 ∧ b = false then 0 else f := by unfold loseF; rw [hF, hb]
  rw [hv]
  simp only [hF] at SF
  simp only [hb] at FO
  have SF' := hideP SF
  have FO' := hideP FO
  clear SF FO hv hb hF hC hnL hL hn
  by_cases h0 : F = 0
  · subst h0
    cases b
    · rw [if_pos ⟨rfl, rfl⟩]
      go_enter Try.func13, Try.ntmps13
      go_wp2_with (go_at_call 17; refine Calls.mono (SF'.out _ (by repeat' (first | (with_reducible exact Below.refl _ _) | (with_reducible refine kept_below ?_ (by assumption) ?_) | (with_reducible refine Below.alloc ?_ ?_ _) | (with_reducible refine Below.drew ?_) | (with_reducible refine Below.setCell ?_ ?_ _) | go_size))) ?_; (all_goals try (first | (with_reducible assumption) | omega)); rintro e w1 ⟨rfl, k1⟩; (try replace k1 := kept_join (by assumption) k1); have hc1 := Kept.cell k1; have hf1 := Kept.frozen k1; have hz1 := k1.size; (try simp only [World.size_alloc] at hz1); (try simp only [World.size_setCell] at hz1); (try simp only [World.size_drew] at hz1); (try (first | have hs1 := sz12 hz1 | have hs1 := sz11 hz1 | have hs1 := sz10 hz1 | have hs1 := sz9 hz1 | have hs1 := sz8 hz1 | have hs1 := sz7 hz1 | have hs1 := sz6 hz1 | have hs1 := sz5 hz1 | have hs1 := sz4 hz1 | have hs1 := sz3 hz1 | have hs1 := sz2 hz1 | have hs1 := sz1 hz1)))
      refine Calls.mono (FO'.out _ (by repeat' (first | (with_reducible exact Below.refl _ _) | (with_reducible refine kept_below ?_ (by assumption) ?_) | (with_reducible refine Below.alloc ?_ ?_ _) | (with_reducible refine Below.drew ?_) | (with_reducible refine Below.setCell ?_ ?_ _) | go_size))) ?_
      rintro e w2 ⟨rfl, k2⟩
      replace k2 := kept_join k1 k2
      have hz2 := k2.size
      simp only [World.size_alloc] at hz2
      have hc1 := Kept.cell k2
      have hf2 := Kept.frozen k2
      have z0 := hc1 w.heap.size 0 (by simp; omega)
      have z1 := hc1 w.heap.size 1 (by simp; omega)
      simp at z0 z1
      have x0 := hc1 (w.heap.size + 1) 0 (by simp)
      have x1 := hc1 (w.heap.size + 1) 1 (by simp)
      simp at x0 x1
      go_wp2
      refine bodyPost_ret (v := .agg #[.bool t, .int .i64 0]) (by simp [results, Try.results13, go_sem, x0, x1]) rfl ⟨rfl, ?_⟩
      repeat' (first | (with_reducible exact Below.refl _ _) | (with_reducible refine kept_below ?_ (by assumption) ?_) | (with_reducible refine Below.alloc ?_ ?_ _) | (with_reducible refine Below.drew ?_) | (with_reducible refine Below.setCell ?_ ?_ _) | go_size)
    · rw [if_neg (by simp)]
      go_enter Try.func13, Try.ntmps13
      go_wp2_with (first | (go_at_call 17; refine Calls.mono (SF'.out _ (by repeat' (first | (with_reducible exact Below.refl _ _) | (with_reducible refine kept_below ?_ (by assumption) ?_) | (with_reducible refine Below.alloc ?_ ?_ _) | (with_reducible refine Below.drew ?_) | (with_reducible refine Below.setCell ?_ ?_ _) | go_size))) ?_; (all_goals try (first | (with_reducible assumption) | omega)); rintro e w1 ⟨rfl, k1⟩; (try replace k1 := kept_join (by assumption) k1); have hc1 := Kept.cell k1; have hf1 := Kept.frozen k1; have hz1 := k1.size; (try simp only [World.size_alloc] at hz1); (try simp only [World.size_setCell] at hz1); (try simp only [World.size_drew] at hz1); (try (first | have hs1 := sz12 hz1 | have hs1 := sz11 hz1 | have hs1 := sz10 hz1 | have hs1 := sz9 hz1 | have hs1 := sz8 hz1 | have hs1 := sz7 hz1 | have hs1 := sz6 hz1 | have hs1 := sz5 hz1 | have hs1 := sz4 hz1 | have hs1 := sz3 hz1 | have hs1 := sz2 hz1 | have hs1 := sz1 hz1))) | (go_at_call 39; refine Calls.mono (FO'.out _ (by repeat' (first | (with_reducible exact Below.refl _ _) | (with_reducible refine kept_below ?_ (by assumption) ?_) | (with_reducible refine Below.alloc ?_ ?_ _) | (with_reducible refine Below.drew ?_) | (with_reducible refine Below.setCell ?_ ?_ _) | go_size))) ?_; (all_goals try (first | (with_reducible assumption) | omega)); rintro e w1 ⟨rfl, k1⟩; (try replace k1 := kept_join (by assumption) k1); have hc1 := Kept.cell k1; have hf1 := Kept.frozen k1; have hz1 := k1.size; (try simp only [World.size_alloc] at hz1); (try simp only [World.size_setCell] at hz1); (try simp only [World.size_drew] at hz1); (try (first | have hs1 := sz12 hz1 | have hs1 := sz11 hz1 | have hs1 := sz10 hz1 | have hs1 := sz9 hz1 | have hs1 := sz8 hz1 | have hs1 := sz7 hz1 | have hs1 := sz6 hz1 | have hs1 := sz5 hz1 | have hs1 := sz4 hz1 | have hs1 := sz3 hz1 | have hs1 := sz2 hz1 | have hs1 := sz1 hz1))))
      have x0 := hc1 (w.heap.size + 1) 0 (by simp)
      have x1 := hc1 (w.heap.size + 1) 1 (by simp)
      simp at x0 x1
      refine bodyPost_ret (v := .agg #[.bool t, .int .i64 f]) (by simp [results, Try.results13, go_sem, x0, x1]) rfl ⟨rfl, ?_⟩
      repeat' (first | (with_reducible exact Below.refl _ _) | (with_reducible refine kept_below ?_ (by assumption) ?_) | (with_reducible refine Below.alloc ?_ ?_ _) | (with_reducible refine Below.drew ?_) | (with_reducible refine Below.setCell ?_ ?_ _) | go_size)
  · have hne : (F == 0) = false := by simpa using h0
    rw [if_neg (fun h => h0 h.1)]
    go_enter Try.func13, Try.ntmps13
    go_wp2_with (first | (go_at_call 17; refine Calls.mono (SF'.out _ (by repeat' (first | (with_reducible exact Below.refl _ _) | (with_reducible refine kept_below ?_ (by assumption) ?_) | (with_reducible refine Below.alloc ?_ ?_ _) | (with_reducible refine Below.drew ?_) | (with_reducible refine Below.setCell ?_ ?_ _) | go_size))) ?_; (all_goals try (first | (with_reducible assumption) | omega)); rintro e w1 ⟨rfl, k1⟩; (try replace k1 := kept_join (by assumption) k1); have hc1 := Kept.cell k1; have hf1 := Kept.frozen k1; have hz1 := k1.size; (try simp only [World.size_alloc] at hz1); (try simp only [World.size_setCell] at hz1); (try simp only [World.size_drew] at hz1); (try (first | have hs1 := sz12 hz1 | have hs1 := sz11 hz1 | have hs1 := sz10 hz1 | have hs1 := sz9 hz1 | have hs1 := sz8 hz1 | have hs1 := sz7 hz1 | have hs1 := sz6 hz1 | have hs1 := sz5 hz1 | have hs1 := sz4 hz1 | have hs1 := sz3 hz1 | have hs1 := sz2 hz1 | have hs1 := sz1 hz1))) | (go_at_call 39; refine Calls.mono (FO'.out _ (by repeat' (first | (with_reducible exact Below.refl _ _) | (with_reducible refine kept_below ?_ (by assumption) ?_) | (with_reducible refine Below.alloc ?_ ?_ _) | (with_reducible refine Below.drew ?_) | (with_reducible refine Below.setCell ?_ ?_ _) | go_size))) ?_; (all_goals try (first | (with_reducible assumption) | omega)); rintro e w1 ⟨rfl, k1⟩; (try replace k1 := kept_join (by assumption) k1); have hc1 := Kept.cell k1; have hf1 := Kept.frozen k1; have hz1 := k1.size; (try simp only [World.size_alloc] at hz1); (try simp only [World.size_setCell] at hz1); (try simp only [World.size_drew] at hz1); (try (first | have hs1 := sz12 hz1 | have hs1 := sz11 hz1 | have hs1 := sz10 hz1 | have hs1 := sz9 hz1 | have hs1 := sz8 hz1 | have hs1 := sz7 hz1 | have hs1 := sz6 hz1 | have hs1 := sz5 hz1 | have hs1 := sz4 hz1 | have hs1 := sz3 hz1 | have hs1 := sz2 hz1 | have hs1 := sz1 hz1))))
    have x0 := hc1 (w.heap.size + 1) 0 (by simp)
    have x1 := hc1 (w.heap.size + 1) 1 (by simp)
    simp at x0 x1
    refine bodyPost_ret (v := .agg #[.bool t, .int .i64 f]) (by simp [results, Try.results13, go_sem, x0, x1]) rfl ⟨rfl, ?_⟩
    repeat' (first | (with_reducible exact Below.refl _ _) | (with_reducible refine kept_below ?_ (by assumption) ?_) | (with_reducible refine Below.alloc ?_ ?_ _) | (with_reducible refine Below.drew ?_) | (with_reducible refine Below.setCell ?_ ?_ _) | go_size)
end Go.Proofs.Ytoipcnpemmajaaa
