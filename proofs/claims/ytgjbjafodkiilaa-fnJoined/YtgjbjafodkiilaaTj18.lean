/- RestFault of the program and of the model. -/
import Derived.Test.YtgjbjafodkiilaaTj15
import Derived.Test.YtgjbjafodkiilaaTj16
namespace Go.Proofs.Ytgjbjafodkiilaa
open Go.RowKit
set_option linter.unusedVariables false

set_option maxHeartbeats 400000 in
theorem iWrong (x : Int) (w : World) : Calls Try.prog 44 #[.int .u8 x] w fun e w' => e = .returned (.bool (isW x)) ∧ w' = w := by
  by_cases hx : x = 0
  · subst hx
    go_enter Try.func44, Try.ntmps44
    go_wp2
    go_returns
    exact ⟨rfl, rfl⟩
  · have hb : (x == 0) = false := by simp [hx]
    by_cases h2 : 25 < x
    · have e : isW x = true := by simp [isW, h2]
      rw [e]
      go_enter Try.func44, Try.ntmps44
      go_wp2
      go_returns
      exact ⟨rfl, rfl⟩
    · have e : isW x = false := by simp [isW, h2, hx]
      rw [e]
      go_enter Try.func44, Try.ntmps44
      go_wp2
      go_returns
      exact ⟨rfl, rfl⟩

set_option maxHeartbeats 400000 in
theorem sWrong (x : Int) (w : World) : Calls Try.prog 49 #[.int .u8 x] w fun e w' => e = .returned (.bool (isW x)) ∧ w' = w := by
  by_cases hx : x = 0
  · subst hx
    go_enter Try.func49, Try.ntmps49
    go_wp2
    go_returns
    exact ⟨rfl, rfl⟩
  · have hb : (x == 0) = false := by simp [hx]
    by_cases h2 : 25 < x
    · have e : isW x = true := by simp [isW, h2]
      rw [e]
      go_enter Try.func49, Try.ntmps49
      go_wp2
      go_returns
      exact ⟨rfl, rfl⟩
    · have e : isW x = false := by simp [isW, h2, hx]
      rw [e]
      go_enter Try.func49, Try.ntmps49
      go_wp2
      go_returns
      exact ⟨rfl, rfl⟩

/-- The slice's first byte is x, and n more lie behind it. -/
theorem Row.head {k : IntKind} {w : World} {lo hi : Nat} {ao : Option Addr} {x : Int} {L : List Int} (h : Row k w lo hi ao (x :: L)) : ∃ g o, ao = some ⟨g, o, none⟩ ∧ lo ≤ g ∧ g < hi ∧ w.cell? ⟨g, o, none⟩ = some (.int k x) := by
  rcases h with h | ⟨g, o, ha, h1, h2, hc⟩
  · cases h
  · have h0 := hc 0 (by simp)
    rw [Nat.add_zero] at h0
    exact ⟨g, o, ha, h1, h2, h0⟩

set_option maxHeartbeats 400000 in
theorem iBegins (g o ca : Nat) (x : Int) (n : Nat) (w : World) (hc : w.cell? ⟨g, o, none⟩ = some (.int .u8 x)) (h0 : 0 ≤ x) (h1 : x ≤ 255) (hn : n ≤ 1048576) (hn0 : 0 < n) :
    Calls Try.prog 45 #[.slice (some ⟨g, o, none⟩) n ca] w fun e w' => e = .returned (.bool (decide (x < (n : Int)))) ∧ w' = w := by
  have hn' : (n : Int) ≤ 1048576 := by omega
  have hp : (0 : Int) < (n : Int) := by omega
  go_enter Try.func45, Try.ntmps45
  go_wp2
  go_returns
  exact ⟨rfl, rfl⟩

set_option maxHeartbeats 800000 in
theorem iRest_any (lo hi : Nat) (ao : Option Addr) (ca : Nat) (L : List Int) (w : World) (hL : Row .u8 w lo hi ao L) (hB : byts L) (hm : L.length ≤ 1048576) :
    Calls Try.prog 23 #[.slice ao L.length ca] w fun e w' => e = .returned (.int .i64 (rsF L)) ∧ w' = w := by
  by_cases h25 : 25 < L.length
  · rw [rsF_many h25]
    have h25' : (25 : Int) < (L.length : Int) := by omega
    clear hL hB
    go_enter Try.func23, Try.ntmps23
    go_wp2
    go_returns
    exact ⟨rfl, rfl⟩
  · cases L with
    | nil =>
      rw [rsF_nil]
      clear hL hB
      go_enter Try.func23, Try.ntmps23
      go_wp2
      go_returns
      exact ⟨rfl, rfl⟩
    | cons x L =>
      simp only [List.length_cons] at h25 hm
      rw [rsF_cons h25]
      obtain ⟨g, o, rfl, _, _, hc⟩ := hL.head
      have hx := hB 0 (by simp)
      simp only [List.getElem_cons_zero] at hx
      obtain ⟨x0, x1⟩ := hx
      simp only [List.length_cons]
      have hl : (L.length : Int) + 1 ≤ 25 := by omega
      have HB := iBegins g o ca x (L.length + 1) w hc x0 x1 (by omega) (by omega)
      clear hL hB
      generalize hn : L.length = n at *
      clear hn L
      push_cast at HB
      cases hw : isW x with
      | true =>
        go_enter Try.func23, Try.ntmps23
        go_wp2_with (go_at_call 44; refine Calls.mono (iWrong x _) ?_; rintro e w1 ⟨rfl, rfl⟩; rw [hw])
        go_returns
        exact ⟨rfl, rfl⟩
      | false =>
        by_cases hd : x < (n : Int) + 1
        · rw [decide_eq_true hd] at HB ⊢
          go_enter Try.func23, Try.ntmps23
          go_wp2_with (first | (go_at_call 44; refine Calls.mono (iWrong x _) ?_; rintro e w1 ⟨rfl, rfl⟩; rw [hw]) | (go_at_call 45; refine Calls.mono HB ?_; rintro e w1 ⟨rfl, rfl⟩))
          go_returns
          exact ⟨rfl, rfl⟩
        · rw [decide_eq_false hd] at HB ⊢
          go_enter Try.func23, Try.ntmps23
          go_wp2_with (first | (go_at_call 44; refine Calls.mono (iWrong x _) ?_; rintro e w1 ⟨rfl, rfl⟩; rw [hw]) | (go_at_call 45; refine Calls.mono HB ?_; rintro e w1 ⟨rfl, rfl⟩))
          go_returns
          exact ⟨rfl, rfl⟩

set_option maxHeartbeats 800000 in
theorem sl4Rest_any (lo hi : Nat) (ao : Option Addr) (ca : Nat) (L : List Int) (w : World) (hL : Row .u8 w lo hi ao L) (hB : byts L) (hm : L.length ≤ 1048576) :
    Calls Try.prog 38 #[.slice ao L.length ca] w fun e w' => e = .returned (.int .i64 (rsF L)) ∧ w' = w := by
  by_cases h25 : 25 < L.length
  · rw [rsF_many h25]
    have h25' : (25 : Int) < (L.length : Int) := by omega
    clear hL hB
    go_enter Try.func38, Try.ntmps38
    go_wp2
    go_returns
    exact ⟨rfl, rfl⟩
  · cases L with
    | nil =>
      rw [rsF_nil]
      clear hL hB
      go_enter Try.func38, Try.ntmps38
      go_wp2
      go_returns
      exact ⟨rfl, rfl⟩
    | cons x L =>
      simp only [List.length_cons] at h25 hm
      rw [rsF_cons h25]
      obtain ⟨g, o, rfl, _, _, hc⟩ := hL.head
      have hx := hB 0 (by simp)
      simp only [List.getElem_cons_zero] at hx
      obtain ⟨x0, x1⟩ := hx
      simp only [List.length_cons]
      have hl : (L.length : Int) + 1 ≤ 25 := by omega
      clear hL hB
      generalize hn : L.length = n at *
      clear hn L
      cases hw : isW x with
      | true =>
        go_enter Try.func38, Try.ntmps38
        go_wp2_with (go_at_call 49; refine Calls.mono (sWrong x _) ?_; rintro e w1 ⟨rfl, rfl⟩; rw [hw])
        go_returns
        exact ⟨rfl, rfl⟩
      | false =>
        by_cases hd : x < (n : Int) + 1
        · rw [decide_eq_true hd]
          go_enter Try.func38, Try.ntmps38
          go_wp2_with (go_at_call 49; refine Calls.mono (sWrong x _) ?_; rintro e w1 ⟨rfl, rfl⟩; rw [hw])
          go_returns
          exact ⟨rfl, rfl⟩
        · rw [decide_eq_false hd]
          go_enter Try.func38, Try.ntmps38
          go_wp2_with (go_at_call 49; refine Calls.mono (sWrong x _) ?_; rintro e w1 ⟨rfl, rfl⟩; rw [hw])
          go_returns
          exact ⟨rfl, rfl⟩

end Go.Proofs.Ytgjbjafodkiilaa
