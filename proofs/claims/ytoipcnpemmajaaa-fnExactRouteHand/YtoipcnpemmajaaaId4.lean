/- IdsFault and NextId, the program's and the model's. -/
import Derived.Test.YtoipcnpemmajaaaId3
namespace Go.Proofs.Ytoipcnpemmajaaa
open Go.RowKit Go.Maps
set_option linter.unusedVariables false
attribute [local go_sem high] fI0 fI1

/-- The program's list of ids where there is a fault, and where there is none. -/
theorem names_no {w : World} {L : List Int} {c : Int} {f : FuncId} {args : Array Value} (h : Calls Try.prog f args w (NamS w L c)) (hc : ¬ c = 0) :
    Calls Try.prog f args w fun e w' => e = .returned (.tuple #[.map none, .int .i64 c]) ∧ Below w.heap.size w w' :=
  h.mono fun e w' h => by
    rcases h with ⟨_, h1, h2⟩ | ⟨h1, _⟩
    · exact ⟨h1, h2⟩
    · exact absurd h1 hc
theorem names_yes {w : World} {L : List Int} {c : Int} {f : FuncId} {args : Array Value} (h : Calls Try.prog f args w (NamS w L c)) (hc : c = 0) :
    Calls Try.prog f args w fun e w' => e = .returned (.tuple #[.map (some w.heap.size), .int .i64 0]) ∧ Below w.heap.size w w' ∧ w.heap.size < w'.heap.size ∧ Nam w' w.heap.size L.length (hasI L) :=
  h.mono fun e w' h => by
    rcases h with ⟨h1, _⟩ | ⟨_, h⟩
    · exact absurd hc h1
    · exact h

set_option maxHeartbeats 400000 in
theorem iIds_any (lo hi : Nat) (ao : Option Addr) (ca : Nat) (L : List Int) (w : World) (ha : Row .i64 w lo hi ao L) (hs : hi ≤ w.heap.size) (hl : L.length ≤ 1048576) :
    Calls Try.prog 43 #[.slice ao L.length ca] w fun e w' => e = .returned (.int .i64 (idsF L)) ∧ Below w.heap.size w w' := by
  have C := iNames_any lo hi ao ca L w ha hs hl
  clear ha
  by_cases h0 : idsF L = 0
  · have C' := hideP (names_yes C h0)
    rw [h0]
    clear C h0
    go_enter Try.func43, Try.ntmps43
    go_wp2_with (first | (go_at_call 75; refine Calls.mono C'.out ?_; rintro e w1 ⟨rfl, k1, l1, n1⟩; have K1 := hideP k1; clear k1 n1))
    go_returns
    exact ⟨rfl, K1.out⟩
  · have C' := hideP (names_no C h0)
    clear C
    generalize idsF L = c at *
    go_enter Try.func43, Try.ntmps43
    go_wp2_with (first | (go_at_call 75; refine Calls.mono C'.out ?_; rintro e w1 ⟨rfl, k1⟩; have K1 := hideP k1; clear k1))
    go_returns
    exact ⟨rfl, K1.out⟩

/-- The code and the value of NextId. -/
def nxC (L : List Int) (s : Int) : Int := if askF L s = 0 then (if nxt L s = -1 then 7 else 0) else askF L s
def nxV (L : List Int) (s : Int) : Int := if askF L s = 0 then (if nxt L s = -1 then 0 else nxt L s) else 0

theorem nxt_1 {L : List Int} {s : Int} (h : hasI L (64 * s + 1) = false) : nxt L s = 64 * s + 1 := by unfold nxt; unfold hasI at h; rw [h]; rfl
theorem nxt_2 {L : List Int} {s : Int} (h1 : hasI L (64 * s + 1) = true) (h : hasI L (64 * s + 2) = false) : nxt L s = 64 * s + 2 := by unfold nxt; unfold hasI at h h1; rw [h1, h]; rfl
theorem nxt_3 {L : List Int} {s : Int} (h1 : hasI L (64 * s + 1) = true) (h2 : hasI L (64 * s + 2) = true) (h : hasI L (64 * s + 3) = false) : nxt L s = 64 * s + 3 := by unfold nxt; unfold hasI at h h1 h2; rw [h1, h2, h]; rfl
theorem nxt_4 {L : List Int} {s : Int} (h1 : hasI L (64 * s + 1) = true) (h2 : hasI L (64 * s + 2) = true) (h : hasI L (64 * s + 3) = true) : nxt L s = -1 := by unfold nxt; unfold hasI at h h1 h2; rw [h1, h2, h]; rfl

end Go.Proofs.Ytoipcnpemmajaaa
