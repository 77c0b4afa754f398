/- A window asked for by its id: the model's, and the program's. -/
import Derived.Test.YtoipcnpemmajaaaWc2
import Derived.Test.YtoipcnpemmajaaaWi7
namespace Go.Proofs.Ytoipcnpemmajaaa
open Go.RowKit Go.Maps
set_option linter.unusedVariables false

/-- The first window of an id stands behind X and ahead of Y. -/
structure Fst (id : Int) (L X : List Wn) (r : Wn) (Y : List Wn) : Prop where
  eq : L = X ++ r :: Y
  at' : r.i = id
  no : ∀ v ∈ X, v.i ≠ id
theorem fst_or (id : Int) (L : List Wn) : (∀ v ∈ L, v.i ≠ id) ∨ ∃ X r Y, Fst id L X r Y := by
  induction L with
  | nil => exact .inl fun v h => by simp at h
  | cons v L ih =>
    by_cases e : v.i = id
    · exact .inr ⟨[], v, L, rfl, e, fun v h => by simp at h⟩
    · rcases ih with ih | ⟨X, r, Y, h⟩
      · refine .inl fun u hu => ?_
        rcases List.mem_cons.1 hu with rfl | hu
        · exact e
        · exact ih u hu
      · refine .inr ⟨v :: X, r, Y, by rw [h.eq]; rfl, h.at', fun u hu => ?_⟩
        rcases List.mem_cons.1 hu with rfl | hu
        · exact e
        · exact h.no u hu
/-- The code of asking for a window. -/
def askW (C : List Wc) (id : Int) : Int := if stF C = 0 then (if (C.map Wc.i).contains id then 0 else 4) else stF C
theorem askW_bad {C : List Wc} {id : Int} (h : ¬ stF C = 0) : askW C id = stF C := by unfold askW; rw [if_neg h]
theorem mapI (L : List Wn) : (L.map Wn.ct).map Wc.i = L.map Wn.i := by simp [Wn.ct]
theorem askW_none {L : List Wn} {id : Int} (h : stF (L.map Wn.ct) = 0) (hn : ∀ v ∈ L, v.i ≠ id) : askW (L.map Wn.ct) id = 4 := by
  unfold askW
  rw [if_pos h, if_neg]
  rw [mapI]
  simp only [List.contains_eq_mem, List.mem_map, decide_eq_true_eq]
  rintro ⟨v, hv, e⟩
  exact hn v hv e
theorem askW_yes {L X Y : List Wn} {r : Wn} {id : Int} (h : stF (L.map Wn.ct) = 0) (hf : Fst id L X r Y) : askW (L.map Wn.ct) id = 0 := by
  unfold askW
  rw [if_pos h, if_pos]
  rw [mapI, hf.eq]
  simp [hf.at']

set_option maxHeartbeats 1000000 in
theorem l7At_none (lo hi : Nat) (so : Option Addr) (sc : Nat) (L : List Wn) (id : Int) (w : World) (hL : Ws w lo hi so L) (hs : hi ≤ w.heap.size) (hn : L.length ≤ 1048576) (h : ∀ v ∈ L, v.i ≠ id) :
    Calls Try.prog 74 #[.slice so L.length sc, .int .i64 id] w fun e w' => e = .returned (.int .i64 (-1)) ∧ w' = w := by
  have hn' : (L.length : Int) ≤ 1048576 := by omega
  have HL := hideP hL
  have HN := hideP h
  clear hL h
  go_enter Try.func74, Try.ntmps74
  go_wp2
  go_loop [5] (fun i => ∃ X Y : List Wn, X ++ Y = L ∧ i = .int .i64 (X.length : Nat)) (fun i => L.length - (intOf i).toNat)
  case atStart => exact ⟨[], L, rfl, rfl⟩
  case round =>
    obtain ⟨X, Y, hXY, rfl⟩ := hrel
    have hlen : X.length + Y.length = L.length := by rw [← hXY]; simp
    cases Y with
    | cons r Y =>
      have hlt : (X.length : Int) < (L.length : Int) := by simp at hlen; omega
      have h0 := HL.out
      rw [← hXY] at h0
      obtain ⟨g, o, rfl, hg, hc, _⟩ := Ws.at h0
      obtain ⟨a0, _⟩ := hc.seven
      have hgl : g < w.heap.size := by omega
      have hne : (r.i == id) = false := by simpa using HN.out r (by rw [← hXY]; simp)
      have HXY := hideP hXY
      clear h0 hc hXY hlen HL HN
      generalize hri : r.i = ri at *
      go_wp2
      go_round
      case rel => exact ⟨X ++ [r], Y, midW HXY.out, by simp⟩
      case measure => simp [intOf]; omega
    | nil =>
      have hX : X = L := by simpa using hXY
      subst hX
      clear hXY HL HN hlen
      go_wp2
      go_returns
      exact ⟨rfl, rfl⟩

set_option maxHeartbeats 1000000 in
theorem l7At_some (lo hi : Nat) (so : Option Addr) (sc : Nat) (L X0 Y0 : List Wn) (r0 : Wn) (id : Int) (w : World) (hL : Ws w lo hi so L) (hs : hi ≤ w.heap.size) (hn : L.length ≤ 1048576) (h : Fst id L X0 r0 Y0) :
    Calls Try.prog 74 #[.slice so L.length sc, .int .i64 id] w fun e w' => e = .returned (.int .i64 (X0.length : Nat)) ∧ w' = w := by
  have hn' : (L.length : Int) ≤ 1048576 := by omega
  have HL := hideP hL
  have HF := hideP h
  have hX0 : (X0.length : Int) < (L.length : Int) := by rw [h.eq]; simp; omega
  clear hL h
  go_enter Try.func74, Try.ntmps74
  go_wp2
  go_loop [5] (fun i => ∃ X Y : List Wn, X ++ Y = X0 ∧ i = .int .i64 (X.length : Nat)) (fun i => L.length - (intOf i).toNat)
  case atStart => exact ⟨[], X0, rfl, rfl⟩
  case round =>
    obtain ⟨X, Y, hXY, rfl⟩ := hrel
    have hlen : X.length + Y.length = X0.length := by rw [← hXY]; simp
    have hlt : (X.length : Int) < (L.length : Int) := by omega
    cases Y with
    | cons r Y =>
      have h0 := HL.out
      rw [HF.out.eq, ← hXY] at h0
      simp only [List.append_assoc, List.cons_append] at h0
      obtain ⟨g, o, rfl, hg, hc, _⟩ := Ws.at h0
      obtain ⟨a0, _⟩ := hc.seven
      have hgl : g < w.heap.size := by omega
      have hne : (r.i == id) = false := by simpa using HF.out.no r (by rw [← hXY]; simp)
      have HXY := hideP hXY
      clear h0 hc hXY HL HF
      generalize hri : r.i = ri at *
      go_wp2
      go_round
      case rel => exact ⟨X ++ [r], Y, midW HXY.out, by simp⟩
      case measure => simp [intOf]; simp at hlen; omega
    | nil =>
      have hX : X = X0 := by simpa using hXY
      subst hX
      have h0 := HL.out
      rw [HF.out.eq] at h0
      obtain ⟨g, o, rfl, hg, hc, _⟩ := Ws.at h0
      obtain ⟨a0, _⟩ := hc.seven
      have hgl : g < w.heap.size := by omega
      have hne : (r0.i == id) = true := by simpa using HF.out.at'
      clear hXY HL HF h0 hc hlen
      generalize hri : r0.i = ri at *
      go_wp2
      go_returns
      exact ⟨rfl, rfl⟩

end Go.Proofs.Ytoipcnpemmajaaa
