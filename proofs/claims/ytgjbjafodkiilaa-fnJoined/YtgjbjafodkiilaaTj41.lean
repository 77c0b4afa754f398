/- FnJoined: the list of requests that JoinFrames is tried with. -/
import Derived.Test.YtgjbjafodkiilaaTj34
import Derived.Test.YtgjbjafodkiilaaTj38
import Derived.Test.YtgjbjafodkiilaaTj40
namespace Go.Proofs.Ytgjbjafodkiilaa
open Go.RowKit
set_option linter.unusedVariables false
attribute [local go_sem] growUpon growAt

/-- Small lists. -/
def smR (L : List Rq) : Prop := ∀ r ∈ L, r.A.length ≤ 8 ∧ r.D.length ≤ 25 ∧ byts r.D
theorem smR_snoc {L : List Rq} {r : Rq} (h : smR L) (h1 : r.A.length ≤ 8) (h2 : r.D.length ≤ 25) (h3 : byts r.D) : smR (L ++ [r]) := fun x hx => by
  rcases List.mem_append.1 hx with hx | hx
  · exact h x hx
  · simp at hx; subst hx; exact ⟨h1, h2, h3⟩
def rq0 : Rq := ⟨0, none, 0, [], none, 0, []⟩
theorem made_rq0 : (madeCells (Value.agg #[.int .i64 0, .slice none 0 0, .slice none 0 0]).cells (11 * 3)).toList = rqs (List.replicate 11 rq0) := by
  simp only [madeCells, Value.cells, rqs, rq0]
  rw [Array.toList_map, Array.toList_range]
  rfl
theorem Rqs.wide {w : World} {lo hi lo' hi' : Nat} {so : Option Addr} {L : List Rq} (h : Rqs w lo hi so L) (h1 : lo' ≤ lo) (h2 : hi ≤ hi') : Rqs w lo' hi' so L := by
  rcases h with h | ⟨g, o, ha, g1, g2, hc⟩
  · exact .inl h
  · exact .inr ⟨g, o, ha, by omega, by omega, fun i hi => ⟨(hc i hi).1, (hc i hi).2.wide h1 h2⟩⟩
/-- A list was drawn. -/
def JoQ (w : World) (e : Ending) (w' : World) : Prop :=
  ∃ (s : Option Addr) (c : Nat) (L : List Rq), e = .returned (.slice s L.length c) ∧ L.length ≤ 11 ∧ smR L ∧ Rqs w' w.heap.size w'.heap.size s L ∧ Below w.heap.size w w'

set_option maxRecDepth 100000 in
set_option maxHeartbeats 4000000 in
theorem drawJoin_any (w : World) (a : Option Addr) (len cap : Nat) (f : Nat → Int) (hB : Bytes w w.heap.size a len f) (hl : len ≤ 1048576) :
    Calls Try.prog 5 #[.slice a len cap] w (JoQ w) := by
  have S0 : Hid (Src (w.alloc (.cells #[.slice a len cap, .int .i64 0] 65)) w.heap.size w.heap.size a len cap f 0) := hideP
    ⟨by simp, Nat.le_refl _, by simp [go_sem], by simp [go_sem], by simp [go_sem], hB.stay (Nat.le_refl _) (Turn.of_below (b := w.heap.size) ((Below.refl _ _).alloc (Nat.le_refl _) _)) (Nat.le_refl _), hl⟩
  have T0 : Hid (Below w.heap.size w (w.alloc (.cells #[.slice a len cap, .int .i64 0] 65))) := hideP ((Below.refl _ _).alloc (Nat.le_refl _) _)
  have n0 : (w.alloc (.cells #[.slice a len cap, .int .i64 0] 65)).heap.size = w.heap.size + 1 := by simp
  clear hB
  go_enter Try.func5, Try.ntmps5
  go_wp2_with (first | (go_at_call 14; go_in))
  generalize w.alloc (.cells #[.slice a len cap, .int .i64 0] 65) = w1 at *
  have ka : Below w1.heap.size w1 (w1.alloc (.cells #[] 42)) := (Below.refl _ _).alloc (Nat.le_refl _) _
  refine Calls.mono (next_any _ _ _ a len cap f 0 5 (S0.out.grow ka) (by omega) (by omega) (by omega) (by omega)) ?_
  rintro e w2 ⟨x, rfl, x0, x1, ht, hs⟩
  have L2 : Hid (LinR w2 (w.heap.size + 1) (some ⟨w.heap.size + 1, 0, none⟩) 0 []) := hideP (by have h := (LinR.lit w1 (w.heap.size + 1) (by omega)).turn ht (by omega); rwa [n0] at h)
  have S2 := hideP hs
  have T2 := hideP (Turn.below (T0.out.trans (ka.mono (by omega))) (by omega) (by simp; omega) ht)
  have n2 : w.heap.size + 2 ≤ w2.heap.size := by have := ht.size; simp at this; omega
  obtain ⟨n, rfl⟩ : ∃ n : Nat, x = n := ⟨x.toNat, by omega⟩
  clear ht hs S0 T0 ka
  go_wp2
  go_loopw [4, 5] (fun o i wr => ∃ (j : Nat) (s : Option Addr) (c : Nat) (L : List Rq) (u : Int), j ≤ n ∧ i = .int .i64 ((n : Int) - (j : Nat)) ∧ o = .slice s L.length c ∧ LinR wr (w.heap.size + 1) s c L ∧ smR L ∧ L.length ≤ j ∧ Below w.heap.size w wr ∧ w.heap.size + 2 ≤ wr.heap.size ∧ 0 ≤ u ∧ u ≤ 1 + 20 * (j : Int) ∧ Src wr w.heap.size w.heap.size a len cap f u) (fun _ i _ => (intOf i).toNat)
  case atStart => exact ⟨0, _, 0, [], _, Nat.zero_le _, by simp, rfl, L2.out, fun r h => by simp at h, by simp, T2.out, n2, by omega, by omega, S2.out⟩
  case round =>
    obtain ⟨j, s, c, L, u, hj, rfl, rfl, hL, hsm, hLl, hK, hz, hu0, hu1, hS⟩ := hrel
    have HL := hideP hL
    have HSM := hideP hsm
    have HK := hideP hK
    have HSr := hideP hS
    clear hL hsm hK hS L2 T2 S2
    by_cases hlt2 : j < n
    · have hc : (0 : Int) < (n : Int) - (j : Int) := by omega
      go_wp2_with fail
      refine Calls.mono (draw3_any _ _ _ a len cap f _ 0 HSr.out (by omega) (by omega) (by omega) (by omega)) ?_
      rintro e w5 ⟨kd, ad, cd, A, bd, cbd, D, u5, rfl, hF, hD, T5, u0, u1, S5, -, -, OA, OD⟩
      have hz5 := T5.size
      have ka : Below w5.heap.size w5 (w5.alloc (.cells #[.int .i64 kd, .slice ad A.length cd, .slice bd D.length cbd] 42)) := (Below.refl _ _).alloc (Nat.le_refl _) _
      have L6 := hideP ((HL.out.turn T5 (by omega)).alloc (.cells #[.int .i64 kd, .slice ad A.length cd, .slice bd D.length cbd] 42))
      have K6 := hideP ((Turn.below HK.out (by omega) (by omega) T5).trans (ka.mono (by omega)))
      have S6 := hideP (S5.grow ka)
      have OA6 := hideP ((OA.le (base' := w.heap.size + 1) (by omega)).alloc (.cells #[.int .i64 kd, .slice ad A.length cd, .slice bd D.length cbd] 42))
      have OD6 := hideP ((OD.le (base' := w.heap.size + 1) (by omega)).alloc (.cells #[.int .i64 kd, .slice ad A.length cd, .slice bd D.length cbd] 42))
      have C6 : Hid ((⟨kd, ad, cd, A, bd, cbd, D⟩ : Rq).cells (w5.alloc (.cells #[.int .i64 kd, .slice ad A.length cd, .slice bd D.length cbd] 42)) w5.heap.size 0) := hideP ⟨by simp, by simp, by simp⟩
      have HB : Hid (A.length ≤ 8 ∧ D.length ≤ 25 ∧ byts D) := hideP (by have h := rF_lens hF; exact ⟨by omega, by omega, hD⟩)
      have n6 : (w5.alloc (.cells #[.int .i64 kd, .slice ad A.length cd, .slice bd D.length cbd] 42)).heap.size = w5.heap.size + 1 := by simp
      clear T5 S5 OA OD hF hD ka HL HK HSr
      go_wp2_with (first | (at_builtin; refine wpList_appRq rfl _ _ rfl (w.heap.size + 1) s c L rfl L6.out w5.heap.size 1 ⟨kd, ad, cd, A, bd, cbd, D⟩ rfl C6.out OA6.out OD6.out (by omega) (by omega) ?_; intro s7 c7 w7 L7 G7 K7; refine Hid.out ?_) | go_in)
      have HL7 := hideP L7
      have HK7 := hideP (K6.out.trans (K7.mono (by omega)))
      have HS7 := hideP (S6.out.below K7 (by omega))
      have n7 := K7.size
      clear L7 G7 K7 L6 K6 S6 OA6 OD6 C6
      refine hideP ?_
      go_wp2
      go_roundw
      case rel => exact ⟨j + 1, s7, c7, L ++ [⟨kd, ad, cd, A, bd, cbd, D⟩], u5, by omega, by go_num, by simp, HL7.out, smR_snoc HSM.out HB.out.1 HB.out.2.1 HB.out.2.2, by simp; omega, HK7.out, by omega, u0, by push_cast; omega, HS7.out⟩
      case measure => simp [intOf]; omega
    · have hnn : ¬ (0 : Int) < (n : Int) - (j : Nat) := by omega
      go_wp2_with fail
      refine Calls.mono (next_any _ _ _ a len cap f u 10 HSr.out (by omega) (by omega) (by omega) (by omega)) ?_
      rintro e w5 ⟨y, rfl, y0, y1, h5, S5⟩
      have n5 := h5.size
      have L5 := hideP (HL.out.turn h5 (by omega))
      have K5 := hideP (Turn.below HK.out (by omega) (by omega) h5)
      have HS5 := hideP S5
      clear h5 S5 HL HK HSr
      by_cases e0 : y = 0
      · subst e0
        go_wp2_with fail
        refine Calls.mono (bent3_any _ _ _ a len cap f _ HS5.out (by omega) (by omega)) ?_
        rintro e w6 ⟨kd, ad, cd, A, bd, cbd, D, u6, rfl, _, _, hA8, hD25, _, hD, T6, u60, u61, S6, OA, OD⟩
        have hz6 := T6.size
        have ka : Below w6.heap.size w6 (w6.alloc (.cells #[.int .i64 kd, .slice ad A.length cd, .slice bd D.length cbd] 42)) := (Below.refl _ _).alloc (Nat.le_refl _) _
        have L6 := hideP ((L5.out.turn T6 (by omega)).alloc (.cells #[.int .i64 kd, .slice ad A.length cd, .slice bd D.length cbd] 42))
        have K6 := hideP ((Turn.below K5.out (by omega) (by omega) T6).trans (ka.mono (by omega)))
        have OA6 := hideP ((OA.le (base' := w.heap.size + 1) (by omega)).alloc (.cells #[.int .i64 kd, .slice ad A.length cd, .slice bd D.length cbd] 42))
        have OD6 := hideP ((OD.le (base' := w.heap.size + 1) (by omega)).alloc (.cells #[.int .i64 kd, .slice ad A.length cd, .slice bd D.length cbd] 42))
        have C6 : Hid ((⟨kd, ad, cd, A, bd, cbd, D⟩ : Rq).cells (w6.alloc (.cells #[.int .i64 kd, .slice ad A.length cd, .slice bd D.length cbd] 42)) w6.heap.size 0) := hideP ⟨by simp, by simp, by simp⟩
        have HB : Hid (A.length ≤ 8 ∧ D.length ≤ 25 ∧ byts D) := hideP ⟨hA8, hD25, hD⟩
        have n6 : (w6.alloc (.cells #[.int .i64 kd, .slice ad A.length cd, .slice bd D.length cbd] 42)).heap.size = w6.heap.size + 1 := by simp
        clear T6 S6 OA OD hD hA8 hD25 ka L5 K5 HS5
        go_wp2_with (first | (at_builtin; refine wpList_appRq rfl _ _ rfl (w.heap.size + 1) s c L rfl L6.out w6.heap.size 1 ⟨kd, ad, cd, A, bd, cbd, D⟩ rfl C6.out OA6.out OD6.out (by omega) (by omega) ?_; intro s7 c7 w7 L7 G7 K7; refine Hid.out ?_) | go_in)
        have HL7 := hideP (L7.rqs.wide (lo' := w.heap.size) (by omega) (Nat.le_refl _))
        have HK7 := hideP (K6.out.trans (K7.mono (by omega)))
        clear L7 G7 K7 L6 K6 OA6 OD6 C6
        refine hideP ?_
        go_wp2
        go_returns
        exact ⟨s7, c7, L ++ [⟨kd, ad, cd, A, bd, cbd, D⟩], by simp, by simp; omega, smR_snoc HSM.out HB.out.1 HB.out.2.1 HB.out.2.2, HL7.out, HK7.out⟩
      · by_cases e1 : y = 1
        · subst e1
          clear e0
          obtain ⟨i0, hi0, hz0, hz1, hz2⟩ := info_parts Try.infoRq
          go_wp2_with (first | (at_make; refine wpList_make_full _ rfl _ _ 24 rfl (w.heap.size + 1) 42 i0 (.agg #[.int .i64 0, .slice none 0 0, .slice none 0 0]) 3 Try.underlying24 hi0 hz0 hz1 .i64 .i64 _ _ 11 rfl rfl rfl rfl (by rw [hz2]; omega) (by unfold maxLen; omega) (by omega) ?_; intro w6 hown6 hgrow6; refine Hid.out ?_) | go_in)
          have kk6 : Below w5.heap.size w5 w6 := (Below.refl _ w5).grown hgrow6 (Nat.le_refl _) (by simp)
          rw [made_rq0] at hown6
          have HL6 : Hid (LinR w6 (w.heap.size + 1) (some ⟨w5.heap.size, 0, none⟩) 11 (List.replicate 11 rq0)) := hideP ⟨by simpa using hown6, fun r m => by simp at m; subst m; exact OwnR.nil _ _ _ _, fun r m => by simp at m; subst m; exact OwnR.nil _ _ _ _⟩
          have HL7 := hideP (HL6.out.rqs.wide (lo' := w.heap.size) (by omega) (Nat.le_refl _))
          have HK7 := hideP (K5.out.trans (kk6.mono (by omega)))
          clear kk6 hown6 hgrow6 HL6 hi0 hz0 hz1 hz2 L5 K5 HS5
          refine hideP ?_
          go_wp2
          go_returns
          exact ⟨some ⟨w5.heap.size, 0, none⟩, 11, List.replicate 11 rq0, by simp, by simp, fun r m => (by simp at m; subst m; exact ⟨by simp [rq0], by simp [rq0], byts_nil⟩), HL7.out, HK7.out⟩
        · have e0' : (y == 0) = false := by simpa using e0
          have e1' : (y == 1) = false := by simpa using e1
          have HL7 := hideP (L5.out.rqs.wide (lo' := w.heap.size) (by omega) (Nat.le_refl _))
          clear L5 HS5
          go_wp2
          go_returns
          exact ⟨s, c, L, rfl, by omega, HSM.out, HL7.out, K5.out⟩
end Go.Proofs.Ytgjbjafodkiilaa
