/- ParseLabel of the model at every text, and the law's walk. -/
import Derived.Test.YtmnekheaggleaaaDoorPrs2
namespace Go.Proofs.YtmnekheaggleaaaDoor
open Go.RowKit
set_option linter.unusedVariables false

set_option maxHeartbeats 400000 in
theorem of_any (c : Int) (w : World) (h0 : 0 ≤ c) (h1 : c ≤ 63) : Calls Tryd.prog 26 #[.int .i64 c] w fun e w' => e = .returned (.agg #[.int .i64 (c / 16), .int .i64 (c % 16)]) ∧ Below w.heap.size w w' := by
  go_enter Tryd.func26, Tryd.ntmps26
  go_wp2
  go_returns
  exact ⟨rfl, by go_grown⟩

set_option maxHeartbeats 400000 in
theorem coded_yes (c : Int) (w : World) (h0 : 0 ≤ c) (h1 : c ≤ 63) : Calls Tryd.prog 29 #[.int .i64 c] w fun e w' => e = .returned (.bool true) ∧ w = w' := by
  go_enter Tryd.func29, Tryd.ntmps29
  go_wp2
  go_returns
  exact ⟨rfl, rfl⟩
set_option maxHeartbeats 400000 in
theorem coded_no (c : Int) (w : World) (h0 : 0 ≤ c) (h1 : 63 < c) : Calls Tryd.prog 29 #[.int .i64 c] w fun e w' => e = .returned (.bool false) ∧ w = w' := by
  have b1 : decide (c ≤ 63) = false := by simp; omega
  go_enter Tryd.func29, Tryd.ntmps29
  go_wp2
  go_returns
  exact ⟨rfl, rfl⟩

/-- The first code whose text it is, or -1. -/
def pc (L : List UInt8) : Int := match (List.range 64).find? fun c => txB c == L with
  | some c => (c : Int)
  | none => -1

theorem txB_str (c : Nat) : (strOfNums (tx ((c : Int) / 16) ((c : Int) % 16) 4)).toList = txB c := by
  rw [ByteArray.toList_eq]; rfl

theorem find_first {f : Nat → Bool} {n k : Nat} (hk : k < n) (h : ∀ j, j < k → f j = false) (hf : f k = true) : (List.range n).find? f = some k := by
  rw [List.find?_eq_some_iff_append]
  refine ⟨hf, List.range k, (List.range (n - k - 1)).map (· + (k + 1)), ?_, fun a ha => by simp [h a (by simpa using ha)]⟩
  apply List.ext_getElem
  · simp; omega
  · intro i h1 h2
    simp [List.getElem_append, List.getElem_cons]
    split <;> (intro hki; omega)
theorem no_upto {f : Nat → Bool} {k : Nat} (h : ∀ j, j < k → f j = false) (hk : f k = false) (j : Nat) (hj : j < k + 1) : f j = false := by
  by_cases e : j = k
  · rw [e]; exact hk
  · exact h j (by omega)
theorem pc_hit {L : List UInt8} {k : Nat} (hk : k < 64) (h : ∀ j, j < k → (txB j == L) = false) (hf : (txB k == L) = true) : pc L = (k : Int) := by
  unfold pc; rw [find_first hk h hf]
theorem pc_miss {L : List UInt8} (h : ∀ j, j < 64 → (txB j == L) = false) : pc L = -1 := by
  unfold pc
  have : ((List.range 64).find? fun c => txB c == L) = none := by
    rw [List.find?_eq_none]; intro x hx; simp [h x (by simpa using hx)]
  rw [this]

set_option maxHeartbeats 2000000 in
theorem pc_any (s : ByteArray) (w : World) :
    Calls Tryd.prog 25 #[.string s] w fun e w' => e = .returned (.int .i64 (pc s.data.toList)) ∧ Below w.heap.size w w' := by
  go_enter Tryd.func25, Tryd.ntmps25
  go_wp2
  go_loopw [3] (fun c wr => ∃ k : Nat, k ≤ 64 ∧ c = .int .i64 k ∧ (∀ j, j < k → (txB j == s.data.toList) = false) ∧ Below w.heap.size w wr) (fun c _ => 64 - (intOf c).toNat)
  case atStart => exact ⟨0, by omega, rfl, fun j hj => by omega, Below.refl _ _⟩
  case round =>
    obtain ⟨k, hk, rfl, hno, hb⟩ := hrel
    have HN := hideP hno
    have HB := hideP hb
    clear hno hb
    by_cases h64 : k < 64
    · have k0 : (0 : Int) ≤ (k : Int) := by omega
      have k1' : (k : Int) ≤ 63 := by omega
      have hv : fltB ((k : Int) / 16) ((k : Int) % 16) = false := by unfold fltB; simp; omega
      cases hq : (txB k == s.data.toList)
      · have hq2 : ((strOfNums (tx ((k : Int) / 16) ((k : Int) % 16) 4)).toList == s.toList) = false := by rw [txB_str, ByteArray.toList_eq]; exact hq
        have HQ := hideP hq
        clear hq
        go_wp2_with fail
        refine Calls.mono (coded_yes _ _ k0 k1') ?_
        rintro e w0 ⟨rfl, rfl⟩
        go_wp2_with fail
        refine Calls.mono (of_any _ _ k0 k1') ?_
        rintro e w2 ⟨rfl, k2⟩
        go_wp2_with fail
        refine Calls.mono (text_any _ _ _ hv) ?_
        rintro e w3 ⟨rfl, k3⟩
        have HK := hideP (kept_join k2 k3)
        clear k2 k3
        go_wp2
        go_roundw
        case rel => exact ⟨k + 1, by omega, by go_num, fun j hj => no_upto (f := fun j => txB j == s.data.toList) HN.out HQ.out j hj, HB.out.trans (HK.out.mono HB.out.size)⟩
        case measure => simp [intOf]; omega
      · have hq2 : ((strOfNums (tx ((k : Int) / 16) ((k : Int) % 16) 4)).toList == s.toList) = true := by rw [txB_str, ByteArray.toList_eq]; exact hq
        have HP := hideP (pc_hit h64 HN.out hq)
        clear hq
        go_wp2_with fail
        refine Calls.mono (coded_yes _ _ k0 k1') ?_
        rintro e w0 ⟨rfl, rfl⟩
        go_wp2_with fail
        refine Calls.mono (of_any _ _ k0 k1') ?_
        rintro e w2 ⟨rfl, k2⟩
        go_wp2_with fail
        refine Calls.mono (text_any _ _ _ hv) ?_
        rintro e w3 ⟨rfl, k3⟩
        have HK := hideP (kept_join k2 k3)
        clear k2 k3
        go_wp2
        go_returns
        refine ⟨?_, HB.out.trans (HK.out.mono HB.out.size)⟩
        rw [HP.out]; rfl
    · have hk64 : k = 64 := by omega
      subst hk64
      have HP := hideP (pc_miss HN.out)
      go_wp2_with fail
      refine Calls.mono (coded_no _ _ (by omega) (by omega)) ?_
      rintro e w0 ⟨rfl, rfl⟩
      go_wp2
      go_returns
      refine ⟨?_, HB.out⟩
      rw [HP.out]; rfl

theorem pc_lt (L : List UInt8) : pc L = -1 ∨ (0 ≤ pc L ∧ pc L ≤ 63) := by
  unfold pc
  split
  · rename_i c hc
    have : c < 64 := by simpa using List.mem_of_find?_eq_some hc
    right; omega
  · left; rfl
theorem sp_pc (L : List UInt8) : spL L = if pc L < 0 then (5, 0, 0) else (0, pc L / 16, pc L % 16) := by
  unfold spL pc
  cases h : (List.range 64).find? fun c => txB c == L with
  | none => rfl
  | some c => simp only; rw [if_neg (by omega)]

set_option maxHeartbeats 1000000 in
theorem sp_no (s : ByteArray) (w : World) (h : pc s.data.toList = -1) :
    Calls Tryd.prog 9 #[.string s] w fun e w' => e = .returned (.agg #[.int .i64 5, .int .i64 0, .int .i64 0]) ∧ Below w.heap.size w w' := by
  go_enter Tryd.func9, Tryd.ntmps9
  go_wp2_with (first | (go_at_call 25; refine Calls.mono (pc_any _ _) ?_; (all_goals try (first | (with_reducible assumption) | omega)); rintro e w1 ⟨rfl, k1⟩; (try replace k1 := kept_join (by assumption) k1); have hc1 := Kept.cell k1; have hf1 := Kept.frozen k1; have hz1 := k1.size; (try simp only [World.size_alloc] at hz1); (try simp only [World.size_setCell] at hz1); (try simp only [World.size_drew] at hz1); (try (first | have hs1 := sz12 hz1 | have hs1 := sz11 hz1 | have hs1 := sz10 hz1 | have hs1 := sz9 hz1 | have hs1 := sz8 hz1 | have hs1 := sz7 hz1 | have hs1 := sz6 hz1 | have hs1 := sz5 hz1 | have hs1 := sz4 hz1 | have hs1 := sz3 hz1 | have hs1 := sz2 hz1 | have hs1 := sz1 hz1))))
  refine bodyPost_ret (v := .agg #[.int .i64 5, .int .i64 0, .int .i64 0]) (by simp [results, Tryd.results9, go_sem, *]) rfl ⟨rfl, ?_⟩
  repeat' (first | (with_reducible exact Below.refl _ _) | (with_reducible refine kept_below ?_ (by assumption) ?_) | (with_reducible refine Below.alloc ?_ ?_ _) | (with_reducible refine Below.drew ?_) | (with_reducible refine Below.setCell ?_ ?_ _) | go_size)

set_option maxHeartbeats 1000000 in
theorem sp_yes (s : ByteArray) (w : World) (c : Int) (h : pc s.data.toList = c) (h0 : 0 ≤ c) (h1 : c ≤ 63) :
    Calls Tryd.prog 9 #[.string s] w fun e w' => e = .returned (.agg #[.int .i64 0, .int .i64 (c / 16), .int .i64 (c % 16)]) ∧ Below w.heap.size w w' := by
  go_enter Tryd.func9, Tryd.ntmps9
  go_wp2_with (first | (go_at_call 25; refine Calls.mono (pc_any _ _) ?_; (all_goals try (first | (with_reducible assumption) | omega)); rintro e w1 ⟨rfl, k1⟩; (try replace k1 := kept_join (by assumption) k1); have hc1 := Kept.cell k1; have hf1 := Kept.frozen k1; have hz1 := k1.size; (try simp only [World.size_alloc] at hz1); (try simp only [World.size_setCell] at hz1); (try simp only [World.size_drew] at hz1); (try (first | have hs1 := sz12 hz1 | have hs1 := sz11 hz1 | have hs1 := sz10 hz1 | have hs1 := sz9 hz1 | have hs1 := sz8 hz1 | have hs1 := sz7 hz1 | have hs1 := sz6 hz1 | have hs1 := sz5 hz1 | have hs1 := sz4 hz1 | have hs1 := sz3 hz1 | have hs1 := sz2 hz1 | have hs1 := sz1 hz1))) | (go_at_call 26; refine Calls.mono (of_any _ _ ?_ ?_) ?_; (all_goals try (first | (with_reducible assumption) | omega)); rintro e w1 ⟨rfl, k1⟩; (try replace k1 := kept_join (by assumption) k1); have hc1 := Kept.cell k1; have hf1 := Kept.frozen k1; have hz1 := k1.size; (try simp only [World.size_alloc] at hz1); (try simp only [World.size_setCell] at hz1); (try simp only [World.size_drew] at hz1); (try (first | have hs1 := sz12 hz1 | have hs1 := sz11 hz1 | have hs1 := sz10 hz1 | have hs1 := sz9 hz1 | have hs1 := sz8 hz1 | have hs1 := sz7 hz1 | have hs1 := sz6 hz1 | have hs1 := sz5 hz1 | have hs1 := sz4 hz1 | have hs1 := sz3 hz1 | have hs1 := sz2 hz1 | have hs1 := sz1 hz1))))
  refine bodyPost_ret (v := .agg #[.int .i64 0, .int .i64 (c / 16), .int .i64 (c % 16)]) (by simp [results, Tryd.results9, go_sem, *]) rfl ⟨rfl, ?_⟩
  repeat' (first | (with_reducible exact Below.refl _ _) | (with_reducible refine kept_below ?_ (by assumption) ?_) | (with_reducible refine Below.alloc ?_ ?_ _) | (with_reducible refine Below.drew ?_) | (with_reducible refine Below.setCell ?_ ?_ _) | go_size)

theorem sp_any (s : ByteArray) (w : World) :
    Calls Tryd.prog 9 #[.string s] w fun e w' => e = .returned (.agg #[.int .i64 (ipL s.data.toList).1, .int .i64 (ipL s.data.toList).2.1, .int .i64 (ipL s.data.toList).2.2]) ∧ Below w.heap.size w w' := by
  rw [ip_sp, sp_pc]
  rcases pc_lt s.data.toList with h | ⟨h0, h1⟩
  · rw [if_pos (by omega)]; exact sp_no s w h
  · rw [if_neg (by omega)]; exact sp_yes s w _ rfl h0 h1

end Go.Proofs.YtmnekheaggleaaaDoor
