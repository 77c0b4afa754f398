/- OwnOf, the program's and the model's; the model's DropOwn. -/
import Derived.Test.YtmbfnmgndablkaaId8
namespace Go.Proofs.Ytmbfnmgndablkaa
open Go.RowKit Go.Maps
set_option linter.unusedVariables false
attribute [local go_sem high] fI0 fI1

/-- The lists of OwnOf and DropOwn. -/
def owL (L : List Int) (s : Int) : List Int := if askF L s = 0 then ownL L s else []
def ofL (L : List Int) (s : Int) : List Int := if askF L s = 0 then offL L s else []
theorem owL_yes {L : List Int} {s : Int} (h : askF L s = 0) : owL L s = ownL L s := by unfold owL; rw [if_pos h]
theorem owL_no {L : List Int} {s : Int} (h : ¬ askF L s = 0) : owL L s = [] := by unfold owL; rw [if_neg h]
theorem ofL_yes {L : List Int} {s : Int} (h : askF L s = 0) : ofL L s = offL L s := by unfold ofL; rw [if_pos h]
theorem ofL_no {L : List Int} {s : Int} (h : ¬ askF L s = 0) : ofL L s = [] := by unfold ofL; rw [if_neg h]
theorem owL_len (L : List Int) (s : Int) : (owL L s).length ≤ L.length := by
  unfold owL; split
  · exact ownL_len _ _
  · simp
theorem ofL_len (L : List Int) (s : Int) : (ofL L s).length ≤ L.length := by
  unfold ofL; split
  · exact offL_len _ _
  · simp

/-- What OwnOf and DropOwn answer: a code, and a list in memory of its own. -/
def IsS (w : World) (c : Int) (M : List Int) (e : Ending) (w' : World) : Prop :=
  ∃ ao' cap', e = .returned (.agg #[.int .i64 c, .slice ao' M.length cap']) ∧ OwnR .i64 2 w' w.heap.size ao' cap' M ∧ Below w.heap.size w w'

set_option maxHeartbeats 800000 in
theorem iOwnOf_any (lo hi : Nat) (ao : Option Addr) (ca : Nat) (L : List Int) (s : Int) (w : World) (ha : Row .i64 w lo hi ao L) (hs : hi ≤ w.heap.size) (hl : L.length ≤ 1048576) :
    Calls Try.prog 12 #[.slice ao L.length ca, .int .i64 s] w (IsS w (askF L s) (owL L s)) := by
  by_cases h0 : askF L s = 0
  · rw [owL_yes h0]
    have C := hideP (fun w1 (k : Below w.heap.size w w1) => names_yes (iFor_any lo hi ao ca L s w1 (ha.keep k hs) (Nat.le_trans hs k.size) hl) h0)
    have X := hideP (fun w1 (k : Below w.heap.size w w1) => iOwnIds_any lo hi ao ca L s w1 (ha.keep k hs) (Nat.le_trans hs k.size) hl)
    rw [h0]
    clear ha h0
    generalize ownL L s = M at *
    go_enter Try.func12, Try.ntmps12
    go_wp2_with (first | (go_at_call 33; refine Calls.mono (C.out _ (by go_grown)) ?_; rintro e w1 ⟨rfl, k1, l1, n1⟩; have K1 := hideP (Below.trans (by go_grown : Below w.heap.size w _) (k1.mono (by simp))); have RB : Hid (Rb w1 w.heap.size (.int .i64 0) (.slice none 0 0)) := Rb.keep ⟨by simp, by simp, by simp, by simp, by simp⟩ k1 (by simp); have h1 : w.heap.size < w1.heap.size := RB.out.lt; clear k1 n1 l1) | (go_at_call 35; refine Calls.mono (X.out _ K1.out) ?_; rintro e w2 ⟨ao2, ca2, rfl, O2, k2⟩; have K2 := hideP (K1.out.trans (k2.mono (by omega))); obtain ⟨c0, c1, f0, f1, lt0⟩ := RB.out.keep k2 h1; have HO2 := hideP O2; clear k2 O2))
    refine bodyPost_ret (v := .agg #[.int .i64 0, .slice ao2 M.length ca2]) (by simp [results, Try.results12, go_sem, *]) rfl ⟨ao2, ca2, rfl, ?_, ?_⟩
    · exact ((HO2.out.set _ _ h1).set _ _ h1).le (by omega)
    · repeat' (first | exact K2.out | (with_reducible refine Below.setCell ?_ ?_ _) | go_size)
  · rw [owL_no h0]
    have C := hideP (fun w1 (k : Below w.heap.size w w1) => names_no (iFor_any lo hi ao ca L s w1 (ha.keep k hs) (Nat.le_trans hs k.size) hl) h0)
    clear ha
    generalize askF L s = c at *
    have hb : (c == 0) = false := by simpa using h0
    go_enter Try.func12, Try.ntmps12
    go_wp2_with (go_at_call 33; refine Calls.mono (C.out _ (by go_grown)) ?_; rintro e w1 ⟨rfl, k1⟩; have K1 := hideP (Below.trans (by go_grown : Below w.heap.size w _) (k1.mono (by simp))); obtain ⟨c0, c1, f0, f1, lt0⟩ : Rb w1 w.heap.size (.int .i64 0) (.slice none 0 0) := Rb.keep ⟨by simp, by simp, by simp, by simp, by simp⟩ k1 (by simp); clear k1)
    refine bodyPost_ret (v := .agg #[.int .i64 c, .slice none 0 0]) (by simp [results, Try.results12, go_sem, *]) rfl ⟨none, 0, rfl, OwnR.nil _ _ _ _, ?_⟩
    repeat' (first | exact K1.out | (with_reducible refine Below.setCell ?_ ?_ _) | go_size)

set_option maxHeartbeats 800000 in
theorem sOwnOf_any (lo hi : Nat) (ao : Option Addr) (ca : Nat) (L : List Int) (s : Int) (w : World) (ha : Row .i64 w lo hi ao L) (hs : hi ≤ w.heap.size) (hl : L.length ≤ 1048576) (hca : L.length ≤ ca) :
    Calls Try.prog 17 #[.slice ao L.length ca, .int .i64 s] w (IsS w (askF L s) (owL L s)) := by
  have C := hideP (fun w1 (k : Below w.heap.size w w1) => sAsk_any lo hi ao ca L s w1 (ha.keep k hs) (Nat.le_trans hs k.size) hl hca)
  by_cases h0 : askF L s = 0
  · rw [owL_yes h0]
    have X := hideP (fun w1 (k : Below w.heap.size w w1) => sOwn_true lo hi ao ca L s w1 (ha.keep k hs) (Nat.le_trans hs k.size) hl (idsF_ok (askF_ok h0).1).1)
    rw [h0] at C ⊢
    clear ha h0
    generalize ownL L s = M at *
    go_enter Try.func17, Try.ntmps17
    go_wp2_with (first | (go_at_call 38; refine Calls.mono (C.out _ (by go_grown)) ?_; rintro e w1 ⟨rfl, k1⟩; have K1 := hideP (Below.trans (by go_grown : Below w.heap.size w _) (k1.mono (by simp))); have RB : Hid (Rb w1 w.heap.size (.int .i64 0) (.slice none 0 0)) := Rb.keep ⟨by simp, by simp, by simp, by simp, by simp⟩ k1 (by simp); have h1 : w.heap.size < w1.heap.size := RB.out.lt; clear k1) | (go_at_call 39; refine Calls.mono (X.out _ K1.out) ?_; rintro e w2 ⟨ao2, ca2, rfl, O2, k2⟩; have K2 := hideP (K1.out.trans (k2.mono (by omega))); obtain ⟨c0, c1, f0, f1, lt0⟩ := RB.out.keep k2 h1; have HO2 := hideP O2; clear k2 O2))
    refine bodyPost_ret (v := .agg #[.int .i64 0, .slice ao2 M.length ca2]) (by simp [results, Try.results17, go_sem, *]) rfl ⟨ao2, ca2, rfl, ?_, ?_⟩
    · exact ((HO2.out.set _ _ h1).set _ _ h1).le (by omega)
    · repeat' (first | exact K2.out | (with_reducible refine Below.setCell ?_ ?_ _) | go_size)
  · rw [owL_no h0]
    clear ha
    generalize askF L s = c at *
    have hb : (c == 0) = false := by simpa using h0
    go_enter Try.func17, Try.ntmps17
    go_wp2_with (go_at_call 38; refine Calls.mono (C.out _ (by go_grown)) ?_; rintro e w1 ⟨rfl, k1⟩; have K1 := hideP (Below.trans (by go_grown : Below w.heap.size w _) (k1.mono (by simp))); obtain ⟨c0, c1, f0, f1, lt0⟩ : Rb w1 w.heap.size (.int .i64 0) (.slice none 0 0) := Rb.keep ⟨by simp, by simp, by simp, by simp, by simp⟩ k1 (by simp); clear k1)
    refine bodyPost_ret (v := .agg #[.int .i64 c, .slice none 0 0]) (by simp [results, Try.results17, go_sem, *]) rfl ⟨none, 0, rfl, OwnR.nil _ _ _ _, ?_⟩
    repeat' (first | exact K1.out | (with_reducible refine Below.setCell ?_ ?_ _) | go_size)

set_option maxHeartbeats 800000 in
theorem sDropOwn_any (lo hi : Nat) (ao : Option Addr) (ca : Nat) (L : List Int) (s : Int) (w : World) (ha : Row .i64 w lo hi ao L) (hs : hi ≤ w.heap.size) (hl : L.length ≤ 1048576) (hca : L.length ≤ ca) :
    Calls Try.prog 19 #[.slice ao L.length ca, .int .i64 s] w (IsS w (askF L s) (ofL L s)) := by
  have C := hideP (fun w1 (k : Below w.heap.size w w1) => sAsk_any lo hi ao ca L s w1 (ha.keep k hs) (Nat.le_trans hs k.size) hl hca)
  by_cases h0 : askF L s = 0
  · rw [ofL_yes h0]
    have X := hideP (fun w1 (k : Below w.heap.size w w1) => sOwn_false lo hi ao ca L s w1 (ha.keep k hs) (Nat.le_trans hs k.size) hl (idsF_ok (askF_ok h0).1).1)
    rw [h0] at C ⊢
    clear ha h0
    generalize offL L s = M at *
    go_enter Try.func19, Try.ntmps19
    go_wp2_with (first | (go_at_call 38; refine Calls.mono (C.out _ (by go_grown)) ?_; rintro e w1 ⟨rfl, k1⟩; have K1 := hideP (Below.trans (by go_grown : Below w.heap.size w _) (k1.mono (by simp))); have RB : Hid (Rb w1 w.heap.size (.int .i64 0) (.slice none 0 0)) := Rb.keep ⟨by simp, by simp, by simp, by simp, by simp⟩ k1 (by simp); have h1 : w.heap.size < w1.heap.size := RB.out.lt; clear k1) | (go_at_call 39; refine Calls.mono (X.out _ K1.out) ?_; rintro e w2 ⟨ao2, ca2, rfl, O2, k2⟩; have K2 := hideP (K1.out.trans (k2.mono (by omega))); obtain ⟨c0, c1, f0, f1, lt0⟩ := RB.out.keep k2 h1; have HO2 := hideP O2; clear k2 O2))
    refine bodyPost_ret (v := .agg #[.int .i64 0, .slice ao2 M.length ca2]) (by simp [results, Try.results19, go_sem, *]) rfl ⟨ao2, ca2, rfl, ?_, ?_⟩
    · exact ((HO2.out.set _ _ h1).set _ _ h1).le (by omega)
    · repeat' (first | exact K2.out | (with_reducible refine Below.setCell ?_ ?_ _) | go_size)
  · rw [ofL_no h0]
    clear ha
    generalize askF L s = c at *
    have hb : (c == 0) = false := by simpa using h0
    go_enter Try.func19, Try.ntmps19
    go_wp2_with (go_at_call 38; refine Calls.mono (C.out _ (by go_grown)) ?_; rintro e w1 ⟨rfl, k1⟩; have K1 := hideP (Below.trans (by go_grown : Below w.heap.size w _) (k1.mono (by simp))); obtain ⟨c0, c1, f0, f1, lt0⟩ : Rb w1 w.heap.size (.int .i64 0) (.slice none 0 0) := Rb.keep ⟨by simp, by simp, by simp, by simp, by simp⟩ k1 (by simp); clear k1)
    refine bodyPost_ret (v := .agg #[.int .i64 c, .slice none 0 0]) (by simp [results, Try.results19, go_sem, *]) rfl ⟨none, 0, rfl, OwnR.nil _ _ _ _, ?_⟩
    repeat' (first | exact K1.out | (with_reducible refine Below.setCell ?_ ?_ _) | go_size)
end Go.Proofs.Ytmbfnmgndablkaa
