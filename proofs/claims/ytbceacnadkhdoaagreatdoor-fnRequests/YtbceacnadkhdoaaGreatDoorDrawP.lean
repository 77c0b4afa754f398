/- What FnRequests draws: a number, a request, a body. -/
import Derived.Test.YtbceacnadkhdoaaGreatDoorDrawB
import Derived.Test.YtbceacnadkhdoaaGreatDoorPck3
namespace Go.Proofs.YtbceacnadkhdoaaGreatDoor
open Go.RowKit
set_option linter.unusedVariables false
attribute [local go_sem high] sl_from sl_upto

theorem Src.newP (w W : World) (b : Nat) (a : Option Addr) (len cap : Nat) (f : Nat → Int) (T : TypeId) (hB : Bytes w w.heap.size a len f) (hl : len ≤ 1048576) (hW : Below w.heap.size w W) (hb : b = W.heap.size) :
    Src (W.alloc (.cells #[.slice a len cap, .int .i64 0] T)) w.heap.size b a len cap f 0 := by
  subst hb
  exact ⟨by simp, hW.size, by simp [go_sem], by simp [go_sem], by simp [go_sem], hB.stay (Nat.le_refl _) (Turn.of_below (b := w.heap.size) (hW.alloc hW.size _)) (Nat.le_refl _), hl⟩

set_option maxHeartbeats 800000 in
theorem drawArgs_any (w : World) (a : Option Addr) (len cap : Nat) (f : Nat → Int) (hB : Bytes w w.heap.size a len f) (hl : len ≤ 1048576) :
    Calls Tryz.prog 9 #[.slice a len cap] w fun e w' => ∃ k : Int, e = .returned (.int .i64 k) ∧ -1 ≤ k ∧ k ≤ 14 ∧ Below w.heap.size w w' := by
  have S0 := hideP (Src.newP w w w.heap.size a len cap f 73 hB hl (Below.refl _ _) rfl)
  clear hB
  go_enter Tryz.func9, Tryz.ntmps9
  go_wp2_with (first | (go_at_call 21; go_in))
  refine Calls.mono (next_any _ _ _ _ _ _ _ _ 16 S0.out (by omega) (by omega) (by omega) (by omega)) ?_
  rintro e w1 ⟨x, rfl, x0, x1, ht, hs⟩
  have K1 : Hid (Below w.heap.size w w1) := hideP (Turn.below ((Below.refl _ w).alloc (Nat.le_refl _) _) (Nat.le_refl _) (by simp) ht)
  clear ht hs S0
  go_wp2
  go_returns
  exact ⟨x - 1, rfl, by omega, by omega, K1.out⟩

/-- A request was drawn. -/
def PackQ (w : World) (e : Ending) (w' : World) : Prop :=
  ∃ (k : Int) (ao : Option Addr) (ca : Nat) (A : List Int) (bo : Option Addr) (cb : Nat) (D : List Int), e = .returned (.agg #[.int .i64 k, .slice ao A.length ca, .slice bo D.length cb]) ∧ 0 ≤ k ∧ k ≤ 14 ∧ A.length ≤ 8 ∧ D.length ≤ 25 ∧ (∀ x ∈ A, -1 ≤ x ∧ x ≤ 256) ∧ byts D ∧ Below w.heap.size w w' ∧ Row .i64 w' w.heap.size w'.heap.size ao A ∧ Row .u8 w' w.heap.size w'.heap.size bo D

set_option maxRecDepth 100000 in
set_option maxHeartbeats 1000000 in
theorem drawPack_any (w : World) (a : Option Addr) (len cap : Nat) (f : Nat → Int) (hB : Bytes w w.heap.size a len f) (hl : len ≤ 1048576) :
    Calls Tryz.prog 17 #[.slice a len cap] w (PackQ w) := by
  have hsz : Below w.heap.size w (w.alloc (.cells #[.int .i64 0, .slice none 0 0, .slice none 0 0] 27)) := (Below.refl _ _).alloc (Nat.le_refl _) _
  have S0 := hideP (Src.newP w _ (w.heap.size + 1) a len cap f 73 hB hl hsz (by simp))
  have K0 := hideP (hsz.alloc (by simp) (.cells #[.slice a len cap, .int .i64 0] 73))
  clear hB hsz
  go_enter Tryz.func17, Tryz.ntmps17
  go_wp2_with (first | (go_at_call 21; go_in))
  refine Calls.mono (bent3_any _ _ _ a len cap f 0 S0.out (by omega) (by omega)) ?_
  rintro e w1 ⟨k, ao, ca, A, bo, cb, D, u, rfl, k0, k1, hA, hD, hAb, hDb, T1, u0, u1, S1, OA, OD⟩
  have R1 : R3 w1 w.heap.size (.int .i64 0) (.slice none 0 0) (.slice none 0 0) := R3.turn ⟨by simp, by simp, by simp, by simp, by simp, by simp, by simp; omega⟩ T1 (by omega)
  have K1 := hideP (Turn.below K0.out (by omega) (by simp; omega) T1)
  have n1 := T1.size
  simp only [World.size_alloc] at n1
  have OA' := hideP OA
  have OD' := hideP OD
  have HAb := hideP hAb
  have HDb := hideP hDb
  clear T1 S1 OA OD hAb hDb S0 K0
  obtain ⟨a0, a1, a2, a3, a4, a5, a6⟩ := R1
  go_wp2
  have hb : w.heap.size < ((w.alloc (.cells #[.int .i64 0, .slice none 0 0, .slice none 0 0] 27)).alloc (.cells #[.slice a len cap, .int .i64 0] 73)).heap.size := by simp; omega
  refine bodyPost_ret (v := .agg #[.int .i64 k, .slice ao A.length ca, .slice bo D.length cb]) (by simp [results, Tryz.results17, go_sem, *]) rfl ⟨k, ao, ca, A, bo, cb, D, rfl, k0, k1, hA, hD, HAb.out, HDb.out, ?_, ?_, ?_⟩
  · exact ((K1.out.setCell (Nat.le_refl _) _).setCell (Nat.le_refl _) _).setCell (Nat.le_refl _) _
  · exact (((OA'.out.set ⟨w.heap.size, 0, none⟩ _ hb).set ⟨w.heap.size, 1, none⟩ _ hb).set ⟨w.heap.size, 2, none⟩ _ hb).wrt.row.wide (by omega) (Nat.le_refl _)
  · exact (((OD'.out.set ⟨w.heap.size, 0, none⟩ _ hb).set ⟨w.heap.size, 1, none⟩ _ hb).set ⟨w.heap.size, 2, none⟩ _ hb).wrt.row.wide (by omega) (Nat.le_refl _)

end Go.Proofs.YtbceacnadkhdoaaGreatDoor
