/- Requests: how great, whether two are the same; RequestFault of the model, and the law's walk. -/
import Derived.Test.YtbceacnadkhdoabDoorSz
import Derived.Test.YtbceacnadkhdoabDoorReq1
import Derived.Test.YtbceacnadkhdoabDoorReq3
import Derived.Test.YtbceacnadkhdoabDoorReq4
namespace Go.Proofs.YtbceacnadkhdoabDoor
open Go.RowKit
set_option linter.unusedVariables false

set_option maxHeartbeats 800000 in
theorem szR_big (k : Int) (ao bo : Option Addr) (na ca nd cb : Nat) (l : Int) (w : World) (hn : na ≤ maxLen) (hd : nd ≤ maxLen) (h0 : 0 ≤ l) (h1 : l ≤ 1048576) (h : l < (na : Int) + nd) :
    Calls Tryd.prog 4 #[.agg #[.int .i64 k, .slice ao na ca, .slice bo nd cb], .int .i64 l] w fun e w' => e = .returned (.int .i64 (-1)) ∧ Below w.heap.size w w' := by
  by_cases ha : (na : Int) ≤ l
  · have HV := hideP (szV_yes ha)
    have HW := hideP (szV_no (l := l - na) (n := nd) (by omega))
    have hp : ¬ l - (na : Int) < 0 := by omega
    have hp0 : 0 ≤ l - (na : Int) := by omega
    have hp1 : l - (na : Int) ≤ 1048576 := by omega
    go_enter Tryd.func4, Tryd.ntmps4
    go_wp2_with fail
    refine Calls.mono (szI_any ao na ca l _ hn h0 h1) ?_
    rintro e w1 ⟨rfl, rfl⟩
    rw [HV.out]
    go_wp2_with fail
    refine Calls.mono (szB_any bo nd cb _ _ hd hp0 hp1) ?_
    rintro e w1 ⟨rfl, rfl⟩
    rw [HW.out]
    go_wp2
    go_returns
    exact ⟨rfl, by go_grown⟩
  · have HV := hideP (szV_no (l := l) (n := na) (by omega))
    go_enter Tryd.func4, Tryd.ntmps4
    go_wp2_with fail
    refine Calls.mono (szI_any ao na ca l _ hn h0 h1) ?_
    rintro e w1 ⟨rfl, rfl⟩
    rw [HV.out]
    go_wp2
    go_returns
    exact ⟨rfl, by go_grown⟩

set_option maxHeartbeats 800000 in
theorem szR_small (k : Int) (ao bo : Option Addr) (na ca nd cb : Nat) (l : Int) (w : World) (hn : na ≤ maxLen) (hd : nd ≤ maxLen) (h0 : 0 ≤ l) (h1 : l ≤ 1048576) (h : (na : Int) + nd ≤ l) :
    Calls Tryd.prog 4 #[.agg #[.int .i64 k, .slice ao na ca, .slice bo nd cb], .int .i64 l] w fun e w' => e = .returned (.int .i64 (l - na - nd)) ∧ Below w.heap.size w w' := by
  have HV := hideP (szV_yes (l := l) (n := na) (by omega))
  have HW := hideP (szV_yes (l := l - na) (n := nd) (by omega))
  have hp0 : 0 ≤ l - (na : Int) := by omega
  have hp1 : l - (na : Int) ≤ 1048576 := by omega
  have hq0 : 0 ≤ l - (na : Int) - (nd : Int) := by omega
  go_enter Tryd.func4, Tryd.ntmps4
  go_wp2_with fail
  refine Calls.mono (szI_any ao na ca l _ hn h0 h1) ?_
  rintro e w1 ⟨rfl, rfl⟩
  rw [HV.out]
  go_wp2_with fail
  refine Calls.mono (szB_any bo nd cb _ _ hd hp0 hp1) ?_
  rintro e w1 ⟨rfl, rfl⟩
  rw [HW.out]
  go_wp2
  go_returns
  exact ⟨rfl, by go_grown⟩

set_option maxHeartbeats 800000 in
theorem eqR_same (lo hi lo2 hi2 : Nat) (k : Int) (ao bo ao2 bo2 : Option Addr) (ca cb ca2 cb2 : Nat) (A D : List Int) (w : World) (ha : Row .i64 w lo hi ao A) (hd : Row .u8 w lo hi bo D) (ha2 : Row .i64 w lo2 hi2 ao2 A) (hd2 : Row .u8 w lo2 hi2 bo2 D)
    (h1 : hi ≤ w.heap.size) (h2 : hi2 ≤ w.heap.size) (hA : A.length ≤ 1048576) (hD : D.length ≤ 1048576) :
    Calls Tryd.prog 9 #[.agg #[.int .i64 k, .slice ao A.length ca, .slice bo D.length cb], .agg #[.int .i64 k, .slice ao2 A.length ca2, .slice bo2 D.length cb2]] w fun e w' => e = .returned (.bool true) ∧ Below w.heap.size w w' := by
  have H1 := hideP ha
  have H2 := hideP hd
  have H3 := hideP ha2
  have H4 := hideP hd2
  clear ha hd ha2 hd2
  go_enter Tryd.func9, Tryd.ntmps9
  go_wp2_with fail
  refine Calls.mono (eqI_same lo hi lo2 hi2 ao ao2 ca ca2 A _ (H1.out.keep (B := w.heap.size) (by go_grown) h1) (H3.out.keep (B := w.heap.size) (by go_grown) h2) (by simp; omega) (by simp; omega) hA) ?_
  rintro e w1 ⟨rfl, k1⟩
  have HK : Hid (Below w.heap.size w w1) := hideP (Below.trans (by go_grown) (k1.mono (by simp; omega)))
  replace k1 := Kept.below k1
  have hc1 := Kept.cell k1
  have hf1 := Kept.frozen k1
  have hz1 := k1.size
  try simp only [World.size_alloc] at hz1
  try simp only [World.size_setCell] at hz1
  try simp only [World.size_drew] at hz1
  have hb1_0 : w.heap.size < w1.heap.size ∧ w.heap.size ≤ w1.heap.size ∧ w.heap.size ≤ w1.heap.size + 1 ∧ ¬ w.heap.size = w1.heap.size ∧ ¬ w.heap.size = w1.heap.size + 1 := by omega
  have hb1_1 : w.heap.size + 1 < w1.heap.size ∧ w.heap.size + 1 ≤ w1.heap.size ∧ w.heap.size + 1 ≤ w1.heap.size + 1 ∧ ¬ w.heap.size + 1 = w1.heap.size ∧ ¬ w.heap.size + 1 = w1.heap.size + 1 := by omega
  go_wp2_with fail
  refine Calls.mono (eqB_same lo hi lo2 hi2 bo bo2 cb cb2 D _ (H2.out.keep HK.out h1) (H4.out.keep HK.out h2) (by omega) (by omega) hD) ?_
  rintro e w2 ⟨rfl, k2⟩
  go_wp2
  go_returns
  exact ⟨rfl, HK.out.trans (k2.mono (by omega))⟩

end Go.Proofs.YtbceacnadkhdoabDoor
