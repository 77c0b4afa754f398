/- What a hand does: by the program, where it reaches nobody, and where a key reaches the focus. -/
import Derived.Test.YtoipcnpemmajaaaRh0
import Derived.Test.YtoipcnpemmajaaaTel
import Derived.Test.YtoipcnpemmajaaaPlanR
import Derived.Test.YtoipcnpemmajaaaMadesR
namespace Go.Proofs.Ytoipcnpemmajaaa
open Go.RowKit Go.Maps
set_option linter.unusedVariables false
attribute [local go_sem] growUpon growAt growUponR growAtR

theorem deed_3 (t : Bool) (w : World) : Calls Try.prog 38 #[.int .i64 3, .bool t] w fun e w' => e = .returned (.func (.func 64) #[] #[]) ∧ w' = w := by
  go_enter Try.func38, Try.ntmps38
  go_wp2
  go_returns
  exact ⟨rfl, rfl⟩
theorem deed_4 (t : Bool) (w : World) : Calls Try.prog 38 #[.int .i64 4, .bool t] w fun e w' => e = .returned (.func (.func 65) #[] #[]) ∧ w' = w := by
  go_enter Try.func38, Try.ntmps38
  go_wp2
  go_returns
  exact ⟨rfl, rfl⟩
theorem deed_t (k : Int) (w : World) (h3 : k ≠ 3) (h4 : k ≠ 4) : Calls Try.prog 38 #[.int .i64 k, .bool true] w fun e w' => e = .returned (.func (.func 66) #[] #[]) ∧ w' = w := by
  have e3 : (k == 3) = false := by simpa using h3
  have e4 : (k == 4) = false := by simpa using h4
  go_enter Try.func38, Try.ntmps38
  go_wp2
  go_returns
  exact ⟨rfl, rfl⟩
theorem deed_2 (w : World) : Calls Try.prog 38 #[.int .i64 2, .bool false] w fun e w' => e = .returned (.func (.func 67) #[] #[]) ∧ w' = w := by
  go_enter Try.func38, Try.ntmps38
  go_wp2
  go_returns
  exact ⟨rfl, rfl⟩
theorem deed_1 (w : World) : Calls Try.prog 38 #[.int .i64 1, .bool false] w fun e w' => e = .returned (.func (.func 68) #[] #[]) ∧ w' = w := by
  go_enter Try.func38, Try.ntmps38
  go_wp2
  go_returns
  exact ⟨rfl, rfl⟩

theorem RtA.no {r : Rt} {W w' : World} (h : r.D = []) (hb : Below W.heap.size W w') : RtA r W (.returned (.agg #[.int .i64 r.z, .int .i64 r.tg, .int .i64 r.kd, .slice none 0 0, .bool r.tr, .int .i64 r.fo])) w' :=
  ⟨none, 0, by rw [h]; rfl, by rw [h]; exact OwnR.nil _ _ _ _, hb⟩

set_option maxHeartbeats 400000 in
theorem enter_any (t : Bool) (f k a b : Int) (so : Option Addr) (n sc : Nat) (w : World) :
    Calls Try.prog 64 #[.agg #[.bool t, .int .i64 f], .slice so n sc, .agg #[.int .i64 k, .int .i64 a, .int .i64 b]] w (RtA ⟨0, 0, 0, [], true, f⟩ w) := by
  go_enter Try.func64, Try.ntmps64
  go_wp2
  go_returns
  exact RtA.no (r := ⟨0, 0, 0, [], true, f⟩) rfl (by repeat' (first | (with_reducible exact Below.refl _ _) | (with_reducible refine kept_below ?_ (by assumption) ?_) | (with_reducible refine Below.alloc ?_ ?_ _) | (with_reducible refine Below.drew ?_) | (with_reducible refine Below.setCell ?_ ?_ _) | go_size))
set_option maxHeartbeats 400000 in
theorem leave_any (t : Bool) (f k a b : Int) (so : Option Addr) (n sc : Nat) (w : World) :
    Calls Try.prog 65 #[.agg #[.bool t, .int .i64 f], .slice so n sc, .agg #[.int .i64 k, .int .i64 a, .int .i64 b]] w (RtA ⟨0, 0, 0, [], false, f⟩ w) := by
  go_enter Try.func65, Try.ntmps65
  go_wp2
  go_returns
  exact RtA.no (r := ⟨0, 0, 0, [], false, f⟩) rfl (by repeat' (first | (with_reducible exact Below.refl _ _) | (with_reducible refine kept_below ?_ (by assumption) ?_) | (with_reducible refine Below.alloc ?_ ?_ _) | (with_reducible refine Below.drew ?_) | (with_reducible refine Below.setCell ?_ ?_ _) | go_size))
set_option maxHeartbeats 400000 in
theorem nobody_any (t : Bool) (f k a b : Int) (so : Option Addr) (n sc : Nat) (w : World) :
    Calls Try.prog 66 #[.agg #[.bool t, .int .i64 f], .slice so n sc, .agg #[.int .i64 k, .int .i64 a, .int .i64 b]] w (RtA ⟨0, 0, 0, [], t, f⟩ w) := by
  go_enter Try.func66, Try.ntmps66
  go_wp2
  go_returns
  exact RtA.no (r := ⟨0, 0, 0, [], t, f⟩) rfl (by repeat' (first | (with_reducible exact Below.refl _ _) | (with_reducible refine kept_below ?_ (by assumption) ?_) | (with_reducible refine Below.alloc ?_ ?_ _) | (with_reducible refine Below.drew ?_) | (with_reducible refine Below.setCell ?_ ?_ _) | go_size))

set_option maxRecDepth 100000 in
set_option maxHeartbeats 400000 in
theorem toFocus_none (t : Bool) (kd : Int) (bo : Option Addr) (n cb : Nat) (w : World) :
    Calls Try.prog 95 #[.agg #[.bool t, .int .i64 0], .int .i64 kd, .slice bo n cb] w (RtA ⟨0, 0, 0, [], t, 0⟩ w) := by
  go_enter Try.func95, Try.ntmps95
  go_wp2
  go_returns
  exact RtA.no (r := ⟨0, 0, 0, [], t, 0⟩) rfl (by repeat' (first | (with_reducible exact Below.refl _ _) | (with_reducible refine kept_below ?_ (by assumption) ?_) | (with_reducible refine Below.alloc ?_ ?_ _) | (with_reducible refine Below.drew ?_) | (with_reducible refine Below.setCell ?_ ?_ _) | go_size))

set_option maxRecDepth 100000 in
set_option maxHeartbeats 2000000 in
theorem toFocus_some (lo hi : Nat) (t : Bool) (f kd : Int) (bo : Option Addr) (cb : Nat) (D : List Int) (w : World) (hf : f ≠ 0) (hR : Row .i64 w lo hi bo D) (hh : hi ≤ w.heap.size) (hl : D.length ≤ 1048576) (hB : D.all byB = true) :
    Calls Try.prog 95 #[.agg #[.bool t, .int .i64 f], .int .i64 kd, .slice bo D.length cb] w (RtA ⟨0, f, kd, D, t, f⟩ w) := by
  have e0 : (f == 0) = false := by simpa using hf
  have TE := hideP (fun w1 (kk : Below w.heap.size w w1) => tellW_nil lo hi bo cb D w1 (hR.keep kk hh) (Nat.le_trans hh kk.size) hl hB)
  clear hf hR hh hl hB
  go_enter Try.func95, Try.ntmps95
  go_wp2_with fail
  refine wp_region_plan (R := Kept) (G := Kept) rel_keptA rel_keptA (fun h => h) 7 [(true, 0), (true, 1), (true, 2), (true, 3), (true, 6), (false, 4), (true, 5)] (by kernel_rfl) (by kernel_rfl) ?_
  simp only [selP, List.filterMap_cons, List.filterMap_nil, List.getElem?_cons_succ, List.getElem?_cons_zero, Option.map_some]
  repeat (refine plan_take _ (by first | exact wanted_free rfl | exact wanted_yes rfl rfl | exact wanted_no rfl rfl) (by first | with_reducible rfl | decide) ?_; apply Exists.intro; refine ⟨fun w' k1 => ?_, fun K hK => ?_⟩; (focus (have hc := Kept.cell k1; go_simp; first | done | rfl)); (go_simp; refine hK _ ?_; clear hK K))
  refine plan_made _ (by first | exact wanted_free rfl | exact wanted_yes rfl rfl | exact wanted_no rfl rfl) (by first | with_reducible rfl | decide) fun u1 i1 => ?_
  have ii1 := Kept.below i1
  refine made_callsR (by go_simp; first | done | rfl) ((TE.out u1 (Below.trans (by go_grown) (ii1.mono (by simp; omega)))).mono ?_)
  rintro e vw1 ⟨ao, ca, rfl, O1, j1⟩
  refine ⟨_, rfl, j1, fun K hK => ?_⟩
  go_simp
  refine hK _ ?_
  clear hK K
  repeat (refine plan_take _ (by first | exact wanted_free rfl | exact wanted_yes rfl rfl | exact wanted_no rfl rfl) (by first | with_reducible rfl | decide) ?_; apply Exists.intro; refine ⟨fun w' k1 => ?_, fun K hK => ?_⟩; (focus (have hc := Kept.cell k1; go_simp; first | done | rfl)); (go_simp; refine hK _ ?_; clear hK K))
  refine plan_nil fun w3 k3 => ?_
  try simp only [List.drop_succ_cons, List.drop_zero]
  have K3 : Hid (Below w.heap.size w w3) := hideP (Below.trans (by go_grown) ((ii1.trans ((j1.trans ((Kept.below k3).mono j1.size)).mono ii1.size)).mono (by simp; omega)))
  have X3 := hideP ((r6_new (w.alloc (.cells #[.bool t, .int .i64 f] 25)) (.int .i64 0) (.int .i64 0) (.int .i64 0) (.slice none 0 0) (.bool false) (.int .i64 0) 34).keep (ii1.trans ((j1.trans ((Kept.below k3).mono j1.size)).mono ii1.size)) (by simp))
  have O3 := hideP (O1.keep (Kept.below k3))
  have n1 := ii1.size
  simp only [World.size_alloc] at n1 X3
  clear ii1 i1 j1 k3 O1 TE
  obtain ⟨x0, x1, x2, x3, x4, x5, xf, xl⟩ := X3.out
  go_wp2
  exact bodyPost_ret (v := .agg #[.int .i64 0, .int .i64 f, .int .i64 kd, .slice ao D.length ca, .bool t, .int .i64 f]) (by simp [results, Try.results95, go_sem, x0, x1, x2, x3, x4, x5]) rfl (rt_six (r := ⟨0, f, kd, D, t, f⟩) O3.out (by omega) (by omega) K3.out)
end Go.Proofs.Ytoipcnpemmajaaa
