/- Rows of bytes: copied, held against each other, marked. Numbers told as bytes by the program, where all of them are bytes. What a hand does: by the program, where it reaches nobody, and where a key reaches the focus. -/
import Derived.Test.YtoipcnpemmajaaaTh2
import Derived.Test.YtoipcnpemmajaaaTh3
import Derived.Test.YtoipcnpemmajaaaTh12
import Derived.Test.YtoipcnpemmajaaaTh24
import Derived.Test.YtoipcnpemmajaaaTh27
namespace Go.Proofs.Ytoipcnpemmajaaa
open Go.RowKit
set_option linter.unusedVariables false

theorem Try.infoB : (Try.prog.info? 5).map (fun i => (i.zero, i.size, i.bytes)) = some (some (.int .u8 0), 1, 1) := by kernel_rfl

/-- What number a place is marked with. -/
def mkB (k : Int) (i : Nat) : Int := (k + i) % 256

set_option maxHeartbeats 1000000 in
theorem eqB_same (lo hi lo2 hi2 : Nat) (ao bo : Option Addr) (ca cb : Nat) (L : List Int) (w : World) (ha : Row .u8 w lo hi ao L) (hb : Row .u8 w lo2 hi2 bo L) (h1 : hi ≤ w.heap.size) (h2 : hi2 ≤ w.heap.size) (hl : L.length ≤ 1048576) :
    Calls Try.prog 88 #[.slice ao L.length ca, .slice bo L.length cb] w fun e w' => e = .returned (.bool true) ∧ Below w.heap.size w w' := by
  have hl' : (L.length : Int) ≤ 1048576 := by omega
  have HA := hideP ha
  have HB := hideP hb
  clear ha hb
  go_enter Try.func88, Try.ntmps88
  go_wp2
  go_loopw [5] (fun i wr => ∃ k : Nat, k ≤ L.length ∧ i = .int .i64 k ∧ Below w.heap.size w wr) (fun i _ => L.length - (intOf i).toNat)
  case atStart => exact ⟨0, Nat.zero_le _, rfl, Below.refl _ _⟩
  case round =>
    obtain ⟨k, hk, rfl, hbel⟩ := hrel
    have hz := hbel.size
    by_cases hlt : k < L.length
    · have hlt' : (k : Int) < (L.length : Int) := by omega
      have hne : L ≠ [] := fun e => by rw [e] at hlt; simp at hlt
      rcases HA.out with e | ⟨g, o, rfl, _, hg, hc⟩
      · exact absurd e hne
      rcases HB.out with e | ⟨g', o', rfl, _, hg', hc'⟩
      · exact absurd e hne
      have a0 := (hbel.cell (p := ⟨g, o + k, none⟩) (by show g < _; omega)).trans (hc k hlt)
      have b0 := (hbel.cell (p := ⟨g', o' + k, none⟩) (by show g' < _; omega)).trans (hc' k hlt)
      have hgl : g < wr.heap.size := by omega
      have hgl' : g' < wr.heap.size := by omega
      have HBel := hideP hbel
      clear hc hc' hbel HA HB
      generalize L[k] = x at *
      go_wp2
      refine wp_region_kept (by kernel_rfl) (by kernel_rfl) ?_
      repeat (refine kept_step (by rfl) ?_; apply Exists.intro; refine ⟨fun w1 k1 => ?_, fun K hK => ?_⟩; (focus (have hc := Kept.cell k1; go_simp; first | done | rfl)); (go_simp; refine hK _ ?_; clear hK K))
      refine wpQuiet_nil ?_
      intro w5 k5
      replace k5 := Kept.below k5
      have hc5 := Kept.cell k5
      have hf5 := Kept.frozen k5
      have hz5 := k5.size
      try simp only [World.size_alloc] at hz5
      try simp only [World.size_setCell] at hz5
      try simp only [World.size_drew] at hz5
      try (first | have hs5 := sz12 hz5 | have hs5 := sz11 hz5 | have hs5 := sz10 hz5 | have hs5 := sz9 hz5 | have hs5 := sz8 hz5 | have hs5 := sz7 hz5 | have hs5 := sz6 hz5 | have hs5 := sz5 hz5 | have hs5 := sz4 hz5 | have hs5 := sz3 hz5 | have hs5 := sz2 hz5 | have hs5 := sz1 hz5)
      go_wp2
      go_roundw
      case rel => exact ⟨k + 1, by omega, by go_num, HBel.out.trans (k5.mono HBel.out.size)⟩
      case measure => simp [intOf]; omega
    · have HBel := hideP hbel
      clear hbel
      go_wp2
      go_returns
      exact ⟨rfl, HBel.out⟩

set_option maxHeartbeats 1000000 in
theorem markB_any (lo hi : Nat) (ao : Option Addr) (ca : Nat) (k : Int) (L : List Int) (w : World) (ha : Wrt .u8 w lo hi ao L) (h1 : hi ≤ w.heap.size) (hl : L.length ≤ 1048576) (k0 : 0 ≤ k) (k1 : k ≤ 4194304) :
    Calls Try.prog 91 #[.slice ao L.length ca, .int .i64 k] w fun e w' => e = .returned (.int .i64 (k + L.length)) ∧ Far lo hi w w' ∧ Wrt .u8 w' lo hi ao (rowOf (mkB k) L.length) := by
  have hl' : (L.length : Int) ≤ 1048576 := by omega
  rcases ha with rfl | ⟨g, o, rfl, ha⟩
  · go_enter Try.func91, Try.ntmps91
    go_wp2
    refine wp_loop_rounds 1 ?_
    rw [rounds_succ]
    go_wp2
    go_returns
    exact ⟨by simp, Far.refl _ _ _, .inl rfl⟩
  · have HM : Hid (Fil .u8 w w lo hi g o L.length 0 (mkB k)) := Wrt.fil h1 ha
    clear ha
    generalize L.length = n at *
    go_enter Try.func91, Try.ntmps91
    go_wp2
    go_loopw [1, 5] (fun q i wr => ∃ j : Nat, j ≤ n ∧ i = .int .i64 j ∧ q = .int .i64 (k + j) ∧ Fil .u8 w wr lo hi g o n j (mkB k)) (fun _ i _ => n - (intOf i).toNat)
    case atStart => exact ⟨0, Nat.zero_le _, rfl, by simp, HM.out⟩
    case round =>
      obtain ⟨j, hj, rfl, rfl, M⟩ := hrel
      have hj' : (j : Int) ≤ 1048576 := by omega
      by_cases hlt : j < n
      · have hlt' : (j : Int) < (n : Int) := by omega
        obtain ⟨u0, t0⟩ := M.there j hlt
        have f := M.free
        have hgl := M.lt
        have M1 := hideP (M.step hlt)
        clear M HM
        go_wp2
        go_roundw
        case rel => exact ⟨j + 1, by omega, by go_num, by go_num, M1.out⟩
        case measure => simp [intOf]; omega
      · obtain rfl : j = n := by omega
        have M1 := hideP M
        clear M HM
        go_wp2
        go_returns
        exact ⟨rfl, M1.out.far, M1.out.wrt⟩

set_option maxHeartbeats 1000000 in
theorem heldB_any (lo hi : Nat) (ao : Option Addr) (ca n : Nat) (k : Int) (w : World) (ha : Row .u8 w lo hi ao (rowOf (mkB k) n)) (hl : n ≤ 1048576) (k0 : 0 ≤ k) (k1 : k ≤ 4194304) :
    Calls Try.prog 92 #[.slice ao n ca, .int .i64 k] w fun e w' => e = .returned (.int .i64 (k + n)) ∧ w' = w := by
  have hl' : (n : Int) ≤ 1048576 := by omega
  have HA := hideP ha
  clear ha
  go_enter Try.func92, Try.ntmps92
  go_wp2
  go_loop [1, 5] (fun q i => ∃ j : Nat, j ≤ n ∧ i = .int .i64 j ∧ q = .int .i64 (k + j)) (fun _ i => n - (intOf i).toNat)
  case atStart => exact ⟨0, Nat.zero_le _, rfl, by simp⟩
  case round =>
    obtain ⟨j, hj, rfl, rfl⟩ := hrel
    have hj' : (j : Int) ≤ 1048576 := by omega
    by_cases hlt : j < n
    · have hlt' : (j : Int) < (n : Int) := by omega
      rcases HA.out with e | ⟨g, o, rfl, _, hg, hc⟩
      · have := rowOf_len (mkB k) n; rw [e] at this; simp at this; omega
      have hR := hc j (by rw [rowOf_len]; exact hlt)
      rw [rowOf_at] at hR
      simp only [mkB] at hR
      clear hc HA
      go_wp2
      go_round
      case rel => exact ⟨j + 1, by omega, by go_num, by go_num⟩
      case measure => simp [intOf]; omega
    · obtain rfl : j = n := by omega
      clear HA
      go_wp2
      go_returns
      exact ⟨rfl, rfl⟩

end Go.Proofs.Ytoipcnpemmajaaa

namespace Go.Proofs.Ytoipcnpemmajaaa
open Go.RowKit
set_option linter.unusedVariables false

set_option maxHeartbeats 2000000 in
theorem tellW_any (lo hi base : Nat) (ao bo : Option Addr) (cap cb : Nat) (M L : List Int) (w : World) (hO : OwnR .u8 5 w base ao cap M) (hR : Row .i64 w lo hi bo L) (hb : base ≤ w.heap.size) (hh : hi ≤ base) (hl : M.length + L.length ≤ 1048576) (hB : L.all byB = true) :
    Calls Try.prog 107 #[.slice ao M.length cap, .slice bo L.length cb] w fun e w' => ∃ ao' cap', e = .returned (.slice ao' (M ++ L).length cap') ∧ OwnR .u8 5 w' base ao' cap' (M ++ L) ∧ Below base w w' := by
  have HO := hideP hO
  have HR := hideP hR
  have HB := hideP hB
  have hl' : (L.length : Int) ≤ 1048576 := by omega
  have hll : L.length ≤ 1048576 := by omega
  clear hO hR hB
  go_enter Try.func107, Try.ntmps107
  go_wp2
  go_loopw [0, 9] (fun t i wr => ∃ (j : Nat) (ao' : Option Addr) (cap' : Nat), j ≤ L.length ∧ i = .int .i64 j ∧ t = .slice ao' (M ++ L.take j).length cap' ∧ OwnR .u8 5 wr base ao' cap' (M ++ L.take j) ∧ Below base w wr) (fun _ i _ => L.length - (intOf i).toNat)
  case atStart => exact ⟨0, ao, cap, Nat.zero_le _, rfl, by simp, by simpa using HO.out, Below.refl _ _⟩
  case round =>
    obtain ⟨j, ao1, cap1, hj, rfl, rfl, O1, K1⟩ := hrel
    have HO1 := hideP O1
    have HK1 := hideP K1
    have hz := K1.size
    clear O1 K1
    by_cases hlt : j < L.length
    · have hlt' : (j : Int) < (L.length : Int) := by omega
      have hne : L ≠ [] := fun e => by rw [e] at hlt; simp at hlt
      rcases HR.out with e | ⟨g, o, rfl, _, hg, hc⟩
      · exact absurd e hne
      have a0 := (HK1.out.cell (p := ⟨g, o + j, none⟩) (by show g < base; omega)).trans (hc j hlt)
      have hx : 0 ≤ L[j] ∧ L[j] ≤ 255 := byB_yes (List.all_eq_true.1 HB.out L[j] (List.getElem_mem hlt))
      have HT : Hid (M ++ L.take (j + 1) = (M ++ L.take j) ++ [L[j]]) := hideP (by rw [List.take_succ_eq_append_getElem hlt, List.append_assoc])
      have HL1 := hideP (show (M ++ L.take j).length ≤ 1048576 by simp; omega)
      clear hc hne
      generalize L[j] = x at *
      obtain ⟨x0, x1⟩ := hx
      have hm : x % 256 = x := by omega
      generalize M ++ L.take j = M1 at *
      go_wp2_with (first | (at_builtin; refine wpList_app (k := .u8) (T := 5) (S := 22) (bytes := 1) Try.underlying22 Try.infoB (by omega) rfl _ _ rfl base ao1 cap1 M1 rfl (HO1.out.alloc _) _ 1 [x] rfl (src_one .u8 wr x 5) (by have := HL1.out; simp; omega) (by simp; omega) ?_; intro ao2 cap2 w2 O2 K2; refine Hid.out ?_) | go_in)
      have HO2 := hideP O2
      have HK2 : Hid (Below base w w2) := hideP ((HK1.out.alloc (by omega) _).trans K2)
      clear O2 K2
      refine hideP ?_
      go_wp2
      go_roundw
      case rel => exact ⟨j + 1, ao2, cap2, by omega, by go_num, by rw [HT.out]; simp, by rw [HT.out]; exact HO2.out, HK2.out⟩
      case measure => simp [intOf]; omega
    · obtain rfl : j = L.length := by omega
      rw [List.take_length] at HO1
      go_wp2
      go_returns
      exact ⟨ao1, cap1, by rw [List.take_length]; rfl, HO1.out, HK1.out⟩

theorem tellW_nil (lo hi : Nat) (bo : Option Addr) (cb : Nat) (L : List Int) (w : World) (hR : Row .i64 w lo hi bo L) (hh : hi ≤ w.heap.size) (hl : L.length ≤ 1048576) (hB : L.all byB = true) :
    Calls Try.prog 107 #[.slice none 0 0, .slice bo L.length cb] w fun e w' => ∃ ao' cap', e = .returned (.slice ao' L.length cap') ∧ OwnR .u8 5 w' w.heap.size ao' cap' L ∧ Below w.heap.size w w' :=
  tellW_any lo hi w.heap.size none bo 0 cb [] L w (OwnR.nil _ _ _ _) hR (Nat.le_refl _) hh (by simpa using hl) hB

end Go.Proofs.Ytoipcnpemmajaaa

namespace Go.Proofs.Ytoipcnpemmajaaa
open Go.RowKit Go.Maps
set_option linter.unusedVariables false
attribute [local go_sem] growUpon growAt growUponR growAtR

theorem deed_3 (t : Bool) (w : World) : Calls Try.prog 38 #[.int .i64 3, .bool t] w fun e w' => e = .returned (.func (.func 64) #[] #[]) ∧ w' = w := by
  go_enter Try.func38, Try.ntmps38
  go_wp2
  go_returns
  exact ⟨rfl, rfl⟩
theorem deed_4 (t : Bool) (w : World) : Calls Try.prog 38 #[.int .i64 4, .bool t] w fun e w' => e = .returned (.func (.func 65) #[] #[]) ∧ w' = w := by
  go_enter Try.func38, Try.ntmps38
  go_wp2
  go_returns
  exact ⟨rfl, rfl⟩
theorem deed_t (k : Int) (w : World) (h3 : k ≠ 3) (h4 : k ≠ 4) : Calls Try.prog 38 #[.int .i64 k, .bool true] w fun e w' => e = .returned (.func (.func 66) #[] #[]) ∧ w' = w := by
  have e3 : (k == 3) = false := by simpa using h3
  have e4 : (k == 4) = false := by simpa using h4
  go_enter Try.func38, Try.ntmps38
  go_wp2
  go_returns
  exact ⟨rfl, rfl⟩
theorem deed_2 (w : World) : Calls Try.prog 38 #[.int .i64 2, .bool false] w fun e w' => e = .returned (.func (.func 67) #[] #[]) ∧ w' = w := by
  go_enter Try.func38, Try.ntmps38
  go_wp2
  go_returns
  exact ⟨rfl, rfl⟩
theorem deed_1 (w : World) : Calls Try.prog 38 #[.int .i64 1, .bool false] w fun e w' => e = .returned (.func (.func 68) #[] #[]) ∧ w' = w := by
  go_enter Try.func38, Try.ntmps38
  go_wp2
  go_returns
  exact ⟨rfl, rfl⟩

theorem RtA.no {r : Rt} {W w' : World} (h : r.D = []) (hb : Below W.heap.size W w') : RtA r W (.returned (.agg #[.int .i64 r.z, .int .i64 r.tg, .int .i64 r.kd, .slice none 0 0, .bool r.tr, .int .i64 r.fo])) w' :=
  ⟨none, 0, by rw [h]; rfl, by rw [h]; exact OwnR.nil _ _ _ _, hb⟩

set_option maxHeartbeats 400000 in
theorem enter_any (t : Bool) (f k a b : Int) (so : Option Addr) (n sc : Nat) (w : World) :
    Calls Try.prog 64 #[.agg #[.bool t, .int .i64 f], .slice so n sc, .agg #[.int .i64 k, .int .i64 a, .int .i64 b]] w (RtA ⟨0, 0, 0, [], true, f⟩ w) := by
  go_enter Try.func64, Try.ntmps64
  go_wp2
  go_returns
  exact RtA.no (r := ⟨0, 0, 0, [], true, f⟩) rfl (by repeat' (first | (with_reducible exact Below.refl _ _) | (with_reducible refine kept_below ?_ (by assumption) ?_) | (with_reducible refine Below.alloc ?_ ?_ _) | (with_reducible refine Below.drew ?_) | (with_reducible refine Below.setCell ?_ ?_ _) | go_size))
set_option maxHeartbeats 400000 in
theorem leave_any (t : Bool) (f k a b : Int) (so : Option Addr) (n sc : Nat) (w : World) :
    Calls Try.prog 65 #[.agg #[.bool t, .int .i64 f], .slice so n sc, .agg #[.int .i64 k, .int .i64 a, .int .i64 b]] w (RtA ⟨0, 0, 0, [], false, f⟩ w) := by
  go_enter Try.func65, Try.ntmps65
  go_wp2
  go_returns
  exact RtA.no (r := ⟨0, 0, 0, [], false, f⟩) rfl (by repeat' (first | (with_reducible exact Below.refl _ _) | (with_reducible refine kept_below ?_ (by assumption) ?_) | (with_reducible refine Below.alloc ?_ ?_ _) | (with_reducible refine Below.drew ?_) | (with_reducible refine Below.setCell ?_ ?_ _) | go_size))
set_option maxHeartbeats 400000 in
theorem nobody_any (t : Bool) (f k a b : Int) (so : Option Addr) (n sc : Nat) (w : World) :
    Calls Try.prog 66 #[.agg #[.bool t, .int .i64 f], .slice so n sc, .agg #[.int .i64 k, .int .i64 a, .int .i64 b]] w (RtA ⟨0, 0, 0, [], t, f⟩ w) := by
  go_enter Try.func66, Try.ntmps66
  go_wp2
  go_returns
  exact RtA.no (r := ⟨0, 0, 0, [], t, f⟩) rfl (by repeat' (first | (with_reducible exact Below.refl _ _) | (with_reducible refine kept_below ?_ (by assumption) ?_) | (with_reducible refine Below.alloc ?_ ?_ _) | (with_reducible refine Below.drew ?_) | (with_reducible refine Below.setCell ?_ ?_ _) | go_size))

set_option maxRecDepth 100000 in
set_option maxHeartbeats 400000 in
theorem toFocus_none (t : Bool) (kd : Int) (bo : Option Addr) (n cb : Nat) (w : World) :
    Calls Try.prog 95 #[.agg #[.bool t, .int .i64 0], .int .i64 kd, .slice bo n cb] w (RtA ⟨0, 0, 0, [], t, 0⟩ w) := by
  go_enter Try.func95, Try.ntmps95
  go_wp2
  go_returns
  exact RtA.no (r := ⟨0, 0, 0, [], t, 0⟩) rfl (by repeat' (first | (with_reducible exact Below.refl _ _) | (with_reducible refine kept_below ?_ (by assumption) ?_) | (with_reducible refine Below.alloc ?_ ?_ _) | (with_reducible refine Below.drew ?_) | (with_reducible refine Below.setCell ?_ ?_ _) | go_size))

set_option maxRecDepth 100000 in
set_option maxHeartbeats 2000000 in
theorem toFocus_some (lo hi : Nat) (t : Bool) (f kd : Int) (bo : Option Addr) (cb : Nat) (D : List Int) (w : World) (hf : f ≠ 0) (hR : Row .i64 w lo hi bo D) (hh : hi ≤ w.heap.size) (hl : D.length ≤ 1048576) (hB : D.all byB = true) :
    Calls Try.prog 95 #[.agg #[.bool t, .int .i64 f], .int .i64 kd, .slice bo D.length cb] w (RtA ⟨0, f, kd, D, t, f⟩ w) := by
  have e0 : (f == 0) = false := by simpa using hf
  have TE := hideP (fun w1 (kk : Below w.heap.size w w1) => tellW_nil lo hi bo cb D w1 (hR.keep kk hh) (Nat.le_trans hh kk.size) hl hB)
  clear hf hR hh hl hB
  go_enter Try.func95, Try.ntmps95
  go_wp2_with fail
  refine wp_region_plan (R := Kept) (G := Kept) rel_keptA rel_keptA (fun h => h) 7 [(true, 0), (true, 1), (true, 2), (true, 3), (true, 6), (false, 4), (true, 5)] (by kernel_rfl) (by kernel_rfl) ?_
  simp only [selP, List.filterMap_cons, List.filterMap_nil, List.getElem?_cons_succ, List.getElem?_cons_zero, Option.map_some]
  repeat (refine plan_take _ (by first | exact wanted_free rfl | exact wanted_yes rfl rfl | exact wanted_no rfl rfl) (by first | with_reducible rfl | decide) ?_; apply Exists.intro; refine ⟨fun w' k1 => ?_, fun K hK => ?_⟩; (focus (have hc := Kept.cell k1; go_simp; first | done | rfl)); (go_simp; refine hK _ ?_; clear hK K))
  refine plan_made _ (by first | exact wanted_free rfl | exact wanted_yes rfl rfl | exact wanted_no rfl rfl) (by first | with_reducible rfl | decide) fun u1 i1 => ?_
  have ii1 := Kept.below i1
  refine made_callsR (by go_simp; first | done | rfl) ((TE.out u1 (Below.trans (by go_grown) (ii1.mono (by simp; omega)))).mono ?_)
  rintro e vw1 ⟨ao, ca, rfl, O1, j1⟩
  refine ⟨_, rfl, j1, fun K hK => ?_⟩
  go_simp
  refine hK _ ?_
  clear hK K
  repeat (refine plan_take _ (by first | exact wanted_free rfl | exact wanted_yes rfl rfl | exact wanted_no rfl rfl) (by first | with_reducible rfl | decide) ?_; apply Exists.intro; refine ⟨fun w' k1 => ?_, fun K hK => ?_⟩; (focus (have hc := Kept.cell k1; go_simp; first | done | rfl)); (go_simp; refine hK _ ?_; clear hK K))
  refine plan_nil fun w3 k3 => ?_
  try simp only [List.drop_succ_cons, List.drop_zero]
  have K3 : Hid (Below w.heap.size w w3) := hideP (Below.trans (by go_grown) ((ii1.trans ((j1.trans ((Kept.below k3).mono j1.size)).mono ii1.size)).mono (by simp; omega)))
  have X3 := hideP ((r6_new (w.alloc (.cells #[.bool t, .int .i64 f] 25)) (.int .i64 0) (.int .i64 0) (.int .i64 0) (.slice none 0 0) (.bool false) (.int .i64 0) 34).keep (ii1.trans ((j1.trans ((Kept.below k3).mono j1.size)).mono ii1.size)) (by simp))
  have O3 := hideP (O1.keep (Kept.below k3))
  have n1 := ii1.size
  simp only [World.size_alloc] at n1 X3
  clear ii1 i1 j1 k3 O1 TE
  obtain ⟨x0, x1, x2, x3, x4, x5, xf, xl⟩ := X3.out
  go_wp2
  exact bodyPost_ret (v := .agg #[.int .i64 0, .int .i64 f, .int .i64 kd, .slice ao D.length ca, .bool t, .int .i64 f]) (by simp [results, Try.results95, go_sem, x0, x1, x2, x3, x4, x5]) rfl (rt_six (r := ⟨0, f, kd, D, t, f⟩) O3.out (by omega) (by omega) K3.out)
end Go.Proofs.Ytoipcnpemmajaaa
