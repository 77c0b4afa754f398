/- SameRequests: the law's walk. -/
import Derived.Test.YtlagcanbmenglaiSame2
import Derived.Test.YtlagcanbmenglaiReq6
import Derived.Test.YtlagcanbmenglaiPck4
namespace Go.Proofs.Ytlagcanbmenglai
open Go.RowKit
set_option linter.unusedVariables false

theorem kalS (w : World) (o : Obj) : Below w.heap.size w (w.alloc o) := (Below.refl _ _).alloc (Nat.le_refl _) o

/-- It answered so. -/
def Said (b : Bool) (w2 : World) (v : Value) : Prop := v = .bool b
theorem said_made {P : Program} {f : FuncId} {args : Array Value} {w : World} {b : Bool} (h : Calls P f args w fun e w' => e = .returned (.bool b) ∧ Below w.heap.size w w') :
    Calls P f args w fun e w'' => ∃ v, e = .returned v ∧ Below w.heap.size w w'' ∧ Said b w'' v := h.mono fun e w' ⟨he, hb⟩ => ⟨_, he, hb, rfl⟩

set_option maxHeartbeats 400000 in
theorem same_big1 (k k2 : Int) (ao bo ao2 bo2 : Option Addr) (na ca nd cb na2 ca2 nd2 cb2 : Nat) (w : World) (hn : na ≤ maxLen) (hd : nd ≤ maxLen) (h : (1048576 : Int) < (na : Int) + nd) :
    Calls Try.prog 8 #[.agg #[.int .i64 k, .slice ao na ca, .slice bo nd cb], .agg #[.int .i64 k2, .slice ao2 na2 ca2, .slice bo2 nd2 cb2]] w fun e w' => e = .returned (.bool true) ∧ Below w.heap.size w w' := by
  go_enter Try.func8, Try.ntmps8
  go_wp2_with fail
  refine Calls.mono (szR_big k ao bo na ca nd cb 1048576 _ hn hd (by omega) (by omega) h) ?_
  rintro e w1 ⟨rfl, k1⟩
  go_wp2
  go_returns
  refine ⟨rfl, ?_⟩
  repeat' (first | (with_reducible exact Below.refl _ _) | (with_reducible refine kept_below ?_ (by assumption) ?_) | (with_reducible refine Below.alloc ?_ ?_ _) | (with_reducible refine Below.drew ?_) | (with_reducible refine Below.setCell ?_ ?_ _) | go_size)

set_option maxHeartbeats 400000 in
theorem same_big2 (k k2 : Int) (ao bo ao2 bo2 : Option Addr) (na ca nd cb na2 ca2 nd2 cb2 : Nat) (w : World) (hn : na ≤ maxLen) (hd : nd ≤ maxLen) (h : (na : Int) + nd ≤ 1048576) (hn2 : na2 ≤ maxLen) (hd2 : nd2 ≤ maxLen) (h2 : (1048576 : Int) < (na : Int) + nd + na2 + nd2) :
    Calls Try.prog 8 #[.agg #[.int .i64 k, .slice ao na ca, .slice bo nd cb], .agg #[.int .i64 k2, .slice ao2 na2 ca2, .slice bo2 nd2 cb2]] w fun e w' => e = .returned (.bool true) ∧ Below w.heap.size w w' := by
  have hq0 : 0 ≤ 1048576 - (na : Int) - (nd : Int) := by omega
  go_enter Try.func8, Try.ntmps8
  go_wp2_with fail
  refine Calls.mono (szR_small k ao bo na ca nd cb 1048576 _ hn hd (by omega) (by omega) h) ?_
  rintro e w1 ⟨rfl, k1⟩
  have K1 : Hid (Below w.heap.size w w1) := hideP (Below.trans (by go_grown) (k1.mono (by simp; omega)))
  have Y1 : Hid (Bx w1 (w.heap.size + 1) k2 (.slice ao2 na2 ca2) (.slice bo2 nd2 cb2)) := hideP (Bx.keep ⟨by simp, by simp, by simp⟩ k1 (by simp))
  have n1 : w.heap.size + 1 < w1.heap.size := by have := k1.size; simp at this; omega
  clear k1
  obtain ⟨p0, p1, p2⟩ := Y1.out
  go_wp2_with fail
  refine Calls.mono (szR_big k2 ao2 bo2 na2 ca2 nd2 cb2 _ _ hn2 hd2 hq0 (by omega) (by omega)) ?_
  rintro e w2 ⟨rfl, k2⟩
  have K2 : Hid (Below w.heap.size w w2) := hideP (K1.out.trans (k2.mono (by omega)))
  clear k2 K1 Y1 p0 p1 p2
  go_wp2
  go_returns
  exact ⟨rfl, K2.out⟩

set_option maxRecDepth 100000 in
set_option maxHeartbeats 4000000 in
theorem same_small (lo hi : Nat) (k k2 : Int) (ao bo ao2 bo2 : Option Addr) (ca cb ca2 cb2 : Nat) (A D A2 D2 : List Int) (w : World) (ha : Row .i64 w lo hi ao A) (hd : Row .u8 w lo hi bo D) (ha2 : Row .i64 w lo hi ao2 A2) (hd2 : Row .u8 w lo hi bo2 D2) (hs : hi ≤ w.heap.size) (hb : byts D) (hb2 : byts D2) (h : (A.length : Int) + D.length + A2.length + D2.length ≤ 1048576) :
    Calls Try.prog 8 #[.agg #[.int .i64 k, .slice ao A.length ca, .slice bo D.length cb], .agg #[.int .i64 k2, .slice ao2 A2.length ca2, .slice bo2 D2.length cb2]] w fun e w' => e = .returned (.bool true) ∧ Below w.heap.size w w' := by
  have HA := hideP ha
  have HD := hideP hd
  have HA2 := hideP ha2
  have HD2 := hideP hd2
  have hA : A.length ≤ 1048576 := by omega
  have hDl : D.length ≤ 1048576 := by omega
  have hA2 : A2.length ≤ 1048576 := by omega
  have hDl2 : D2.length ≤ 1048576 := by omega
  have hq0 : 0 ≤ 1048576 - (A.length : Int) - (D.length : Int) := by omega
  have hq1 : 0 ≤ 1048576 - (A.length : Int) - (D.length : Int) - (A2.length : Int) - (D2.length : Int) := by omega
  obtain ⟨q, hq⟩ : ∃ q, sameQ k k2 A A2 D D2 = q := ⟨_, rfl⟩
  have SP := sSame_any (k := k) (k2 := k2) (A := A) (D := D) (A2 := A2) (D2 := D2)
  have IP := iSame_any (k := k) (k2 := k2) (A := A) (D := D) (A2 := A2) (D2 := D2)
  rw [hq] at SP IP
  have SP' := hideP SP
  have IP' := hideP IP
  have hqq : (q != q) = false := by simp
  clear ha hd ha2 hd2 SP IP hq
  have hbb := hideP hb
  have hbb2 := hideP hb2
  clear hb hb2
  go_enter Try.func8, Try.ntmps8
  go_wp2_with fail
  refine Calls.mono (szR_small k ao bo A.length ca D.length cb 1048576 _ (by unfold maxLen; omega) (by unfold maxLen; omega) (by omega) (by omega) (by omega)) ?_
  rintro e w1 ⟨rfl, k1⟩
  have K1 : Hid (Below w.heap.size w w1) := hideP (Below.trans (by go_grown) (k1.mono (by simp; omega)))
  have X1 : Hid (Bx w1 w.heap.size k (.slice ao A.length ca) (.slice bo D.length cb)) := hideP (Bx.keep ⟨by simp, by simp, by simp⟩ k1 (by simp; omega))
  have Y1 : Hid (Bx w1 (w.heap.size + 1) k2 (.slice ao2 A2.length ca2) (.slice bo2 D2.length cb2)) := hideP (Bx.keep ⟨by simp, by simp, by simp⟩ k1 (by simp))
  have n1 : w.heap.size + 1 < w1.heap.size := by have := k1.size; simp at this; omega
  clear k1
  obtain ⟨p0, p1, p2⟩ := Y1.out
  go_wp2_with fail
  clear p0 p1 p2
  refine Calls.mono (szR_small k2 ao2 bo2 A2.length ca2 D2.length cb2 _ _ (by unfold maxLen; omega) (by unfold maxLen; omega) hq0 (by omega) (by omega)) ?_
  rintro e w2 ⟨rfl, k2'⟩
  have K2 : Hid (Below w.heap.size w w2) := hideP (K1.out.trans (k2'.mono (by omega)))
  have X2 := hideP (X1.out.keep k2' (by omega))
  have Y2 := hideP (Y1.out.keep k2' (by omega))
  have n2 : w.heap.size + 1 < w2.heap.size := Nat.lt_of_lt_of_le n1 k2'.size
  have n2a : w.heap.size < w2.heap.size := by omega
  clear k2' K1 X1 Y1 n1
  obtain ⟨p0, p1, p2⟩ := X2.out
  obtain ⟨q0, q1, q2⟩ := Y2.out
  go_wp2_with fail
  refine wp_region_held (S := Kept w2) (by kernel_rfl) ?_
  show wpAnyH _ _ _ _ _ 6 (Array.replicate 6 false) _ (w2).drew
  have hK0 : Kept (w2) (w2).drew := (Below.refl _ _).drew
  generalize hQQ : (Exit.then _ _ : Exit → Act → World → Prop) = QQ
  have hQ : ∀ c a d v w, QQ (.panic c) (Act.put a d v) w → QQ (.panic c) a w := by
    subst hQQ
    intro c a d v w h
    cases d <;> exact h
  refine held_take (i := 0) rfl (by kernel_rfl) (by kernel_rfl) (by kernel_rfl) hQ hK0 (by rfl) ?_
  apply Exists.intro
  refine ⟨fun w1 k1 => ?_, fun K hK => ?_⟩
  · have hc := Kept.cell k1
    go_simp
    first | done | rfl
  go_simp
  refine hK _ ?_
  clear hK K
  refine held_take (i := 2) rfl (by kernel_rfl) (by kernel_rfl) (by kernel_rfl) hQ hK0 (by rfl) ?_
  apply Exists.intro
  refine ⟨fun w1 k1 => ?_, fun K hK => ?_⟩
  · have hc := Kept.cell k1
    go_simp
    first | done | rfl
  go_simp
  refine hK _ ?_
  clear hK K
  have hAA := HA.out.keep K2.out hs
  have hDD := HD.out.keep K2.out hs
  have hAA2 := HA2.out.keep K2.out hs
  have hDD2 := HD2.out.keep K2.out hs
  refine held_one (i := 1) rfl (by kernel_rfl) (by rfl) ?_
  refine wp_of_made (L := CopyR w2.drew k A D) ?_ ?_
  · exact made_call (by go_simp; first | done | rfl) (toReq_made lo hi k ao bo ca cb A D _ (hAA.keep hK0 (by omega)) (hDD.keep hK0 (by omega)) (by simp; omega) hA hDl)
  rintro w3 v hb ⟨ao6, bo6, mid6, rfl, R6⟩
  have hK6 := Kept.trans hK0 hb
  refine ⟨hK6, ?_⟩
  refine norm_act fun K hK => ?_
  go_simp
  refine hK _ ?_
  clear hK K
  have n3 := hb.size
  simp only [World.size_drew] at n3
  refine held_one (i := 3) rfl (by kernel_rfl) (by rfl) ?_
  refine wp_of_made (L := CopyR w3 k2 A2 D2) ?_ ?_
  · exact made_call (by go_simp; first | done | rfl) (toReq_made lo hi k2 ao2 bo2 ca2 cb2 A2 D2 _ (hAA2.keep hK6 (by omega)) (hDD2.keep hK6 (by omega)) (by omega) hA2 hDl2)
  rintro w4 v hb ⟨ao7, bo7, mid7, rfl, R7⟩
  have hK7 := Kept.trans hK6 hb
  refine ⟨hK7, ?_⟩
  refine norm_act fun K hK => ?_
  go_simp
  refine hK _ ?_
  clear hK K
  have n4 := hb.size
  have hb34 := hb
  refine held_one (i := 4) rfl (by kernel_rfl) (by rfl) ?_
  refine wp_of_made (L := Said q) ?_ ?_
  · exact made_call (by go_simp; first | done | rfl) (said_made (SP'.out _ _ _ _ ao6 bo6 ao7 bo7 A.length D.length A2.length D2.length w4 (R6.rowA.keep hb34 (Nat.le_refl _)) (R6.rowD.keep hb34 (Nat.le_refl _)) R7.rowA R7.rowD n4 (Nat.le_refl _) hA hDl hA2 hDl2 hbb.out hbb2.out))
  rintro w5 v hb ⟨⟩
  have hK8 := Kept.trans hK7 hb
  refine ⟨hK8, ?_⟩
  refine norm_act fun K hK => ?_
  go_simp
  refine hK _ ?_
  clear hK K
  refine held_one (i := 5) rfl (by kernel_rfl) (by rfl) ?_
  refine wp_of_run (v := .bool q) (w' := _) (by go_simp; first | done | rfl) ?_
  refine ⟨hK8, ?_⟩
  refine norm_act fun K hK => ?_
  go_simp
  refine hK _ ?_
  clear hK K
  refine wpAnyH_done (by kernel_rfl) ?_ _
  subst hQQ
  have K5 := hideP (K2.out.trans (hK8.mono (by omega)))
  have X5 := hideP (X2.out.keep hK8 (by omega))
  have Y5 := hideP (Y2.out.keep hK8 (by omega))
  have n5 := hK8.size
  clear hQ hK0 hK6 hK7 hK8 R6 R7 n3 n4 hb hb34 p0 p1 p2 q0 q1 q2 K2 X2 Y2 hAA hDD hAA2 hDD2 SP' hbb hbb2
  have n5a : w.heap.size < w5.heap.size := by omega
  have n5b : w.heap.size + 1 < w5.heap.size := by omega
  clear n2 n2a n5
  obtain ⟨p0, p1, p2⟩ := X5.out
  go_wp2_with fail
  clear p0 p1 p2
  refine Calls.mono (toReq_any lo hi k ao bo ca cb A D _ (HA.out.keep K5.out hs) (HD.out.keep K5.out hs) (by omega) hA hDl) ?_
  rintro e w6 ⟨ax, bx, mx, rfl, k6, R6⟩
  have K6 := hideP (K5.out.trans (k6.mono (by omega)))
  have X6 := hideP (X5.out.keep k6 n5a)
  have Y6 := hideP (Y5.out.keep k6 n5b)
  have n6 := k6.size
  have U7 : Hid (PX (w6.alloc (.cells #[.int .i64 k, .slice ax A.length A.length, .slice bx D.length D.length] 40)) w6.heap.size w5.heap.size mx w6.heap.size k ax bx A.length D.length A D) := hideP (PX.new R6)
  have ka := kalS w6 (.cells #[.int .i64 k, .slice ax A.length A.length, .slice bx D.length D.length] 40)
  have K7 := hideP (K6.out.trans (ka.mono (by omega)))
  have X7 := hideP (X6.out.keep ka (by omega))
  have Y7 := hideP (Y6.out.keep ka (by omega))
  have n7 : w6.heap.size < (w6.alloc (.cells #[.int .i64 k, .slice ax A.length A.length, .slice bx D.length D.length] 40)).heap.size := by simp
  have n7b : w.heap.size + 1 < (w6.alloc (.cells #[.int .i64 k, .slice ax A.length A.length, .slice bx D.length D.length] 40)).heap.size := by omega
  clear ka k6 R6 K5 X5 Y5 K6 X6
  obtain ⟨q0, q1, q2⟩ := Y6.out
  have n6b : w.heap.size + 1 < w6.heap.size := by omega
  go_wp2_with fail
  clear q0 q1 q2 Y6 n6b
  generalize w6.alloc (.cells #[.int .i64 k, .slice ax A.length A.length, .slice bx D.length D.length] 40) = w7 at *
  refine Calls.mono (toReq_any lo hi k2 ao2 bo2 ca2 cb2 A2 D2 _ (HA2.out.keep K7.out hs) (HD2.out.keep K7.out hs) (by omega) hA2 hDl2) ?_
  rintro e w8 ⟨ay, by', my, rfl, k8, R8⟩
  have K8 := hideP (K7.out.trans (k8.mono (by omega)))
  have X8 := hideP (X7.out.keep k8 (by omega))
  have Y8 := hideP (Y7.out.keep k8 (by omega))
  have U8 := hideP (U7.out.keep k8 n7 (by omega))
  have n8 := k8.size
  have V9 : Hid (PX (w8.alloc (.cells #[.int .i64 k2, .slice ay A2.length A2.length, .slice by' D2.length D2.length] 40)) w8.heap.size w7.heap.size my w8.heap.size k2 ay by' A2.length D2.length A2 D2) := hideP (PX.new R8)
  have ka := kalS w8 (.cells #[.int .i64 k2, .slice ay A2.length A2.length, .slice by' D2.length D2.length] 40)
  have K9 := hideP (K8.out.trans (ka.mono (by omega)))
  have X9 := hideP (X8.out.keep ka (by omega))
  have Y9 := hideP (Y8.out.keep ka (by omega))
  have U9 := hideP (U8.out.keep ka (by omega) (by omega))
  have n9 : w8.heap.size < (w8.alloc (.cells #[.int .i64 k2, .slice ay A2.length A2.length, .slice by' D2.length D2.length] 40)).heap.size := by simp
  clear ka k8 R8 K7 X7 Y7 U7 K8 X8 Y8
  obtain ⟨q0, q1, q2⟩ := U8.out.box
  have n8b : w6.heap.size < w8.heap.size := by omega
  go_wp2_with fail
  clear q0 q1 q2 U8 n8b
  generalize w8.alloc (.cells #[.int .i64 k2, .slice ay A2.length A2.length, .slice by' D2.length D2.length] 40) = w9 at *
  refine Calls.mono (IP'.out _ _ _ _ ax bx ay by' A.length D.length A2.length D2.length w9 U9.out.req.rowA U9.out.req.rowD V9.out.req.rowA V9.out.req.rowD (by omega) (by omega) hA hDl hA2 hDl2) ?_
  rintro e w10 ⟨rfl, k10⟩
  have K10 := hideP (K9.out.trans (k10.mono (by omega)))
  have X10 := hideP (X9.out.keep k10 (by omega))
  have Y10 := hideP (Y9.out.keep k10 (by omega))
  have U10 := hideP (U9.out.keep k10 (by omega) (by omega))
  have V10 := hideP (V9.out.keep k10 n9 (by omega))
  have n10 := k10.size
  clear k10 K9 X9 Y9 U9 V9 IP'
  obtain ⟨p0, p1, p2⟩ := X10.out
  obtain ⟨q0, q1, q2⟩ := U10.out.box
  have m1 : w.heap.size < w10.heap.size := by omega
  have m2 : w6.heap.size < w10.heap.size := by omega
  go_wp2_with fail
  refine wp_region_held (S := Kept w10) (by kernel_rfl) ?_
  show wpAnyH _ _ _ _ _ 5 (Array.replicate 5 false) _ (w10).drew
  have hK0 : Kept (w10) (w10).drew := (Below.refl _ _).drew
  generalize hQQ : (Exit.then _ _ : Exit → Act → World → Prop) = QQ
  have hQ : ∀ c a d v w, QQ (.panic c) (Act.put a d v) w → QQ (.panic c) a w := by
    subst hQQ
    intro c a d v w h
    cases d <;> exact h
  refine held_take (i := 0) rfl (by kernel_rfl) (by kernel_rfl) (by kernel_rfl) hQ hK0 (by rfl) ?_
  apply Exists.intro
  refine ⟨fun w1 k1 => ?_, fun K hK => ?_⟩
  · have hc := Kept.cell k1
    go_simp
    first | done | rfl
  go_simp
  refine hK _ ?_
  clear hK K
  refine held_take (i := 1) rfl (by kernel_rfl) (by kernel_rfl) (by kernel_rfl) hQ hK0 (by rfl) ?_
  apply Exists.intro
  refine ⟨fun w1 k1 => ?_, fun K hK => ?_⟩
  · have hc := Kept.cell k1
    go_simp
    first | done | rfl
  go_simp
  refine hK _ ?_
  clear hK K
  have hAA := HA.out.keep K10.out hs
  have hDD := HD.out.keep K10.out hs
  refine held_one (i := 2) rfl (by kernel_rfl) (by rfl) ?_
  refine wp_of_made (L := CopyR w10.drew k A D) ?_ ?_
  · exact made_call (by go_simp; first | done | rfl) (toReq_made lo hi k ao bo ca cb A D _ (hAA.keep hK0 (by omega)) (hDD.keep hK0 (by omega)) (by simp; omega) hA hDl)
  rintro w11 v hb ⟨ao6, bo6, mid6, rfl, R6⟩
  have hK6 := Kept.trans hK0 hb
  refine ⟨hK6, ?_⟩
  refine norm_act fun K hK => ?_
  go_simp
  refine hK _ ?_
  clear hK K
  have n11 := hb.size
  simp only [World.size_drew] at n11
  refine held_one (i := 3) rfl (by kernel_rfl) (by rfl) ?_
  refine wp_of_made (L := SaidYes) ?_ ?_
  · exact made_call (by go_simp; first | done | rfl) (true_made (eqR_same _ _ _ _ k ax bx ao6 bo6 A.length D.length A.length D.length A D w11 (U10.out.req.rowA.keep hK6 (by omega)) (U10.out.req.rowD.keep hK6 (by omega)) R6.rowA R6.rowD (by omega) (Nat.le_refl _) hA hDl))
  rintro w12 v hb ⟨⟩
  have hK7 := Kept.trans hK6 hb
  refine ⟨hK7, ?_⟩
  refine norm_act fun K hK => ?_
  go_simp
  refine hK _ ?_
  clear hK K
  refine held_one (i := 4) rfl (by kernel_rfl) (by rfl) ?_
  refine wp_of_run (v := .bool false) (w' := _) (by go_simp; first | done | rfl) ?_
  refine ⟨hK7, ?_⟩
  refine norm_act fun K hK => ?_
  go_simp
  refine hK _ ?_
  clear hK K
  refine wpAnyH_done (by kernel_rfl) ?_ _
  subst hQQ
  have K12 := hideP (K10.out.trans (hK7.mono (by omega)))
  have Y12 := hideP (Y10.out.keep hK7 (by omega))
  have V12 := hideP (V10.out.keep hK7 (by omega) (by omega))
  have n12 := hK7.size
  clear hQ hK0 hK6 hK7 R6 n11 hb p0 p1 p2 q0 q1 q2 K10 X10 Y10 U10 V10 hAA hDD m1 m2
  obtain ⟨p0, p1, p2⟩ := Y12.out
  obtain ⟨q0, q1, q2⟩ := V12.out.box
  have m1 : w.heap.size + 1 < w12.heap.size := by omega
  have m2 : w8.heap.size < w12.heap.size := by omega
  go_wp2_with fail
  refine wp_region_held (S := Kept w12) (by kernel_rfl) ?_
  show wpAnyH _ _ _ _ _ 5 (Array.replicate 5 false) _ (w12).drew
  have hK0 : Kept (w12) (w12).drew := (Below.refl _ _).drew
  generalize hQQ : (Exit.then _ _ : Exit → Act → World → Prop) = QQ
  have hQ : ∀ c a d v w, QQ (.panic c) (Act.put a d v) w → QQ (.panic c) a w := by
    subst hQQ
    intro c a d v w h
    cases d <;> exact h
  refine held_take (i := 0) rfl (by kernel_rfl) (by kernel_rfl) (by kernel_rfl) hQ hK0 (by rfl) ?_
  apply Exists.intro
  refine ⟨fun w1 k1 => ?_, fun K hK => ?_⟩
  · have hc := Kept.cell k1
    go_simp
    first | done | rfl
  go_simp
  refine hK _ ?_
  clear hK K
  refine held_take (i := 1) rfl (by kernel_rfl) (by kernel_rfl) (by kernel_rfl) hQ hK0 (by rfl) ?_
  apply Exists.intro
  refine ⟨fun w1 k1 => ?_, fun K hK => ?_⟩
  · have hc := Kept.cell k1
    go_simp
    first | done | rfl
  go_simp
  refine hK _ ?_
  clear hK K
  have hAA := HA2.out.keep K12.out hs
  have hDD := HD2.out.keep K12.out hs
  refine held_one (i := 2) rfl (by kernel_rfl) (by rfl) ?_
  refine wp_of_made (L := CopyR w12.drew k2 A2 D2) ?_ ?_
  · exact made_call (by go_simp; first | done | rfl) (toReq_made lo hi k2 ao2 bo2 ca2 cb2 A2 D2 _ (hAA.keep hK0 (by omega)) (hDD.keep hK0 (by omega)) (by simp; omega) hA2 hDl2)
  rintro w13 v hb ⟨ao6, bo6, mid6, rfl, R6⟩
  have hK6 := Kept.trans hK0 hb
  refine ⟨hK6, ?_⟩
  refine norm_act fun K hK => ?_
  go_simp
  refine hK _ ?_
  clear hK K
  have n13 := hb.size
  simp only [World.size_drew] at n13
  refine held_one (i := 3) rfl (by kernel_rfl) (by rfl) ?_
  refine wp_of_made (L := SaidYes) ?_ ?_
  · exact made_call (by go_simp; first | done | rfl) (true_made (eqR_same _ _ _ _ k2 ay by' ao6 bo6 A2.length D2.length A2.length D2.length A2 D2 w13 (V12.out.req.rowA.keep hK6 (by omega)) (V12.out.req.rowD.keep hK6 (by omega)) R6.rowA R6.rowD (by omega) (Nat.le_refl _) hA2 hDl2))
  rintro w14 v hb ⟨⟩
  have hK7 := Kept.trans hK6 hb
  refine ⟨hK7, ?_⟩
  refine norm_act fun K hK => ?_
  go_simp
  refine hK _ ?_
  clear hK K
  refine held_one (i := 4) rfl (by kernel_rfl) (by rfl) ?_
  refine wp_of_run (v := .bool false) (w' := _) (by go_simp; first | done | rfl) ?_
  refine ⟨hK7, ?_⟩
  refine norm_act fun K hK => ?_
  go_simp
  refine hK _ ?_
  clear hK K
  refine wpAnyH_done (by kernel_rfl) ?_ _
  subst hQQ
  have K14 := hideP (K12.out.trans (hK7.mono (by omega)))
  clear hQ hK0 hK6 hK7 R6 n13 hb p0 p1 p2 q0 q1 q2 K12 Y12 V12 hAA hDD m1 m2
  go_wp2
  go_returns
  exact ⟨rfl, K14.out⟩

theorem same_law (k : Int) (ao : Option Addr) (ca : Nat) (A : List Int) (bo : Option Addr) (cb : Nat) (D : List Int) (k2 : Int) (ao2 : Option Addr) (ca2 : Nat) (A2 : List Int) (bo2 : Option Addr) (cb2 : Nat) (D2 : List Int) (w : World) (hmA : A.length ≤ maxLen) (hA : Row .i64 w 0 w.heap.size ao A) (hwA : ∀ n ∈ A, (Lit.int .i64 n).wf = true) (hmD : D.length ≤ maxLen) (hD : Row .u8 w 0 w.heap.size bo D) (hwD : ∀ n ∈ D, (Lit.int .u8 n).wf = true)
    (hmA2 : A2.length ≤ maxLen) (hA2 : Row .i64 w 0 w.heap.size ao2 A2) (hwA2 : ∀ n ∈ A2, (Lit.int .i64 n).wf = true) (hmD2 : D2.length ≤ maxLen) (hD2 : Row .u8 w 0 w.heap.size bo2 D2) (hwD2 : ∀ n ∈ D2, (Lit.int .u8 n).wf = true) :
    Calls Try.prog 8 #[.agg #[.int .i64 k, .slice ao A.length ca, .slice bo D.length cb], .agg #[.int .i64 k2, .slice ao2 A2.length ca2, .slice bo2 D2.length cb2]] w fun e w' => e = .returned (.bool true) ∧ Below w.heap.size w w' := by
  by_cases h : (A.length : Int) + D.length ≤ 1048576
  · by_cases h2 : (A.length : Int) + D.length + A2.length + D2.length ≤ 1048576
    · exact same_small 0 w.heap.size k k2 ao bo ao2 bo2 ca cb ca2 cb2 A D A2 D2 w hA hD hA2 hD2 (Nat.le_refl _) (byts_of hwD) (byts_of hwD2) h2
    · exact same_big2 k k2 ao bo ao2 bo2 A.length ca D.length cb A2.length ca2 D2.length cb2 w hmA hmD h hmA2 hmD2 (by omega)
  · exact same_big1 k k2 ao bo ao2 bo2 A.length ca D.length cb A2.length ca2 D2.length cb2 w hmA hmD (by omega)

end Go.Proofs.Ytlagcanbmenglai
