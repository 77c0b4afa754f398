/- RequestText: the law's walk. -/
import Derived.Test.YtbceacnadkhdoabDoorRt4
import Derived.Test.YtbceacnadkhdoabDoorPck4
namespace Go.Proofs.YtbceacnadkhdoabDoor
open Go.RowKit
set_option linter.unusedVariables false

set_option maxHeartbeats 400000 in
theorem eqT_same (c : Int) (s : ByteArray) (w : World) :
    Calls Tryd.prog 8 #[.agg #[.int .i64 c, .string s], .agg #[.int .i64 c, .string s]] w fun e w' => e = .returned (.bool true) ∧ Below w.heap.size w w' := by
  have h1 : (c != c) = false := by simp
  have h2 : (s.toList == s.toList) = true := by simp
  have h3 : (s.toList != s.toList) = false := by simp
  go_enter Tryd.func8, Tryd.ntmps8
  go_wp2
  go_returns
  refine ⟨rfl, ?_⟩
  repeat' (first | (with_reducible exact Below.refl _ _) | (with_reducible refine kept_below ?_ (by assumption) ?_) | (with_reducible refine Below.alloc ?_ ?_ _) | (with_reducible refine Below.drew ?_) | (with_reducible refine Below.setCell ?_ ?_ _) | go_size)

set_option maxHeartbeats 400000 in
theorem text_big (k : Int) (ao bo : Option Addr) (na ca nd cb : Nat) (w : World) (hn : na ≤ maxLen) (hd : nd ≤ maxLen) (h : (1048576 : Int) < (na : Int) + nd) :
    Calls Tryd.prog 3 #[.agg #[.int .i64 k, .slice ao na ca, .slice bo nd cb]] w fun e w' => e = .returned (.bool true) ∧ Below w.heap.size w w' := by
  go_enter Tryd.func3, Tryd.ntmps3
  go_wp2_with fail
  refine Calls.mono (szR_big k ao bo na ca nd cb 1048576 _ hn hd (by omega) (by omega) h) ?_
  rintro e w1 ⟨rfl, k1⟩
  go_wp2
  go_returns
  refine ⟨rfl, ?_⟩
  repeat' (first | (with_reducible exact Below.refl _ _) | (with_reducible refine kept_below ?_ (by assumption) ?_) | (with_reducible refine Below.alloc ?_ ?_ _) | (with_reducible refine Below.drew ?_) | (with_reducible refine Below.setCell ?_ ?_ _) | go_size)

theorem kalT (w : World) (o : Obj) : Below w.heap.size w (w.alloc o) := (Below.refl _ _).alloc (Nat.le_refl _) o

set_option maxRecDepth 100000 in
set_option maxHeartbeats 4000000 in
theorem text_small (lo hi : Nat) (k : Int) (ao bo : Option Addr) (ca cb : Nat) (A D : List Int) (w : World) (ha : Row .i64 w lo hi ao A) (hd : Row .u8 w lo hi bo D) (hs : hi ≤ w.heap.size) (hBD : D.all isB = true) (hT : Tens w.heap.size w) (h : (A.length : Int) + D.length ≤ 1048576) :
    Calls Tryd.prog 3 #[.agg #[.int .i64 k, .slice ao A.length ca, .slice bo D.length cb]] w fun e w' => e = .returned (.bool true) ∧ Below w.heap.size w w' := by
  have HA := hideP ha
  have HD := hideP hd
  have HT := hideP hT
  have hA : A.length ≤ 1048576 := by omega
  have hDl : D.length ≤ 1048576 := by omega
  have hq0 : 0 ≤ 1048576 - (A.length : Int) - (D.length : Int) := by omega
  obtain ⟨C, hC⟩ : ∃ C, rF k A D.length = C := ⟨_, rfl⟩
  obtain ⟨s, hS⟩ : ∃ s, tX k A D = s := ⟨_, rfl⟩
  have SP := fun lo hi ao bo ca cb w h1 h2 h3 => sText_any lo hi k ao bo ca cb A D w h1 h2 h3 hBD
  have IP := fun lo hi ao bo ca cb w h1 h2 h3 => iText_any lo hi k ao bo ca cb A D w h1 h2 h3 hBD
  rw [hC, hS] at SP IP
  have SP' := hideP SP
  have IP' := hideP IP
  clear ha hd SP IP hC hS hBD hT
  go_enter Tryd.func3, Tryd.ntmps3
  go_wp2_with fail
  refine Calls.mono (szR_small k ao bo A.length ca D.length cb 1048576 _ (by unfold maxLen; omega) (by unfold maxLen; omega) (by omega) (by omega) h) ?_
  rintro e w1 ⟨rfl, k1⟩
  have K1 : Hid (Below w.heap.size w w1) := hideP (Below.trans (by go_grown) (k1.mono (by simp)))
  have X1 : Hid (Bx w1 w.heap.size k (.slice ao A.length ca) (.slice bo D.length cb)) := hideP (Bx.keep ⟨by simp, by simp, by simp⟩ k1 (by simp))
  have n1 : w.heap.size < w1.heap.size := by have := k1.size; simp at this; omega
  clear k1
  obtain ⟨p0, p1, p2⟩ := X1.out
  go_wp2_with fail
  clear p0 p1 p2
  refine Calls.mono (toReq_any lo hi k ao bo ca cb A D _ (HA.out.keep K1.out hs) (HD.out.keep K1.out hs) (by omega) hA hDl) ?_
  rintro e w2 ⟨ao2, bo2, mid2, rfl, k2, R2⟩
  have R2' := hideP R2
  have K2 : Hid (Below w.heap.size w w2) := hideP (K1.out.trans (k2.mono (by omega)))
  have X2 := hideP (X1.out.keep k2 n1)
  have n2 := Nat.lt_of_lt_of_le n1 k2.size
  clear k2 R2 K1 X1 n1
  go_wp2_with fail
  refine Calls.mono (SP'.out _ _ ao2 bo2 A.length D.length w2 R2'.out.rowA R2'.out.rowD (Nat.le_refl _)) ?_
  rintro e w3 ⟨rfl, k3⟩
  have K3 : Hid (Below w.heap.size w w3) := hideP (K2.out.trans (k3.mono (by omega)))
  have X3 := hideP (X2.out.keep k3 n2)
  have n3 := Nat.lt_of_lt_of_le n2 k3.size
  have W4 : Hid (Rb (w3.alloc (.cells #[.int .i64 C, .string s] 28)) w3.heap.size (.int .i64 C) (.string s)) := hideP ⟨by simp, by simp, by simp, by simp, by simp⟩
  clear k3 K2 X2 R2' SP'
  obtain ⟨p0, p1, p2⟩ := X3.out
  go_wp2_with fail
  clear p0 p1 p2
  have K4 := hideP (K3.out.trans ((kalT w3 (.cells #[.int .i64 C, .string s] 28)).mono (by omega)))
  have X4 := hideP (X3.out.keep (kalT w3 (.cells #[.int .i64 C, .string s] 28)) n3)
  have n4 : w3.heap.size < (w3.alloc (.cells #[.int .i64 C, .string s] 28)).heap.size := by simp
  generalize w3.alloc (.cells #[.int .i64 C, .string s] 28) = w4 at *
  refine Calls.mono (toReq_any lo hi k ao bo ca cb A D _ (HA.out.keep K4.out hs) (HD.out.keep K4.out hs) (by omega) hA hDl) ?_
  rintro e w5 ⟨ax, bx, mx, rfl, k5, R5⟩
  have K5 : Hid (Below w.heap.size w w5) := hideP (K4.out.trans (k5.mono (by omega)))
  have X5 := hideP (X4.out.keep k5 (by omega))
  have W5 := hideP (W4.out.keep k5 n4)
  have n5 := k5.size
  have Y6 : Hid (PX (w5.alloc (.cells #[.int .i64 k, .slice ax A.length A.length, .slice bx D.length D.length] 30)) w5.heap.size w4.heap.size mx w5.heap.size k ax bx A.length D.length A D) := hideP (PX.new R5)
  clear k5 R5 K3 X3 K4 X4 W4
  go_wp2_with fail
  have ka := kalT w5 (.cells #[.int .i64 k, .slice ax A.length A.length, .slice bx D.length D.length] 30)
  have K6 := hideP (K5.out.trans (ka.mono (by omega)))
  have X6 := hideP (X5.out.keep ka (by omega))
  have W6 := hideP (W5.out.keep ka (by omega))
  have n6 : w5.heap.size < (w5.alloc (.cells #[.int .i64 k, .slice ax A.length A.length, .slice bx D.length D.length] 30)).heap.size := by simp
  clear ka K5 X5 W5
  generalize w5.alloc (.cells #[.int .i64 k, .slice ax A.length A.length, .slice bx D.length D.length] 30) = w6 at *
  refine Calls.mono (IP'.out _ _ ax bx A.length D.length w6 Y6.out.req.rowA Y6.out.req.rowD (by omega) (Tens.up (HT.out.keep K6.out) (by omega))) ?_
  rintro e w7 ⟨rfl, k7⟩
  have K7 := hideP (K6.out.trans (k7.mono (by omega)))
  have X7 := hideP (X6.out.keep k7 (by omega))
  have W7 := hideP (W6.out.keep k7 (by omega))
  have Y7 := hideP (Y6.out.keep k7 n6 (by omega))
  have n7 := k7.size
  clear k7 K6 X6 W6 Y6 IP' HT
  obtain ⟨r0, r1, r2, r3, r4⟩ := W7.out
  go_wp2_with fail
  clear r0 r1 r2 r3 r4
  refine Calls.mono (eqT_same C s _) ?_
  rintro e w9 ⟨rfl, k9⟩
  have k79 : Hid (Below w7.heap.size w7 w9) := hideP (Below.trans (kalT w7 (.cells #[.int .i64 C, .string s] 28)) (k9.mono (by simp)))
  have K9 := hideP (K7.out.trans (k79.out.mono (by omega)))
  have X9 := hideP (X7.out.keep k79.out (by omega))
  have Y9 := hideP (Y7.out.keep k79.out (by omega) (by omega))
  have n9 := k79.out.size
  clear k9 k79 K7 X7 W7 Y7
  obtain ⟨p0, p1, p2⟩ := X9.out
  obtain ⟨q0, q1, q2⟩ := Y9.out.box
  have n9a : w.heap.size < w9.heap.size := by omega
  have n9b : w5.heap.size < w9.heap.size := by omega
  go_wp2_with fail
  refine wp_region_held (S := Kept w9) (by kernel_rfl) ?_
  show wpAnyH _ _ _ _ _ 5 (Array.replicate 5 false) _ (w9).drew
  have hK0 : Kept (w9) (w9).drew := (Below.refl _ _).drew
  generalize hQQ : (Exit.then _ _ : Exit → Act → World → Prop) = QQ
  have hQ : ∀ c a d v w, QQ (.panic c) (Act.put a d v) w → QQ (.panic c) a w := by
    subst hQQ
    intro c a d v w h
    cases d <;> exact h
  refine held_take (i := 0) rfl (by kernel_rfl) (by kernel_rfl) (by kernel_rfl) hQ hK0 (by rfl) ?_
  apply Exists.intro
  refine ⟨fun w1 k1 => ?_, fun K hK => ?_⟩
  · have hc := Kept.cell k1
    go_simp
    first | done | rfl
  go_simp
  refine hK _ ?_
  clear hK K
  refine held_take (i := 1) rfl (by kernel_rfl) (by kernel_rfl) (by kernel_rfl) hQ hK0 (by rfl) ?_
  apply Exists.intro
  refine ⟨fun w1 k1 => ?_, fun K hK => ?_⟩
  · have hc := Kept.cell k1
    go_simp
    first | done | rfl
  go_simp
  refine hK _ ?_
  clear hK K
  have hAA := HA.out.keep K9.out hs
  have hDD := HD.out.keep K9.out hs
  refine held_one (i := 2) rfl (by kernel_rfl) (by rfl) ?_
  refine wp_of_made (L := CopyR w9.drew k A D) ?_ ?_
  · exact made_call (by go_simp; first | done | rfl) (toReq_made lo hi k ao bo ca cb A D _ (hAA.keep hK0 (by omega)) (hDD.keep hK0 (by omega)) (by simp; omega) hA hDl)
  rintro w10 v hb ⟨ao6, bo6, mid6, rfl, R6⟩
  have hK6 := Kept.trans hK0 hb
  refine ⟨hK6, ?_⟩
  refine norm_act fun K hK => ?_
  go_simp
  refine hK _ ?_
  clear hK K
  have n10 := hb.size
  simp only [World.size_drew] at n10
  refine held_one (i := 3) rfl (by kernel_rfl) (by rfl) ?_
  refine wp_of_made (L := SaidYes) ?_ ?_
  · exact made_call (by go_simp; first | done | rfl) (true_made (eqR_same _ _ _ _ k ax bx ao6 bo6 A.length D.length A.length D.length A D w10 (Y9.out.req.rowA.keep hK6 (by omega)) (Y9.out.req.rowD.keep hK6 (by omega)) R6.rowA R6.rowD (by omega) (Nat.le_refl _) hA hDl))
  rintro w11 v hb ⟨⟩
  have hK7 := Kept.trans hK6 hb
  refine ⟨hK7, ?_⟩
  refine norm_act fun K hK => ?_
  go_simp
  refine hK _ ?_
  clear hK K
  refine held_one (i := 4) rfl (by kernel_rfl) (by rfl) ?_
  refine wp_of_run (v := .bool false) (w' := _) (by go_simp; first | done | rfl) ?_
  refine ⟨hK7, ?_⟩
  refine norm_act fun K hK => ?_
  go_simp
  refine hK _ ?_
  clear hK K
  refine wpAnyH_done (by kernel_rfl) ?_ _
  subst hQQ
  have K11 := hideP (K9.out.trans (hK7.mono (by omega)))
  clear hQ hK0 hK6 hK7 R6 hb p0 p1 p2 q0 q1 q2 K9 X9 Y9 hAA hDD n10 n9a n9b
  go_wp2
  go_returns
  exact ⟨rfl, K11.out⟩

theorem all_of_wf {D : List Int} (h : ∀ n ∈ D, (Lit.int .u8 n).wf = true) : D.all isB = true := List.all_eq_true.2 fun n hn => decide_eq_true (bounds_u8 (h n hn))

theorem text_law (k : Int) (ao : Option Addr) (ca : Nat) (A : List Int) (bo : Option Addr) (cb : Nat) (D : List Int) (w : World) (hmA : A.length ≤ maxLen) (hA : Row .i64 w 0 w.heap.size ao A) (hwA : ∀ n ∈ A, (Lit.int .i64 n).wf = true) (hmD : D.length ≤ maxLen) (hD : Row .u8 w 0 w.heap.size bo D) (hwD : ∀ n ∈ D, (Lit.int .u8 n).wf = true) (hT : Tens w.heap.size w) :
    Calls Tryd.prog 3 #[.agg #[.int .i64 k, .slice ao A.length ca, .slice bo D.length cb]] w fun e w' => e = .returned (.bool true) ∧ Below w.heap.size w w' := by
  by_cases h : (A.length : Int) + D.length ≤ 1048576
  · exact text_small 0 w.heap.size k ao bo ca cb A D w hA hD (Nat.le_refl _) (all_of_wf hwD) hT h
  · exact text_big k ao bo A.length ca D.length cb w hmA hmD (by omega)

end Go.Proofs.YtbceacnadkhdoabDoor
