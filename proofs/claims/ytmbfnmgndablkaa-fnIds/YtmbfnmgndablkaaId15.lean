/- FnIds: the law's walk. (Written by genid2.py.) -/
import Derived.Test.YtmbfnmgndablkaaId14
import Derived.Test.YtmbfnmgndablkaaId12
import Derived.Test.YtmbfnmgndablkaaId10
import Derived.Test.YtmbfnmgndablkaaId7
import Derived.Test.YtmbfnmgndablkaaHeld0
namespace Go.Proofs.Ytmbfnmgndablkaa
open Go.RowKit
set_option linter.unusedVariables false

theorem fR0 (c : Int) (ao : Option Addr) (n ca : Nat) (w : World) : Sem.run Try.prog (Instr.field 31 (.agg #[.int .i64 c, .slice ao n ca]) 0) w = .ok (.int .i64 c) w := by kernel_rfl
theorem fR1 (c : Int) (ao : Option Addr) (n ca : Nat) (w : World) : Sem.run Try.prog (Instr.field 31 (.agg #[.int .i64 c, .slice ao n ca]) 1) w = .ok (.slice ao n ca) w := by kernel_rfl
attribute [local go_sem high] fI0 fI1 fR0 fR1

def SaidV5 (v0 : Value) (w2 : World) (v : Value) : Prop := v = v0
theorem saidV5_made {f : FuncId} {args : Array Value} {w : World} {v0 : Value} (h : Calls Try.prog f args w fun e w' => e = .returned v0 ∧ Below w.heap.size w w') : Calls Try.prog f args w fun e w'' => ∃ v, e = .returned v ∧ Below w.heap.size w w'' ∧ SaidV5 v0 w'' v :=
  h.mono fun e w' ⟨he, hb⟩ => ⟨_, he, hb, rfl⟩
def IsV (c : Int) (M : List Int) (w2 : World) (v : Value) : Prop := ∃ ao ca, v = .agg #[.int .i64 c, .slice ao M.length ca] ∧ Row .i64 w2 0 w2.heap.size ao M
theorem isV_made {f : FuncId} {args : Array Value} {w : World} {c : Int} {M : List Int} (h : Calls Try.prog f args w (IsS w c M)) : Calls Try.prog f args w fun e w'' => ∃ v, e = .returned v ∧ Below w.heap.size w w'' ∧ IsV c M w'' v :=
  h.mono fun e w' ⟨ao, ca, he, ho, hb⟩ => ⟨_, he, hb, ao, ca, rfl, ho.wrt.row.wide (Nat.zero_le _) (Nat.le_refl _)⟩

theorem Bytes.below5 {w w' : World} {B N : Nat} {a : Option Addr} {len : Nat} {f : Nat → Int} (h : Bytes w B a len f) (k : Below N w w') (hB : B ≤ N) : Bytes w' B a len f := by
  rcases h with h | ⟨xb, xo, ha, hx, hc⟩
  · exact .inl h
  · exact .inr ⟨xb, xo, ha, hx, fun i hi => ⟨(k.cell (p := ⟨xb, xo + i, none⟩) (by show xb < N; omega)).trans (hc i hi).1, (hc i hi).2⟩⟩
theorem Bytes.up5 {w : World} {B B' : Nat} {a : Option Addr} {len : Nat} {f : Nat → Int} (h : Bytes w B a len f) (hB : B ≤ B') : Bytes w B' a len f := by
  rcases h with h | ⟨xb, xo, ha, hx, hc⟩
  · exact .inl h
  · exact .inr ⟨xb, xo, ha, by omega, hc⟩

set_option maxHeartbeats 400000 in
theorem fnIds_big (a : Option Addr) (len cap : Nat) (w : World) (hl : len ≤ maxLen) (h : 1048576 < len) :
    Calls Try.prog 3 #[.slice a len cap] w fun e w' => e = .returned (.bool true) ∧ Below w.heap.size w w' := by
  have hd : decide ((1048576 : Int) < (len : Int)) = true := by simp; omega
  go_enter Try.func3, Try.ntmps3
  go_wp2_with (go_at_call 9; refine Calls.mono (big5 _ _ _ _ hl) ?_; rintro e w0 ⟨rfl, hw0⟩; subst w0)
  go_returns
  exact ⟨rfl, Below.refl _ _⟩

/-- Where there is a new id: what its slot's own ids, and the others', say of it. -/
theorem next_says {L : List Int} {s : Int} (h : nxC L s = 0) : askF L s = 0 ∧ 0 ≤ s ∧ s ≤ 3 ∧ nxC (ownL L s) s = 0 ∧ nxV (ownL L s) s = nxV L s ∧ nxV L s ∉ L ∧ slC (nxV L s) = 0 ∧ slV (nxV L s) = s ∧ nxV (offL L s) s = 64 * s + 1 := by
  have h0 : askF L s = 0 := by
    by_cases h1 : askF L s = 0
    · exact h1
    · rw [nxC_no h1] at h; exact absurd h h1
  obtain ⟨h1, s0, s3⟩ := askF_ok h0
  have hn : nxt L s ≠ -1 := by
    intro e
    rw [nxC_yes h0, if_pos e] at h
    omega
  have hv : nxV L s = nxt L s := by rw [nxV_yes h0, if_neg hn]
  obtain ⟨f1, f2, f3⟩ := nxt_free s0 s3 hn
  have a1 : askF (ownL L s) s = 0 := askF_yes (idsF_own h1) s0 s3
  have a2 : askF (offL L s) s = 0 := askF_yes (idsF_off h1) s0 s3
  refine ⟨h0, s0, s3, ?_, ?_, by rw [hv]; exact f1, by rw [hv]; exact slC_yes f2, by rw [hv]; exact f3, ?_⟩
  · rw [nxC_yes a1, nxt_own s0 s3, if_neg hn]
  · rw [nxV_yes a1, nxt_own s0 s3, if_neg hn, hv]
  · rw [nxV_yes a2, nxt_off s0 s3, if_neg (by omega)]

set_option maxRecDepth 100000 in
set_option maxHeartbeats 20000000 in
theorem fnIds_small (a : Option Addr) (len cap : Nat) (f : Nat → Int) (w : World) (hB : Bytes w w.heap.size a len f) (hlm : len ≤ maxLen) (hl : len ≤ 1048576) :
    Calls Try.prog 3 #[.slice a len cap] w fun e w' => e = .returned (.bool true) ∧ Below w.heap.size w w' := by
  have hd : decide ((1048576 : Int) < (len : Int)) = false := by simp; omega
  have HB := hideP hB
  clear hB
  go_enter Try.func3, Try.ntmps3
  go_wp2_with fail
  refine Calls.mono (big5 _ _ _ _ hlm) ?_
  rintro e w0 ⟨rfl, hw0⟩
  subst w0
  rw [hd]
  go_wp2_with fail
  refine Calls.mono (drawNext_any w a len cap f HB.out hl) ?_
  rintro e w1 ⟨ao, ca, L, s, rfl, hL, hLc, s0, s4, k1, RL⟩
  have K1 := hideP k1
  have R1 := hideP RL
  have n1 := k1.size
  clear k1 RL
  have hol : (owL L s).length ≤ 1048576 := Nat.le_trans (owL_len L s) (by omega)
  have hfl : (ofL L s).length ≤ 1048576 := Nat.le_trans (ofL_len L s) (by omega)
  have CO := iOwnOf_any (L := L) (s := s)
  have CD := iDropOwn_any (L := L) (s := s)
  have CN := iNextId_any (L := L) (s := s)
  have XO := sOwnOf_any (L := L) (s := s)
  have XD := sDropOwn_any (L := L) (s := s)
  have XN := sNextId_any (L := L) (s := s)
  obtain ⟨C, hC⟩ : ∃ C, nxC L s = C := ⟨_, rfl⟩
  obtain ⟨V, hV⟩ : ∃ V, nxV L s = V := ⟨_, rfl⟩
  obtain ⟨A, hA⟩ : ∃ A, askF L s = A := ⟨_, rfl⟩
  obtain ⟨OL, hOL⟩ : ∃ OL, owL L s = OL := ⟨_, rfl⟩
  obtain ⟨FL, hFL⟩ : ∃ FL, ofL L s = FL := ⟨_, rfl⟩
  rw [hC, hV] at CN XN
  rw [hA, hOL] at CO XO
  rw [hA, hFL] at CD XD
  rw [hOL] at hol
  rw [hFL] at hfl
  have HCO := hideP CO
  have HCD := hideP CD
  have HCN := hideP CN
  have HXO := hideP XO
  have HXD := hideP XD
  have HXN := hideP XN
  have HEQ := hideP (And.intro hC (And.intro hV (And.intro hA (And.intro hOL hFL))))
  clear CO CD CN XO XD XN hC hV hA hOL hFL
  go_wp2_with fail
  refine Calls.mono (HCN.out _ _ ao ca w1 R1.out (Nat.le_refl _) (by omega)) ?_
  rintro e w2 ⟨rfl, k2⟩
  have K2 := hideP (K1.out.trans (k2.mono (by omega)))
  have R2 := hideP (R1.out.keep k2 (Nat.le_refl _))
  have n2 := k2.size
  have B3 : Hid (Rb (w2.alloc (.cells #[.int .i64 C, .int .i64 V] 28)) w2.heap.size (.int .i64 C) (.int .i64 V)) := hideP ⟨by simp, by simp, by simp, by simp, by simp⟩
  clear k2 K1 R1
  go_wp2_with fail
  have ka := kal5 w2 (.cells #[.int .i64 C, .int .i64 V] 28)
  have K3 := hideP (K2.out.trans (ka.mono (by omega)))
  have R3 := hideP (R2.out.keep ka (by omega))
  have n3 : w2.heap.size < (w2.alloc (.cells #[.int .i64 C, .int .i64 V] 28)).heap.size := by simp
  clear ka K2 R2
  generalize w2.alloc (.cells #[.int .i64 C, .int .i64 V] 28) = w3 at *
  refine Calls.mono (HCO.out _ _ ao ca w3 R3.out (by omega) (by omega)) ?_
  rintro e w4 ⟨ao5, ca5, rfl, O4, k4⟩
  have K4 := hideP (K3.out.trans (k4.mono (by omega)))
  have R4 := hideP (R3.out.keep k4 (by omega))
  have B4 := hideP (B3.out.keep k4 n3)
  have n4 := k4.size
  have P5 : Hid (PI (w4.alloc (.cells #[.int .i64 A, .slice ao5 OL.length ca5] 31)) w4.heap.size w3.heap.size w4.heap.size A ao5 ca5 OL) := hideP (PI.new O4 k4.size)
  clear k4 O4 K3 R3 B3
  go_wp2_with fail
  have ka := kal5 w4 (.cells #[.int .i64 A, .slice ao5 OL.length ca5] 31)
  have K5 := hideP (K4.out.trans (ka.mono (by omega)))
  have R5 := hideP (R4.out.keep ka (by omega))
  have B5 := hideP (B4.out.keep ka (by omega))
  have n5 : w4.heap.size < (w4.alloc (.cells #[.int .i64 A, .slice ao5 OL.length ca5] 31)).heap.size := by simp
  clear ka K4 R4 B4
  generalize w4.alloc (.cells #[.int .i64 A, .slice ao5 OL.length ca5] 31) = w5 at *
  refine Calls.mono (HCD.out _ _ ao ca w5 R5.out (by omega) (by omega)) ?_
  rintro e w6 ⟨ao7, ca7, rfl, O6, k6⟩
  have K6 := hideP (K5.out.trans (k6.mono (by omega)))
  have R6 := hideP (R5.out.keep k6 (by omega))
  have B6 := hideP (B5.out.keep k6 (by omega))
  have P6 := hideP (P5.out.keep k6 n5 (by omega))
  have n6 := k6.size
  have D7 : Hid (PI (w6.alloc (.cells #[.int .i64 A, .slice ao7 FL.length ca7] 31)) w6.heap.size w5.heap.size w6.heap.size A ao7 ca7 FL) := hideP (PI.new O6 k6.size)
  clear k6 O6 K5 R5 B5 P5
  go_wp2_with fail
  have ka := kal5 w6 (.cells #[.int .i64 A, .slice ao7 FL.length ca7] 31)
  have K7 := hideP (K6.out.trans (ka.mono (by omega)))
  have R7 := hideP (R6.out.keep ka (by omega))
  have B7 := hideP (B6.out.keep ka (by omega))
  have P7 := hideP (P6.out.keep ka (by omega) (by omega))
  have n7 : w6.heap.size < (w6.alloc (.cells #[.int .i64 A, .slice ao7 FL.length ca7] 31)).heap.size := by simp
  clear ka K6 R6 B6 P6
  generalize w6.alloc (.cells #[.int .i64 A, .slice ao7 FL.length ca7] 31) = w7 at *
  refine Calls.mono (drawSlot_any w7 a len cap f ((HB.out.below5 K7.out (Nat.le_refl _)).up5 (by omega)) hl) ?_
  rintro e w8 ⟨x, rfl, k8⟩
  have K8 := hideP (K7.out.trans (k8.mono (by omega)))
  have R8 := hideP (R7.out.keep k8 (by omega))
  have B8 := hideP (B7.out.keep k8 (by omega))
  have P8 := hideP (P7.out.keep k8 (by omega) (by omega))
  have D8 := hideP (D7.out.keep k8 n7 (by omega))
  have n8 := k8.size
  clear k8 K7 R7 B7 P7 D7
  have CI := iSlot_any x
  have CS := sSlot_any x
  obtain ⟨xc, hxc⟩ : ∃ xc, slC x = xc := ⟨_, rfl⟩
  obtain ⟨xv, hxv⟩ : ∃ xv, slV x = xv := ⟨_, rfl⟩
  rw [hxc, hxv] at CI CS
  clear hxc hxv
  replace CI := hideP CI
  replace CS := hideP CS
  have SO := hideP (fun w' (kw : Kept w8 w') => HXO.out _ _ ao ca w' (R8.out.keep (Kept.below kw) (by omega)) (by have := Below.size kw; omega) (by omega) hLc)
  have SD := hideP (fun w' (kw : Kept w8 w') => HXD.out _ _ ao ca w' (R8.out.keep (Kept.below kw) (by omega)) (by have := Below.size kw; omega) (by omega) hLc)
  have e1 : (xc != xc) = false := by simp
  have e2 : (xv != xv) = false := by simp
  have e3 : (A != A) = false := by simp
  have m1 : w4.heap.size < w8.heap.size := by omega
  have m2 : w6.heap.size < w8.heap.size := by omega
  have m3 : w2.heap.size < w8.heap.size := by omega
  obtain ⟨p0, p1, p2, p3, p4⟩ := P8.out.box
  obtain ⟨d0, d1, d2, d3, d4⟩ := D8.out.box
  go_wp2_with fail
  refine wp_region_held (S := Kept w8) (by kernel_rfl) ?_
  show wpAnyH _ _ _ _ _ 44 (Array.replicate 44 false) _ (w8).drew
  have hK0 : Kept (w8) (w8).drew := (Below.refl _ _).drew
  generalize hQQ : (Exit.then _ _ : Exit → Act → World → Prop) = QQ
  have hQ : ∀ c a d v w, QQ (.panic c) (Act.put a d v) w → QQ (.panic c) a w := by
    subst hQQ
    intro c a d v w h
    cases d <;> exact h
  refine held_take (i := 0) rfl (by kernel_rfl) (by kernel_rfl) (by kernel_rfl) hQ hK0 (by rfl) ?_
  apply Exists.intro
  refine ⟨fun w1 k1 => ?_, fun K hK => ?_⟩
  · have hc := Kept.cell k1
    go_simp
    first | done | rfl
  go_simp
  refine hK _ ?_
  clear hK K
  refine held_take (i := 3) rfl (by kernel_rfl) (by kernel_rfl) (by kernel_rfl) hQ hK0 (by rfl) ?_
  apply Exists.intro
  refine ⟨fun w1 k1 => ?_, fun K hK => ?_⟩
  · have hc := Kept.cell k1
    go_simp
    first | done | rfl
  go_simp
  refine hK _ ?_
  clear hK K
  refine held_one (i := 1) rfl (by kernel_rfl) (by rfl) ?_
  refine wp_of_made (L := SaidV5 (.agg #[.int .i64 xc, .int .i64 xv])) ?_ ?_
  · exact made_call (by go_simp; first | done | rfl) (saidV5_made (CI.out _))
  rintro x1 v hb ⟨⟩
  have hK1 := Kept.trans hK0 hb
  refine ⟨hK1, ?_⟩
  refine norm_act fun K hK => ?_
  go_simp
  refine hK _ ?_
  clear hK K
  refine held_take (i := 2) rfl (by kernel_rfl) (by kernel_rfl) (by kernel_rfl) hQ hK1 (by rfl) ?_
  apply Exists.intro
  refine ⟨fun w1 k1 => ?_, fun K hK => ?_⟩
  · have hc := Kept.cell k1
    go_simp
    first | done | rfl
  go_simp
  refine hK _ ?_
  clear hK K
  refine held_one (i := 4) rfl (by kernel_rfl) (by rfl) ?_
  refine wp_of_made (L := SaidV5 (.agg #[.int .i64 xc, .int .i64 xv])) ?_ ?_
  · exact made_call (by go_simp; first | done | rfl) (saidV5_made (CS.out _))
  rintro x2 v hb ⟨⟩
  have hK2 := Kept.trans hK1 hb
  refine ⟨hK2, ?_⟩
  refine norm_act fun K hK => ?_
  go_simp
  refine hK _ ?_
  clear hK K
  refine held_take (i := 5) rfl (by kernel_rfl) (by kernel_rfl) (by kernel_rfl) hQ hK2 (by rfl) ?_
  apply Exists.intro
  refine ⟨fun w1 k1 => ?_, fun K hK => ?_⟩
  · have hc := Kept.cell k1
    go_simp
    first | done | rfl
  go_simp
  refine hK _ ?_
  clear hK K
  refine held_take (i := 6) rfl (by kernel_rfl) (by kernel_rfl) (by kernel_rfl) hQ hK2 (by rfl) ?_
  apply Exists.intro
  refine ⟨fun w1 k1 => ?_, fun K hK => ?_⟩
  · have hc := Kept.cell k1
    go_simp
    first | done | rfl
  go_simp
  refine hK _ ?_
  clear hK K
  refine held_take (i := 7) rfl (by kernel_rfl) (by kernel_rfl) (by kernel_rfl) hQ hK2 (by rfl) ?_
  apply Exists.intro
  refine ⟨fun w1 k1 => ?_, fun K hK => ?_⟩
  · have hc := Kept.cell k1
    go_simp
    first | done | rfl
  go_simp
  refine hK _ ?_
  clear hK K
  refine held_take (i := 8) rfl (by kernel_rfl) (by kernel_rfl) (by kernel_rfl) hQ hK2 (by rfl) ?_
  apply Exists.intro
  refine ⟨fun w1 k1 => ?_, fun K hK => ?_⟩
  · have hc := Kept.cell k1
    go_simp
    first | done | rfl
  go_simp
  refine hK _ ?_
  clear hK K
  refine held_take (i := 11) rfl (by kernel_rfl) (by kernel_rfl) (by kernel_rfl) hQ hK2 (by rfl) ?_
  apply Exists.intro
  refine ⟨fun w1 k1 => ?_, fun K hK => ?_⟩
  · have hc := Kept.cell k1
    go_simp
    first | done | rfl
  go_simp
  refine hK _ ?_
  clear hK K
  refine held_one (i := 9) rfl (by kernel_rfl) (by rfl) ?_
  refine wp_of_made (L := SaidV5 (.agg #[.int .i64 xc, .int .i64 xv])) ?_ ?_
  · exact made_call (by go_simp; first | done | rfl) (saidV5_made (CI.out _))
  rintro x3 v hb ⟨⟩
  have hK3 := Kept.trans hK2 hb
  refine ⟨hK3, ?_⟩
  refine norm_act fun K hK => ?_
  go_simp
  refine hK _ ?_
  clear hK K
  refine held_take (i := 10) rfl (by kernel_rfl) (by kernel_rfl) (by kernel_rfl) hQ hK3 (by rfl) ?_
  apply Exists.intro
  refine ⟨fun w1 k1 => ?_, fun K hK => ?_⟩
  · have hc := Kept.cell k1
    go_simp
    first | done | rfl
  go_simp
  refine hK _ ?_
  clear hK K
  refine held_one (i := 12) rfl (by kernel_rfl) (by rfl) ?_
  refine wp_of_made (L := SaidV5 (.agg #[.int .i64 xc, .int .i64 xv])) ?_ ?_
  · exact made_call (by go_simp; first | done | rfl) (saidV5_made (CS.out _))
  rintro x4 v hb ⟨⟩
  have hK4 := Kept.trans hK3 hb
  refine ⟨hK4, ?_⟩
  refine norm_act fun K hK => ?_
  go_simp
  refine hK _ ?_
  clear hK K
  refine held_take (i := 13) rfl (by kernel_rfl) (by kernel_rfl) (by kernel_rfl) hQ hK4 (by rfl) ?_
  apply Exists.intro
  refine ⟨fun w1 k1 => ?_, fun K hK => ?_⟩
  · have hc := Kept.cell k1
    go_simp
    first | done | rfl
  go_simp
  refine hK _ ?_
  clear hK K
  refine held_take (i := 14) rfl (by kernel_rfl) (by kernel_rfl) (by kernel_rfl) hQ hK4 (by rfl) ?_
  apply Exists.intro
  refine ⟨fun w1 k1 => ?_, fun K hK => ?_⟩
  · have hc := Kept.cell k1
    go_simp
    first | done | rfl
  go_simp
  refine hK _ ?_
  clear hK K
  refine held_take (i := 15) rfl (by kernel_rfl) (by kernel_rfl) (by kernel_rfl) hQ hK4 (by rfl) ?_
  apply Exists.intro
  refine ⟨fun w1 k1 => ?_, fun K hK => ?_⟩
  · have hc := Kept.cell k1
    go_simp
    first | done | rfl
  go_simp
  refine hK _ ?_
  clear hK K
  refine held_take (i := 16) rfl (by kernel_rfl) (by kernel_rfl) (by kernel_rfl) hQ hK4 (by rfl) ?_
  apply Exists.intro
  refine ⟨fun w1 k1 => ?_, fun K hK => ?_⟩
  · have hc := Kept.cell k1
    go_simp
    first | done | rfl
  go_simp
  refine hK _ ?_
  clear hK K
  refine held_take (i := 17) rfl (by kernel_rfl) (by kernel_rfl) (by kernel_rfl) hQ hK4 (by rfl) ?_
  apply Exists.intro
  refine ⟨fun w1 k1 => ?_, fun K hK => ?_⟩
  · have hc := Kept.cell k1
    go_simp
    first | done | rfl
  go_simp
  refine hK _ ?_
  clear hK K
  refine held_take (i := 18) rfl (by kernel_rfl) (by kernel_rfl) (by kernel_rfl) hQ hK4 (by rfl) ?_
  apply Exists.intro
  refine ⟨fun w1 k1 => ?_, fun K hK => ?_⟩
  · have hc := Kept.cell k1
    go_simp
    first | done | rfl
  go_simp
  refine hK _ ?_
  clear hK K
  refine held_take (i := 19) rfl (by kernel_rfl) (by kernel_rfl) (by kernel_rfl) hQ hK4 (by rfl) ?_
  apply Exists.intro
  refine ⟨fun w1 k1 => ?_, fun K hK => ?_⟩
  · have hc := Kept.cell k1
    go_simp
    first | done | rfl
  go_simp
  refine hK _ ?_
  clear hK K
  refine held_take (i := 20) rfl (by kernel_rfl) (by kernel_rfl) (by kernel_rfl) hQ hK4 (by rfl) ?_
  apply Exists.intro
  refine ⟨fun w1 k1 => ?_, fun K hK => ?_⟩
  · have hc := Kept.cell k1
    go_simp
    first | done | rfl
  go_simp
  refine hK _ ?_
  clear hK K
  refine held_one (i := 21) rfl (by kernel_rfl) (by rfl) ?_
  refine wp_of_made (L := IsV A OL) ?_ ?_
  · exact made_call (by go_simp; first | done | rfl) (isV_made (SO.out _ hK4))
  rintro x5 v hb ⟨ao11, ca11, rfl, hr11⟩
  have hK5 := Kept.trans hK4 hb
  refine ⟨hK5, ?_⟩
  refine norm_act fun K hK => ?_
  go_simp
  refine hK _ ?_
  clear hK K
  refine held_take (i := 22) rfl (by kernel_rfl) (by kernel_rfl) (by kernel_rfl) hQ hK5 (by rfl) ?_
  apply Exists.intro
  refine ⟨fun w1 k1 => ?_, fun K hK => ?_⟩
  · have hc := Kept.cell k1
    go_simp
    first | done | rfl
  go_simp
  refine hK _ ?_
  clear hK K
  refine held_take (i := 23) rfl (by kernel_rfl) (by kernel_rfl) (by kernel_rfl) hQ hK5 (by rfl) ?_
  apply Exists.intro
  refine ⟨fun w1 k1 => ?_, fun K hK => ?_⟩
  · have hc := Kept.cell k1
    go_simp
    first | done | rfl
  go_simp
  refine hK _ ?_
  clear hK K
  refine held_take (i := 24) rfl (by kernel_rfl) (by kernel_rfl) (by kernel_rfl) hQ hK5 (by rfl) ?_
  apply Exists.intro
  refine ⟨fun w1 k1 => ?_, fun K hK => ?_⟩
  · have hc := Kept.cell k1
    go_simp
    first | done | rfl
  go_simp
  refine hK _ ?_
  clear hK K
  refine held_take (i := 25) rfl (by kernel_rfl) (by kernel_rfl) (by kernel_rfl) hQ hK5 (by rfl) ?_
  apply Exists.intro
  refine ⟨fun w1 k1 => ?_, fun K hK => ?_⟩
  · have hc := Kept.cell k1
    go_simp
    first | done | rfl
  go_simp
  refine hK _ ?_
  clear hK K
  refine held_take (i := 26) rfl (by kernel_rfl) (by kernel_rfl) (by kernel_rfl) hQ hK5 (by rfl) ?_
  apply Exists.intro
  refine ⟨fun w1 k1 => ?_, fun K hK => ?_⟩
  · have hc := Kept.cell k1
    go_simp
    first | done | rfl
  go_simp
  refine hK _ ?_
  clear hK K
  refine held_take (i := 27) rfl (by kernel_rfl) (by kernel_rfl) (by kernel_rfl) hQ hK5 (by rfl) ?_
  apply Exists.intro
  refine ⟨fun w1 k1 => ?_, fun K hK => ?_⟩
  · have hc := Kept.cell k1
    go_simp
    first | done | rfl
  go_simp
  refine hK _ ?_
  clear hK K
  refine held_take (i := 28) rfl (by kernel_rfl) (by kernel_rfl) (by kernel_rfl) hQ hK5 (by rfl) ?_
  apply Exists.intro
  refine ⟨fun w1 k1 => ?_, fun K hK => ?_⟩
  · have hc := Kept.cell k1
    go_simp
    first | done | rfl
  go_simp
  refine hK _ ?_
  clear hK K
  refine held_take (i := 29) rfl (by kernel_rfl) (by kernel_rfl) (by kernel_rfl) hQ hK5 (by rfl) ?_
  apply Exists.intro
  refine ⟨fun w1 k1 => ?_, fun K hK => ?_⟩
  · have hc := Kept.cell k1
    go_simp
    first | done | rfl
  go_simp
  refine hK _ ?_
  clear hK K
  refine held_one (i := 30) rfl (by kernel_rfl) (by rfl) ?_
  refine wp_of_made (L := IsV A OL) ?_ ?_
  · exact made_call (by go_simp; first | done | rfl) (isV_made (SO.out _ hK5))
  rintro x6 v hb ⟨ao12, ca12, rfl, hr12⟩
  have hK6 := Kept.trans hK5 hb
  refine ⟨hK6, ?_⟩
  refine norm_act fun K hK => ?_
  go_simp
  refine hK _ ?_
  clear hK K
  refine held_take (i := 31) rfl (by kernel_rfl) (by kernel_rfl) (by kernel_rfl) hQ hK6 (by rfl) ?_
  apply Exists.intro
  refine ⟨fun w1 k1 => ?_, fun K hK => ?_⟩
  · have hc := Kept.cell k1
    go_simp
    first | done | rfl
  go_simp
  refine hK _ ?_
  clear hK K
  refine held_one (i := 32) rfl (by kernel_rfl) (by rfl) ?_
  refine wp_of_made (L := SaidV5 (.bool true)) ?_ ?_
  · exact made_call (by go_simp; first | done | rfl) (saidV5_made (nums_same _ _ _ _ ao5 ao12 ca5 ca12 OL _ (P8.out.row.row.keep (Kept.below hK6) (by omega)) hr12 (by have := Below.size hK6; omega) (Nat.le_refl _) hol))
  rintro x7 v hb ⟨⟩
  have hK7 := Kept.trans hK6 hb
  refine ⟨hK7, ?_⟩
  refine norm_act fun K hK => ?_
  go_simp
  refine hK _ ?_
  clear hK K
  refine held_take (i := 33) rfl (by kernel_rfl) (by kernel_rfl) (by kernel_rfl) hQ hK7 (by rfl) ?_
  apply Exists.intro
  refine ⟨fun w1 k1 => ?_, fun K hK => ?_⟩
  · have hc := Kept.cell k1
    go_simp
    first | done | rfl
  go_simp
  refine hK _ ?_
  clear hK K
  refine held_take (i := 34) rfl (by kernel_rfl) (by kernel_rfl) (by kernel_rfl) hQ hK7 (by rfl) ?_
  apply Exists.intro
  refine ⟨fun w1 k1 => ?_, fun K hK => ?_⟩
  · have hc := Kept.cell k1
    go_simp
    first | done | rfl
  go_simp
  refine hK _ ?_
  clear hK K
  refine held_take (i := 35) rfl (by kernel_rfl) (by kernel_rfl) (by kernel_rfl) hQ hK7 (by rfl) ?_
  apply Exists.intro
  refine ⟨fun w1 k1 => ?_, fun K hK => ?_⟩
  · have hc := Kept.cell k1
    go_simp
    first | done | rfl
  go_simp
  refine hK _ ?_
  clear hK K
  refine held_take (i := 36) rfl (by kernel_rfl) (by kernel_rfl) (by kernel_rfl) hQ hK7 (by rfl) ?_
  apply Exists.intro
  refine ⟨fun w1 k1 => ?_, fun K hK => ?_⟩
  · have hc := Kept.cell k1
    go_simp
    first | done | rfl
  go_simp
  refine hK _ ?_
  clear hK K
  refine held_take (i := 37) rfl (by kernel_rfl) (by kernel_rfl) (by kernel_rfl) hQ hK7 (by rfl) ?_
  apply Exists.intro
  refine ⟨fun w1 k1 => ?_, fun K hK => ?_⟩
  · have hc := Kept.cell k1
    go_simp
    first | done | rfl
  go_simp
  refine hK _ ?_
  clear hK K
  refine held_take (i := 38) rfl (by kernel_rfl) (by kernel_rfl) (by kernel_rfl) hQ hK7 (by rfl) ?_
  apply Exists.intro
  refine ⟨fun w1 k1 => ?_, fun K hK => ?_⟩
  · have hc := Kept.cell k1
    go_simp
    first | done | rfl
  go_simp
  refine hK _ ?_
  clear hK K
  refine held_take (i := 39) rfl (by kernel_rfl) (by kernel_rfl) (by kernel_rfl) hQ hK7 (by rfl) ?_
  apply Exists.intro
  refine ⟨fun w1 k1 => ?_, fun K hK => ?_⟩
  · have hc := Kept.cell k1
    go_simp
    first | done | rfl
  go_simp
  refine hK _ ?_
  clear hK K
  refine held_one (i := 40) rfl (by kernel_rfl) (by rfl) ?_
  refine wp_of_made (L := IsV A FL) ?_ ?_
  · exact made_call (by go_simp; first | done | rfl) (isV_made (SD.out _ hK7))
  rintro x8 v hb ⟨ao13, ca13, rfl, hr13⟩
  have hK8 := Kept.trans hK7 hb
  refine ⟨hK8, ?_⟩
  refine norm_act fun K hK => ?_
  go_simp
  refine hK _ ?_
  clear hK K
  refine held_take (i := 41) rfl (by kernel_rfl) (by kernel_rfl) (by kernel_rfl) hQ hK8 (by rfl) ?_
  apply Exists.intro
  refine ⟨fun w1 k1 => ?_, fun K hK => ?_⟩
  · have hc := Kept.cell k1
    go_simp
    first | done | rfl
  go_simp
  refine hK _ ?_
  clear hK K
  refine held_take (i := 42) rfl (by kernel_rfl) (by kernel_rfl) (by kernel_rfl) hQ hK8 (by rfl) ?_
  apply Exists.intro
  refine ⟨fun w1 k1 => ?_, fun K hK => ?_⟩
  · have hc := Kept.cell k1
    go_simp
    first | done | rfl
  go_simp
  refine hK _ ?_
  clear hK K
  refine held_take (i := 43) rfl (by kernel_rfl) (by kernel_rfl) (by kernel_rfl) hQ hK8 (by rfl) ?_
  apply Exists.intro
  refine ⟨fun w1 k1 => ?_, fun K hK => ?_⟩
  · have hc := Kept.cell k1
    go_simp
    first | done | rfl
  go_simp
  refine hK _ ?_
  clear hK K
  refine wpAnyH_done (by kernel_rfl) ?_ _
  subst hQQ
  have K9 := hideP (K8.out.trans ((Kept.below hK8).mono (by omega)))
  have R9 := hideP (R8.out.keep (Kept.below hK8) (by omega))
  have B9 := hideP (B8.out.keep (Kept.below hK8) (by omega))
  have P9 := hideP (P8.out.keep (Kept.below hK8) (by omega) (by omega))
  have D9 := hideP (D8.out.keep (Kept.below hK8) (by omega) (by omega))
  have n9 := Below.size (Kept.below hK8)
  clear hQ hK0 hK1 hK2 hK3 hK4 hK5 hK6 hK7 hK8 hr11 hr12 hr13 p0 p1 p2 p3 p4 d0 d1 d2 d3 d4 K8 R8 B8 P8 D8 CI CS SO SD
  obtain ⟨w9, hw9⟩ : ∃ w9, w9 = x8 := ⟨_, rfl⟩
  rw [← hw9] at K9 R9 B9 P9 D9 n9 ⊢
  clear hw9
  have m4 : w2.heap.size < w9.heap.size := by omega
  have m5 : w4.heap.size < w9.heap.size := by omega
  have m6 : w6.heap.size < w9.heap.size := by omega
  obtain ⟨b0, b1, b2, b3, b4⟩ := B9.out
  by_cases hc0 : C = 0
  · subst hc0
    have NS := next_says HEQ.out.1
    have hOL : ownL L s = OL := by rw [← HEQ.out.2.2.2.1, owL_yes NS.1]
    have hFL : offL L s = FL := by rw [← HEQ.out.2.2.2.2, ofL_yes NS.1]
    have hsum := own_len_off L s
    rw [hOL, hFL, HEQ.out.2.1] at NS
    rw [hOL, hFL] at hsum
    obtain ⟨-, -, s3, q1, q2, q3, q4, q5, q6⟩ := NS
    have hq : ((OL.length : Int) + (FL.length : Int) == (L.length : Int)) = true := by simp; omega
    have hqw : IntKind.i64.wrap ((OL.length : Int) + (FL.length : Int)) = (OL.length : Int) + (FL.length : Int) := IntWalk.i64_in _ (by omega)
    have N1 := hideP (And.intro q1 q2)
    have N3 := hideP q3
    have N4 := hideP (And.intro q4 q5)
    have N6 := hideP q6
    clear q1 q2 q3 q4 q5 q6 hsum hOL hFL HEQ HCO HCD HCN HXO HXD HXN
    obtain ⟨p0, p1, p2, p3, p4⟩ := P9.out.box
    go_wp2_with fail
    clear p0 p1 p2 p3 p4 b0 b1 b2 b3 b4
    refine Calls.mono (iNextId_any _ _ ao5 ca5 OL s w9 P9.out.row.row (by omega) hol) ?_
    rintro e w10 ⟨rfl, k10⟩
    rw [N1.out.1, N1.out.2]
    have K10 := hideP (K9.out.trans (k10.mono (by omega)))
    have R10 := hideP (R9.out.keep k10 (by omega))
    have B10 := hideP (B9.out.keep k10 m4)
    have P10 := hideP (P9.out.keep k10 m5 (by omega))
    have D10 := hideP (D9.out.keep k10 m6 (by omega))
    have n10 := k10.size
    have Q11 : Hid (Rb (w10.alloc (.cells #[.int .i64 0, .int .i64 V] 28)) w10.heap.size (.int .i64 0) (.int .i64 V)) := hideP ⟨by simp, by simp, by simp, by simp, by simp⟩
    clear k10 K9 R9 B9 P9 D9
    go_wp2_with fail
    have ka := kal5 w10 (.cells #[.int .i64 0, .int .i64 V] 28)
    have K11 := hideP (K10.out.trans (ka.mono (by omega)))
    have R11 := hideP (R10.out.keep ka (by omega))
    have B11 := hideP (B10.out.keep ka (by omega))
    have P11 := hideP (P10.out.keep ka (by omega) (by omega))
    have D11 := hideP (D10.out.keep ka (by omega) (by omega))
    have n11 : w10.heap.size < (w10.alloc (.cells #[.int .i64 0, .int .i64 V] 28)).heap.size := by simp
    clear ka K10 R10 B10 P10 D10
    generalize w10.alloc (.cells #[.int .i64 0, .int .i64 V] 28) = w11 at *
    go_loopw [10] (fun i wr => ∃ k : Nat, k ≤ L.length ∧ i = .int .i64 k ∧ Below w11.heap.size w11 wr) (fun i _ => L.length - (intOf i).toNat)
    case atStart => exact ⟨0, Nat.zero_le _, rfl, Below.refl _ _⟩
    case round =>
      obtain ⟨k, hk, rfl, hbel⟩ := hrel
      have hz := hbel.size
      have HBel := hideP hbel
      by_cases hlt : k < L.length
      · have hlt' : (k : Int) < (L.length : Int) := by omega
        have hne : L ≠ [] := fun e => by rw [e] at hlt; simp at hlt
        rcases R11.out with e | ⟨g, o, rfl, _, hg, hc⟩
        · exact absurd e hne
        have a0 := (hbel.cell (p := ⟨g, o + k, none⟩) (by show g < _; omega)).trans (hc k hlt)
        have hx : (L[k] == V) = false := by
          have : ¬ L[k] = V := fun e => N3.out (by rw [← e]; exact List.getElem_mem hlt)
          simpa using this
        obtain ⟨b0, b1, b2, b3, b4⟩ := B11.out.keep hbel (by omega)
        have hgl : g < wr.heap.size := by omega
        have hl5 : (L.length : Int) ≤ 13 := by omega
        clear hc hbel hne
        generalize L[k] = x at *
        go_wp2
        refine wp_region_kept (by kernel_rfl) (by kernel_rfl) ?_
        repeat (refine kept_step (by rfl) ?_; apply Exists.intro; refine ⟨fun w1 k1 => ?_, fun K hK => ?_⟩; (focus (have hc := Kept.cell k1; go_simp; first | done | rfl)); (go_simp; refine hK _ ?_; clear hK K))
        refine wpQuiet_nil ?_
        intro w16 k16
        replace k16 := Kept.below k16
        have hc16 := Kept.cell k16
        have hf16 := Kept.frozen k16
        have hz16 := k16.size
        try simp only [World.size_alloc] at hz16
        try simp only [World.size_setCell] at hz16
        try simp only [World.size_drew] at hz16
        try (first | have hs16 := sz12 hz16 | have hs16 := sz11 hz16 | have hs16 := sz10 hz16 | have hs16 := sz9 hz16 | have hs16 := sz8 hz16 | have hs16 := sz7 hz16 | have hs16 := sz6 hz16 | have hs16 := sz5 hz16 | have hs16 := sz4 hz16 | have hs16 := sz3 hz16 | have hs16 := sz2 hz16 | have hs16 := sz1 hz16)
        go_wp2
        go_roundw
        case rel => exact ⟨k + 1, by omega, by go_num, HBel.out.trans (k16.mono HBel.out.size)⟩
        case measure => simp [intOf]; omega
      · obtain rfl : k = L.length := by omega
        have hl5 : (L.length : Int) ≤ 13 := by omega
        have KF := hideP (K11.out.trans (hbel.mono (by omega)))
        have B12 := hideP (B11.out.keep hbel (by omega))
        have P12 := hideP (P11.out.keep hbel (by omega) (by omega))
        have D12 := hideP (D11.out.keep hbel (by omega) (by omega))
        have Q12 := hideP (Q11.out.keep hbel (by omega))
        clear hbel K11 R11 B11 P11 D11 Q11 HBel
        obtain ⟨b0, b1, b2, b3, b4⟩ := B12.out
        go_wp2_with fail
        clear b0 b1 b2 b3 b4
        refine Calls.mono (iSlot_any V wr) ?_
        rintro e w12 ⟨rfl, k12⟩
        rw [N4.out.1, N4.out.2]
        have KF2 := hideP (KF.out.trans (k12.mono (by omega)))
        have B13 := hideP (B12.out.keep k12 (by omega))
        have P13 := hideP (P12.out.keep k12 (by omega) (by omega))
        have D13 := hideP (D12.out.keep k12 (by omega) (by omega))
        have Q13 := hideP (Q12.out.keep k12 (by omega))
        have n12 := k12.size
        have ess : (s == s) = true := by simp
        have evv : (V == V) = true := by simp
        clear k12 KF B12 P12 D12 Q12
        obtain ⟨b0, b1, b2, b3, b4⟩ := B13.out
        go_wp2_with fail
        clear b0 b1 b2 b3 b4
        refine Calls.mono (iSlot_any V w12) ?_
        rintro e w13 ⟨rfl, k13⟩
        rw [N4.out.1, N4.out.2]
        have KF3 := hideP (KF2.out.trans (k13.mono (by omega)))
        have B14 := hideP (B13.out.keep k13 (by omega))
        have P14 := hideP (P13.out.keep k13 (by omega) (by omega))
        have D14 := hideP (D13.out.keep k13 (by omega) (by omega))
        have Q14 := hideP (Q13.out.keep k13 (by omega))
        have n13 := k13.size
        clear k13 KF2 B13 P13 D13 Q13
        obtain ⟨b0, b1, b2, b3, b4⟩ := B14.out
        obtain ⟨p0, p1, p2, p3, p4⟩ := P14.out.box
        obtain ⟨d0, d1, d2, d3, d4⟩ := D14.out.box
        obtain ⟨q0, q1, q2, q3, q4⟩ := Q14.out
        go_wp2_with fail
        refine Calls.mono (iNextId_any _ _ ao7 ca7 FL s w13 D14.out.row.row (by omega) hfl) ?_
        rintro e w14 ⟨rfl, k14⟩
        rw [N6.out]
        have KF4 := hideP (KF3.out.trans (k14.mono (by omega)))
        have ew1 : IntKind.i64.wrap (64 * s) = 64 * s := IntWalk.i64_in _ (by omega)
        have ew2 : IntKind.i64.wrap (64 * s + 1) = 64 * s + 1 := IntWalk.i64_in _ (by omega)
        have e64 : (64 * s + 1 == 64 * s + 1) = true := by simp
        clear k14 KF3
        go_wp2
        go_returns
        exact ⟨rfl, KF4.out⟩
  · have hb0 : (C == 0) = false := by simpa using hc0
    have e4 : (C == C) = true := by simp
    obtain ⟨F, hF⟩ : ∃ F, idsF L = F := ⟨_, rfl⟩
    have e5 : (F == F) = true := by simp
    have SN := hideP (fun w' (kw : Kept w9 w') => HXN.out _ _ ao ca w' (R9.out.keep (Kept.below kw) (by omega)) (by have := Below.size kw; omega) (by omega) hLc)
    have II := hideP (fun w' (kw : Kept w9 w') => iIds_any _ _ ao ca L w' (R9.out.keep (Kept.below kw) (by omega)) (by have := Below.size kw; omega) (by omega))
    have SI := hideP (fun w' (kw : Kept w9 w') => sIds_any _ _ ao ca L w' (R9.out.keep (Kept.below kw) (by omega)) (by have := Below.size kw; omega) (by omega) hLc)
    rw [hF] at II SI
    clear hF hc0
    go_wp2_with fail
    refine wp_region_held (S := Kept w9) (by kernel_rfl) ?_
    show wpAnyH _ _ _ _ _ 15 (Array.replicate 15 false) _ (w9).drew
    have hK0 : Kept (w9) (w9).drew := (Below.refl _ _).drew
    generalize hQQ : (Exit.then _ _ : Exit → Act → World → Prop) = QQ
    have hQ : ∀ c a d v w, QQ (.panic c) (Act.put a d v) w → QQ (.panic c) a w := by
      subst hQQ
      intro c a d v w h
      cases d <;> exact h
    refine held_take (i := 0) rfl (by kernel_rfl) (by kernel_rfl) (by kernel_rfl) hQ hK0 (by rfl) ?_
    apply Exists.intro
    refine ⟨fun w1 k1 => ?_, fun K hK => ?_⟩
    · have hc := Kept.cell k1
      go_simp
      first | done | rfl
    go_simp
    refine hK _ ?_
    clear hK K
    refine held_take (i := 1) rfl (by kernel_rfl) (by kernel_rfl) (by kernel_rfl) hQ hK0 (by rfl) ?_
    apply Exists.intro
    refine ⟨fun w1 k1 => ?_, fun K hK => ?_⟩
    · have hc := Kept.cell k1
      go_simp
      first | done | rfl
    go_simp
    refine hK _ ?_
    clear hK K
    refine held_take (i := 4) rfl (by kernel_rfl) (by kernel_rfl) (by kernel_rfl) hQ hK0 (by rfl) ?_
    apply Exists.intro
    refine ⟨fun w1 k1 => ?_, fun K hK => ?_⟩
    · have hc := Kept.cell k1
      go_simp
      first | done | rfl
    go_simp
    refine hK _ ?_
    clear hK K
    refine held_take (i := 5) rfl (by kernel_rfl) (by kernel_rfl) (by kernel_rfl) hQ hK0 (by rfl) ?_
    apply Exists.intro
    refine ⟨fun w1 k1 => ?_, fun K hK => ?_⟩
    · have hc := Kept.cell k1
      go_simp
      first | done | rfl
    go_simp
    refine hK _ ?_
    clear hK K
    refine held_one (i := 2) rfl (by kernel_rfl) (by rfl) ?_
    refine wp_of_made (L := SaidV5 (.agg #[.int .i64 C, .int .i64 V])) ?_ ?_
    · exact made_call (by go_simp; first | done | rfl) (saidV5_made (SN.out _ hK0))
    rintro x1 v hb ⟨⟩
    have hK1 := Kept.trans hK0 hb
    refine ⟨hK1, ?_⟩
    refine norm_act fun K hK => ?_
    go_simp
    refine hK _ ?_
    clear hK K
    refine held_take (i := 3) rfl (by kernel_rfl) (by kernel_rfl) (by kernel_rfl) hQ hK1 (by rfl) ?_
    apply Exists.intro
    refine ⟨fun w1 k1 => ?_, fun K hK => ?_⟩
    · have hc := Kept.cell k1
      go_simp
      first | done | rfl
    go_simp
    refine hK _ ?_
    clear hK K
    refine held_take (i := 6) rfl (by kernel_rfl) (by kernel_rfl) (by kernel_rfl) hQ hK1 (by rfl) ?_
    apply Exists.intro
    refine ⟨fun w1 k1 => ?_, fun K hK => ?_⟩
    · have hc := Kept.cell k1
      go_simp
      first | done | rfl
    go_simp
    refine hK _ ?_
    clear hK K
    refine held_take (i := 7) rfl (by kernel_rfl) (by kernel_rfl) (by kernel_rfl) hQ hK1 (by rfl) ?_
    apply Exists.intro
    refine ⟨fun w1 k1 => ?_, fun K hK => ?_⟩
    · have hc := Kept.cell k1
      go_simp
      first | done | rfl
    go_simp
    refine hK _ ?_
    clear hK K
    refine held_take (i := 8) rfl (by kernel_rfl) (by kernel_rfl) (by kernel_rfl) hQ hK1 (by rfl) ?_
    apply Exists.intro
    refine ⟨fun w1 k1 => ?_, fun K hK => ?_⟩
    · have hc := Kept.cell k1
      go_simp
      first | done | rfl
    go_simp
    refine hK _ ?_
    clear hK K
    refine held_take (i := 10) rfl (by kernel_rfl) (by kernel_rfl) (by kernel_rfl) hQ hK1 (by rfl) ?_
    apply Exists.intro
    refine ⟨fun w1 k1 => ?_, fun K hK => ?_⟩
    · have hc := Kept.cell k1
      go_simp
      first | done | rfl
    go_simp
    refine hK _ ?_
    clear hK K
    refine held_one (i := 9) rfl (by kernel_rfl) (by rfl) ?_
    refine wp_of_made (L := SaidV5 (.int .i64 F)) ?_ ?_
    · exact made_call (by go_simp; first | done | rfl) (saidV5_made (II.out _ hK1))
    rintro x2 v hb ⟨⟩
    have hK2 := Kept.trans hK1 hb
    refine ⟨hK2, ?_⟩
    refine norm_act fun K hK => ?_
    go_simp
    refine hK _ ?_
    clear hK K
    refine held_one (i := 11) rfl (by kernel_rfl) (by rfl) ?_
    refine wp_of_made (L := SaidV5 (.int .i64 F)) ?_ ?_
    · exact made_call (by go_simp; first | done | rfl) (saidV5_made (SI.out _ hK2))
    rintro x3 v hb ⟨⟩
    have hK3 := Kept.trans hK2 hb
    refine ⟨hK3, ?_⟩
    refine norm_act fun K hK => ?_
    go_simp
    refine hK _ ?_
    clear hK K
    refine held_take (i := 12) rfl (by kernel_rfl) (by kernel_rfl) (by kernel_rfl) hQ hK3 (by rfl) ?_
    apply Exists.intro
    refine ⟨fun w1 k1 => ?_, fun K hK => ?_⟩
    · have hc := Kept.cell k1
      go_simp
      first | done | rfl
    go_simp
    refine hK _ ?_
    clear hK K
    refine held_take (i := 13) rfl (by kernel_rfl) (by kernel_rfl) (by kernel_rfl) hQ hK3 (by rfl) ?_
    apply Exists.intro
    refine ⟨fun w1 k1 => ?_, fun K hK => ?_⟩
    · have hc := Kept.cell k1
      go_simp
      first | done | rfl
    go_simp
    refine hK _ ?_
    clear hK K
    refine held_take (i := 14) rfl (by kernel_rfl) (by kernel_rfl) (by kernel_rfl) hQ hK3 (by rfl) ?_
    apply Exists.intro
    refine ⟨fun w1 k1 => ?_, fun K hK => ?_⟩
    · have hc := Kept.cell k1
      go_simp
      first | done | rfl
    go_simp
    refine hK _ ?_
    clear hK K
    refine wpAnyH_done (by kernel_rfl) ?_ _
    subst hQQ
    have K10 := hideP (K9.out.trans ((Kept.below hK3).mono (by omega)))
    clear hQ hK0 hK1 hK2 hK3
    go_wp2
    go_returns
    exact ⟨rfl, K10.out⟩

theorem fnIds_law (a : Option Addr) (len cap : Nat) (zs : List Int) (w : World) (hr : IsRow .u8 w a len cap zs) :
    Calls Try.prog 3 #[.slice a len cap] w fun e w' => e = .returned (.bool true) ∧ Below w.heap.size w w' := by
  have hlm : len ≤ maxLen := by
    rcases hr with ⟨_, rfl, _⟩ | ⟨_, _, h1, h2, _⟩
    · exact Nat.zero_le _
    · omega
  by_cases h : len ≤ 1048576
  · exact fnIds_small a len cap _ w hr.bytes hlm h
  · exact fnIds_big a len cap w hlm (by omega)
end Go.Proofs.Ytmbfnmgndablkaa
