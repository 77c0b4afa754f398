/- CellAt: the law's walk. -/
import Derived.Test.YtclfobpmafkgfaaPt4
import Derived.Test.YtclfobpmafkgfaaWi4
import Derived.Test.YtclfobpmafkgfaaHeld0
namespace Go.Proofs.Ytclfobpmafkgfaa
open Go.RowKit Go.Maps
set_option linter.unusedVariables false

def YesV (w2 : World) (v : Value) : Prop := v = .bool true
theorem yes_made {P : Program} {f : FuncId} {args : Array Value} {w : World} (h : Calls P f args w fun e w' => e = .returned (.bool true) ∧ Below w.heap.size w w') :
    Calls P f args w fun e w2 => ∃ v, e = .returned v ∧ Below w.heap.size w w2 ∧ YesV w2 v := h.mono fun e w2 ⟨he, hb⟩ => ⟨_, he, hb, rfl⟩
/-- A copy of a window. -/
def CopyV (i x y p h : Int) (m : Bool) (n : Nat) (D : List Int) (w w2 : World) (v : Value) : Prop := ∃ b : Ci, v = .agg #[.int .i64 i, .int .i64 x, .int .i64 y, .int .i64 p, .int .i64 h, .bool m, .slice b.ao n b.cap] ∧ NewK w w2 D b
theorem copyV_made {i x y p h : Int} {m : Bool} {n : Nat} {D : List Int} {args : Array Value} {w : World} (H : Calls Try.prog 34 args w fun e w' => ∃ b : Ci, e = .returned (.agg #[.int .i64 i, .int .i64 x, .int .i64 y, .int .i64 p, .int .i64 h, .bool m, .slice b.ao n b.cap]) ∧ NewK w w' D b ∧ Below w.heap.size w w') :
    Calls Try.prog 34 args w fun e w2 => ∃ u, e = .returned u ∧ Below w.heap.size w w2 ∧ CopyV i x y p h m n D w w2 u :=
  H.mono fun e w2 ⟨b, he, hn, hk⟩ => ⟨_, he, hk, b, rfl, hn⟩
theorem NewK.row {w w' : World} {D : List Int} {b : Ci} (h : NewK w w' D b) : ∃ lo hi, Row .i64 w' lo hi b.ao D ∧ hi ≤ w'.heap.size := by
  have := Ci.row h.on
  rw [h.le] at this
  exact this

set_option maxHeartbeats 400000 in
theorem cell_big (i x y p h : Int) (m : Bool) (ao : Option Addr) (ca : Nat) (D : List Int) (a b : Int) (w : World) (hm : D.length ≤ maxLen) (hb : 1048576 < D.length) :
    Calls Try.prog 8 #[.agg #[.int .i64 i, .int .i64 x, .int .i64 y, .int .i64 p, .int .i64 h, .bool m, .slice ao D.length ca], .int .i64 a, .int .i64 b] w fun e w' => e = .returned (.bool true) ∧ Below w.heap.size w w' := by
  have SZ := fun w1 => szW_any i x y p h m ao D.length ca 1048576 w1 hm (by omega) (by omega)
  rw [szV_no (by omega)] at SZ
  have SZ' := hideP SZ
  clear SZ hm hb
  go_enter Try.func8, Try.ntmps8
  go_wp2_with fail
  refine Calls.mono (SZ'.out _) ?_
  rintro e w1 ⟨rfl, k1⟩
  have K1 : Hid (Below w.heap.size w w1) := hideP (Below.trans (by go_grown) (k1.mono (by simp)))
  clear k1
  go_wp2
  go_returns
  exact ⟨rfl, K1.out⟩

set_option maxRecDepth 100000 in
set_option maxHeartbeats 2000000 in
theorem cell_small (i x y p h : Int) (m : Bool) (ao : Option Addr) (ca : Nat) (D : List Int) (a b : Int) (w : World) (hR : Row .i64 w 0 w.heap.size ao D) (hl : D.length ≤ 1048576) :
    Calls Try.prog 8 #[.agg #[.int .i64 i, .int .i64 x, .int .i64 y, .int .i64 p, .int .i64 h, .bool m, .slice ao D.length ca], .int .i64 a, .int .i64 b] w fun e w' => e = .returned (.bool true) ∧ Below w.heap.size w w' := by
  have SZ := fun w1 => szW_any i x y p h m ao D.length ca 1048576 w1 (by unfold maxLen; omega) (by omega) (by omega)
  rw [szV_yes (by omega)] at SZ
  obtain ⟨z, hz⟩ : ∃ z : Int, (1048576 : Int) - (D.length : Int) = z := ⟨_, rfl⟩
  have hz0 : ¬ z < 0 := by omega
  rw [hz] at SZ
  have SZ' := hideP SZ
  have TO := hideP (fun w1 (kk : Below w.heap.size w w1) => toW_any 0 w.heap.size i x y p h m ao ca D w1 (hR.keep kk (Nat.le_refl _)) kk.size hl)
  have SC := fun lo hi bo cb w1 (hr : Row .i64 w1 lo hi bo D) (hs : hi ≤ w1.heap.size) => sCell_any lo hi i x y p h m bo cb D a b w1 hr hs hl
  have IC := fun lo hi bo cb w1 (hr : Row .i64 w1 lo hi bo D) (hs : hi ≤ w1.heap.size) => iCell_any lo hi i x y p h m bo cb D a b w1 hr hs hl
  obtain ⟨F, hF⟩ : ∃ F, celZ ⟨i, x, y, p, h, m, D⟩ a b = F := ⟨_, rfl⟩
  obtain ⟨V, hV⟩ : ∃ V, celV ⟨i, x, y, p, h, m, D⟩ a b = V := ⟨_, rfl⟩
  rw [hF, hV] at SC IC
  have SC' := hideP SC
  have IC' := hideP IC
  have EQ := hideP (fun lo hi lo2 hi2 bo co cb cc w1 h1 h2 h3 h4 => eqW_same lo hi lo2 hi2 i x y p h m bo co cb cc D w1 h1 h2 h3 h4 hl)
  obtain ⟨n, hnD⟩ : ∃ n, D.length = n := ⟨_, rfl⟩
  rw [hnD] at SZ' TO SC' IC' EQ ⊢
  clear SZ SC IC hF hV hz hR hl
  go_enter Try.func8, Try.ntmps8
  go_wp2_with fail
  refine Calls.mono (SZ'.out _) ?_
  rintro e w1 ⟨rfl, k1⟩
  have K1 : Hid (Below w.heap.size w w1) := hideP (Below.trans (by go_grown) (k1.mono (by simp)))
  have X1 : Hid (R7 w1 w.heap.size (.int .i64 i) (.int .i64 x) (.int .i64 y) (.int .i64 p) (.int .i64 h) (.bool m) (.slice ao n ca)) := hideP ((r7_new w _ _ _ _ _ _ _ 62).keep k1 (by simp))
  clear k1 SZ'
  obtain ⟨p0, p1, p2, p3, p4, p5, p6, p7, p8⟩ := X1.out
  go_wp2_with fail
  clear p0 p1 p2 p3 p4 p5 p6 p7 p8
  refine Calls.mono (TO.out _ K1.out) ?_
  rintro e w2 ⟨b2, rfl, N2, k2⟩
  obtain ⟨l2, h2, R2, s2⟩ := N2.row
  have HR2 := hideP R2
  have K2 : Hid (Below w.heap.size w w2) := hideP (K1.out.trans (k2.mono K1.out.size))
  have X2 := hideP (X1.out.keep k2 X1.out.lt)
  clear k2 K1 X1 R2 N2
  go_wp2_with fail
  refine Calls.mono (SC'.out l2 h2 b2.ao b2.cap w2 HR2.out s2) ?_
  rintro e w3 ⟨rfl, k3⟩
  have ka := kalC w3 (.cells #[.int .i64 F, .int .i64 V] 35)
  have kk := k3.trans (ka.mono k3.size)
  have K3 : Hid (Below w.heap.size w (w3.alloc (.cells #[.int .i64 F, .int .i64 V] 35))) := hideP (K2.out.trans (kk.mono K2.out.size))
  have X3 := hideP (X2.out.keep kk X2.out.lt)
  have A3 := hideP (rb_newT w3 (.int .i64 F) (.int .i64 V) 35)
  clear k3 ka kk K2 X2 HR2 SC'
  obtain ⟨p0, p1, p2, p3, p4, p5, p6, p7, p8⟩ := X3.out
  go_wp2_with fail
  clear p0 p1 p2 p3 p4 p5 p6 p7 p8
  generalize w3.alloc (.cells #[.int .i64 F, .int .i64 V] 35) = W3 at *
  refine Calls.mono (TO.out W3 K3.out) ?_
  rintro e w4 ⟨b4, rfl, N4, k4⟩
  obtain ⟨l4, h4, R4, s4⟩ := N4.row
  have ka := kalC w4 (.cells #[.int .i64 i, .int .i64 x, .int .i64 y, .int .i64 p, .int .i64 h, .bool m, .slice b4.ao n b4.cap] 39)
  have kk := k4.trans (ka.mono k4.size)
  have R5 := R4.keep ka s4
  have HR5 := hideP R5
  have K5 : Hid (Below w.heap.size w (w4.alloc (.cells #[.int .i64 i, .int .i64 x, .int .i64 y, .int .i64 p, .int .i64 h, .bool m, .slice b4.ao n b4.cap] 39))) := hideP (K3.out.trans (kk.mono K3.out.size))
  have X5 := hideP (X3.out.keep kk X3.out.lt)
  have A5 := hideP (A3.out.keep kk A3.out.lt)
  have Y5 := hideP (r7_new w4 (.int .i64 i) (.int .i64 x) (.int .i64 y) (.int .i64 p) (.int .i64 h) (.bool m) (.slice b4.ao n b4.cap) 39)
  have s5 := Nat.le_trans s4 ka.size
  clear k4 ka kk K3 X3 A3 R4 N4 R5 s4
  obtain ⟨p0, p1, p2, p3, p4, p5, p6, p7, p8⟩ := Y5.out
  go_wp2_with fail
  clear p0 p1 p2 p3 p4 p5 p6 p7 p8
  generalize w4.alloc (.cells #[.int .i64 i, .int .i64 x, .int .i64 y, .int .i64 p, .int .i64 h, .bool m, .slice b4.ao n b4.cap] 39) = w5 at *
  refine Calls.mono (IC'.out l4 h4 b4.ao b4.cap w5 HR5.out s5) ?_
  rintro e w6 ⟨rfl, k6⟩
  have ka := kalC w6 (.cells #[.int .i64 F, .int .i64 V] 35)
  have kk := k6.trans (ka.mono k6.size)
  have R7' := HR5.out.keep kk s5
  have HR7 := hideP R7'
  have s7 := Nat.le_trans s5 kk.size
  have K7 : Hid (Below w.heap.size w (w6.alloc (.cells #[.int .i64 F, .int .i64 V] 35))) := hideP (K5.out.trans (kk.mono K5.out.size))
  have X7 := hideP (X5.out.keep kk X5.out.lt)
  have A7 := hideP (A5.out.keep kk A5.out.lt)
  have Y7 := hideP (Y5.out.keep kk Y5.out.lt)
  have B7 := hideP (rb_newT w6 (.int .i64 F) (.int .i64 V) 35)
  clear k6 ka kk K5 X5 A5 Y5 HR5 R7' IC' s5
  obtain ⟨p0, p1, p2, p3, p4⟩ := A7.out
  obtain ⟨q0, q1, q2, q3, q4⟩ := B7.out
  go_wp2_with fail
  clear p0 p1 p2 p3 p4 q0 q1 q2 q3 q4
  generalize w6.alloc (.cells #[.int .i64 F, .int .i64 V] 35) = w7 at *
  refine Calls.mono (eqIR5_same F V w7) ?_
  rintro e w8 ⟨rfl, k8⟩
  have HR8 := hideP (HR7.out.keep k8 s7)
  have s8 := Nat.le_trans s7 k8.size
  have K8 := hideP (K7.out.trans (k8.mono K7.out.size))
  have X8 := hideP (X7.out.keep k8 X7.out.lt)
  have Y8 := hideP (Y7.out.keep k8 Y7.out.lt)
  clear k8 K7 X7 Y7 A7 B7 HR7 s7
  obtain ⟨p0, p1, p2, p3, p4, p5, p6, p7, p8⟩ := X8.out
  obtain ⟨q0, q1, q2, q3, q4, q5, q6, q7, q8⟩ := Y8.out
  go_wp2_with fail
  refine wp_region_held (S := Kept w8) (by kernel_rfl) ?_
  show wpAnyH _ _ _ _ _ 5 (Array.replicate 5 false) _ (w8).drew
  have hK0 : Kept (w8) (w8).drew := (Below.refl _ _).drew
  generalize hQQ : (Exit.then _ _ : Exit → Act → World → Prop) = QQ
  have hQ : ∀ c a d v w, QQ (.panic c) (Act.put a d v) w → QQ (.panic c) a w := by
    subst hQQ
    intro c a d v w h
    cases d <;> exact h
  refine held_take (i := 0) rfl (by kernel_rfl) (by kernel_rfl) (by kernel_rfl) hQ hK0 (by rfl) ?_
  apply Exists.intro
  refine ⟨fun w1 k1 => ?_, fun K hK => ?_⟩
  · have hc := Kept.cell k1
    go_simp
    first | done | rfl
  go_simp
  refine hK _ ?_
  clear hK K
  refine held_take (i := 1) rfl (by kernel_rfl) (by kernel_rfl) (by kernel_rfl) hQ hK0 (by rfl) ?_
  apply Exists.intro
  refine ⟨fun w1 k1 => ?_, fun K hK => ?_⟩
  · have hc := Kept.cell k1
    go_simp
    first | done | rfl
  go_simp
  refine hK _ ?_
  clear hK K
  refine held_one (i := 2) rfl (by kernel_rfl) (by rfl) ?_
  refine wp_of_made (L := CopyV i x y p h m n D w8.drew) ?_ ?_
  · exact made_call (by go_simp; first | done | rfl) (copyV_made (TO.out _ (K8.out.trans (Below.mono hK0 K8.out.size))))
  rintro w9 u hb ⟨b9, rfl, N9⟩
  have hK9 := Kept.trans hK0 hb
  refine ⟨hK9, ?_⟩
  refine norm_act fun K hK => ?_
  go_simp
  refine hK _ ?_
  clear hK K
  obtain ⟨l9, h9, R9, s9⟩ := N9.row
  refine held_one (i := 3) rfl (by kernel_rfl) (by rfl) ?_
  refine wp_of_made (L := YesV) ?_ ?_
  · exact made_call (by go_simp; first | done | rfl) (yes_made (EQ.out l4 h4 l9 h9 b4.ao b9.ao b4.cap b9.cap w9 (HR8.out.keep hK9 s8) R9 (Nat.le_trans s8 (Below.size hK9)) s9))
  rintro w10 u hb ⟨⟩
  have hK10 := Kept.trans hK9 hb
  refine ⟨hK10, ?_⟩
  refine norm_act fun K hK => ?_
  go_simp
  refine hK _ ?_
  clear hK K
  refine held_one (i := 4) rfl (by kernel_rfl) (by rfl) ?_
  refine wp_of_run (v := .bool false) (w' := _) (by go_simp; first | done | rfl) ?_
  refine ⟨hK10, ?_⟩
  refine norm_act fun K hK => ?_
  go_simp
  refine hK _ ?_
  clear hK K
  refine wpAnyH_done (by kernel_rfl) ?_ _
  subst hQQ
  have K10 : Hid (Below w.heap.size w w10) := hideP (K8.out.trans (Below.mono hK10 K8.out.size))
  clear hQ hK0 hK9 hK10 hb p0 p1 p2 p3 p4 p5 p6 p7 p8 q0 q1 q2 q3 q4 q5 q6 q7 q8 X8 Y8
  go_wp2
  go_returns
  exact ⟨rfl, K10.out⟩

theorem cell_law (i x y p h : Int) (m : Bool) (ao : Option Addr) (ca : Nat) (D : List Int) (a b : Int) (w : World) (hm : D.length ≤ maxLen) (hR : Row .i64 w 0 w.heap.size ao D) :
    Calls Try.prog 8 #[.agg #[.int .i64 i, .int .i64 x, .int .i64 y, .int .i64 p, .int .i64 h, .bool m, .slice ao D.length ca], .int .i64 a, .int .i64 b] w fun e w' => e = .returned (.bool true) ∧ Below w.heap.size w w' := by
  by_cases h' : D.length ≤ 1048576
  · exact cell_small i x y p h m ao ca D a b w hR h'
  · exact cell_big i x y p h m ao ca D a b w hm (by omega)
end Go.Proofs.Ytclfobpmafkgfaa
