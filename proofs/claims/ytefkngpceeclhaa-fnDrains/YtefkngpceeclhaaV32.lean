/- What the laws of queues draw. -/
import Derived.Test.YtefkngpceeclhaaV31
namespace Go.Proofs.Ytefkngpceeclhaa
open Go.RowKit
set_option linter.unusedVariables false
attribute [local go_sem] growUpon growAt growUponR growAtR

theorem Src.newR (w w0 : World) (B : Nat) (a : Option Addr) (len cap : Nat) (f : Nat → Int) (T : TypeId) (hB : Bytes w0 B a len f) (hl : len ≤ 1048576) (k : Below B w0 w) (hb : B ≤ w.heap.size) : Src (w.alloc (.cells #[.slice a len cap, .int .i64 0] T)) B w.heap.size a len cap f 0 := by
  refine ⟨by simp, hb, by simp, by simp, by simp, ?_, hl⟩
  rcases hB with e | ⟨xb, xo, ha, hx, hc⟩
  · exact .inl e
  · refine .inr ⟨xb, xo, ha, hx, fun i hi => ⟨?_, (hc i hi).2⟩⟩
    have h1 := (k.cell (p := ⟨xb, xo + i, none⟩) hx).trans (hc i hi).1
    exact ((kal3 w (.cells #[.slice a len cap, .int .i64 0] T)).cell (p := ⟨xb, xo + i, none⟩) (by show xb < w.heap.size; omega)).trans h1

/-- A queue and a message were drawn. -/
def PEv (w : World) (e : Ending) (w' : World) : Prop :=
  ∃ (s : Option Addr) (c : Nat) (M : List Mg) (v : Bool) (k : Int) (ao : Option Addr) (ca : Nat) (D : List Int), e = .returned (.tuple #[.agg #[.slice s M.length c, .bool v], .agg #[.int .i64 k, .slice ao D.length ca]]) ∧ okB (M.map Mg.ct) ∧ byM (M.map Mg.ct) ∧ M.length ≤ 13 ∧ D.length ≤ 3 ∧ byts D ∧ Ms w' w.heap.size w'.heap.size s M ∧ Row .u8 w' w.heap.size w'.heap.size ao D ∧ Below w.heap.size w w'

set_option maxRecDepth 100000 in
set_option maxHeartbeats 4000000 in
theorem drawPE_any (w : World) (a : Option Addr) (len cap : Nat) (f : Nat → Int) (hB : Bytes w w.heap.size a len f) (hl : len ≤ 1048576) :
    Calls Try.prog 10 #[.slice a len cap] w (PEv w) := by
  have k0 : Below w.heap.size w ((w.alloc (.cells #[.slice none 0 0, .bool false] 26)).alloc (.cells #[.int .i64 0, .slice none 0 0] 28)) := by go_grown
  have n0 : ((w.alloc (.cells #[.slice none 0 0, .bool false] 26)).alloc (.cells #[.int .i64 0, .slice none 0 0] 28)).heap.size = w.heap.size + 2 := by simp
  have S0 := hideP (Src.newR ((w.alloc (.cells #[.slice none 0 0, .bool false] 26)).alloc (.cells #[.int .i64 0, .slice none 0 0] 28)) w w.heap.size a len cap f 96 hB hl k0 (by omega))
  have ka := kal3 ((w.alloc (.cells #[.slice none 0 0, .bool false] 26)).alloc (.cells #[.int .i64 0, .slice none 0 0] 28)) (.cells #[.slice a len cap, .int .i64 0] 96)
  have T0 := hideP (k0.trans (ka.mono (by omega)))
  have X0 : Hid (Rb (((w.alloc (.cells #[.slice none 0 0, .bool false] 26)).alloc (.cells #[.int .i64 0, .slice none 0 0] 28)).alloc (.cells #[.slice a len cap, .int .i64 0] 96)) w.heap.size (.slice none 0 0) (.bool false)) := hideP (rb_new1 w _ _ _ _ _)
  have Y0 : Hid (Rb (((w.alloc (.cells #[.slice none 0 0, .bool false] 26)).alloc (.cells #[.int .i64 0, .slice none 0 0] 28)).alloc (.cells #[.slice a len cap, .int .i64 0] 96)) (w.heap.size + 1) (.int .i64 0) (.slice none 0 0)) := hideP (rb_new2 w _ _ _ _ _)
  have n1 : (((w.alloc (.cells #[.slice none 0 0, .bool false] 26)).alloc (.cells #[.int .i64 0, .slice none 0 0] 28)).alloc (.cells #[.slice a len cap, .int .i64 0] 96)).heap.size = w.heap.size + 3 := by simp
  rw [n0] at S0
  clear hB k0 ka n0
  go_enter Try.func10, Try.ntmps10
  go_wp2_with (first | (go_at_call 40; go_in))
  generalize ((w.alloc (.cells #[.slice none 0 0, .bool false] 26)).alloc (.cells #[.int .i64 0, .slice none 0 0] 28)).alloc (.cells #[.slice a len cap, .int .i64 0] 96) = w1 at *
  refine Calls.mono (bentQ_any w1 _ _ a len cap f 0 S0.out (by omega) (by omega)) ?_
  rintro e w2 ⟨s, c, M, v, t2, rfl, hok, hby, hM13, h2, ht20, ht21, S2, L2⟩
  have ka := kal3 w2 (.cells #[.slice s M.length c, .bool v] 26)
  have n2 := h2.size
  have S3 := hideP (S2.grow ka)
  have L3 := hideP ((L2.qm (s1 := none) n2).keep ka (Nat.le_refl _))
  have Q3 := hideP (rb_new w2 (.slice s M.length c) (.bool v) 26)
  have X3 := hideP ((X0.out.far h2.asFar (by omega)).keep ka (by omega))
  have Y3 := hideP ((Y0.out.far h2.asFar (by omega)).keep ka (by omega))
  have T3 := hideP ((Turn.below T0.out (by omega) (by omega) h2).trans (ka.mono (by omega)))
  have n3 : (w2.alloc (.cells #[.slice s M.length c, .bool v] 26)).heap.size = w2.heap.size + 1 := by simp
  have HOK := hideP hok
  have HBY := hideP hby
  clear ka S2 L2 h2 S0 X0 Y0 T0 hok hby
  go_wp2_with fail
  generalize w2.alloc (.cells #[.slice s M.length c, .bool v] 26) = w3 at *
  refine Calls.mono (drawM_any w3 _ _ a len cap f t2 S3.out ht20 (by omega)) ?_
  rintro e w4 ⟨k, d, D, t4, rfl, hd, hk1, hk7, hD3, hbyD, h4, ht40, ht41, S4, N4⟩
  have ka := kal3 w4 (.cells #[.int .i64 k, .slice d.ao D.length d.cap] 28)
  have n4 := h4.size
  have F4 := h4.asFar
  have S5 := hideP (S4.grow ka)
  have L5 := hideP ((L3.out.far F4 (.inr (by omega))).keep ka (by omega))
  have Q5 := hideP ((Q3.out.far F4 (by omega)).keep ka (by omega))
  have M5 := hideP (rb_new w4 (.int .i64 k) (.slice d.ao D.length d.cap) 28)
  have X5 := hideP ((X3.out.far F4 (by omega)).keep ka (by omega))
  have Y5 := hideP ((Y3.out.far F4 (by omega)).keep ka (by omega))
  have T5 := hideP ((Turn.below T3.out (by omega) (by omega) h4).trans (ka.mono (by omega)))
  have n5 : (w4.alloc (.cells #[.int .i64 k, .slice d.ao D.length d.cap] 28)).heap.size = w4.heap.size + 1 := by simp
  have R5 : Hid (Row .u8 (w4.alloc (.cells #[.int .i64 k, .slice d.ao D.length d.cap] 28)) w3.heap.size w4.heap.size d.ao D) := hideP (by
    have hr : Row .u8 w4 w3.heap.size w4.heap.size d.ao D := by
      by_cases e : D = []
      · exact .inl e
      · have e' : d.L ≠ [] := by rw [hd]; exact e
        have h := N4.on.1.row
        rw [hd] at h
        have hi := N4.inn e'
        exact h.wide hi.1 (by omega)
    exact hr.keep ka (Nat.le_refl _))
  have HBD := hideP hbyD
  clear ka S4 N4 h4 F4 S3 L3 Q3 X3 Y3 T3 hbyD hd
  go_wp2_with fail
  generalize w4.alloc (.cells #[.int .i64 k, .slice d.ao D.length d.cap] 28) = w5 at *
  refine Calls.mono (chance_any w5 _ _ a len cap f t4 10 S5.out ht40 (by omega) (by omega) (by omega)) ?_
  rintro e w6 ⟨r, rfl, h6, S6⟩
  have n6 := h6.size
  have F6 := h6.asFar
  have S6' := hideP S6
  have L6 := hideP (L5.out.far F6 (.inr (by omega)))
  have Q6 := hideP (Q5.out.far F6 (by omega))
  have M6 := hideP (M5.out.far F6 (by omega))
  have X6 := hideP (X5.out.far F6 (by omega))
  have Y6 := hideP (Y5.out.far F6 (by omega))
  have T6 := hideP (Turn.below T5.out (by omega) (by omega) h6)
  have R6 := hideP (R5.out.far F6 (.inr (by omega)) (by omega))
  clear F6 h6 S6 S5 L5 Q5 M5 X5 Y5 T5 R5
  cases r
  · skip
    have hbq : w2.heap.size < w6.heap.size := Q6.out.lt
    have hbm : w4.heap.size < w6.heap.size := M6.out.lt
    obtain ⟨p0, p1, p2, p3, p4⟩ := Q6.out
    obtain ⟨q0, q1, q2, q3, q4⟩ := M6.out
    go_wp2_with fail
    refine wp_region_held (S := fun w' => Stay (fun q => q = w2.heap.size ∨ q = w4.heap.size) w6 w') (by kernel_rfl) ?_
    show wpAnyH _ _ _ _ _ 4 (Array.replicate 4 false) _ (w6).drew
    generalize hQQ : (Exit.then _ _ : Exit → Act → World → Prop) = QQ
    have hQ : ∀ c a d v w, QQ (.panic c) (Act.put a d v) w → QQ (.panic c) a w := by
      subst hQQ
      intro c a d v w h
      cases d <;> exact h
    have SS : Stay (fun q => q = w2.heap.size ∨ q = w4.heap.size) w6 w6.drew := ⟨Nat.le_refl _, fun _ _ _ => rfl⟩
    refine held_take (i := 0) rfl (by kernel_rfl) (by kernel_rfl) (by kernel_rfl) hQ SS (by rfl) ?_
    apply Exists.intro
    refine ⟨fun w1 k1 => ?_, fun K hK => ?_⟩
    · have hc := And.intro (fun o => k1.cell w2.heap.size o (.inl rfl) hbq) (fun o => k1.cell w4.heap.size o (.inr rfl) hbm)
      go_simp
      first | done | rfl
    go_simp
    refine hK _ ?_
    clear hK K
    refine held_take (i := 1) rfl (by kernel_rfl) (by kernel_rfl) (by kernel_rfl) hQ SS (by rfl) ?_
    apply Exists.intro
    refine ⟨fun w1 k1 => ?_, fun K hK => ?_⟩
    · have hc := And.intro (fun o => k1.cell w2.heap.size o (.inl rfl) hbq) (fun o => k1.cell w4.heap.size o (.inr rfl) hbm)
      go_simp
      first | done | rfl
    go_simp
    refine hK _ ?_
    clear hK K
    clear p0 p1 p2 p3 p4 q0 q1 q2 q3 q4
    have kd : Below w6.heap.size w6 w6.drew := (Below.refl _ _).drew
    have XD := X6.out.keep kd (by omega)
    have YD := Y6.out.keep kd (by omega)
    have LD := hideP (L6.out.keep kd (by omega))
    have RD := hideP (R6.out.keep kd (by omega))
    have TD := hideP (T6.out.trans (kd.mono (by omega)))
    have nd : w6.drew.heap.size = w6.heap.size := rfl
    clear kd Q6 M6 X6 Y6 L6 R6 T6
    generalize w6.drew = wd at *
    obtain ⟨p0, p1, p2, p3, p4⟩ := XD
    obtain ⟨q0, q1, q2, q3, q4⟩ := YD
    have hstep : ∀ (W1 : World) (o : Nat) (u : Value) (g : Nat), Stay (fun q => q = w2.heap.size ∨ q = w4.heap.size) w6 W1 → g < w2.heap.size → Stay (fun q => q = w2.heap.size ∨ q = w4.heap.size) w6 (W1.setCell ⟨g, o, none⟩ u) := fun W1 o u g h hg =>
      ⟨by simpa using h.size, fun q hq hq' => (Below.heap_setCell _ _ _ q (by show q ≠ g; rcases hq with rfl | rfl <;> omega)).trans (h.blk q hq hq')⟩
    have SS1 := hstep _ 1 (.bool v) w.heap.size (hstep wd 0 (.slice s M.length c) w.heap.size SS (by omega)) (by omega)
    have SS2 := hstep _ 1 (.slice d.ao D.length d.cap) (w.heap.size + 1) (hstep _ 0 (.int .i64 k) (w.heap.size + 1) SS1 (by omega)) (by omega)
    refine held_one (i := 2) rfl (by kernel_rfl) (by rfl) ?_
    refine wp_of_skip (w' := (wd.setCell ⟨w.heap.size, 0, none⟩ (.slice s M.length c)).setCell ⟨w.heap.size, 1, none⟩ (.bool v)) (by go_simp; first | done | rfl) ?_
    refine ⟨SS1, ?_⟩
    refine norm_act fun K hK => ?_
    go_simp
    refine hK _ ?_
    clear hK K
    refine held_one (i := 3) rfl (by kernel_rfl) (by rfl) ?_
    refine wp_of_skip (w' := (((wd.setCell ⟨w.heap.size, 0, none⟩ (.slice s M.length c)).setCell ⟨w.heap.size, 1, none⟩ (.bool v)).setCell ⟨w.heap.size + 1, 0, none⟩ (.int .i64 k)).setCell ⟨w.heap.size + 1, 1, none⟩ (.slice d.ao D.length d.cap)) (by go_simp; first | done | rfl) ?_
    refine ⟨SS2, ?_⟩
    refine norm_act fun K hK => ?_
    go_simp
    refine hK _ ?_
    clear hK K
    refine wpAnyH_done (by kernel_rfl) ?_ _
    subst hQQ
    clear hQ SS SS1 SS2 hstep
    go_wp2
    refine bodyPost_ret (v := .tuple #[.agg #[.slice s M.length c, .bool v], .agg #[.int .i64 k, .slice d.ao D.length d.cap]]) (by simp [results, Try.results10, go_sem, *]) rfl ⟨s, c, M, v, k, d.ao, d.cap, D, rfl, HOK.out, HBY.out, hM13, hD3, HBD.out, ?_, ?_, ?_⟩
    · exact ((((LD.out.set _ _ (by dsimp only; omega)).set _ _ (by dsimp only; omega)).set _ _ (by dsimp only; omega)).set _ _ (by dsimp only; omega)).ms2.wide (by omega) (by simp; omega)
    · exact ((((RD.out.set _ _ (.inl (by dsimp only; omega))).set _ _ (.inl (by dsimp only; omega))).set _ _ (.inl (by dsimp only; omega))).set _ _ (.inl (by dsimp only; omega))).wide (by omega) (by simp; omega)
    · repeat' (first | (with_reducible exact TD.out) | (with_reducible refine Below.setCell ?_ ?_ _) | go_size)
  · go_wp2_with fail
    have hbm0 : w4.heap.size < w6.heap.size := M6.out.lt
    refine Calls.mono (pickQ (fun _ => True) w6 _ _ a len cap f (t4 + 1) #[.int .i64 0, .int .i64 8] 2 2 _ rfl (fun i hi => by
      have : i = 0 ∨ i = 1 := by omega
      rcases this with rfl | rfl
      · exact ⟨0, rfl, trivial⟩
      · exact ⟨8, rfl, trivial⟩) S6'.out (by omega) (by omega) (by omega) (by omega)) ?_
    rintro e w7 ⟨z, rfl, _, h7, S7⟩
    have n7 := h7.size
    have F7 := h7.asFar
    have L7 := hideP (L6.out.far F7 (.inr (by omega)))
    have Q7 := hideP (Q6.out.far F7 (by omega))
    have M7 := hideP (M6.out.far F7 (by omega))
    have X7 := hideP (X6.out.far F7 (by omega))
    have Y7 := hideP (Y6.out.far F7 (by omega))
    have T7 := hideP (Turn.below T6.out (by omega) (by omega) h7)
    have R7 := hideP (R6.out.far F7 (.inr (by omega)) (by omega))
    clear F7 h7 S7 S6' L6 Q6 M6 X6 Y6 T6 R6
    obtain ⟨q0, q1, q2, q3, q4⟩ := M7.out
    have FM := (Far.refl w4.heap.size (w4.heap.size + 1) w7).setCell (p := ⟨w4.heap.size, 0, none⟩) (Nat.le_refl _) (Nat.lt_succ_self _) (.int .i64 z)
    have L8 := hideP (L7.out.far FM (.inl (by omega)))
    have Q8 := hideP (Q7.out.far FM (by omega))
    have M8 := hideP (M7.out.set0 (.int .i64 z))
    have X8 := hideP (X7.out.far FM (by omega))
    have Y8 := hideP (Y7.out.far FM (by omega))
    have T8 := hideP (T7.out.trans (FM.below (B := w.heap.size) (by omega) (by omega)))
    have R8 := hideP (R7.out.far FM (.inl (by omega)) (by omega))
    have n8 : (w7.setCell ⟨w4.heap.size, 0, none⟩ (.int .i64 z)).heap.size = w7.heap.size := by simp
    clear FM L7 Q7 X7 Y7 T7 R7
    go_wp2_with fail
    clear q0 q1 q2 q3 q4 M7
    generalize w7.setCell ⟨w4.heap.size, 0, none⟩ (.int .i64 z) = w8 at *
    have hbq : w2.heap.size < w8.heap.size := Q8.out.lt
    have hbm : w4.heap.size < w8.heap.size := M8.out.lt
    obtain ⟨p0, p1, p2, p3, p4⟩ := Q8.out
    obtain ⟨q0, q1, q2, q3, q4⟩ := M8.out
    go_wp2_with fail
    refine wp_region_held (S := fun w' => Stay (fun q => q = w2.heap.size ∨ q = w4.heap.size) w8 w') (by kernel_rfl) ?_
    show wpAnyH _ _ _ _ _ 4 (Array.replicate 4 false) _ (w8).drew
    generalize hQQ : (Exit.then _ _ : Exit → Act → World → Prop) = QQ
    have hQ : ∀ c a d v w, QQ (.panic c) (Act.put a d v) w → QQ (.panic c) a w := by
      subst hQQ
      intro c a d v w h
      cases d <;> exact h
    have SS : Stay (fun q => q = w2.heap.size ∨ q = w4.heap.size) w8 w8.drew := ⟨Nat.le_refl _, fun _ _ _ => rfl⟩
    refine held_take (i := 0) rfl (by kernel_rfl) (by kernel_rfl) (by kernel_rfl) hQ SS (by rfl) ?_
    apply Exists.intro
    refine ⟨fun w1 k1 => ?_, fun K hK => ?_⟩
    · have hc := And.intro (fun o => k1.cell w2.heap.size o (.inl rfl) hbq) (fun o => k1.cell w4.heap.size o (.inr rfl) hbm)
      go_simp
      first | done | rfl
    go_simp
    refine hK _ ?_
    clear hK K
    refine held_take (i := 1) rfl (by kernel_rfl) (by kernel_rfl) (by kernel_rfl) hQ SS (by rfl) ?_
    apply Exists.intro
    refine ⟨fun w1 k1 => ?_, fun K hK => ?_⟩
    · have hc := And.intro (fun o => k1.cell w2.heap.size o (.inl rfl) hbq) (fun o => k1.cell w4.heap.size o (.inr rfl) hbm)
      go_simp
      first | done | rfl
    go_simp
    refine hK _ ?_
    clear hK K
    clear p0 p1 p2 p3 p4 q0 q1 q2 q3 q4
    have kd : Below w8.heap.size w8 w8.drew := (Below.refl _ _).drew
    have XD := X8.out.keep kd (by omega)
    have YD := Y8.out.keep kd (by omega)
    have LD := hideP (L8.out.keep kd (by omega))
    have RD := hideP (R8.out.keep kd (by omega))
    have TD := hideP (T8.out.trans (kd.mono (by omega)))
    have nd : w8.drew.heap.size = w8.heap.size := rfl
    clear kd Q8 M8 X8 Y8 L8 R8 T8
    generalize w8.drew = wd at *
    obtain ⟨p0, p1, p2, p3, p4⟩ := XD
    obtain ⟨q0, q1, q2, q3, q4⟩ := YD
    have hstep : ∀ (W1 : World) (o : Nat) (u : Value) (g : Nat), Stay (fun q => q = w2.heap.size ∨ q = w4.heap.size) w8 W1 → g < w2.heap.size → Stay (fun q => q = w2.heap.size ∨ q = w4.heap.size) w8 (W1.setCell ⟨g, o, none⟩ u) := fun W1 o u g h hg =>
      ⟨by simpa using h.size, fun q hq hq' => (Below.heap_setCell _ _ _ q (by show q ≠ g; rcases hq with rfl | rfl <;> omega)).trans (h.blk q hq hq')⟩
    have SS1 := hstep _ 1 (.bool v) w.heap.size (hstep wd 0 (.slice s M.length c) w.heap.size SS (by omega)) (by omega)
    have SS2 := hstep _ 1 (.slice d.ao D.length d.cap) (w.heap.size + 1) (hstep _ 0 (.int .i64 z) (w.heap.size + 1) SS1 (by omega)) (by omega)
    refine held_one (i := 2) rfl (by kernel_rfl) (by rfl) ?_
    refine wp_of_skip (w' := (wd.setCell ⟨w.heap.size, 0, none⟩ (.slice s M.length c)).setCell ⟨w.heap.size, 1, none⟩ (.bool v)) (by go_simp; first | done | rfl) ?_
    refine ⟨SS1, ?_⟩
    refine norm_act fun K hK => ?_
    go_simp
    refine hK _ ?_
    clear hK K
    refine held_one (i := 3) rfl (by kernel_rfl) (by rfl) ?_
    refine wp_of_skip (w' := (((wd.setCell ⟨w.heap.size, 0, none⟩ (.slice s M.length c)).setCell ⟨w.heap.size, 1, none⟩ (.bool v)).setCell ⟨w.heap.size + 1, 0, none⟩ (.int .i64 z)).setCell ⟨w.heap.size + 1, 1, none⟩ (.slice d.ao D.length d.cap)) (by go_simp; first | done | rfl) ?_
    refine ⟨SS2, ?_⟩
    refine norm_act fun K hK => ?_
    go_simp
    refine hK _ ?_
    clear hK K
    refine wpAnyH_done (by kernel_rfl) ?_ _
    subst hQQ
    clear hQ SS SS1 SS2 hstep
    go_wp2
    refine bodyPost_ret (v := .tuple #[.agg #[.slice s M.length c, .bool v], .agg #[.int .i64 z, .slice d.ao D.length d.cap]]) (by simp [results, Try.results10, go_sem, *]) rfl ⟨s, c, M, v, z, d.ao, d.cap, D, rfl, HOK.out, HBY.out, hM13, hD3, HBD.out, ?_, ?_, ?_⟩
    · exact ((((LD.out.set _ _ (by dsimp only; omega)).set _ _ (by dsimp only; omega)).set _ _ (by dsimp only; omega)).set _ _ (by dsimp only; omega)).ms2.wide (by omega) (by simp; omega)
    · exact ((((RD.out.set _ _ (.inl (by dsimp only; omega))).set _ _ (.inl (by dsimp only; omega))).set _ _ (.inl (by dsimp only; omega))).set _ _ (.inl (by dsimp only; omega))).wide (by omega) (by simp; omega)
    · repeat' (first | (with_reducible exact TD.out) | (with_reducible refine Below.setCell ?_ ?_ _) | go_size)
end Go.Proofs.Ytefkngpceeclhaa
