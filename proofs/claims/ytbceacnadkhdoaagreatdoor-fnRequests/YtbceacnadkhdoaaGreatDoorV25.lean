/- Digits, by the model. -/
import Derived.Test.YtbceacnadkhdoaaGreatDoorV5
import Derived.Test.YtbceacnadkhdoaaGreatDoorV22
import Derived.Test.YtbceacnadkhdoaaGreatDoorV24
namespace Go.Proofs.YtbceacnadkhdoaaGreatDoor
open Go.RowKit
set_option linter.unusedVariables false

/-- A number below 1000 in digits. -/
def dS (n : Int) : ByteArray := ⟨(d3 n.toNat).toArray⟩
theorem dS_one {n : Int} (h0 : 0 ≤ n) (h1 : n < 10) : strOfNums [48 + n] = dS n := by
  unfold strOfNums dS d3
  rw [if_pos (by omega)]
  simp only [List.map_cons, List.map_nil]
  rw [show (48 + n).toNat = 48 + n.toNat by omega]
theorem dS_more {n : Int} (h0 : 10 ≤ n) (h1 : n < 1000) : dS (n / 10) ++ strOfNums [48 + n % 10] = dS n := by
  apply ByteArray.ext
  apply Array.toList_inj.1
  have e1 : (n / 10).toNat = n.toNat / 10 := by omega
  have e2 : (48 + n % 10).toNat = 48 + n.toNat % 10 := by omega
  unfold strOfNums dS
  rw [e1]
  generalize hm : n.toNat = m at *
  simp only [ByteArray.data_append, Array.toList_append, List.map_cons, List.map_nil, e2]
  unfold d3
  by_cases h : m < 100
  · rw [if_pos (by omega), if_neg (by omega), if_pos h]; rfl
  · rw [if_neg (by omega), if_pos (by omega), if_neg (by omega), if_neg h, Nat.div_div_eq_div_mul]; rfl
theorem dS_size (n : Int) : (dS n).size ≤ 3 := by unfold dS; simp [ByteArray.size, d3_len]

set_option maxRecDepth 100000 in
set_option maxHeartbeats 400000 in
theorem dig_one (n : Int) (w : World) (h0 : 0 ≤ n) (h1 : n < 10) :
    Calls Tryz.prog 46 #[.int .i64 n] w fun e w' => e = .returned (.string (dS n)) ∧ Below w.heap.size w w' := by
  have hcv := run_convert_bytes_arg (P := Tryz.prog) (w.alloc (.cells #[.int .u8 (48 + n)] 5)) 22 5 Tryz.underlying22 Tryz.underlying5 w.heap.size 0 1 1 [48 + n] rfl (by
    intro i hi
    have hi0 : i = 0 := by omega
    subst hi0
    simp) 9 Tryz.underlying9
  rw [dS_one h0 h1] at hcv
  go_enter Tryz.func46, Tryz.ntmps46
  go_wp2
  go_returns
  exact ⟨rfl, by go_grown⟩

/-- A byte that lies in a block of its own. -/
def OneB (w : World) (b : Nat) (x : Int) : Prop := w.cell? ⟨b, 0, none⟩ = some (.int .u8 x) ∧ b < w.heap.size
theorem OneB.keep {w w' : World} {b B : Nat} {x : Int} (h : OneB w b x) (k : Below B w w') (hb : b < B) : OneB w' b x := ⟨(k.cell (p := ⟨b, 0, none⟩) hb).trans h.1, Nat.lt_of_lt_of_le h.2 k.size⟩
theorem OneB.new (w : World) (x : Int) (T : TypeId) : OneB (w.alloc (.cells #[.int .u8 x] T)) w.heap.size x := ⟨by rw [World.cell?_alloc_new]; rfl, by simp⟩
theorem OneB.conv {w : World} {b : Nat} {x : Int} (h : OneB w b x) : (convert 22 9 (.slice (some ⟨b, 0, none⟩) 1 1)).run Tryz.prog w = .ok (.string (strOfNums [x])) w :=
  run_convert_bytes_arg (P := Tryz.prog) w 22 5 Tryz.underlying22 Tryz.underlying5 b 0 1 1 [x] rfl (fun i hi => by
    obtain rfl : i = 0 := by omega
    exact h.1) 9 Tryz.underlying9
/-- It said this text. -/
def SaidS (s : ByteArray) (w2 : World) (v : Value) : Prop := v = .string s
theorem saidS_made {P : Program} {f : FuncId} {args : Array Value} {w : World} {s : ByteArray} (h : Calls P f args w fun e w' => e = .returned (.string s) ∧ Below w.heap.size w w') :
    Calls P f args w fun e w'' => ∃ v, e = .returned v ∧ Below w.heap.size w w'' ∧ SaidS s w'' v := h.mono fun e w' ⟨he, hb⟩ => ⟨_, he, hb, rfl⟩

set_option maxRecDepth 100000 in
set_option maxHeartbeats 1000000 in
theorem dig_more (n : Int) (w : World) (h0 : 10 ≤ n) (h1 : n < 1000) (ih : ∀ w, Calls Tryz.prog 46 #[.int .i64 (n / 10)] w fun e w' => e = .returned (.string (dS (n / 10))) ∧ Below w.heap.size w w') :
    Calls Tryz.prog 46 #[.int .i64 n] w fun e w' => e = .returned (.string (dS n)) ∧ Below w.heap.size w w' := by
  have IH := hideP ih
  have HM := hideP (dS_more h0 h1)
  have hs1 := dS_size (n / 10)
  have hs2 : (strOfNums [48 + n % 10]).size = 1 := by rw [strOfNums_size]; rfl
  have hx0 : 0 ≤ n % 10 := by omega
  have hx1 : n % 10 < 10 := by omega
  have hy0 : 0 ≤ n / 10 := by omega
  have hy1 : n / 10 < 100 := by omega
  clear ih
  generalize hs : strOfNums [48 + n % 10] = s at *
  have HS := hideP hs
  clear hs
  generalize dS (n / 10) = t at *
  go_enter Tryz.func46, Tryz.ntmps46
  go_wp2_with fail
  refine wp_region_held (S := Kept w) (by kernel_rfl) ?_
  show wpAnyH _ _ _ _ _ 11 (Array.replicate 11 false) _ (w).drew
  have hK0 : Kept (w) (w).drew := (Below.refl _ _).drew
  generalize hQQ : (Exit.then _ _ : Exit → Act → World → Prop) = QQ
  have hQ : ∀ c a d v w, QQ (.panic c) (Act.put a d v) w → QQ (.panic c) a w := by
    subst hQQ
    intro c a d v w h
    cases d <;> exact h
  refine held_take (i := 0) rfl (by kernel_rfl) (by kernel_rfl) (by kernel_rfl) hQ hK0 (by rfl) ?_
  apply Exists.intro
  refine ⟨fun w1 k1 => ?_, fun K hK => ?_⟩
  · have hc := Kept.cell k1
    go_simp
    first | done | rfl
  go_simp
  refine hK _ ?_
  clear hK K
  refine held_take (i := 1) rfl (by kernel_rfl) (by kernel_rfl) (by kernel_rfl) hQ hK0 (by rfl) ?_
  apply Exists.intro
  refine ⟨fun w1 k1 => ?_, fun K hK => ?_⟩
  · have hc := Kept.cell k1
    go_simp
    first | done | rfl
  go_simp
  refine hK _ ?_
  clear hK K
  refine held_take (i := 3) rfl (by kernel_rfl) (by kernel_rfl) (by kernel_rfl) hQ hK0 (by rfl) ?_
  apply Exists.intro
  refine ⟨fun w1 k1 => ?_, fun K hK => ?_⟩
  · have hc := Kept.cell k1
    go_simp
    first | done | rfl
  go_simp
  refine hK _ ?_
  clear hK K
  refine held_take (i := 4) rfl (by kernel_rfl) (by kernel_rfl) (by kernel_rfl) hQ hK0 (by rfl) ?_
  apply Exists.intro
  refine ⟨fun w1 k1 => ?_, fun K hK => ?_⟩
  · have hc := Kept.cell k1
    go_simp
    first | done | rfl
  go_simp
  refine hK _ ?_
  clear hK K
  refine held_take (i := 5) rfl (by kernel_rfl) (by kernel_rfl) (by kernel_rfl) hQ hK0 (by rfl) ?_
  apply Exists.intro
  refine ⟨fun w1 k1 => ?_, fun K hK => ?_⟩
  · have hc := Kept.cell k1
    go_simp
    first | done | rfl
  go_simp
  refine hK _ ?_
  clear hK K
  refine held_take (i := 6) rfl (by kernel_rfl) (by kernel_rfl) (by kernel_rfl) hQ hK0 (by rfl) ?_
  apply Exists.intro
  refine ⟨fun w1 k1 => ?_, fun K hK => ?_⟩
  · have hc := Kept.cell k1
    go_simp
    first | done | rfl
  go_simp
  refine hK _ ?_
  clear hK K
  have eq1 : IntKind.i64.wrap (n.tdiv 10) = n / 10 := by rw [Int.tdiv_eq_ediv_of_nonneg (by omega), IntKind.wrap_i64]; omega
  have eq2 : IntKind.u8.wrap (IntKind.i64.wrap (48 + n.tmod 10)) = 48 + n % 10 := by rw [Int.tmod_eq_emod_of_nonneg (by omega), IntKind.wrap_i64, IntKind.wrap_u8]; omega
  rw [eq1, eq2]
  clear eq1 eq2
  have hsz : ¬ (9223372036854775807 < t.size + 1) := by omega
  generalize w.drew = u at *
  refine held_two (i := 2) (j := 7) rfl rfl (by kernel_rfl) (by rfl) (by rfl) ?_ ?_
  · refine wp_of_made (L := SaidS t) ?_ ?_
    · exact made_call (by go_simp; first | done | rfl) (saidS_made (IH.out _))
    rintro w1 v hb ⟨⟩
    have hK1 := Kept.trans hK0 hb
    refine ⟨hK1, ?_⟩
    refine norm_act fun K hK => ?_
    go_simp
    refine hK _ ?_
    clear hK K
    refine held_one (i := 7) rfl (by kernel_rfl) (by rfl) ?_
    refine wp_of_run (v := .slice (some ⟨(w1).heap.size, 0, none⟩) 1 1) (w' := (w1).alloc (.cells #[.int .u8 (48 + n % 10)] 5)) (by go_simp; first | done | rfl) ?_
    have hK2 : Kept w ((w1).alloc (.cells #[.int .u8 (48 + n % 10)] 5)) := Kept.trans hK1 (kept_alloc _ _)
    refine ⟨hK2, ?_⟩
    refine norm_act fun K hK => ?_
    go_simp
    refine hK _ ?_
    clear hK K
    have O2 := OneB.new w1 (48 + n % 10) 5
    have cv := O2.conv
    rw [HS.out] at cv
    refine held_one (i := 8) rfl (by kernel_rfl) (by rfl) ?_
    refine wp_of_run (v := .string s) (w' := _) (by go_simp; first | done | rfl) ?_
    refine ⟨hK2, ?_⟩
    refine norm_act fun K hK => ?_
    go_simp
    refine hK _ ?_
    clear hK K
    refine held_one (i := 9) rfl (by kernel_rfl) (by rfl) ?_
    refine wp_of_run (v := .string (t ++ s)) (w' := _) (by go_simp; first | done | rfl) ?_
    refine ⟨hK2, ?_⟩
    refine norm_act fun K hK => ?_
    go_simp
    refine hK _ ?_
    clear hK K
    refine held_one (i := 10) rfl (by kernel_rfl) (by rfl) ?_
    refine wp_of_run (v := .string (t ++ s)) (w' := _) (by go_simp; first | done | rfl) ?_
    refine ⟨hK2, ?_⟩
    refine norm_act fun K hK => ?_
    go_simp
    refine hK _ ?_
    clear hK K
    refine wpAnyH_done (by kernel_rfl) ?_ _
    subst hQQ
    go_wp2
    go_returns
    exact ⟨by rw [HM.out]; rfl, hK2⟩
  · refine wp_of_run (v := .slice (some ⟨(u).heap.size, 0, none⟩) 1 1) (w' := u.alloc (.cells #[.int .u8 (48 + n % 10)] 5)) (by go_simp; first | done | rfl) ?_
    have hK1 : Kept w (u.alloc (.cells #[.int .u8 (48 + n % 10)] 5)) := Kept.trans hK0 (kept_alloc _ _)
    refine ⟨hK1, ?_⟩
    refine norm_act fun K hK => ?_
    go_simp
    refine hK _ ?_
    clear hK K
    have O1 := OneB.new u (48 + n % 10) 5
    refine held_two (i := 2) (j := 8) rfl rfl (by kernel_rfl) (by rfl) (by rfl) ?_ ?_
    · refine wp_of_made (L := SaidS t) ?_ ?_
      · exact made_call (by go_simp; first | done | rfl) (saidS_made (IH.out _))
      rintro w2 v hb ⟨⟩
      have hK2 := Kept.trans hK1 hb
      refine ⟨hK2, ?_⟩
      refine norm_act fun K hK => ?_
      go_simp
      refine hK _ ?_
      clear hK K
      have cv := (O1.keep hb O1.2).conv
      rw [HS.out] at cv
      refine held_one (i := 8) rfl (by kernel_rfl) (by rfl) ?_
      refine wp_of_run (v := .string s) (w' := _) (by go_simp; first | done | rfl) ?_
      refine ⟨hK2, ?_⟩
      refine norm_act fun K hK => ?_
      go_simp
      refine hK _ ?_
      clear hK K
      refine held_one (i := 9) rfl (by kernel_rfl) (by rfl) ?_
      refine wp_of_run (v := .string (t ++ s)) (w' := _) (by go_simp; first | done | rfl) ?_
      refine ⟨hK2, ?_⟩
      refine norm_act fun K hK => ?_
      go_simp
      refine hK _ ?_
      clear hK K
      refine held_one (i := 10) rfl (by kernel_rfl) (by rfl) ?_
      refine wp_of_run (v := .string (t ++ s)) (w' := _) (by go_simp; first | done | rfl) ?_
      refine ⟨hK2, ?_⟩
      refine norm_act fun K hK => ?_
      go_simp
      refine hK _ ?_
      clear hK K
      refine wpAnyH_done (by kernel_rfl) ?_ _
      subst hQQ
      go_wp2
      go_returns
      exact ⟨by rw [HM.out]; rfl, hK2⟩
    · have cv := O1.conv
      rw [HS.out] at cv
      refine wp_of_run (v := .string s) (w' := _) (by go_simp; first | done | rfl) ?_
      refine ⟨hK1, ?_⟩
      refine norm_act fun K hK => ?_
      go_simp
      refine hK _ ?_
      clear hK K
      refine held_one (i := 2) rfl (by kernel_rfl) (by rfl) ?_
      refine wp_of_made (L := SaidS t) ?_ ?_
      · exact made_call (by go_simp; first | done | rfl) (saidS_made (IH.out _))
      rintro w2 v hb ⟨⟩
      have hK2 := Kept.trans hK1 hb
      refine ⟨hK2, ?_⟩
      refine norm_act fun K hK => ?_
      go_simp
      refine hK _ ?_
      clear hK K
      refine held_one (i := 9) rfl (by kernel_rfl) (by rfl) ?_
      refine wp_of_run (v := .string (t ++ s)) (w' := _) (by go_simp; first | done | rfl) ?_
      refine ⟨hK2, ?_⟩
      refine norm_act fun K hK => ?_
      go_simp
      refine hK _ ?_
      clear hK K
      refine held_one (i := 10) rfl (by kernel_rfl) (by rfl) ?_
      refine wp_of_run (v := .string (t ++ s)) (w' := _) (by go_simp; first | done | rfl) ?_
      refine ⟨hK2, ?_⟩
      refine norm_act fun K hK => ?_
      go_simp
      refine hK _ ?_
      clear hK K
      refine wpAnyH_done (by kernel_rfl) ?_ _
      subst hQQ
      go_wp2
      go_returns
      exact ⟨by rw [HM.out]; rfl, hK2⟩

/-- Digits of a number below 1000. -/
theorem dig_any (n : Int) (w : World) (h0 : 0 ≤ n) (h1 : n < 1000) :
    Calls Tryz.prog 46 #[.int .i64 n] w fun e w' => e = .returned (.string (dS n)) ∧ Below w.heap.size w w' := by
  by_cases a : n < 10
  · exact dig_one n w h0 a
  · refine dig_more n w (by omega) h1 fun w => ?_
    by_cases b : n / 10 < 10
    · exact dig_one _ w (by omega) b
    · exact dig_more _ w (by omega) (by omega) fun w => dig_one _ w (by omega) (by omega)

end Go.Proofs.YtbceacnadkhdoaaGreatDoor
