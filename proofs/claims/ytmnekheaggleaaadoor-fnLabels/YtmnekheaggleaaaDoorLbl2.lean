/- FnLabels: the walk at every list of bytes. -/
import Derived.Test.YtmnekheaggleaaaDoorLbl1
import Derived.Test.YtmnekheaggleaaaDoorKeepG
import Derived.Test.YtmnekheaggleaaaDoorTxt3
import Derived.Deep.Cut
namespace Go.Proofs.YtmnekheaggleaaaDoor
open Go.RowKit
set_option linter.unusedVariables false

theorem Bytes.wide {w : World} {B B' : Nat} {a : Option Addr} {len : Nat} {f : Nat → Int} (h : Bytes w B a len f) (hB : B ≤ B') : Bytes w B' a len f := by
  rcases h with h | ⟨xb, xo, ha, hx, hc⟩
  · exact .inl h
  · exact .inr ⟨xb, xo, ha, by omega, hc⟩
theorem Bytes.at {w w' : World} {a : Option Addr} {len : Nat} {f : Nat → Int} (h : Bytes w w.heap.size a len f) (k : Below w.heap.size w w') : Bytes w' w.heap.size a len f :=
  h.stay (Nat.le_refl _) (Turn.of_below (b := w.heap.size) k) (Nat.le_refl _)
theorem Bytes.now {w w' : World} {a : Option Addr} {len : Nat} {f : Nat → Int} (h : Bytes w w.heap.size a len f) (k : Below w.heap.size w w') : Bytes w' w'.heap.size a len f := (h.at k).wide k.size

theorem fld1 (k l p : Int) (w : World) : Sem.run Tryd.prog (Instr.field 28 (.agg #[.int .i64 k, .int .i64 l, .int .i64 p]) 1) w = .ok (.agg #[.int .i64 l, .int .i64 p]) w := by kernel_rfl
theorem fld0 (k l p : Int) (w : World) : Sem.run Tryd.prog (Instr.field 28 (.agg #[.int .i64 k, .int .i64 l, .int .i64 p]) 0) w = .ok (.int .i64 k) w := by kernel_rfl
theorem tfl1 (k : Int) (s : ByteArray) (w : World) : Sem.run Tryd.prog (Instr.field 33 (.agg #[.int .i64 k, .string s]) 1) w = .ok (.string s) w := by kernel_rfl
theorem tfl0 (k : Int) (s : ByteArray) (w : World) : Sem.run Tryd.prog (Instr.field 33 (.agg #[.int .i64 k, .string s]) 0) w = .ok (.int .i64 k) w := by kernel_rfl
theorem vfl1 (k v : Int) (w : World) : Sem.run Tryd.prog (Instr.field 36 (.agg #[.int .i64 k, .int .i64 v]) 1) w = .ok (.int .i64 v) w := by kernel_rfl
attribute [local go_sem] fld0 fld1 tfl0 tfl1 vfl1

/-- What ParseLabel answers at s: a fault, or the label whose text s is. -/
theorem u_cases (s : ByteArray) : ∃ uc ul up : Int, ((ipL s.data.toList).1 = uc ∧ (ipL s.data.toList).2.1 = ul ∧ (ipL s.data.toList).2.2 = up) ∧ (uc = 5 ∨ (uc = 0 ∧ fltB ul up = false ∧ strOfNums (tx ul up 4) = s)) := by
  refine ⟨_, _, _, ⟨rfl, rfl, rfl⟩, ?_⟩
  by_cases h : (ipL s.data.toList).1 = 0
  · exact .inr ⟨h, back_text s h⟩
  · refine .inl ?_
    have h2 := sp_pc s.data.toList
    rw [← ip_sp] at h2
    rcases pc_lt s.data.toList with h3 | ⟨h3, _⟩
    · rw [if_pos (by omega)] at h2; rw [h2]
    · rw [if_neg (by omega)] at h2; rw [h2] at h; exact absurd rfl h
theorem o_cases (n : Int) : ∃ oc ol op : Int, (loC n = oc ∧ loL n = ol ∧ loP n = op) ∧ (oc = 3 ∨ (oc = 0 ∧ fltB ol op = false ∧ ol * 16 + op = n)) := by
  refine ⟨_, _, _, ⟨rfl, rfl, rfl⟩, ?_⟩
  unfold loC loL loP
  by_cases h : 0 ≤ n ∧ n ≤ 63
  · simp only [if_pos h]; exact .inr ⟨trivial, by unfold fltB; simp; omega, by omega⟩
  · simp only [if_neg h]; exact .inl trivial

set_option maxHeartbeats 400000 in
theorem labels_big (a : Option Addr) (len cap : Nat) (w : World) (hl : len ≤ maxLen) (h : 1048576 < len) :
    Calls Tryd.prog 3 #[.slice a len cap] w fun e w' => e = .returned (.bool true) ∧ Below w.heap.size w w' := by
  have hd : decide ((1048576 : Int) < (len : Int)) = true := by simp; omega
  go_enter Tryd.func3, Tryd.ntmps3
  go_wp2_with (go_at_call 4; refine Calls.mono (big_any _ _ _ _ hl) ?_; rintro e w0 ⟨rfl, rfl⟩)
  go_returns
  exact ⟨rfl, Below.refl _ _⟩

set_option maxRecDepth 100000 in
set_option maxHeartbeats 2000000 in
theorem labels_no (a : Option Addr) (len cap : Nat) (f : Nat → Int) (w : World) (hB : Bytes w w.heap.size a len f) (hlm : len ≤ maxLen) (hl : len ≤ 1048576) (T : Tab w) :
    Calls Tryd.prog 3 #[.slice a len cap] w fun e w' => e = .returned (.bool true) ∧ Below w.heap.size w w' := by
  have hd : decide ((1048576 : Int) < (len : Int)) = false := by simp; omega
  have HT := hideP T
  clear T
  have HB := hideP hB
  go_enter Tryd.func3, Tryd.ntmps3
  go_wp2_with fail
  refine Calls.mono (big_any _ _ _ _ hlm) ?_
  rintro e w0 ⟨rfl, rfl⟩
  go_wp2_with fail
  refine Calls.mono (dpl_any _ a len cap f hB hl) ?_
  clear hB
  rintro e w1 ⟨s, rfl, hs, k1⟩
  replace k1 := Kept.below k1
  have hc1 := Kept.cell k1
  have hf1 := Kept.frozen k1
  have hz1 := k1.size
  try simp only [World.size_alloc] at hz1
  try simp only [World.size_setCell] at hz1
  try simp only [World.size_drew] at hz1
  try (first | have hs1 := sz12 hz1 | have hs1 := sz11 hz1 | have hs1 := sz10 hz1 | have hs1 := sz9 hz1 | have hs1 := sz8 hz1 | have hs1 := sz7 hz1 | have hs1 := sz6 hz1 | have hs1 := sz5 hz1 | have hs1 := sz4 hz1 | have hs1 := sz3 hz1 | have hs1 := sz2 hz1 | have hs1 := sz1 hz1)
  go_wp2_with fail
  obtain ⟨uc, ul, up, ⟨hu0, hu1, hu2⟩, hu⟩ := u_cases s
  have SP : Hid (∀ W, Calls Tryd.prog 9 #[.string s] W fun e w' => e = .returned (.agg #[.int .i64 uc, .int .i64 ul, .int .i64 up]) ∧ Below W.heap.size W w') := hideP fun W => by
    have h := sp_any s W
    rwa [hu0, hu1, hu2] at h
  have T1 := HT.out.keep k1
  refine Calls.mono (ip_any s _ T1 (by omega)) ?_
  rw [hu0, hu1, hu2]
  clear hu0 hu1 hu2 T1
  have HU := hideP hu
  clear hu
  rintro e w2 ⟨rfl, k2⟩
  replace k2 := Kept.below k2
  have hc2 := Kept.cell k2
  have hf2 := Kept.frozen k2
  have hz2 := k2.size
  try simp only [World.size_alloc] at hz2
  try simp only [World.size_setCell] at hz2
  try simp only [World.size_drew] at hz2
  try (first | have hs2 := sz12 hz2 | have hs2 := sz11 hz2 | have hs2 := sz10 hz2 | have hs2 := sz9 hz2 | have hs2 := sz8 hz2 | have hs2 := sz7 hz2 | have hs2 := sz6 hz2 | have hs2 := sz5 hz2 | have hs2 := sz4 hz2 | have hs2 := sz3 hz2 | have hs2 := sz2 hz2 | have hs2 := sz1 hz2)
  go_wp2_with fail
  refine Calls.mono (dlo_any _ a len cap f (HB.out.now (by repeat' (first | (with_reducible exact Below.refl _ _) | (with_reducible refine kept_below ?_ (by assumption) ?_) | (with_reducible refine Below.alloc ?_ ?_ _) | (with_reducible refine Below.drew ?_) | (with_reducible refine Below.setCell ?_ ?_ _) | go_size))) hl) ?_
  rintro e w3 ⟨n, rfl, k3⟩
  replace k3 := Kept.below k3
  have hc3 := Kept.cell k3
  have hf3 := Kept.frozen k3
  have hz3 := k3.size
  try simp only [World.size_alloc] at hz3
  try simp only [World.size_setCell] at hz3
  try simp only [World.size_drew] at hz3
  have hb3_0 : w2.heap.size < w3.heap.size ∧ w2.heap.size ≤ w3.heap.size ∧ w2.heap.size ≤ w3.heap.size + 1 ∧ ¬ w2.heap.size = w3.heap.size ∧ ¬ w2.heap.size = w3.heap.size + 1 := by omega
  go_wp2_with fail
  obtain ⟨oc, ol, op, ⟨ho0, ho1, ho2⟩, ho⟩ := o_cases n
  have SL : Hid (∀ W, Calls Tryd.prog 11 #[.int .i64 n] W fun e w' => e = .returned (.agg #[.int .i64 oc, .int .i64 ol, .int .i64 op]) ∧ Below W.heap.size W w') := hideP fun W => by
    have h := slo_any n W
    rwa [ho0, ho1, ho2] at h
  refine Calls.mono (lo_any _ _) ?_
  rw [ho0, ho1, ho2]
  clear ho0 ho1 ho2
  have HO := hideP ho
  clear ho
  rintro e w4 ⟨rfl, k4⟩
  replace k4 := Kept.below k4
  have hc4 := Kept.cell k4
  have hf4 := Kept.frozen k4
  have hz4 := k4.size
  try simp only [World.size_alloc] at hz4
  try simp only [World.size_setCell] at hz4
  try simp only [World.size_drew] at hz4
  have hb4_0 : w2.heap.size < w4.heap.size ∧ w2.heap.size ≤ w4.heap.size ∧ w2.heap.size ≤ w4.heap.size + 1 ∧ ¬ w2.heap.size = w4.heap.size ∧ ¬ w2.heap.size = w4.heap.size + 1 := by omega
  have TT : Hid (Tab (w4.alloc (.cells #[.int .i64 oc, .int .i64 ol, .int .i64 op] 28))) := hideP (HT.out.keep (by repeat' (first | (with_reducible exact Below.refl _ _) | (with_reducible refine kept_below ?_ (by assumption) ?_) | (with_reducible refine Below.alloc ?_ ?_ _) | (with_reducible refine Below.drew ?_) | (with_reducible refine Below.setCell ?_ ?_ _) | go_size)))
  have BB : Hid (Below w.heap.size w (w4.alloc (.cells #[.int .i64 oc, .int .i64 ol, .int .i64 op] 28))) := hideP (by repeat' (first | (with_reducible exact Below.refl _ _) | (with_reducible refine kept_below ?_ (by assumption) ?_) | (with_reducible refine Below.alloc ?_ ?_ _) | (with_reducible refine Below.drew ?_) | (with_reducible refine Below.setCell ?_ ?_ _) | go_size))
  have IT : Hid (uc = 0 → ∀ W, Tab W → Calls Tryd.prog 10 #[.agg #[.int .i64 ul, .int .i64 up]] W fun e w' => e = .returned (.agg #[.int .i64 0, .string s]) ∧ Below W.heap.size W w') := hideP fun h0 W hT => by
    rcases HU.out with h | ⟨_, h1, h2⟩
    · omega
    · have h := iText_ok ul up W h1 hT
      rwa [h2] at h
  have IC : Hid (oc = 0 → ∀ W, Calls Tryd.prog 12 #[.agg #[.int .i64 ol, .int .i64 op]] W fun e w' => e = .returned (.agg #[.int .i64 0, .int .i64 n]) ∧ Below W.heap.size W w') := hideP fun h0 W => by
    rcases HO.out with h | ⟨_, h1, h2⟩
    · omega
    · have h := co_ok ol op W h1
      rwa [h2] at h
  obtain hu : uc = 5 ∨ uc = 0 := by rcases HU.out with h | h; exact .inl h; exact .inr h.1
  obtain ho : oc = 3 ∨ oc = 0 := by rcases HO.out with h | h; exact .inl h; exact .inr h.1
  clear HU HO
  have kk : Below w4.heap.size w4 (w4.alloc (.cells #[.int .i64 oc, .int .i64 ol, .int .i64 op] 28)) := by go_grown
  have q := kept_join (kept_join k3 k4) kk
  have cu0 : (w4.alloc (.cells #[.int .i64 oc, .int .i64 ol, .int .i64 op] 28)).cell? ⟨w2.heap.size, 0, none⟩ = some (.int .i64 uc) := by rw [Kept.cell q _ _ (by simp)]; simp [go_sem]
  have cu1 : (w4.alloc (.cells #[.int .i64 oc, .int .i64 ol, .int .i64 op] 28)).cell? ⟨w2.heap.size, 1, none⟩ = some (.int .i64 ul) := by rw [Kept.cell q _ _ (by simp)]; simp [go_sem]
  have cu2 : (w4.alloc (.cells #[.int .i64 oc, .int .i64 ol, .int .i64 op] 28)).cell? ⟨w2.heap.size, 2, none⟩ = some (.int .i64 up) := by rw [Kept.cell q _ _ (by simp)]; simp [go_sem]
  have co0 : (w4.alloc (.cells #[.int .i64 oc, .int .i64 ol, .int .i64 op] 28)).cell? ⟨w4.heap.size, 0, none⟩ = some (.int .i64 oc) := by simp [go_sem]
  have co1 : (w4.alloc (.cells #[.int .i64 oc, .int .i64 ol, .int .i64 op] 28)).cell? ⟨w4.heap.size, 1, none⟩ = some (.int .i64 ol) := by simp [go_sem]
  have co2 : (w4.alloc (.cells #[.int .i64 oc, .int .i64 ol, .int .i64 op] 28)).cell? ⟨w4.heap.size, 2, none⟩ = some (.int .i64 op) := by simp [go_sem]
  have lu : w2.heap.size < (w4.alloc (.cells #[.int .i64 oc, .int .i64 ol, .int .i64 op] 28)).heap.size := by simp; omega
  have lo : w4.heap.size < (w4.alloc (.cells #[.int .i64 oc, .int .i64 ol, .int .i64 op] 28)).heap.size := by simp
  go_upto_region 7 with fail
  clear q kk k1 k2 k3 k4 hc1 hc2 hc3 hc4 hf1 hf2 hf3 hf4 hz1 hz2 hz3 hz4 hb3_0 hb4_0
  generalize w4.alloc (.cells #[.int .i64 oc, .int .i64 ol, .int .i64 op] 28) = V at *
  generalize w2.heap.size = x2 at *
  generalize w4.heap.size = x4 at *
  rcases hu with rfl | rfl <;> rcases ho with rfl | rfl
  all_goals
    refine wp_region_wq (by kernel_rfl) (by kernel_rfl) ?_
    repeat (first | (refine wq_up _ (by first | exact wanted_free rfl | exact wanted_yes rfl rfl | exact wanted_no rfl rfl | exact wanted_lost rfl rfl) (by first | with_reducible rfl | decide) ?_; apply Exists.intro; refine ⟨fun w1 k1 => ?_, fun K hK => ?_⟩; (focus (have hc := Kept.cell k1; go_simp; first | done | rfl | (go_at_call 9; exact kept_call k1 (SP.out _)) | (go_at_call 11; exact kept_call k1 (SL.out _)) | (go_at_call 10; exact kept_call k1 (IT.out rfl _ (TT.out.keep k1))) | (go_at_call 12; exact kept_call k1 (IC.out rfl _)))); (go_simp; refine hK _ ?_; clear hK K)) | (refine wq_off _ (by first | exact wanted_free rfl | exact wanted_yes rfl rfl | exact wanted_no rfl rfl | exact wanted_lost rfl rfl) (by first | with_reducible rfl | decide) ?_; intro K hK; go_simp; refine hK _ ?_; clear hK K))
    refine wq_nil ?_
    intro w5 k5
    replace k5 := Kept.below k5
    have hc5 := Kept.cell k5
    have hf5 := Kept.frozen k5
    have hz5 := k5.size
    try simp only [World.size_alloc] at hz5
    try simp only [World.size_setCell] at hz5
    try simp only [World.size_drew] at hz5
    have hb5_0 : x2 < w5.heap.size ∧ x2 ≤ w5.heap.size ∧ x2 ≤ w5.heap.size + 1 ∧ ¬ x2 = w5.heap.size ∧ ¬ x2 = w5.heap.size + 1 := by omega
    have hb5_1 : x4 < w5.heap.size ∧ x4 ≤ w5.heap.size ∧ x4 ≤ w5.heap.size + 1 ∧ ¬ x4 = w5.heap.size ∧ ¬ x4 = w5.heap.size + 1 := by omega
    have B5 := hideP (kept_join BB.out k5)
    clear k5 hc5 hf5 hz5 hb5_0 hb5_1 TT IT IC SP SL cu0 cu1 cu2 co0 co1 co2 lu lo BB
    go_wp2_with fail
    refine Calls.mono (dlt_any _ a len cap f (HB.out.now B5.out) hl) ?_
    rintro e w6 ⟨l, p, rfl, k6⟩
    have B6 := hideP (kept_join B5.out k6)
    clear k6 B5
    have hz6 := B6.out.size
    go_wp2_with fail
    have T6 := HT.out.keep (B6.out.alloc B6.out.size (.cells #[.int .i64 l, .int .i64 p] 26))
    cases hv : fltB l p
    · refine Calls.mono (iText_ok l p _ hv T6) ?_
      have H6 := hideP T6
      have HV := hideP hv
      have HT1 := hideP (back_label l p hv)
      have HT2 : Hid (2 ≤ (strOfNums (tx l p 4)).size ∧ (strOfNums (tx l p 4)).size ≤ 10) := hideP (by rw [strOfNums_size]; exact ⟨tx_two l p 4, tx_len l p 4⟩)
      have ST : Hid (∀ W, Calls Tryd.prog 14 #[.agg #[.int .i64 l, .int .i64 p]] W fun e w' => e = .returned (.agg #[.int .i64 0, .string (strOfNums (tx l p 4))]) ∧ Below W.heap.size W w') := hideP fun W => sText_ok l p W hv
      have CO : Hid (∀ W, Calls Tryd.prog 12 #[.agg #[.int .i64 l, .int .i64 p]] W fun e w' => e = .returned (.agg #[.int .i64 0, .int .i64 (l * 16 + p)]) ∧ Below W.heap.size W w') := hideP fun W => co_ok l p W hv
      have LO : Hid (∀ W, Calls Tryd.prog 8 #[.int .i64 (l * 16 + p)] W fun e w' => e = .returned (.agg #[.int .i64 0, .int .i64 l, .int .i64 p]) ∧ Below W.heap.size W w') := hideP fun W => by
        obtain ⟨h1, h2, h3, h4⟩ := fltB_no hv
        have h := lo_in (l * 16 + p) W (by omega) (by omega)
        have e1 : (l * 16 + p) / 16 = l := by omega
        have e2 : (l * 16 + p) % 16 = p := by omega
        rwa [e1, e2] at h
      clear hv T6
      have PL : Hid (∀ W, Tab W → Calls Tryd.prog 6 #[.string (strOfNums (tx l p 4))] W fun e w' => e = .returned (.agg #[.int .i64 0, .int .i64 l, .int .i64 p]) ∧ Below W.heap.size W w') := hideP fun W hT => by
        have h := ip_any (strOfNums (tx l p 4)) W hT (by have := HT2.out; omega)
        rwa [HT1.out] at h
      clear HT1
      generalize strOfNums (tx l p 4) = t at *
      have hte : t.toList.isEmpty = false := by
        have h2 := HT2.out
        rw [ByteArray.toList_eq]
        cases h : t.data.toList with
        | nil =>
          have h0 : t.size = 0 := by rw [ByteArray.size, ← Array.length_toList, h]; rfl
          omega
        | cons x y => rfl
      generalize hc : l * 16 + p = c at *
      clear hc
      rintro e w7 ⟨rfl, k7⟩
      replace k7 := Kept.below k7
      have hc7 := Kept.cell k7
      have hf7 := Kept.frozen k7
      have hz7 := k7.size
      try simp only [World.size_alloc] at hz7
      try simp only [World.size_setCell] at hz7
      try simp only [World.size_drew] at hz7
      have hb7_0 : w6.heap.size < w7.heap.size ∧ w6.heap.size ≤ w7.heap.size ∧ w6.heap.size ≤ w7.heap.size + 1 ∧ ¬ w6.heap.size = w7.heap.size ∧ ¬ w6.heap.size = w7.heap.size + 1 := by omega
      have H7 : Hid (Tab (w7.alloc (.cells #[.int .i64 0, .string t] 33))) := hideP (H6.out.keep (kept_below k7 ((Below.refl _ _).alloc (Nat.le_refl _) _) (by simp; omega)))
      go_upto_region 13 with fail
      refine wp_region_wq (by kernel_rfl) (by kernel_rfl) ?_
      repeat (first | (refine wq_up _ (by first | exact wanted_free rfl | exact wanted_yes rfl rfl | exact wanted_no rfl rfl | exact wanted_lost rfl rfl) (by first | with_reducible rfl | decide) ?_; apply Exists.intro; refine ⟨fun w1 k1 => ?_, fun K hK => ?_⟩; (focus (have hc := Kept.cell k1; go_simp; first | done | rfl | (go_at_call 6; exact kept_call k1 (PL.out _ (H7.out.keep k1))) | (go_at_call 12; exact kept_call k1 (CO.out _)) | (go_at_call 8; exact kept_call k1 (LO.out _)) | (go_at_call 14; exact kept_call k1 (ST.out _)))); (go_simp; refine hK _ ?_; clear hK K)) | (refine wq_off _ (by first | exact wanted_free rfl | exact wanted_yes rfl rfl | exact wanted_no rfl rfl | exact wanted_lost rfl rfl) (by first | with_reducible rfl | decide) ?_; intro K hK; go_simp; refine hK _ ?_; clear hK K))
      refine wq_nil ?_
      intro w8 k8
      replace k8 := Kept.below k8
      have hc8 := Kept.cell k8
      have hf8 := Kept.frozen k8
      have hz8 := k8.size
      try simp only [World.size_alloc] at hz8
      try simp only [World.size_setCell] at hz8
      try simp only [World.size_drew] at hz8
      have hb8_0 : w6.heap.size < w8.heap.size ∧ w6.heap.size ≤ w8.heap.size ∧ w6.heap.size ≤ w8.heap.size + 1 ∧ ¬ w6.heap.size = w8.heap.size ∧ ¬ w6.heap.size = w8.heap.size + 1 := by omega
      have hb8_1 : w7.heap.size < w8.heap.size ∧ w7.heap.size ≤ w8.heap.size ∧ w7.heap.size ≤ w8.heap.size + 1 ∧ ¬ w7.heap.size = w8.heap.size ∧ ¬ w7.heap.size = w8.heap.size + 1 := by omega
      go_wp2
      go_returns
      refine ⟨rfl, ?_⟩
      repeat' (first | exact B6.out | (with_reducible refine kept_below ?_ (by assumption) ?_) | (with_reducible refine Below.alloc ?_ ?_ _) | go_size)
    · refine Calls.mono (iText_no l p _ hv) ?_
      have LF : Hid (∀ W, Calls Tryd.prog 15 #[.agg #[.int .i64 l, .int .i64 p]] W fun e w' => e = .returned (.int .i64 3) ∧ Below W.heap.size W w') := hideP fun W => lf_no l p W hv
      have ST : Hid (∀ W, Calls Tryd.prog 14 #[.agg #[.int .i64 l, .int .i64 p]] W fun e w' => e = .returned (.agg #[.int .i64 3, .string ByteArray.empty]) ∧ Below W.heap.size W w') := hideP fun W => sText_no l p W hv
      clear hv T6
      rintro e w7 ⟨rfl, k7⟩
      replace k7 := Kept.below k7
      have hc7 := Kept.cell k7
      have hf7 := Kept.frozen k7
      have hz7 := k7.size
      try simp only [World.size_alloc] at hz7
      try simp only [World.size_setCell] at hz7
      try simp only [World.size_drew] at hz7
      have hb7_0 : w6.heap.size < w7.heap.size ∧ w6.heap.size ≤ w7.heap.size ∧ w6.heap.size ≤ w7.heap.size + 1 ∧ ¬ w6.heap.size = w7.heap.size ∧ ¬ w6.heap.size = w7.heap.size + 1 := by omega
      go_upto_region 12 with fail
      refine wp_region_wq (by kernel_rfl) (by kernel_rfl) ?_
      repeat (first | (refine wq_up _ (by first | exact wanted_free rfl | exact wanted_yes rfl rfl | exact wanted_no rfl rfl | exact wanted_lost rfl rfl) (by first | with_reducible rfl | decide) ?_; apply Exists.intro; refine ⟨fun w1 k1 => ?_, fun K hK => ?_⟩; (focus (have hc := Kept.cell k1; go_simp; first | done | rfl | (go_at_call 14; exact kept_call k1 (ST.out _)) | (go_at_call 15; exact kept_call k1 (LF.out _)))); (go_simp; refine hK _ ?_; clear hK K)) | (refine wq_off _ (by first | exact wanted_free rfl | exact wanted_yes rfl rfl | exact wanted_no rfl rfl | exact wanted_lost rfl rfl) (by first | with_reducible rfl | decide) ?_; intro K hK; go_simp; refine hK _ ?_; clear hK K))
      refine wq_nil ?_
      intro w8 k8
      replace k8 := Kept.below k8
      have hc8 := Kept.cell k8
      have hf8 := Kept.frozen k8
      have hz8 := k8.size
      try simp only [World.size_alloc] at hz8
      try simp only [World.size_setCell] at hz8
      try simp only [World.size_drew] at hz8
      have hb8_0 : w6.heap.size < w8.heap.size ∧ w6.heap.size ≤ w8.heap.size ∧ w6.heap.size ≤ w8.heap.size + 1 ∧ ¬ w6.heap.size = w8.heap.size ∧ ¬ w6.heap.size = w8.heap.size + 1 := by omega
      have hb8_1 : w7.heap.size < w8.heap.size ∧ w7.heap.size ≤ w8.heap.size ∧ w7.heap.size ≤ w8.heap.size + 1 ∧ ¬ w7.heap.size = w8.heap.size ∧ ¬ w7.heap.size = w8.heap.size + 1 := by omega
      go_wp2
      go_returns
      refine ⟨rfl, ?_⟩
      repeat' (first | exact B6.out | (with_reducible refine kept_below ?_ (by assumption) ?_) | (with_reducible refine Below.alloc ?_ ?_ _) | go_size)

theorem labels_any (a : Option Addr) (len cap : Nat) (zs : List Int) (w : World) (h : IsRow .u8 w a len cap zs) (T : Tab w) :
    Calls Tryd.prog 3 #[.slice a len cap] w fun e w' => e = .returned (.bool true) ∧ Below w.heap.size w w' := by
  have hl : len ≤ maxLen := by
    rcases h with ⟨_, h, _⟩ | ⟨_, _, h1, h2, _⟩
    · omega
    · omega
  by_cases hb : 1048576 < len
  · exact labels_big a len cap w hl hb
  · exact labels_no a len cap _ w h.bytes hl (by omega) T

end Go.Proofs.YtmnekheaggleaaaDoor
