/- RequestFault of the model. -/
import Derived.Test.YtgjbjafodkiilaaTj6
namespace Go.Proofs.Ytgjbjafodkiilaa
open Go.RowKit
set_option linter.unusedVariables false

/-- A request's three cells. -/
structure IsReq (w : World) (b o : Nat) (k : Int) (va vd : Value) : Prop where
  c0 : w.cell? ⟨b, o, none⟩ = some (.int .i64 k)
  c1 : w.cell? ⟨b, o + 1, none⟩ = some va
  c2 : w.cell? ⟨b, o + 2, none⟩ = some vd
theorem IsReq.keep {w w' : World} {b o B : Nat} {k : Int} {va vd : Value} (h : IsReq w b o k va vd) (kk : Below B w w') (hb : b < B) : IsReq w' b o k va vd :=
  ⟨(kk.cell (p := ⟨b, o, none⟩) hb).trans h.c0, (kk.cell (p := ⟨b, o + 1, none⟩) hb).trans h.c1, (kk.cell (p := ⟨b, o + 2, none⟩) hb).trans h.c2⟩

/-- A request's box. -/
structure Bx (w : World) (b : Nat) (k : Int) (va vd : Value) : Prop where
  c0 : w.cell? ⟨b, 0, none⟩ = some (.int .i64 k)
  c1 : w.cell? ⟨b, 1, none⟩ = some va
  c2 : w.cell? ⟨b, 2, none⟩ = some vd
theorem Bx.keep {w w' : World} {b B : Nat} {k : Int} {va vd : Value} (h : Bx w b k va vd) (kk : Below B w w') (hb : b < B) : Bx w' b k va vd :=
  ⟨(kk.cell (p := ⟨b, 0, none⟩) hb).trans h.c0, (kk.cell (p := ⟨b, 1, none⟩) hb).trans h.c1, (kk.cell (p := ⟨b, 2, none⟩) hb).trans h.c2⟩
theorem Bx.far {w w' : World} {b lo hi : Nat} {k : Int} {va vd : Value} (h : Bx w b k va vd) (f : Far lo hi w w') (hb : b < w.heap.size) (hd : b < lo ∨ hi ≤ b) : Bx w' b k va vd :=
  ⟨(f.cell b 0 hb hd).trans h.c0, (f.cell b 1 hb hd).trans h.c1, (f.cell b 2 hb hd).trans h.c2⟩

set_option maxHeartbeats 1000000 in
theorem all_any (lo hi : Nat) (ao : Option Addr) (ca : Nat) (A : List Int) (w : World) (hR : Row .i64 w lo hi ao A) (hl : A.length ≤ 1048576) :
    Calls Try.prog 42 #[.slice ao A.length ca, .int .i64 0, .int .i64 255] w fun e w' => e = .returned (.bool (A.all isB)) ∧ w' = w := by
  have HR := hideP hR
  have hl' : (A.length : Int) ≤ 1048576 := by omega
  clear hR
  go_enter Try.func42, Try.ntmps42
  go_wp2
  go_loop [7] (fun i => ∃ j : Nat, j ≤ A.length ∧ i = .int .i64 j ∧ Hid (∀ i (hi : i < A.length), i < j → isB A[i] = true)) (fun i => A.length - (intOf i).toNat)
  case atStart => exact ⟨0, Nat.zero_le _, rfl, fun i _ hi => absurd hi (Nat.not_lt_zero _)⟩
  case round =>
    obtain ⟨j, hj, rfl, HF⟩ := hrel
    by_cases hlt : j < A.length
    · have hlt' : (j : Int) < (A.length : Int) := by omega
      have hne : A ≠ [] := fun e => by rw [e] at hlt; simp at hlt
      rcases HR.out with e | ⟨g, o, rfl, _, hg, hc⟩
      · exact absurd e hne
      have a0 := hc j hlt
      have hhit := hideP (all_hit hlt)
      have hon := hideP (show ∀ e : isB A[j] = true, ∀ i (hi : i < A.length), i < j + 1 → isB A[i] = true from fun e i hi hij => by
        by_cases h : i < j
        · exact HF.out i hi h
        · obtain rfl : i = j := by omega
          exact e)
      clear hc HF hne
      generalize A[j] = x at *
      cases hb : isB x
      · have hh := hideP (hhit.out hb)
        have Hx := hideP (isB_no hb)
        clear hhit hon hb
        go_wp2_with (go_at_call 51; refine Calls.mono (in_no _ _ _ _ Hx.out) ?_; rintro e w1 ⟨rfl, rfl⟩)
        go_returns
        exact ⟨by rw [hh.out]; rfl, rfl⟩
      · have hh := hideP (hon.out hb)
        have Hx := hideP (isB_yes hb)
        clear hhit hon hb
        go_wp2_with (go_at_call 51; refine Calls.mono (in_yes _ _ _ _ Hx.out.1 Hx.out.2) ?_; rintro e w1 ⟨rfl, rfl⟩)
        go_round
        case rel => exact ⟨j + 1, by omega, by go_num, hh.out⟩
        case measure => simp [intOf]; omega
    · have hf := hideP (all_none fun i hi => HF.out i hi (by omega))
      clear HF
      go_wp2
      go_returns
      exact ⟨by rw [hf.out]; rfl, rfl⟩

set_option maxHeartbeats 400000 in
theorem l3F_none (b o : Nat) (k : Int) (va vd : Value) (w : World) (R : IsReq w b o k va vd) (h : k < 1 ∨ 13 < k) :
    Calls Try.prog 21 #[.pointer (some ⟨b, o, none⟩)] w fun e w' => e = .returned (.int .i64 3) ∧ Below w.heap.size w w' := by
  obtain ⟨c0, c1, c2⟩ := R
  go_enter Try.func21, Try.ntmps21
  go_wp2_with (go_at_call 40; refine Calls.mono (kind_no _ _ (by omega)) ?_; rintro e w1 ⟨rfl, rfl⟩)
  go_returns
  exact ⟨rfl, Below.refl _ _⟩

set_option maxHeartbeats 4000000 in
theorem l3F_many (b o : Nat) (k : Int) (ao bo : Option Addr) (na ca nd cb : Nat) (w : World) (R : IsReq w b o k (.slice ao na ca) (.slice bo nd cb)) (h1 : 1 ≤ k) (h2 : k ≤ 13) (h : na ≠ aN k ∨ mD k < nd) :
    Calls Try.prog 21 #[.pointer (some ⟨b, o, none⟩)] w fun e w' => e = .returned (.int .i64 2) ∧ Below w.heap.size w w' := by
  have hlt : b < w.heap.size := World.block_lt_of_cell? w _ R.c0
  obtain ⟨c0, c1, c2⟩ := R
  have HK := hideP (And.intro h1 h2)
  obtain ⟨n, hn⟩ : ∃ n, aN k = n := ⟨_, rfl⟩
  have CA := sArgN_any k
  rw [hn] at h CA
  have CA' := hideP CA
  clear CA hn h1 h2
  by_cases ha : na = n
  · subst ha
    have e1 : ((na : Int) != (na : Int)) = false := by simp
    by_cases hk : k = 11
    · subst hk
      have hm := mD_clip
      have e2 : 24 < nd := by omega
      have e2' : (24 : Int) < (nd : Int) := by omega
      clear h hm
      go_enter Try.func21, Try.ntmps21
      go_wp2_with (go_at_call 40; refine Calls.mono (kind_yes _ _ (by omega) (by omega)) ?_; rintro e w1 ⟨rfl, rfl⟩)
      refine wp_region_wq (by kernel_rfl) (by kernel_rfl) ?_
      repeat (first | (refine wq_up _ (by first | exact wanted_free rfl | exact wanted_yes rfl rfl | exact wanted_no rfl rfl | exact wanted_lost rfl rfl) (by first | with_reducible rfl | decide) ?_; apply Exists.intro; refine ⟨fun w1 k1 => ?_, fun K hK => ?_⟩; (focus (have hc := Kept.cell k1; go_simp; first | done | rfl | (go_at_call 41; exact kept_call k1 (CA'.out _ HK.out.1 HK.out.2)))); (go_simp; refine hK _ ?_; clear hK K)) | (refine wq_off _ (by first | exact wanted_free rfl | exact wanted_yes rfl rfl | exact wanted_no rfl rfl | exact wanted_lost rfl rfl) (by first | with_reducible rfl | decide) ?_; intro K hK; go_simp; refine hK _ ?_; clear hK K))
      refine wq_nil ?_
      intro w5 k5
      replace k5 := Kept.below k5
      have hc5 := Kept.cell k5
      have hf5 := Kept.frozen k5
      have hz5 := k5.size
      try simp only [World.size_alloc] at hz5
      try simp only [World.size_setCell] at hz5
      try simp only [World.size_drew] at hz5
      try (first | have hs5 := sz12 hz5 | have hs5 := sz11 hz5 | have hs5 := sz10 hz5 | have hs5 := sz9 hz5 | have hs5 := sz8 hz5 | have hs5 := sz7 hz5 | have hs5 := sz6 hz5 | have hs5 := sz5 hz5 | have hs5 := sz4 hz5 | have hs5 := sz3 hz5 | have hs5 := sz2 hz5 | have hs5 := sz1 hz5)
      go_wp2
      go_returns
      refine ⟨rfl, ?_⟩
      repeat' (first | (with_reducible exact Below.refl _ _) | (with_reducible refine kept_below ?_ (by assumption) ?_) | (with_reducible refine Below.alloc ?_ ?_ _) | (with_reducible refine Below.drew ?_) | (with_reducible refine Below.setCell ?_ ?_ _) | go_size)
    · have hm := mD_no hk
      have e2 : 0 < nd := by omega
      have e2' : (0 : Int) < (nd : Int) := by omega
      have e3 : (k != 11) = true := by simpa using hk
      clear h hm
      go_enter Try.func21, Try.ntmps21
      go_wp2_with (go_at_call 40; refine Calls.mono (kind_yes _ _ (HK.out.1) (HK.out.2)) ?_; rintro e w1 ⟨rfl, rfl⟩)
      refine wp_region_wq (by kernel_rfl) (by kernel_rfl) ?_
      repeat (first | (refine wq_up _ (by first | exact wanted_free rfl | exact wanted_yes rfl rfl | exact wanted_no rfl rfl | exact wanted_lost rfl rfl) (by first | with_reducible rfl | decide) ?_; apply Exists.intro; refine ⟨fun w1 k1 => ?_, fun K hK => ?_⟩; (focus (have hc := Kept.cell k1; go_simp; first | done | rfl | (go_at_call 41; exact kept_call k1 (CA'.out _ HK.out.1 HK.out.2)))); (go_simp; refine hK _ ?_; clear hK K)) | (refine wq_off _ (by first | exact wanted_free rfl | exact wanted_yes rfl rfl | exact wanted_no rfl rfl | exact wanted_lost rfl rfl) (by first | with_reducible rfl | decide) ?_; intro K hK; go_simp; refine hK _ ?_; clear hK K))
      refine wq_nil ?_
      intro w5 k5
      replace k5 := Kept.below k5
      have hc5 := Kept.cell k5
      have hf5 := Kept.frozen k5
      have hz5 := k5.size
      try simp only [World.size_alloc] at hz5
      try simp only [World.size_setCell] at hz5
      try simp only [World.size_drew] at hz5
      try (first | have hs5 := sz12 hz5 | have hs5 := sz11 hz5 | have hs5 := sz10 hz5 | have hs5 := sz9 hz5 | have hs5 := sz8 hz5 | have hs5 := sz7 hz5 | have hs5 := sz6 hz5 | have hs5 := sz5 hz5 | have hs5 := sz4 hz5 | have hs5 := sz3 hz5 | have hs5 := sz2 hz5 | have hs5 := sz1 hz5)
      go_wp2
      go_returns
      refine ⟨rfl, ?_⟩
      repeat' (first | (with_reducible exact Below.refl _ _) | (with_reducible refine kept_below ?_ (by assumption) ?_) | (with_reducible refine Below.alloc ?_ ?_ _) | (with_reducible refine Below.drew ?_) | (with_reducible refine Below.setCell ?_ ?_ _) | go_size)
  · have e1 : ((na : Int) != (n : Int)) = true := by simp; omega
    clear h
    go_enter Try.func21, Try.ntmps21
    go_wp2_with (go_at_call 40; refine Calls.mono (kind_yes _ _ (HK.out.1) (HK.out.2)) ?_; rintro e w1 ⟨rfl, rfl⟩)
    refine wp_region_wq (by kernel_rfl) (by kernel_rfl) ?_
    repeat (first | (refine wq_up _ (by first | exact wanted_free rfl | exact wanted_yes rfl rfl | exact wanted_no rfl rfl | exact wanted_lost rfl rfl) (by first | with_reducible rfl | decide) ?_; apply Exists.intro; refine ⟨fun w1 k1 => ?_, fun K hK => ?_⟩; (focus (have hc := Kept.cell k1; go_simp; first | done | rfl | (go_at_call 41; exact kept_call k1 (CA'.out _ HK.out.1 HK.out.2)))); (go_simp; refine hK _ ?_; clear hK K)) | (refine wq_off _ (by first | exact wanted_free rfl | exact wanted_yes rfl rfl | exact wanted_no rfl rfl | exact wanted_lost rfl rfl) (by first | with_reducible rfl | decide) ?_; intro K hK; go_simp; refine hK _ ?_; clear hK K))
    refine wq_nil ?_
    intro w5 k5
    replace k5 := Kept.below k5
    have hc5 := Kept.cell k5
    have hf5 := Kept.frozen k5
    have hz5 := k5.size
    try simp only [World.size_alloc] at hz5
    try simp only [World.size_setCell] at hz5
    try simp only [World.size_drew] at hz5
    try (first | have hs5 := sz12 hz5 | have hs5 := sz11 hz5 | have hs5 := sz10 hz5 | have hs5 := sz9 hz5 | have hs5 := sz8 hz5 | have hs5 := sz7 hz5 | have hs5 := sz6 hz5 | have hs5 := sz5 hz5 | have hs5 := sz4 hz5 | have hs5 := sz3 hz5 | have hs5 := sz2 hz5 | have hs5 := sz1 hz5)
    go_wp2
    go_returns
    refine ⟨rfl, ?_⟩
    repeat' (first | (with_reducible exact Below.refl _ _) | (with_reducible refine kept_below ?_ (by assumption) ?_) | (with_reducible refine Below.alloc ?_ ?_ _) | (with_reducible refine Below.drew ?_) | (with_reducible refine Below.setCell ?_ ?_ _) | go_size)

set_option maxHeartbeats 4000000 in
theorem l3F_args (lo hi : Nat) (b o : Nat) (k : Int) (ao bo : Option Addr) (ca nd cb : Nat) (A : List Int) (w : World) (R : IsReq w b o k (.slice ao A.length ca) (.slice bo nd cb)) (hR : Row .i64 w lo hi ao A) (hs : hi ≤ w.heap.size) (h1 : 1 ≤ k) (h2 : k ≤ 13) (ha : A.length = aN k) (hd : nd ≤ mD k) :
    Calls Try.prog 21 #[.pointer (some ⟨b, o, none⟩)] w fun e w' => e = .returned (.int .i64 (aF A)) ∧ Below w.heap.size w w' := by
  have hlt : b < w.heap.size := World.block_lt_of_cell? w _ R.c0
  have HR := hideP hR
  obtain ⟨c0, c1, c2⟩ := R
  have HK := hideP (And.intro h1 h2)
  have CA := sArgN_any k
  rw [← ha] at CA
  have CA' := hideP CA
  have hl : A.length ≤ 7 := by rw [ha]; exact aN_le k
  have e1 : ((A.length : Int) != (A.length : Int)) = false := by simp
  clear CA h1 h2 hR ha
  by_cases hk : k = 11
  · subst hk
    have hm := mD_clip
    have e2 : ¬ 24 < nd := by omega
    have e2' : ¬ (24 : Int) < (nd : Int) := by omega
    clear hd hm
    cases hb : A.all isB
    · have HA := hideP (aF_no hb)
      have hb' := hideP hb
      clear hb
      go_enter Try.func21, Try.ntmps21
      go_wp2_with (go_at_call 40; refine Calls.mono (kind_yes _ _ (by omega) (by omega)) ?_; rintro e w1 ⟨rfl, rfl⟩)
      refine wp_region_wq (by kernel_rfl) (by kernel_rfl) ?_
      repeat (first | (refine wq_up _ (by first | exact wanted_free rfl | exact wanted_yes rfl rfl | exact wanted_no rfl rfl | exact wanted_lost rfl rfl) (by first | with_reducible rfl | decide) ?_; apply Exists.intro; refine ⟨fun w1 k1 => ?_, fun K hK => ?_⟩; (focus (have hc := Kept.cell k1; go_simp; first | done | rfl | (go_at_call 41; exact kept_call k1 (CA'.out _ HK.out.1 HK.out.2)))); (go_simp; refine hK _ ?_; clear hK K)) | (refine wq_off _ (by first | exact wanted_free rfl | exact wanted_yes rfl rfl | exact wanted_no rfl rfl | exact wanted_lost rfl rfl) (by first | with_reducible rfl | decide) ?_; intro K hK; go_simp; refine hK _ ?_; clear hK K))
      refine wq_nil ?_
      intro w5 k5
      replace k5 := Kept.below k5
      have hc5 := Kept.cell k5
      have hf5 := Kept.frozen k5
      have hz5 := k5.size
      try simp only [World.size_alloc] at hz5
      try simp only [World.size_setCell] at hz5
      try simp only [World.size_drew] at hz5
      try (first | have hs5 := sz12 hz5 | have hs5 := sz11 hz5 | have hs5 := sz10 hz5 | have hs5 := sz9 hz5 | have hs5 := sz8 hz5 | have hs5 := sz7 hz5 | have hs5 := sz6 hz5 | have hs5 := sz5 hz5 | have hs5 := sz4 hz5 | have hs5 := sz3 hz5 | have hs5 := sz2 hz5 | have hs5 := sz1 hz5)
      go_wp2_with fail
      refine Calls.mono (all_any lo hi ao ca A w5 (HR.out.keep k5 hs) (by omega)) ?_
      rintro e w6 ⟨rfl, rfl⟩
      rw [hb'.out]
      go_wp2
      go_returns
      refine ⟨by rw [HA.out]; rfl, ?_⟩
      repeat' (first | (with_reducible exact Below.refl _ _) | (with_reducible refine kept_below ?_ (by assumption) ?_) | (with_reducible refine Below.alloc ?_ ?_ _) | (with_reducible refine Below.drew ?_) | (with_reducible refine Below.setCell ?_ ?_ _) | go_size)
    · have HA := hideP (aF_yes hb)
      have hb' := hideP hb
      clear hb
      go_enter Try.func21, Try.ntmps21
      go_wp2_with (go_at_call 40; refine Calls.mono (kind_yes _ _ (by omega) (by omega)) ?_; rintro e w1 ⟨rfl, rfl⟩)
      refine wp_region_wq (by kernel_rfl) (by kernel_rfl) ?_
      repeat (first | (refine wq_up _ (by first | exact wanted_free rfl | exact wanted_yes rfl rfl | exact wanted_no rfl rfl | exact wanted_lost rfl rfl) (by first | with_reducible rfl | decide) ?_; apply Exists.intro; refine ⟨fun w1 k1 => ?_, fun K hK => ?_⟩; (focus (have hc := Kept.cell k1; go_simp; first | done | rfl | (go_at_call 41; exact kept_call k1 (CA'.out _ HK.out.1 HK.out.2)))); (go_simp; refine hK _ ?_; clear hK K)) | (refine wq_off _ (by first | exact wanted_free rfl | exact wanted_yes rfl rfl | exact wanted_no rfl rfl | exact wanted_lost rfl rfl) (by first | with_reducible rfl | decide) ?_; intro K hK; go_simp; refine hK _ ?_; clear hK K))
      refine wq_nil ?_
      intro w5 k5
      replace k5 := Kept.below k5
      have hc5 := Kept.cell k5
      have hf5 := Kept.frozen k5
      have hz5 := k5.size
      try simp only [World.size_alloc] at hz5
      try simp only [World.size_setCell] at hz5
      try simp only [World.size_drew] at hz5
      try (first | have hs5 := sz12 hz5 | have hs5 := sz11 hz5 | have hs5 := sz10 hz5 | have hs5 := sz9 hz5 | have hs5 := sz8 hz5 | have hs5 := sz7 hz5 | have hs5 := sz6 hz5 | have hs5 := sz5 hz5 | have hs5 := sz4 hz5 | have hs5 := sz3 hz5 | have hs5 := sz2 hz5 | have hs5 := sz1 hz5)
      go_wp2_with fail
      refine Calls.mono (all_any lo hi ao ca A w5 (HR.out.keep k5 hs) (by omega)) ?_
      rintro e w6 ⟨rfl, rfl⟩
      rw [hb'.out]
      go_wp2
      go_returns
      refine ⟨by rw [HA.out]; rfl, ?_⟩
      repeat' (first | (with_reducible exact Below.refl _ _) | (with_reducible refine kept_below ?_ (by assumption) ?_) | (with_reducible refine Below.alloc ?_ ?_ _) | (with_reducible refine Below.drew ?_) | (with_reducible refine Below.setCell ?_ ?_ _) | go_size)
  · have hm := mD_no hk
    obtain rfl : nd = 0 := by omega
    have e3 : (k != 11) = true := by simpa using hk
    clear hd hm hk
    cases hb : A.all isB
    · have HA := hideP (aF_no hb)
      have hb' := hideP hb
      clear hb
      go_enter Try.func21, Try.ntmps21
      go_wp2_with (go_at_call 40; refine Calls.mono (kind_yes _ _ (HK.out.1) (HK.out.2)) ?_; rintro e w1 ⟨rfl, rfl⟩)
      refine wp_region_wq (by kernel_rfl) (by kernel_rfl) ?_
      repeat (first | (refine wq_up _ (by first | exact wanted_free rfl | exact wanted_yes rfl rfl | exact wanted_no rfl rfl | exact wanted_lost rfl rfl) (by first | with_reducible rfl | decide) ?_; apply Exists.intro; refine ⟨fun w1 k1 => ?_, fun K hK => ?_⟩; (focus (have hc := Kept.cell k1; go_simp; first | done | rfl | (go_at_call 41; exact kept_call k1 (CA'.out _ HK.out.1 HK.out.2)))); (go_simp; refine hK _ ?_; clear hK K)) | (refine wq_off _ (by first | exact wanted_free rfl | exact wanted_yes rfl rfl | exact wanted_no rfl rfl | exact wanted_lost rfl rfl) (by first | with_reducible rfl | decide) ?_; intro K hK; go_simp; refine hK _ ?_; clear hK K))
      refine wq_nil ?_
      intro w5 k5
      replace k5 := Kept.below k5
      have hc5 := Kept.cell k5
      have hf5 := Kept.frozen k5
      have hz5 := k5.size
      try simp only [World.size_alloc] at hz5
      try simp only [World.size_setCell] at hz5
      try simp only [World.size_drew] at hz5
      try (first | have hs5 := sz12 hz5 | have hs5 := sz11 hz5 | have hs5 := sz10 hz5 | have hs5 := sz9 hz5 | have hs5 := sz8 hz5 | have hs5 := sz7 hz5 | have hs5 := sz6 hz5 | have hs5 := sz5 hz5 | have hs5 := sz4 hz5 | have hs5 := sz3 hz5 | have hs5 := sz2 hz5 | have hs5 := sz1 hz5)
      go_wp2_with fail
      refine Calls.mono (all_any lo hi ao ca A w5 (HR.out.keep k5 hs) (by omega)) ?_
      rintro e w6 ⟨rfl, rfl⟩
      rw [hb'.out]
      go_wp2
      go_returns
      refine ⟨by rw [HA.out]; rfl, ?_⟩
      repeat' (first | (with_reducible exact Below.refl _ _) | (with_reducible refine kept_below ?_ (by assumption) ?_) | (with_reducible refine Below.alloc ?_ ?_ _) | (with_reducible refine Below.drew ?_) | (with_reducible refine Below.setCell ?_ ?_ _) | go_size)
    · have HA := hideP (aF_yes hb)
      have hb' := hideP hb
      clear hb
      go_enter Try.func21, Try.ntmps21
      go_wp2_with (go_at_call 40; refine Calls.mono (kind_yes _ _ (HK.out.1) (HK.out.2)) ?_; rintro e w1 ⟨rfl, rfl⟩)
      refine wp_region_wq (by kernel_rfl) (by kernel_rfl) ?_
      repeat (first | (refine wq_up _ (by first | exact wanted_free rfl | exact wanted_yes rfl rfl | exact wanted_no rfl rfl | exact wanted_lost rfl rfl) (by first | with_reducible rfl | decide) ?_; apply Exists.intro; refine ⟨fun w1 k1 => ?_, fun K hK => ?_⟩; (focus (have hc := Kept.cell k1; go_simp; first | done | rfl | (go_at_call 41; exact kept_call k1 (CA'.out _ HK.out.1 HK.out.2)))); (go_simp; refine hK _ ?_; clear hK K)) | (refine wq_off _ (by first | exact wanted_free rfl | exact wanted_yes rfl rfl | exact wanted_no rfl rfl | exact wanted_lost rfl rfl) (by first | with_reducible rfl | decide) ?_; intro K hK; go_simp; refine hK _ ?_; clear hK K))
      refine wq_nil ?_
      intro w5 k5
      replace k5 := Kept.below k5
      have hc5 := Kept.cell k5
      have hf5 := Kept.frozen k5
      have hz5 := k5.size
      try simp only [World.size_alloc] at hz5
      try simp only [World.size_setCell] at hz5
      try simp only [World.size_drew] at hz5
      try (first | have hs5 := sz12 hz5 | have hs5 := sz11 hz5 | have hs5 := sz10 hz5 | have hs5 := sz9 hz5 | have hs5 := sz8 hz5 | have hs5 := sz7 hz5 | have hs5 := sz6 hz5 | have hs5 := sz5 hz5 | have hs5 := sz4 hz5 | have hs5 := sz3 hz5 | have hs5 := sz2 hz5 | have hs5 := sz1 hz5)
      go_wp2_with fail
      refine Calls.mono (all_any lo hi ao ca A w5 (HR.out.keep k5 hs) (by omega)) ?_
      rintro e w6 ⟨rfl, rfl⟩
      rw [hb'.out]
      go_wp2
      go_returns
      refine ⟨by rw [HA.out]; rfl, ?_⟩
      repeat' (first | (with_reducible exact Below.refl _ _) | (with_reducible refine kept_below ?_ (by assumption) ?_) | (with_reducible refine Below.alloc ?_ ?_ _) | (with_reducible refine Below.drew ?_) | (with_reducible refine Below.setCell ?_ ?_ _) | go_size)

theorem l3F_any (lo hi : Nat) (b o : Nat) (k : Int) (ao bo : Option Addr) (ca nd cb : Nat) (A : List Int) (w : World) (R : IsReq w b o k (.slice ao A.length ca) (.slice bo nd cb)) (hR : Row .i64 w lo hi ao A) (hs : hi ≤ w.heap.size) :
    Calls Try.prog 21 #[.pointer (some ⟨b, o, none⟩)] w fun e w' => e = .returned (.int .i64 (rF k A nd)) ∧ Below w.heap.size w w' := by
  by_cases hk : 1 ≤ k ∧ k ≤ 13
  · by_cases hm : A.length ≠ aN k ∨ mD k < nd
    · rw [rF_many hk.1 hk.2 (mny_yes hm)]; exact l3F_many b o k ao bo A.length ca nd cb w R hk.1 hk.2 hm
    · rw [rF_args hk.1 hk.2 (mny_no (by omega) (by omega))]; exact l3F_args lo hi b o k ao bo ca nd cb A w R hR hs hk.1 hk.2 (by omega) (by omega)
  · rw [rF_none (by omega)]; exact l3F_none b o k _ _ w R (by omega)

end Go.Proofs.Ytgjbjafodkiilaa
