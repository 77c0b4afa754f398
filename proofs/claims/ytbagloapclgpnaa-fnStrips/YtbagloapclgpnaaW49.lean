/- OwnersOf of both sides, at every stack. StripOf by the program. -/
import Derived.Test.YtbagloapclgpnaaW48
import Derived.Test.YtbagloapclgpnaaW44
namespace Go.Proofs.Ytbagloapclgpnaa
open Go.RowKit Go.Maps
set_option linter.unusedVariables false

set_option maxHeartbeats 1000000 in
theorem sOwners_bad (so : Option Addr) (sc : Nat) (L : List Wn) (w : World) (hL : Ws w 0 w.heap.size so L) (hn : L.length + wzs L ≤ 1048576) (h : ¬ stF (L.map Wn.ct) = 0) :
    Calls Try.prog 26 #[.slice so L.length sc] w (IsA w (stF (L.map Wn.ct)) []) := by
  have SF := fun w1 (kk : Below w.heap.size w w1) => l7F_any 0 w.heap.size so sc L w1 (hL.keep kk (Nat.le_refl _)) kk.size hn
  obtain ⟨F, hF⟩ : ∃ F, stF (L.map Wn.ct) = F := ⟨_, rfl⟩
  rw [hF] at SF h ⊢
  have hne' : (F != 0) = true := by simpa using h
  have AN' := hideP SF
  clear SF hL h hF
  go_enter Try.func26, Try.ntmps26
  go_wp2_with fail
  refine Calls.mono (AN'.out _ (by go_grown)) ?_
  rintro e w1 ⟨rfl, k1⟩
  have K1 : Hid (Below w.heap.size w w1) := hideP (Below.trans (by go_grown) (k1.mono (by simp)))
  have X1 : Rb w1 w.heap.size (.int .i64 0) (.slice none 0 0) := Rb.keep ⟨by simp [go_sem], by simp [go_sem], by simp [go_sem], by simp [go_sem], by simp⟩ k1 (by simp)
  obtain ⟨x0, x1, x2, x3, x4⟩ := X1
  clear k1 AN'
  go_wp2
  exact bodyPost_ret (v := .agg #[.int .i64 F, .slice none 0 0]) (by simp [results, Try.results26, go_sem, *]; done) rfl (IsA.nil w F rfl ((K1.out.setCell (p := ⟨w.heap.size, 0, none⟩) (Nat.le_refl _) _).setCell (p := ⟨w.heap.size, 1, none⟩) (Nat.le_refl _) _))

set_option maxHeartbeats 1000000 in
theorem iOwnersOf_bad (so : Option Addr) (sc : Nat) (L : List Wn) (w : World) (hL : Ws w 0 w.heap.size so L) (hn : L.length + wzs L ≤ 1048576) (h : ¬ stF (L.map Wn.ct) = 0) :
    Calls Try.prog 19 #[.slice so L.length sc] w (IsA w (stF (L.map Wn.ct)) []) := by
  have SF := fun w1 (kk : Below w.heap.size w w1) => iStack_any 0 w.heap.size so sc L w1 (hL.keep kk (Nat.le_refl _)) kk.size hn
  obtain ⟨F, hF⟩ : ∃ F, stF (L.map Wn.ct) = F := ⟨_, rfl⟩
  rw [hF] at SF h ⊢
  have hne' : (F != 0) = true := by simpa using h
  have AN' := hideP SF
  clear SF hL h hF
  go_enter Try.func19, Try.ntmps19
  go_wp2_with fail
  refine Calls.mono (AN'.out _ (by go_grown)) ?_
  rintro e w1 ⟨rfl, k1⟩
  have K1 : Hid (Below w.heap.size w w1) := hideP (Below.trans (by go_grown) (k1.mono (by simp; omega)))
  have X1 : Rb w1 (w.heap.size + 1) (.int .i64 0) (.slice none 0 0) := Rb.keep ⟨by simp [go_sem], by simp [go_sem], by simp [go_sem], by simp [go_sem], by simp⟩ k1 (by simp)
  obtain ⟨x0, x1, x2, x3, x4⟩ := X1
  clear k1 AN'
  go_wp2
  exact bodyPost_ret (v := .agg #[.int .i64 F, .slice none 0 0]) (by simp [results, Try.results19, go_sem, *]; done) rfl (IsA.nil w F rfl ((K1.out.setCell (p := ⟨w.heap.size + 1, 0, none⟩) (by show w.heap.size ≤ w.heap.size + 1; omega) _).setCell (p := ⟨w.heap.size + 1, 1, none⟩) (by show w.heap.size ≤ w.heap.size + 1; omega) _))

theorem sOwners_any (so : Option Addr) (sc : Nat) (L : List Wn) (w : World) (hL : Ws w 0 w.heap.size so L) (hn : L.length + wzs L ≤ 1048576) :
    Calls Try.prog 26 #[.slice so L.length sc] w (IsA w (stF (L.map Wn.ct)) (oscL (L.map Wn.ct))) := by
  by_cases h : stF (L.map Wn.ct) = 0
  · rw [oscL_yes h, h]; exact sOwners_ok so sc L w hL hn h
  · rw [oscL_no h]; exact sOwners_bad so sc L w hL hn h
theorem iOwnersOf_any (so : Option Addr) (sc : Nat) (L : List Wn) (w : World) (hL : Ws w 0 w.heap.size so L) (hn : L.length + wzs L ≤ 1048576) :
    Calls Try.prog 19 #[.slice so L.length sc] w (IsA w (stF (L.map Wn.ct)) (oscL (L.map Wn.ct))) := by
  by_cases h : stF (L.map Wn.ct) = 0
  · rw [oscL_yes h, h]; exact iOwnersOf_ok so sc L w hL hn h
  · rw [oscL_no h]; exact iOwnersOf_bad so sc L w hL hn h
end Go.Proofs.Ytbagloapclgpnaa

namespace Go.Proofs.Ytbagloapclgpnaa
open Go.RowKit
set_option linter.unusedVariables false

theorem strip_nine {m f : Int} {A : List Int} (h : A.length ≤ 4) : ∃ n : Nat, 0 < n ∧ n ≤ 9 ∧ (n : Int) = 12 - ((3 + A.length : Nat) : Int) ∧ stripC m f A = ([400 + m, f + 1, (A.length : Int)] ++ A) ++ List.replicate n 0 := ⟨9 - A.length, by omega, by omega, by omega, rfl⟩

set_option maxRecDepth 100000 in
set_option maxHeartbeats 4000000 in
theorem iStripOf_any (m f : Int) (lo hi : Nat) (ao : Option Addr) (ca : Nat) (A : List Int) (w : World) (hR : Row .i64 w lo hi ao A) (hs : hi ≤ w.heap.size) (hl : A.length ≤ 1048576) :
    Calls Try.prog 24 #[.int .i64 m, .int .i64 f, .slice ao A.length ca] w (IsA w (stripZ m f A) (stripL m f A)) := by
  have HR := hideP hR
  have hl' : (A.length : Int) ≤ 1048576 := by omega
  clear hR
  have HI := hideP coded_any
  cases h : modB m f
  · obtain ⟨hm, hf⟩ := modB_no h
    have b2 : ((f != -1) = true ∧ btw 0 63 f = true) ∨ (f != -1) = false := by
      by_cases e : f = -1
      · exact .inr (by simp [e])
      · exact .inl ⟨by simp [e], by unfold btw; simp; omega⟩
    obtain ⟨m1, m2⟩ := hm
    obtain ⟨f1, f2⟩ := hf
    by_cases h4 : 4 < A.length
    · have hz := stripZ_many h h4
      rw [stripL_no (by rw [hz]; decide), hz]
      have h4' : (4 : Int) < (A.length : Int) := by omega
      clear h hz
      rcases b2 with ⟨hne, b2⟩ | hne
      · go_enter Try.func24, Try.ntmps24
        go_wp2_with (go_at_call 73; refine Calls.mono (HI.out _ _) ?_; rintro e w1 ⟨rfl, rfl⟩; rw [b2])
        exact bodyPost_ret (v := .agg #[.int .i64 2, .slice none 0 0]) (by simp [results, Try.results24, go_sem, *]; done) rfl (IsA.nil w 2 rfl (by go_grown))
      · go_enter Try.func24, Try.ntmps24
        go_wp2
        exact bodyPost_ret (v := .agg #[.int .i64 2, .slice none 0 0]) (by simp [results, Try.results24, go_sem, *]; done) rfl (IsA.nil w 2 rfl (by go_grown))
    · have h4' : (A.length : Int) ≤ 4 := by omega
      have h4n : ¬ (4 : Int) < (A.length : Int) := by omega
      obtain ⟨Z, hZ⟩ : ∃ Z, stripZ m f A = Z := ⟨_, rfl⟩
      obtain ⟨P, hP⟩ : ∃ P, stripL m f A = P := ⟨_, rfl⟩
      have HZb := hideP (fun ha => (stripZ_bad h h4 ha).symm.trans hZ)
      have HZo := hideP (fun ha => (stripZ_ok h h4 ha).symm.trans hZ)
      have HPn := hideP (fun (e : Z ≠ 0) => (stripL_no (m := m) (f := f) (A := A) (by rw [hZ]; exact e)).symm.trans hP)
      have HPy := hideP (fun (e : Z = 0) => (stripL_yes (m := m) (f := f) (A := A) (by rw [hZ]; exact e)).symm.trans hP)
      obtain ⟨n9, n0, n1, hn9, hC⟩ := strip_nine (m := m) (f := f) (A := A) (by omega)
      have HC := hideP hC
      have HC12 := hideP (stripC_len (m := m) (f := f) (A := A) (by omega))
      have HN9 := hideP hn9
      rw [hZ, hP]
      clear hZ hP h hC h4 hn9
      rcases b2 with ⟨hne, b2⟩ | hne
      all_goals
        go_enter Try.func24, Try.ntmps24
        go_wp2_with (go_at_call 73; refine Calls.mono (HI.out _ _) ?_; rintro e w1 ⟨rfl, rfl⟩; rw [b2])
        go_loop [32] (fun i => ∃ k : Nat, k ≤ A.length ∧ i = .int .i64 k ∧ Hid ((A.take k).all (btw 0 63) = true)) (fun i => A.length - (intOf i).toNat)
        case atStart => exact ⟨0, Nat.zero_le _, rfl, rfl⟩
        case round =>
          obtain ⟨k, hk, rfl, HA⟩ := hrel
          by_cases hlt : k < A.length
          · have hlt' : (k : Int) < (A.length : Int) := by omega
            have hne' : A ≠ [] := fun e => by rw [e] at hlt; simp at hlt
            rcases HR.out with e | ⟨g, o, rfl, _, hg, hc⟩
            · exact absurd e hne'
            have a0 := hc k hlt
            have hgl : g < w.heap.size := by omega
            have HBad := hideP (all_off (f := btw 0 63) hlt)
            have HOn := hideP (all_on (f := btw 0 63) hlt HA.out)
            clear hc HA HR hne'
            generalize A[k] = z at *
            cases hz : btw 0 63 z
            · have e3 := hideP (HZb.out (HBad.out hz))
              have ep := hideP (HPn.out (by rw [← e3.out]; decide))
              clear HBad HOn HZb HZo HPn HPy
              go_wp2_with (go_at_call 73; refine Calls.mono (HI.out _ _) ?_; rintro e w1 ⟨rfl, rfl⟩; rw [hz])
              exact bodyPost_ret (v := .agg #[.int .i64 3, .slice none 0 0]) (by simp [results, Try.results24, go_sem, *]; done) rfl (by rw [← e3.out, ← ep.out]; exact IsA.nil w 3 rfl (by go_grown))
            · have hO := hideP (HOn.out hz)
              clear HBad HOn
              go_wp2_with (go_at_call 73; refine Calls.mono (HI.out _ _) ?_; rintro e w1 ⟨rfl, rfl⟩; rw [hz])
              go_round
              case rel => exact ⟨k + 1, by omega, by go_num, hO⟩
              case measure => simp [intOf]; omega
          · obtain rfl : k = A.length := by omega
            have e0 := hideP (HZo.out (by have := HA.out; rwa [List.take_length] at this))
            have ep := hideP (HPy.out e0.out.symm)
            clear HA HZb HZo HPn HPy
            have hge : ¬ (A.length : Int) < (A.length : Int) := by omega
            go_wp2_with (first | (at_builtin; refine wpList_app (k := .i64) (T := 2) (S := 26) (bytes := 8) Try.underlying26 Try.infoS9 (by omega) rfl _ _ rfl (w.heap.size + 1) (some ⟨w.heap.size + 1, 0, none⟩) 3 [400 + m, f + 1, (A.length : Int)] rfl (by have := OwnR.lit .i64 2 (w.alloc (.cells #[.int .i64 0, .slice none 0 0] 41)) (w.heap.size + 1) [400 + m, f + 1, (A.length : Int)] #[.int .i64 (400 + m), .int .i64 (f + 1), .int .i64 (A.length : Int)] rfl (by simp) (by unfold maxLen; simp); simpa using this) ao ca A rfl (HR.out.keep (B := w.heap.size) (((Below.refl _ _).alloc (Nat.le_refl _) _).alloc (by simp) _) hs).src (by simp; omega) (by simp) ?_; intro ao2 cap2 w2 O2 K2; refine Hid.out ?_) | go_in)
            have HO2 := hideP O2
            have HK2 : Hid (Below (w.heap.size + 1) (w.alloc (.cells #[.int .i64 0, .slice none 0 0] 41)) w2) := hideP (Below.trans (by go_grown) K2)
            have hn2 := HK2.out.size
            simp only [World.size_alloc] at hn2
            clear O2 K2
            refine hideP ?_
            go_wp2_with (first | (at_builtin; obtain ⟨ao3, cap3, w3, hr3, O3, K3⟩ := run_zeros_own (k := .i64) (T := 2) (S := 26) (N := 3) (bytes := 8) (w := w2) _ Try.underlying26 Try.underlying3 Try.infoS9 (by omega) (w.heap.size + 1) ao2 cap2 ([400 + m, f + 1, (A.length : Int)] ++ A) HO2.out .i64 n9 n0 (by simp; omega) hn2; refine Lib.wpList_append_run _ rfl _ _ _ _ rfl _ _ rfl (congrArg (Value.int .i64) (by have := HN9.out; omega)) _ _ hr3 ?_; refine Hid.out ?_) | go_in)
            have HO3 := hideP O3
            have X1 : Rb w3 w.heap.size (.int .i64 0) (.slice none 0 0) := ((Rb.keep ⟨by simp [go_sem], by simp [go_sem], by simp [go_sem], by simp [go_sem], by simp⟩ HK2.out (by omega)).keep K3 (by omega))
            have K3' : Hid (Below w.heap.size w w3) := hideP ((Below.trans (by go_grown) (HK2.out.mono (by omega))).trans (K3.mono (by omega)))
            obtain ⟨x0, x1, x2, x3, x4⟩ := X1
            clear hr3 O3 K3 HO2 HK2 hn2
            refine hideP ?_
            go_wp2
            refine bodyPost_ret (v := .agg #[.int .i64 0, .slice ao3 (([400 + m, f + 1, (A.length : Int)] ++ A) ++ List.replicate n9 0).length cap3]) (by simp [results, Try.results24, go_sem, *]; done) rfl ?_
            rw [← e0.out, ← ep.out, HC.out]
            exact ⟨ao3, cap3, rfl, ((HO3.out.set ⟨w.heap.size, 0, none⟩ _ (by simp)).set ⟨w.heap.size, 1, none⟩ _ (by simp)).le (by simp), (K3'.out.setCell (p := ⟨w.heap.size, 0, none⟩) (Nat.le_refl _) _).setCell (p := ⟨w.heap.size, 1, none⟩) (Nat.le_refl _) _⟩
  · have hz := stripZ_mod (A := A) h
    rw [stripL_no (by rw [hz]; decide), hz]
    have hm := modB_yes h
    clear h hz
    rcases hm with h | ⟨h0, h⟩ | ⟨h0, h1, h⟩
    · go_enter Try.func24, Try.ntmps24
      go_wp2
      exact bodyPost_ret (v := .agg #[.int .i64 3, .slice none 0 0]) (by simp [results, Try.results24, go_sem, *]; done) rfl (IsA.nil w 3 rfl (by go_grown))
    · go_enter Try.func24, Try.ntmps24
      go_wp2
      exact bodyPost_ret (v := .agg #[.int .i64 3, .slice none 0 0]) (by simp [results, Try.results24, go_sem, *]; done) rfl (IsA.nil w 3 rfl (by go_grown))
    · have hne : (f != -1) = true := by simp; omega
      have b2 : btw 0 63 f = false := by unfold btw; simp; omega
      clear h
      go_enter Try.func24, Try.ntmps24
      go_wp2_with (go_at_call 73; refine Calls.mono (HI.out _ _) ?_; rintro e w1 ⟨rfl, rfl⟩; rw [b2])
      exact bodyPost_ret (v := .agg #[.int .i64 3, .slice none 0 0]) (by simp [results, Try.results24, go_sem, *]; done) rfl (IsA.nil w 3 rfl (by go_grown))
end Go.Proofs.Ytbagloapclgpnaa
