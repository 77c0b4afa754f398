/- Strips: what one tells; numbers within bounds; the strip that is made. Results with a list of numbers: held against each other, marked. StripOf of both sides. -/
import Derived.Test.YtbagloapclgpnaaW36
import Derived.Test.YtbagloapclgpnaaW17
import Derived.Test.YtbagloapclgpnaaW13
import Derived.Test.YtbagloapclgpnaaW9
import Derived.Test.YtbagloapclgpnaaW5
namespace Go.Proofs.Ytbagloapclgpnaa
open Go.RowKit
set_option linter.unusedVariables false

def btw (p q n : Int) : Bool := decide (p ≤ n ∧ n ≤ q)
theorem btw_no {p q n : Int} (h : btw p q n = false) : n < p ∨ q < n := by unfold btw at h; simp at h; omega
theorem btw_yes {p q n : Int} (h : btw p q n = true) : p ≤ n ∧ n ≤ q := by unfold btw at h; simpa using h
theorem all_on {f : Int → Bool} {D : List Int} {j : Nat} (hj : j < D.length) (h : (D.take j).all f = true) (hx : f D[j] = true) : (D.take (j + 1)).all f = true := by
  rw [List.take_succ_eq_append_getElem hj, List.all_append, h]; simp [hx]
theorem all_off {f : Int → Bool} {D : List Int} {j : Nat} (hj : j < D.length) (hx : f D[j] = false) : D.all f = false := by
  rw [Bool.eq_false_iff]
  intro e
  have := List.all_eq_true.1 e D[j] (List.getElem_mem hj)
  rw [hx] at this; cases this

theorem Try.infoS9 : (Try.prog.info? 2).map (fun i => (i.zero, i.size, i.bytes)) = some (some (.int .i64 0), 1, 8) := by kernel_rfl

set_option maxHeartbeats 1000000 in
theorem all9_any (p q : Int) (lo hi : Nat) (ao : Option Addr) (ca : Nat) (D : List Int) (w : World) (hR : Row .i64 w lo hi ao D) (hs : hi ≤ w.heap.size) (hl : D.length ≤ 1048576) :
    Calls Try.prog 66 #[.slice ao D.length ca, .int .i64 p, .int .i64 q] w fun e w' => e = .returned (.bool (D.all (btw p q))) ∧ w' = w := by
  have hl' : (D.length : Int) ≤ 1048576 := by omega
  have HR := hideP hR
  clear hR
  go_enter Try.func66, Try.ntmps66
  go_wp2
  go_loop [7] (fun i => ∃ j : Nat, j ≤ D.length ∧ i = .int .i64 j ∧ (D.take j).all (btw p q) = true) (fun i => D.length - (intOf i).toNat)
  case atStart => exact ⟨0, Nat.zero_le _, rfl, rfl⟩
  case round =>
    obtain ⟨j, hj, rfl, hall⟩ := hrel
    by_cases hlt : j < D.length
    · have hlt' : (j : Int) < (D.length : Int) := by omega
      have hne' : D ≠ [] := fun e => by rw [e] at hlt; simp at hlt
      rcases HR.out with e | ⟨g, o, rfl, _, hg, hc⟩
      · exact absurd e hne'
      have a0 := hc j hlt
      have hgl : g < w.heap.size := by omega
      have HBad := hideP (all_off (f := btw p q) hlt)
      have HOn := hideP (all_on (f := btw p q) hlt hall)
      clear hc hall HR hne'
      generalize D[j] = z at *
      cases hz : btw p q z
      · have hF := hideP (HBad.out hz)
        have hn := btw_no hz
        clear HBad HOn
        go_wp2_with (go_at_call 75; refine Calls.mono (in_no _ _ _ _ hn) ?_; rintro e w1 ⟨rfl, rfl⟩)
        go_returns
        exact ⟨by rw [hF.out]; rfl, rfl⟩
      · have hO := hideP (HOn.out hz)
        obtain ⟨hn1, hn2⟩ := btw_yes hz
        clear HBad HOn
        go_wp2_with (go_at_call 75; refine Calls.mono (in_yes _ _ _ _ hn1 hn2) ?_; rintro e w1 ⟨rfl, rfl⟩)
        go_round
        case rel => exact ⟨j + 1, by omega, by go_num, hO.out⟩
        case measure => simp [intOf]; omega
    · obtain rfl : j = D.length := by omega
      rw [List.take_length] at hall
      have hF := hideP hall
      clear hall
      go_wp2
      go_returns
      exact ⟨by rw [hF.out]; rfl, rfl⟩

set_option maxHeartbeats 400000 in
theorem in9_any (n p q : Int) (w : World) : Calls Try.prog 75 #[.int .i64 n, .int .i64 p, .int .i64 q] w fun e w' => e = .returned (.bool (btw p q n)) ∧ w' = w := by
  cases h : btw p q n
  · exact in_no n p q w (btw_no h)
  · exact in_yes n p q w (btw_yes h).1 (btw_yes h).2

set_option maxHeartbeats 400000 in
theorem coded_any (c : Int) (w : World) : Calls Try.prog 73 #[.int .i64 c] w fun e w' => e = .returned (.bool (btw 0 63 c)) ∧ w' = w := by
  cases h : btw 0 63 c
  · rcases btw_no h with h1 | h1
    · clear h
      go_enter Try.func73, Try.ntmps73
      go_wp2
      go_returns
      exact ⟨rfl, rfl⟩
    · have h2 : 0 ≤ c := by omega
      have h3 : decide (c ≤ 63) = false := by simp; omega
      clear h
      go_enter Try.func73, Try.ntmps73
      go_wp2
      go_returns
      exact ⟨rfl, rfl⟩
  · obtain ⟨h1, h2⟩ := btw_yes h
    clear h
    go_enter Try.func73, Try.ntmps73
    go_wp2
    go_returns
    exact ⟨rfl, rfl⟩

/-- What a strip that is right tells. -/
def stripC (m f : Int) (A : List Int) : List Int := ([400 + m, f + 1, (A.length : Int)] ++ A) ++ List.replicate (9 - A.length) 0
theorem stripC_len {m f : Int} {A : List Int} (h : A.length ≤ 4) : (stripC m f A).length = 12 := by unfold stripC; simp; omega
theorem strip_snoc (P : List Int) (j : Nat) : (P ++ List.replicate j 0) ++ [0] = P ++ List.replicate (j + 1) 0 := by rw [List.append_assoc, List.replicate_succ']

set_option maxRecDepth 100000 in
set_option maxHeartbeats 2000000 in
theorem sStrip_any (m f : Int) (lo hi : Nat) (ao : Option Addr) (ca : Nat) (A : List Int) (w : World) (hR : Row .i64 w lo hi ao A) (hs : hi ≤ w.heap.size) (hl : A.length ≤ 4) (hm : 0 ≤ m ∧ m ≤ 1) (hf : -1 ≤ f ∧ f ≤ 63) :
    Calls Try.prog 50 #[.int .i64 m, .int .i64 f, .slice ao A.length ca] w fun e w' => ∃ ao' cap', e = .returned (.slice ao' 12 cap') ∧ OwnR .i64 2 w' w.heap.size ao' cap' (stripC m f A) ∧ Below w.heap.size w w' := by
  have HR := hideP hR
  obtain ⟨m1, m2⟩ := hm
  obtain ⟨f1, f2⟩ := hf
  have hl' : (A.length : Int) ≤ 4 := by omega
  clear hR
  go_enter Try.func50, Try.ntmps50
  go_wp2_with (first | (at_builtin; refine wpList_app (k := .i64) (T := 2) (S := 26) (bytes := 8) Try.underlying26 Try.infoS9 (by omega) rfl _ _ rfl w.heap.size (some ⟨w.heap.size, 0, none⟩) 3 [400 + m, f + 1, (A.length : Int)] rfl (OwnR.lit .i64 2 w w.heap.size [400 + m, f + 1, (A.length : Int)] _ rfl (Nat.le_refl _) (by unfold maxLen; simp)) ao ca A rfl (HR.out.keep (B := w.heap.size) ((Below.refl _ _).alloc (Nat.le_refl _) _) hs).src (by simp; omega) (by simp) ?_; intro ao2 cap2 w2 O2 K2; refine Hid.out ?_) | go_in)
  have HO2 : Hid (OwnR .i64 2 w2 w.heap.size ao2 cap2 ([400 + m, f + 1, (A.length : Int)] ++ A)) := hideP O2
  have HK2 : Hid (Below w.heap.size w w2) := hideP (Below.trans (by go_grown) K2)
  have hn2 := HK2.out.size
  clear O2 K2
  refine hideP ?_
  go_wp2
  go_loopw [7] (fun v wr => ∃ (j : Nat) (so : Option Addr) (sc : Nat), j ≤ 9 - A.length ∧ v = .slice so (([400 + m, f + 1, (A.length : Int)] ++ A) ++ List.replicate j 0).length sc ∧ OwnR .i64 2 wr w.heap.size so sc (([400 + m, f + 1, (A.length : Int)] ++ A) ++ List.replicate j 0) ∧ Below w.heap.size w wr) (fun v _ => match v with | .slice _ n _ => 12 - n | _ => 0)
  case atStart => exact ⟨0, ao2, cap2, Nat.zero_le _, by simp, by simpa using HO2.out, HK2.out⟩
  case round =>
    obtain ⟨j, so, sc, hj, rfl, O, K⟩ := hrel
    have HO := hideP O
    have HK := hideP K
    have hn := K.size
    clear O K HO2 HK2
    have HP := hideP (strip_snoc ([400 + m, f + 1, (A.length : Int)] ++ A) j)
    obtain ⟨P, hP⟩ : ∃ P, [400 + m, f + 1, (A.length : Int)] ++ A = P := ⟨_, rfl⟩
    have hPl : P.length = 3 + A.length := by rw [← hP]; simp; omega
    have HPP := hideP hP
    rw [hP] at HO HP ⊢
    clear hP
    obtain ⟨M, hM⟩ : ∃ M, P ++ List.replicate j 0 = M := ⟨_, rfl⟩
    have hMl : M.length = 3 + A.length + j := by rw [← hM]; simp; omega
    have HMM := hideP hM
    rw [hM] at HO HP ⊢
    clear hM
    have hb : M.length ≤ 12 := by omega
    have HMl := hideP hMl
    by_cases hlt : j < 9 - A.length
    · have hlt' : (M.length : Int) < 12 := by omega
      clear hMl hPl
      go_wp2_with (first | (at_builtin; refine wpList_app (k := .i64) (T := 2) (S := 26) (bytes := 8) Try.underlying26 Try.infoS9 (by omega) rfl _ _ rfl w.heap.size so sc M rfl (HO.out.alloc _) _ 1 [0] rfl (src_one .i64 wr 0 2) (by simp; omega) (by simp; omega) ?_; intro ao4 ca4 w4 O4 K4; refine Hid.out ?_) | go_in)
      have HO4 : Hid (OwnR .i64 2 w4 w.heap.size ao4 ca4 (P ++ List.replicate (j + 1) 0)) := hideP (by rw [HP.out] at O4; exact O4)
      have HK4 : Hid (Below w.heap.size w w4) := hideP (HK.out.trans (Below.trans (by go_grown) K4))
      have HL : Hid ((M ++ [0]).length = (P ++ List.replicate (j + 1) 0).length) := hideP (by rw [HP.out])
      clear O4 K4 HO HK
      refine hideP ?_
      go_wp2
      go_roundw
      case rel => exact ⟨j + 1, ao4, ca4, by omega, by rw [← HL.out]; simp, HO4.out, HK4.out⟩
      case measure => simp; omega
    · obtain rfl : j = 9 - A.length := by omega
      have hge : ¬ (M.length : Int) < 12 := by omega
      have H12 := hideP (show M.length = 12 by omega)
      have HC : Hid (M = stripC m f A) := hideP (by rw [← HMM.out, ← HPP.out]; rfl)
      clear hMl hPl
      go_wp2
      go_returns
      exact ⟨so, sc, by rw [← H12.out]; rfl, by rw [← HC.out]; exact HO.out, HK.out⟩
end Go.Proofs.Ytbagloapclgpnaa

namespace Go.Proofs.Ytbagloapclgpnaa
open Go.RowKit
set_option linter.unusedVariables false

theorem kal5 (w : World) (o : Obj) : Below w.heap.size w (w.alloc o) := (Below.refl _ _).alloc (Nat.le_refl _) o

set_option maxHeartbeats 400000 in
theorem eqIS_same (lo hi lo2 hi2 : Nat) (c : Int) (ao bo : Option Addr) (ca cb : Nat) (L : List Int) (w : World) (ha : Row .i64 w lo hi ao L) (hb : Row .i64 w lo2 hi2 bo L) (h1 : hi ≤ w.heap.size) (h2 : hi2 ≤ w.heap.size) (hl : L.length ≤ 1048576) :
    Calls Try.prog 42 #[.agg #[.int .i64 c, .slice ao L.length ca], .agg #[.int .i64 c, .slice bo L.length cb]] w fun e w' => e = .returned (.bool true) ∧ Below w.heap.size w w' := by
  have HA := hideP ha
  have HB := hideP hb
  clear ha hb
  go_enter Try.func42, Try.ntmps42
  go_wp2_with fail
  refine Calls.mono (eqI_same lo hi lo2 hi2 ao bo ca cb L _ (HA.out.keep (B := w.heap.size) (by go_grown) h1) (HB.out.keep (B := w.heap.size) (by go_grown) h2) (by simp; omega) (by simp; omega) hl) ?_
  rintro e w1 ⟨rfl, k1⟩
  go_wp2
  go_returns
  refine ⟨rfl, ?_⟩
  repeat' (first | (with_reducible exact Below.refl _ _) | (with_reducible refine kept_below ?_ (by assumption) ?_) | (with_reducible refine Below.alloc ?_ ?_ _) | (with_reducible refine Below.drew ?_) | (with_reducible refine Below.setCell ?_ ?_ _) | go_size)

theorem Far.after5 {lo hi : Nat} {w w1 w2 : World} (k : Below w.heap.size w w1) (f : Far lo hi w1 w2) : Far lo hi w w2 := (Far.of_below k).trans f

set_option maxHeartbeats 400000 in
theorem markIS_any (lo hi : Nat) (c : Int) (ao : Option Addr) (ca : Nat) (k : Int) (L : List Int) (w : World) (ha : Wrt .i64 w lo hi ao L) (h1 : hi ≤ w.heap.size) (hl : L.length ≤ 1048576) (k0 : 0 ≤ k) (k1 : k ≤ 16777216) :
    Calls Try.prog 43 #[.agg #[.int .i64 c, .slice ao L.length ca], .int .i64 k] w fun e w' => e = .returned (.int .i64 (k + L.length)) ∧ Far lo hi w w' ∧ Wrt .i64 w' lo hi ao (rowOf (mkI k) L.length) := by
  have HA := hideP ha
  clear ha
  go_enter Try.func43, Try.ntmps43
  go_wp2_with fail
  refine Calls.mono (markI_any lo hi ao ca k L _ (HA.out.keep (B := w.heap.size) (by go_grown) h1) (by simp; omega) hl k0 k1) ?_
  rintro e w1 ⟨rfl, f1, W1⟩
  have F1 : Hid (Far lo hi w w1) := hideP (Far.after5 (by go_grown) f1)
  have H1 := hideP W1
  clear f1 W1
  go_wp2
  go_returns
  exact ⟨rfl, F1.out, H1.out⟩

set_option maxHeartbeats 400000 in
theorem heldIS_any (lo hi : Nat) (c : Int) (ao : Option Addr) (ca n : Nat) (k : Int) (w : World) (ha : Row .i64 w lo hi ao (rowOf (mkI k) n)) (h1 : hi ≤ w.heap.size) (hl : n ≤ 1048576) (k0 : 0 ≤ k) (k1 : k ≤ 16777216) :
    Calls Try.prog 44 #[.agg #[.int .i64 c, .slice ao n ca], .int .i64 k] w fun e w' => e = .returned (.int .i64 (k + n)) ∧ Below w.heap.size w w' := by
  have HA := hideP ha
  have hk : 0 ≤ k + (n : Int) := by omega
  clear ha
  go_enter Try.func44, Try.ntmps44
  go_wp2_with fail
  refine Calls.mono (heldI_any lo hi ao ca n k _ (HA.out.keep (B := w.heap.size) (by go_grown) h1) hl k0 k1) ?_
  rintro e w1 ⟨rfl, rfl⟩
  go_wp2
  go_returns
  exact ⟨rfl, by go_grown⟩

/-- A result, its box and its row. -/
structure PI (W : World) (b lo hi : Nat) (c : Int) (ao : Option Addr) (ca : Nat) (L : List Int) : Prop where
  box : Rb W b (.int .i64 c) (.slice ao L.length ca)
  row : Wrt .i64 W lo hi ao L
  le : lo ≤ hi
  hs : hi ≤ W.heap.size
theorem PI.keep {W W' : World} {b lo hi B : Nat} {c : Int} {ao : Option Addr} {ca : Nat} {L : List Int} (h : PI W b lo hi c ao ca L) (k : Below B W W') (hb : b < B) (hh : hi ≤ B) : PI W' b lo hi c ao ca L :=
  ⟨h.box.keep k hb, h.row.keep k hh, h.le, Nat.le_trans h.hs k.size⟩
theorem PI.far {W W' : World} {b lo hi lo' hi' : Nat} {c : Int} {ao : Option Addr} {ca : Nat} {L : List Int} (h : PI W b lo hi c ao ca L) (f : Far lo' hi' W W') (hb : b < lo' ∨ hi' ≤ b) (hd : hi ≤ lo' ∨ hi' ≤ lo) : PI W' b lo hi c ao ca L :=
  ⟨h.box.far f hb, h.row.far f hd h.hs, h.le, Nat.le_trans h.hs f.size⟩
/-- .. just put into its box. -/
theorem PI.new {w : World} {base : Nat} {c : Int} {ao : Option Addr} {ca : Nat} {L : List Int} {T : TypeId} (O : OwnR .i64 2 w base ao ca L) (hb : base ≤ w.heap.size) : PI (w.alloc (.cells #[.int .i64 c, .slice ao L.length ca] T)) w.heap.size base w.heap.size c ao ca L :=
  ⟨⟨by simp, by simp, by simp, by simp, by simp⟩, O.wrt.keep (B := w.heap.size) ((Below.refl _ _).alloc (Nat.le_refl _) _) (Nat.le_refl _), hb, by simp⟩
end Go.Proofs.Ytbagloapclgpnaa

namespace Go.Proofs.Ytbagloapclgpnaa
open Go.RowKit
set_option linter.unusedVariables false

def modB (m f : Int) : Bool := decide (m < 0 ∨ 1 < m ∨ f < -1 ∨ 63 < f)
theorem modB_no {m f : Int} (h : modB m f = false) : (0 ≤ m ∧ m ≤ 1) ∧ -1 ≤ f ∧ f ≤ 63 := by unfold modB at h; simp at h; omega
theorem modB_yes {m f : Int} (h : modB m f = true) : m < 0 ∨ (0 ≤ m ∧ 1 < m) ∨ (0 ≤ m ∧ m ≤ 1 ∧ (f < -1 ∨ 63 < f)) := by unfold modB at h; simp at h; omega
def stripZ (m f : Int) (A : List Int) : Int := if modB m f then 3 else if 4 < A.length then 2 else if A.all (btw 0 63) then 0 else 3
def stripL (m f : Int) (A : List Int) : List Int := if stripZ m f A = 0 then stripC m f A else []
theorem stripZ_mod {m f : Int} {A : List Int} (h : modB m f = true) : stripZ m f A = 3 := by unfold stripZ; rw [h]; rfl
theorem stripZ_many {m f : Int} {A : List Int} (h : modB m f = false) (h4 : 4 < A.length) : stripZ m f A = 2 := by unfold stripZ; rw [h]; simp [h4]
theorem stripZ_bad {m f : Int} {A : List Int} (h : modB m f = false) (h4 : ¬ 4 < A.length) (ha : A.all (btw 0 63) = false) : stripZ m f A = 3 := by unfold stripZ; rw [h, if_neg h4, ha]; rfl
theorem stripZ_ok {m f : Int} {A : List Int} (h : modB m f = false) (h4 : ¬ 4 < A.length) (ha : A.all (btw 0 63) = true) : stripZ m f A = 0 := by unfold stripZ; rw [h, if_neg h4, ha]; rfl
theorem stripL_no {m f : Int} {A : List Int} (h : stripZ m f A ≠ 0) : stripL m f A = [] := by unfold stripL; rw [if_neg h]
theorem stripL_yes {m f : Int} {A : List Int} (h : stripZ m f A = 0) : stripL m f A = stripC m f A := by unfold stripL; rw [if_pos h]
theorem stripZ_four {m f : Int} {A : List Int} (h : stripZ m f A = 0) : A.length ≤ 4 := by
  unfold stripZ at h
  split at h
  · cases h
  · split at h
    · cases h
    · omega
theorem stripL_len (m f : Int) (A : List Int) : (stripL m f A).length ≤ 12 := by
  unfold stripL
  split
  case isTrue h => rw [stripC_len (stripZ_four h)]; exact Nat.le_refl _
  case isFalse => simp

/-- An answer with a code and numbers of its own. -/
def IsA (w : World) (c : Int) (M : List Int) (e : Ending) (w' : World) : Prop :=
  ∃ ao' cap', e = .returned (.agg #[.int .i64 c, .slice ao' M.length cap']) ∧ OwnR .i64 2 w' w.heap.size ao' cap' M ∧ Below w.heap.size w w'
theorem IsA.nil (w : World) (c : Int) {e : Ending} {w' : World} (he : e = .returned (.agg #[.int .i64 c, .slice none 0 0])) (k : Below w.heap.size w w') : IsA w c [] e w' := ⟨none, 0, he, OwnR.nil _ _ _ _, k⟩

set_option maxRecDepth 100000 in
set_option maxHeartbeats 2000000 in
theorem sStripOf_any (m f : Int) (lo hi : Nat) (ao : Option Addr) (ca : Nat) (A : List Int) (w : World) (hR : Row .i64 w lo hi ao A) (hs : hi ≤ w.heap.size) (hl : A.length ≤ 1048576) :
    Calls Try.prog 27 #[.int .i64 m, .int .i64 f, .slice ao A.length ca] w (IsA w (stripZ m f A) (stripL m f A)) := by
  have HR := hideP hR
  have hl' : (A.length : Int) ≤ 1048576 := by omega
  clear hR
  have HI := hideP in9_any
  cases h : modB m f
  · obtain ⟨hm, hf⟩ := modB_no h
    have b1 : btw 0 1 m = true := by unfold btw; simpa using hm
    have b2 : btw (-1) 63 f = true := by unfold btw; simpa using hf
    by_cases h4 : 4 < A.length
    · have hz := stripZ_many h h4
      rw [stripL_no (by rw [hz]; decide), hz]
      have h4' : (4 : Int) < (A.length : Int) := by omega
      clear h hz
      go_enter Try.func27, Try.ntmps27
      go_wp2_with (go_at_call 75; refine Calls.mono (HI.out _ _ _ _) ?_; rintro e w1 ⟨rfl, rfl⟩; first | rw [b1] | rw [b2])
      exact bodyPost_ret (v := .agg #[.int .i64 2, .slice none 0 0]) (by simp [results, Try.results27, go_sem, *]; done) rfl (IsA.nil w 2 rfl (by go_grown))
    · have h4' : (A.length : Int) ≤ 4 := by omega
      have AL := hideP (all9_any 0 63 lo hi ao ca A)
      cases ha : A.all (btw 0 63)
      · have hz := stripZ_bad h h4 ha
        rw [stripL_no (by rw [hz]; decide), hz]
        have HAL := hideP ha
        clear h hz ha h4
        go_enter Try.func27, Try.ntmps27
        go_wp2_with (first | (go_at_call 75; refine Calls.mono (HI.out _ _ _ _) ?_; rintro e w1 ⟨rfl, rfl⟩; first | rw [b1] | rw [b2]) | (go_at_call 66; refine Calls.mono (AL.out _ (HR.out.keep (B := w.heap.size) (by go_grown) hs) (by simp; omega) hl) ?_; rintro e w1 ⟨rfl, rfl⟩; rw [HAL.out]))
        exact bodyPost_ret (v := .agg #[.int .i64 3, .slice none 0 0]) (by simp [results, Try.results27, go_sem, *]; done) rfl (IsA.nil w 3 rfl (by go_grown))
      · have hz := stripZ_ok h h4 ha
        rw [stripL_yes hz, hz]
        have HAL := hideP ha
        have SS := hideP (fun w1 (k1 : Below w.heap.size w w1) => sStrip_any m f lo hi ao ca A w1 (hR := HR.out.keep k1 hs) (Nat.le_trans hs k1.size) (by omega) hm hf)
        have HC := hideP (stripC_len (m := m) (f := f) (A := A) (by omega))
        clear h hz ha h4
        go_enter Try.func27, Try.ntmps27
        go_wp2_with (first | (go_at_call 75; refine Calls.mono (HI.out _ _ _ _) ?_; rintro e w1 ⟨rfl, rfl⟩; first | rw [b1] | rw [b2]) | (go_at_call 66; refine Calls.mono (AL.out _ (HR.out.keep (B := w.heap.size) (by go_grown) hs) (by simp; omega) hl) ?_; rintro e w1 ⟨rfl, rfl⟩; rw [HAL.out]) | fail)
        refine Calls.mono (SS.out _ (by go_grown)) ?_
        rintro e w2 ⟨ao2, cap2, rfl, O2, k2⟩
        have n2 := k2.size
        simp only [World.size_alloc] at n2
        have X1 : Rb w2 w.heap.size (.int .i64 0) (.slice none 0 0) := Rb.keep ⟨by simp [go_sem], by simp [go_sem], by simp [go_sem], by simp [go_sem], by simp⟩ k2 (by simp)
        have K2 : Hid (Below w.heap.size w w2) := hideP (Below.trans (by go_grown) (k2.mono (by simp)))
        have HO := hideP O2
        obtain ⟨x0, x1, x2, x3, x4⟩ := X1
        clear k2 O2
        go_wp2
        refine bodyPost_ret (v := .agg #[.int .i64 0, .slice ao2 12 cap2]) (by simp [results, Try.results27, go_sem, *]; done) rfl ⟨ao2, cap2, by rw [HC.out], ?_, ?_⟩
        · exact ((HO.out.set ⟨w.heap.size, 0, none⟩ _ (by simp)).set ⟨w.heap.size, 1, none⟩ _ (by simp)).le (by simp)
        · exact (K2.out.setCell (p := ⟨w.heap.size, 0, none⟩) (Nat.le_refl _) _).setCell (p := ⟨w.heap.size, 1, none⟩) (Nat.le_refl _) _
  · have hz := stripZ_mod (A := A) h
    rw [stripL_no (by rw [hz]; decide), hz]
    have hb : btw 0 1 m = false ∨ btw 0 1 m = true ∧ btw (-1) 63 f = false := by
      rcases modB_yes h with h | h | h
      · exact .inl (by unfold btw; simp; omega)
      · exact .inl (by unfold btw; simp; omega)
      · exact .inr ⟨by unfold btw; simp; omega, by unfold btw; simp; omega⟩
    clear h hz
    rcases hb with b1 | ⟨b1, b2⟩
    · go_enter Try.func27, Try.ntmps27
      go_wp2_with (go_at_call 75; refine Calls.mono (HI.out _ _ _ _) ?_; rintro e w1 ⟨rfl, rfl⟩; first | rw [b1])
      exact bodyPost_ret (v := .agg #[.int .i64 3, .slice none 0 0]) (by simp [results, Try.results27, go_sem, *]; done) rfl (IsA.nil w 3 rfl (by go_grown))
    · go_enter Try.func27, Try.ntmps27
      go_wp2_with (go_at_call 75; refine Calls.mono (HI.out _ _ _ _) ?_; rintro e w1 ⟨rfl, rfl⟩; first | rw [b1] | rw [b2])
      exact bodyPost_ret (v := .agg #[.int .i64 3, .slice none 0 0]) (by simp [results, Try.results27, go_sem, *]; done) rfl (IsA.nil w 3 rfl (by go_grown))
end Go.Proofs.Ytbagloapclgpnaa
