/- Results with a list of numbers: held against each other, marked. StripOf of both sides. Whose each point is: the specification. ScreenOf by the specification. -/
import Derived.Test.YtmmjannkfmiohaaTs4
import Derived.Test.YtmmjannkfmiohaaTs5
import Derived.Test.YtmmjannkfmiohaaTs31
import Derived.Test.YtmmjannkfmiohaaTs37
import Derived.Test.YtmmjannkfmiohaaTs40
import Derived.Test.YtmmjannkfmiohaaTs35
namespace Go.Proofs.Ytmmjannkfmiohaa
open Go.RowKit
set_option linter.unusedVariables false

theorem kal5 (w : World) (o : Obj) : Below w.heap.size w (w.alloc o) := (Below.refl _ _).alloc (Nat.le_refl _) o

theorem Far.after5 {lo hi : Nat} {w w1 w2 : World} (k : Below w.heap.size w w1) (f : Far lo hi w1 w2) : Far lo hi w w2 := (Far.of_below k).trans f

/-- A result, its box and its row. -/
structure PI (W : World) (b lo hi : Nat) (c : Int) (ao : Option Addr) (ca : Nat) (L : List Int) : Prop where
  box : Rb W b (.int .i64 c) (.slice ao L.length ca)
  row : Wrt .i64 W lo hi ao L
  le : lo ≤ hi
  hs : hi ≤ W.heap.size
theorem PI.keep {W W' : World} {b lo hi B : Nat} {c : Int} {ao : Option Addr} {ca : Nat} {L : List Int} (h : PI W b lo hi c ao ca L) (k : Below B W W') (hb : b < B) (hh : hi ≤ B) : PI W' b lo hi c ao ca L :=
  ⟨h.box.keep k hb, h.row.keep k hh, h.le, Nat.le_trans h.hs k.size⟩
theorem PI.far {W W' : World} {b lo hi lo' hi' : Nat} {c : Int} {ao : Option Addr} {ca : Nat} {L : List Int} (h : PI W b lo hi c ao ca L) (f : Far lo' hi' W W') (hb : b < lo' ∨ hi' ≤ b) (hd : hi ≤ lo' ∨ hi' ≤ lo) : PI W' b lo hi c ao ca L :=
  ⟨h.box.far f hb, h.row.far f hd h.hs, h.le, Nat.le_trans h.hs f.size⟩
/-- .. just put into its box. -/
theorem PI.new {w : World} {base : Nat} {c : Int} {ao : Option Addr} {ca : Nat} {L : List Int} {T : TypeId} (O : OwnR .i64 2 w base ao ca L) (hb : base ≤ w.heap.size) : PI (w.alloc (.cells #[.int .i64 c, .slice ao L.length ca] T)) w.heap.size base w.heap.size c ao ca L :=
  ⟨⟨by simp, by simp, by simp, by simp, by simp⟩, O.wrt.keep (B := w.heap.size) ((Below.refl _ _).alloc (Nat.le_refl _) _) (Nat.le_refl _), hb, by simp⟩
end Go.Proofs.Ytmmjannkfmiohaa

namespace Go.Proofs.Ytmmjannkfmiohaa
open Go.RowKit
set_option linter.unusedVariables false

def modB (m f : Int) : Bool := decide (m < 0 ∨ 1 < m ∨ f < -1 ∨ 63 < f)
theorem modB_no {m f : Int} (h : modB m f = false) : (0 ≤ m ∧ m ≤ 1) ∧ -1 ≤ f ∧ f ≤ 63 := by unfold modB at h; simp at h; omega
theorem modB_yes {m f : Int} (h : modB m f = true) : m < 0 ∨ (0 ≤ m ∧ 1 < m) ∨ (0 ≤ m ∧ m ≤ 1 ∧ (f < -1 ∨ 63 < f)) := by unfold modB at h; simp at h; omega
def stripZ (m f : Int) (A : List Int) : Int := if modB m f then 3 else if 4 < A.length then 2 else if A.all (btw 0 63) then 0 else 3
def stripL (m f : Int) (A : List Int) : List Int := if stripZ m f A = 0 then stripC m f A else []
theorem stripZ_mod {m f : Int} {A : List Int} (h : modB m f = true) : stripZ m f A = 3 := by unfold stripZ; rw [h]; rfl
theorem stripZ_many {m f : Int} {A : List Int} (h : modB m f = false) (h4 : 4 < A.length) : stripZ m f A = 2 := by unfold stripZ; rw [h]; simp [h4]
theorem stripZ_bad {m f : Int} {A : List Int} (h : modB m f = false) (h4 : ¬ 4 < A.length) (ha : A.all (btw 0 63) = false) : stripZ m f A = 3 := by unfold stripZ; rw [h, if_neg h4, ha]; rfl
theorem stripZ_ok {m f : Int} {A : List Int} (h : modB m f = false) (h4 : ¬ 4 < A.length) (ha : A.all (btw 0 63) = true) : stripZ m f A = 0 := by unfold stripZ; rw [h, if_neg h4, ha]; rfl
theorem stripL_no {m f : Int} {A : List Int} (h : stripZ m f A ≠ 0) : stripL m f A = [] := by unfold stripL; rw [if_neg h]
theorem stripL_yes {m f : Int} {A : List Int} (h : stripZ m f A = 0) : stripL m f A = stripC m f A := by unfold stripL; rw [if_pos h]
theorem stripZ_four {m f : Int} {A : List Int} (h : stripZ m f A = 0) : A.length ≤ 4 := by
  unfold stripZ at h
  split at h
  · cases h
  · split at h
    · cases h
    · omega
theorem stripL_len (m f : Int) (A : List Int) : (stripL m f A).length ≤ 12 := by
  unfold stripL
  split
  case isTrue h => rw [stripC_len (stripZ_four h)]; exact Nat.le_refl _
  case isFalse => simp

/-- An answer with a code and numbers of its own. -/
def IsA (w : World) (c : Int) (M : List Int) (e : Ending) (w' : World) : Prop :=
  ∃ ao' cap', e = .returned (.agg #[.int .i64 c, .slice ao' M.length cap']) ∧ OwnR .i64 2 w' w.heap.size ao' cap' M ∧ Below w.heap.size w w'
theorem IsA.nil (w : World) (c : Int) {e : Ending} {w' : World} (he : e = .returned (.agg #[.int .i64 c, .slice none 0 0])) (k : Below w.heap.size w w') : IsA w c [] e w' := ⟨none, 0, he, OwnR.nil _ _ _ _, k⟩

end Go.Proofs.Ytmmjannkfmiohaa

namespace Go.Proofs.Ytmmjannkfmiohaa
open Go.RowKit Go.Maps
set_option linter.unusedVariables false

def ownP (C : List Wc) (p : Int × Int) : Int := (topR p.1 p.2 C).getD 0
def ownC (C : List Wc) : List Int := List.replicate 12 0 ++ (ptsOf stripR).map (ownP C)
def oscL (C : List Wc) : List Int := if stF C = 0 then ownC C else []
theorem oscL_yes {C : List Wc} (h : stF C = 0) : oscL C = ownC C := by unfold oscL; rw [if_pos h]
theorem oscL_no {C : List Wc} (h : ¬ stF C = 0) : oscL C = [] := by unfold oscL; rw [if_neg h]
theorem pts_strip : ptsOf stripR = rowsPts 0 1 12 7 := rfl
theorem ownC_len (C : List Wc) : (ownC C).length = 96 := by unfold ownC; rw [List.length_append, List.length_map, pts_strip, rowsPts_len]; rfl
theorem oscL_len (C : List Wc) : (oscL C).length ≤ 96 := by
  unfold oscL
  split
  · rw [ownC_len]; exact Nat.le_refl _
  · simp
theorem ownP_none {L : List Wn} {x y : Int} (h : ∀ v ∈ L, hitW x y v = false) : ownP (L.map Wn.ct) (x, y) = 0 := by unfold ownP; rw [topR_none h]; rfl
theorem ownP_some {L A B : List Wn} {r : Wn} {x y : Int} (h : Top x y L A r B) : ownP (L.map Wn.ct) (x, y) = r.i := by unfold ownP; rw [topR_some h]; rfl

/-- The list so far: j whole rows and i points. -/
def partO (Z : List Int) (g : Int × Int → Int) (j i : Nat) : List Int := (Z ++ (rowsPts 0 1 12 j).map g) ++ (rowPts 0 (1 + (j : Int)) i).map g
theorem partO_zero (Z : List Int) (g : Int × Int → Int) (j : Nat) : partO Z g j 0 = Z ++ (rowsPts 0 1 12 j).map g := by simp [partO, rowPts]
theorem partO_step (Z : List Int) (g : Int × Int → Int) (j i : Nat) : partO Z g j i ++ [g ((i : Int), 1 + (j : Int))] = partO Z g j (i + 1) := by
  unfold partO
  rw [rowPts_succ, List.map_append, List.append_assoc]
  simp
theorem partO_row (Z : List Int) (g : Int × Int → Int) (j : Nat) : partO Z g j 12 = partO Z g (j + 1) 0 := by
  rw [partO_zero]
  unfold partO
  rw [rowsPts_succ, List.map_append, List.append_assoc]
theorem partO_len (Z : List Int) (g : Int × Int → Int) (j i : Nat) : (partO Z g j i).length = Z.length + j * 12 + i := by
  unfold partO
  rw [List.length_append, List.length_append, List.length_map, List.length_map, rowsPts_len, rowPts_len]
theorem partO_all (Z : List Int) (g : Int × Int → Int) : partO Z g 7 0 = Z ++ (ptsOf stripR).map g := by rw [partO_zero, pts_strip]

theorem made_zero (n : Nat) : (madeCells (Value.int .i64 0).cells (n * 1)).toList = (List.replicate n (0 : Int)).map (Value.int .i64) := by
  refine List.ext_getElem? fun j => ?_
  simp [madeCells, Value.cells]
  by_cases h : j < n
  · simp [h, Nat.mod_one]
  · simp [h]
theorem ownR_zeros {w w1 : World} (ho : w1.ownsRow w.heap.size 2 1 (.slice (some ⟨w.heap.size, 0, none⟩) 12 12) 12 (madeCells (Value.int .i64 0).cells (12 * 1)).toList) : OwnR .i64 2 w1 w.heap.size (some ⟨w.heap.size, 0, none⟩) 12 (List.replicate 12 0) := by
  rw [made_zero] at ho
  exact ho

end Go.Proofs.Ytmmjannkfmiohaa

namespace Go.Proofs.Ytmmjannkfmiohaa
open Go.RowKit Go.Maps
set_option linter.unusedVariables false

def scrC (C : List Wc) (LL : List La) (A : List Int) : List Int := A ++ (ptsOf stripR).map (scrP LL C)
def scrZ (C : List Wc) (LL : List La) (A : List Int) : Int := if stF C = 0 then (if laF LL = 0 then (if A.length = 12 then (if A.all (btw 0 999) then 0 else 3) else 2) else laF LL) else stF C
def scrL (C : List Wc) (LL : List La) (A : List Int) : List Int := if scrZ C LL A = 0 then scrC C LL A else []
theorem scrZ_st {C : List Wc} {LL : List La} {A : List Int} (h : ¬ stF C = 0) : scrZ C LL A = stF C := by unfold scrZ; rw [if_neg h]
theorem scrZ_la {C : List Wc} {LL : List La} {A : List Int} (h : stF C = 0) (h2 : ¬ laF LL = 0) : scrZ C LL A = laF LL := by unfold scrZ; rw [if_pos h, if_neg h2]
theorem scrZ_len {C : List Wc} {LL : List La} {A : List Int} (h : stF C = 0) (h2 : laF LL = 0) (h3 : ¬ A.length = 12) : scrZ C LL A = 2 := by unfold scrZ; rw [if_pos h, if_pos h2, if_neg h3]
theorem scrZ_bad {C : List Wc} {LL : List La} {A : List Int} (h : stF C = 0) (h2 : laF LL = 0) (h3 : A.length = 12) (h4 : A.all (btw 0 999) = false) : scrZ C LL A = 3 := by unfold scrZ; rw [if_pos h, if_pos h2, if_pos h3, h4]; rfl
theorem scrZ_ok {C : List Wc} {LL : List La} {A : List Int} (h : stF C = 0) (h2 : laF LL = 0) (h3 : A.length = 12) (h4 : A.all (btw 0 999) = true) : scrZ C LL A = 0 := by unfold scrZ; rw [if_pos h, if_pos h2, if_pos h3, h4]; rfl
theorem scrL_no {C : List Wc} {LL : List La} {A : List Int} (h : scrZ C LL A ≠ 0) : scrL C LL A = [] := by unfold scrL; rw [if_neg h]
theorem scrL_yes {C : List Wc} {LL : List La} {A : List Int} (h : scrZ C LL A = 0) : scrL C LL A = scrC C LL A := by unfold scrL; rw [if_pos h]
theorem scrZ_parts {C : List Wc} {LL : List La} {A : List Int} (h : scrZ C LL A = 0) : stF C = 0 ∧ laF LL = 0 ∧ A.length = 12 ∧ A.all (btw 0 999) = true := by
  by_cases h1 : stF C = 0
  · by_cases h2 : laF LL = 0
    · by_cases h3 : A.length = 12
      · cases h4 : A.all (btw 0 999)
        · rw [scrZ_bad h1 h2 h3 h4] at h; cases h
        · exact ⟨h1, h2, h3, rfl⟩
      · rw [scrZ_len h1 h2 h3] at h; cases h
    · rw [scrZ_la h1 h2] at h; exact absurd h h2
  · rw [scrZ_st h1] at h; exact absurd h h1
theorem scrC_len {C : List Wc} {LL : List La} {A : List Int} (h : A.length = 12) : (scrC C LL A).length = 96 := by unfold scrC; rw [List.length_append, List.length_map, pts_strip, rowsPts_len, h]
theorem scrL_len (C : List Wc) (LL : List La) (A : List Int) : (scrL C LL A).length ≤ 96 := by
  unfold scrL
  split
  case isTrue h => rw [scrC_len (scrZ_parts h).2.2.1]; exact Nat.le_refl _
  case isFalse => simp

set_option maxRecDepth 100000 in
set_option maxHeartbeats 400000 in
theorem ints9_any (lo hi : Nat) (ao : Option Addr) (ca : Nat) (L : List Int) (w : World) (hR : Row .i64 w lo hi ao L) (hs : hi ≤ w.heap.size) (hl : L.length ≤ 2097152) :
    Calls Try.prog 57 #[.slice ao L.length ca] w fun e w' => ∃ so sc, e = .returned (.slice so L.length sc) ∧ OwnR .i64 2 w' w.heap.size so sc L ∧ Below w.heap.size w w' := by
  have HR := hideP hR
  clear hR
  go_enter Try.func57, Try.ntmps57
  go_wp2_with (first | (at_builtin; refine wpList_app (k := .i64) (T := 2) (S := 26) (bytes := 8) Try.underlying26 Try.infoO9 (by omega) rfl _ _ rfl w.heap.size (some ⟨w.heap.size, 0, none⟩) 0 [] rfl (OwnR.lit .i64 2 w w.heap.size [] _ rfl (Nat.le_refl _) (by unfold maxLen; simp)) ao ca L rfl (HR.out.keep (B := w.heap.size) ((Below.refl _ _).alloc (Nat.le_refl _) _) hs).src (by simp; omega) (by simp) ?_; intro ao2 cap2 w2 O2 K2; refine Hid.out ?_) | go_in)
  have HO2 : Hid (OwnR .i64 2 w2 w.heap.size ao2 cap2 L) := hideP O2
  have HK2 : Hid (Below w.heap.size w w2) := hideP (Below.trans (by go_grown) K2)
  clear O2 K2
  refine hideP ?_
  go_wp2
  go_returns
  exact ⟨ao2, cap2, rfl, HO2.out, HK2.out⟩

set_option maxRecDepth 100000 in
set_option maxHeartbeats 4000000 in
theorem screen9_any (so : Option Addr) (sc : Nat) (L : List Wn) (la : Option Addr) (lc : Nat) (LL : List La) (ao : Option Addr) (ac : Nat) (A : List Int) (w : World) (hL : Ws w 0 w.heap.size so L) (hn : L.length ≤ 1048576) (hst : stF (L.map Wn.ct) = 0) (hf : laF LL = 0) (hA : Las w 0 w.heap.size la LL) (hR : Row .i64 w 0 w.heap.size ao A) (h12 : A.length = 12) :
    Calls Try.prog 38 #[.slice so L.length sc, .slice la LL.length lc, .slice ao A.length ac] w fun e w' => ∃ s c, e = .returned (.slice s 96 c) ∧ OwnR .i64 2 w' w.heap.size s c (scrC (L.map Wn.ct) LL A) ∧ Below w.heap.size w w' := by
  have CE := hideP (fun x y W (k : Below w.heap.size w W) (hx : -100 ≤ x ∧ x ≤ 100) (hy : -100 ≤ y ∧ y ≤ 100) => cell9_any so sc L la lc 0 W.heap.size LL x y W ((hL.keep k (Nat.le_refl _)).wide (Nat.le_refl _) k.size) hn hst hf ((hA.keep k (Nat.le_refl _)).wide (Nat.le_refl _) k.size) (Nat.le_refl _) hx hy)
  obtain ⟨G, hG⟩ : ∃ G, scrP LL (L.map Wn.ct) = G := ⟨_, rfl⟩
  have HR9 : Hid (scrC (L.map Wn.ct) LL A = partO A G 7 0) := hideP (by rw [partO_all, ← hG]; rfl)
  have H96 : Hid ((partO A G 7 0).length = 96) := hideP (by rw [partO_len, h12])
  have CE' : Hid (∀ x y W, Below w.heap.size w W → (-100 ≤ x ∧ x ≤ 100) → (-100 ≤ y ∧ y ≤ 100) → Calls Try.prog 58 #[.slice so L.length sc, .slice la LL.length lc, .int .i64 x, .int .i64 y] W fun e w' => e = .returned (.int .i64 (G (x, y))) ∧ Below W.heap.size W w') := hideP (by rw [← hG]; exact CE.out)
  have IN := hideP (ints9_any 0 w.heap.size ao ac A w hR (Nat.le_refl _) (by omega))
  have HLA := hideP h12
  clear CE hG hL hst hf hA hR h12
  go_enter Try.func38, Try.ntmps38
  go_wp2_with fail
  refine Calls.mono IN.out ?_
  rintro e w1 ⟨s1, c1, rfl, O1, k1⟩
  have HO1 := hideP O1
  have K1 := hideP k1
  have n1 := k1.size
  clear O1 k1 IN
  go_wp2
  go_loopw [7, 8] (fun v y wr => ∃ (j : Nat) (s : Option Addr) (c : Nat), j ≤ 7 ∧ y = .int .i64 (1 + (j : Int)) ∧ v = .slice s (partO A G j 0).length c ∧ OwnR .i64 2 wr w.heap.size s c (partO A G j 0) ∧ Below w.heap.size w wr) (fun _ y _ => (8 - intOf y).toNat)
  case atStart => exact ⟨0, s1, c1, Nat.zero_le _, by simp, by rw [partO_zero]; simp [rowsPts], by rw [partO_zero]; simpa [rowsPts] using HO1.out, K1.out⟩
  case round =>
    obtain ⟨j, s3, c3, hj, rfl, rfl, O, k⟩ := hrel
    have OJ := hideP O
    have KJ := hideP k
    clear O k HO1 K1
    by_cases hlt : j < 7
    · have hlt' : 1 + (j : Int) < 8 := by omega
      go_wp2
      go_loopw [7, 9] (fun v x wr => ∃ (i : Nat) (s : Option Addr) (c : Nat), i ≤ 12 ∧ x = .int .i64 (i : Int) ∧ v = .slice s (partO A G j i).length c ∧ OwnR .i64 2 wr w.heap.size s c (partO A G j i) ∧ Below w.heap.size w wr) (fun _ x _ => (12 - intOf x).toNat)
      case atStart => exact ⟨0, _, _, Nat.zero_le _, rfl, rfl, OJ.out, KJ.out⟩
      case round =>
        obtain ⟨i, s4, c4, hi, rfl, rfl, O, k⟩ := hrel
        have O4 := hideP O
        have K4 := hideP k
        clear O k OJ KJ
        by_cases hlt2 : i < 12
        · have hlt2' : (i : Int) < 12 := by omega
          have CC := hideP (CE'.out (i : Int) (1 + (j : Int)) wr K4.out (by omega) (by omega))
          have HZ := hideP (partO_step A G j i)
          have hML : (partO A G j i).length ≤ 96 := by rw [partO_len, HLA.out]; omega
          obtain ⟨M, hM⟩ : ∃ M, partO A G j i = M := ⟨_, rfl⟩
          obtain ⟨z, hz⟩ : ∃ z, G ((i : Int), 1 + (j : Int)) = z := ⟨_, rfl⟩
          rw [hM] at O4 HZ hML
          rw [hz] at HZ CC
          rw [hM]
          clear hM hz
          go_wp2_with fail
          refine Calls.mono CC.out ?_
          rintro e w5 ⟨rfl, k5⟩
          have O5 := hideP (O4.out.keep k5)
          have K5 := hideP (K4.out.trans (k5.mono K4.out.size))
          have n5 := K5.out.size
          clear k5 O4 K4 CC
          go_wp2_with (first | (at_builtin; refine wpList_app (k := .i64) (T := 2) (S := 26) (bytes := 8) Try.underlying26 Try.infoO9 (by omega) rfl _ _ rfl w.heap.size s4 c4 M rfl (O5.out.alloc _) _ 1 [z] rfl (src_one .i64 w5 z 2) (by simp; omega) (by simp; omega) ?_; intro s6 c6 w6 O6 k6; replace O6 := hideP O6; replace k6 := hideP k6; refine Hid.out ?_) | go_in)
          have K6 : Hid (Below w.heap.size w w6) := hideP (K5.out.trans (Below.trans ((Below.refl _ _).alloc n5 _) k6.out))
          rw [HZ.out] at O6
          have HL7 : Hid ((M ++ [z]).length = (partO A G j (i + 1)).length) := hideP (by rw [HZ.out])
          clear O5 K5 k6
          refine hideP ?_
          go_wp2
          go_roundw
          case rel => exact ⟨i + 1, s6, c6, by omega, by go_num, by rw [← HL7.out]; simp, O6.out, K6.out⟩
          case measure => simp [intOf]; omega
        · obtain rfl : i = 12 := by omega
          have HE := hideP (partO_row A G j)
          rw [HE.out] at O4
          have HE2 : Hid ((partO A G j 12).length = (partO A G (j + 1) 0).length) := hideP (by rw [HE.out])
          go_wp2
          go_roundw
          case rel => exact ⟨j + 1, s4, c4, by omega, by go_num, by rw [← HE2.out], O4.out, K4.out⟩
          case measure => simp [intOf]; omega
    · obtain rfl : j = 7 := by omega
      have h96 := H96.out
      go_wp2
      go_returns
      exact ⟨s3, c3, by rw [← h96]; rfl, by rw [HR9.out]; exact OJ.out, KJ.out⟩
end Go.Proofs.Ytmmjannkfmiohaa
