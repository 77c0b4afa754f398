/- Sizes of slices, told by the laws' own functions. Requests in memory: copied, held against each other, marked, by the laws' own functions. Requests: how great, whether two are the same; RequestFault of the model, and the law's walk. The text of a request, by the model. -/
import Derived.Test.YtbceacnadkhdoaaGreatDoorV5
import Derived.Test.YtbceacnadkhdoaaGreatDoorV10
import Derived.Test.YtbceacnadkhdoaaGreatDoorV7
import Derived.Test.YtbceacnadkhdoaaGreatDoorV14
import Derived.Test.YtbceacnadkhdoaaGreatDoorV12
import Derived.Test.YtbceacnadkhdoaaGreatDoorV25
namespace Go.Proofs.YtbceacnadkhdoaaGreatDoor
open Go.RowKit
set_option linter.unusedVariables false

/-- What is left of a size. -/
def szV (l : Int) (n : Nat) : Int := if (n : Int) ≤ l then l - n else -1
theorem szV_yes {l : Int} {n : Nat} (h : (n : Int) ≤ l) : szV l n = l - n := by unfold szV; rw [if_pos h]
theorem szV_no {l : Int} {n : Nat} (h : l < (n : Int)) : szV l n = -1 := by unfold szV; rw [if_neg (by omega)]

end Go.Proofs.YtbceacnadkhdoaaGreatDoor

namespace Go.Proofs.YtbceacnadkhdoaaGreatDoor
open Go.RowKit
set_option linter.unusedVariables false

/-- A request's two lists, each in blocks of its own, and writable. -/
structure Req (w : World) (lo mid hi : Nat) (ao bo : Option Addr) (A D : List Int) : Prop where
  lm : lo ≤ mid
  mh : mid ≤ hi
  hs : hi ≤ w.heap.size
  args : Wrt .i64 w lo mid ao A
  data : Wrt .u8 w mid hi bo D
theorem Req.keep {w w' : World} {lo mid hi B : Nat} {ao bo : Option Addr} {A D : List Int} (h : Req w lo mid hi ao bo A D) (k : Below B w w') (hb : hi ≤ B) : Req w' lo mid hi ao bo A D :=
  ⟨h.lm, h.mh, Nat.le_trans h.hs k.size, h.args.keep k (Nat.le_trans h.mh hb), h.data.keep k hb⟩
theorem Req.far {w w' : World} {lo mid hi lo' hi' : Nat} {ao bo : Option Addr} {A D : List Int} (h : Req w lo mid hi ao bo A D) (f : Far lo' hi' w w') (hd : hi ≤ lo' ∨ hi' ≤ lo) : Req w' lo mid hi ao bo A D :=
  ⟨h.lm, h.mh, Nat.le_trans h.hs f.size, h.args.far f (by have := h.mh; omega) (by have := h.mh; have := h.hs; omega), h.data.far f (by have := h.lm; omega) h.hs⟩

end Go.Proofs.YtbceacnadkhdoaaGreatDoor

namespace Go.Proofs.YtbceacnadkhdoaaGreatDoor
open Go.RowKit
set_option linter.unusedVariables false

end Go.Proofs.YtbceacnadkhdoaaGreatDoor

namespace Go.Proofs.YtbceacnadkhdoaaGreatDoor
open Go.RowKit
set_option linter.unusedVariables false

/-- A body's text. -/
def tS (L : List Int) : ByteArray := ⟨(txt L).toArray⟩
theorem tS_one (k : Int) : tS [k] = dS k := by unfold tS dS; rw [txt_cons]; simp [wds, Lib.joinTail]
theorem tS_snoc (k : Int) (L : List Int) (n : Int) : tS (k :: L) ++ ⟨#[44]⟩ ++ dS n = tS (k :: (L ++ [n])) := by
  apply ByteArray.ext
  apply Array.toList_inj.1
  unfold tS dS
  rw [txt_snoc]
  simp [ByteArray.data_append]
theorem tS_size (L : List Int) : (tS L).size ≤ 4 * L.length := by unfold tS; simpa [ByteArray.size] using txt_len L

set_option maxRecDepth 100000 in
set_option maxHeartbeats 2000000 in
theorem l3Text_any (lo hi : Nat) (b o : Nat) (k : Int) (ao bo : Option Addr) (ca cb : Nat) (A D : List Int) (w : World) (R : IsReq w b o k (.slice ao A.length ca) (.slice bo D.length cb)) (hA : Row .i64 w lo hi ao A) (hD : Row .u8 w lo hi bo D) (hs : hi ≤ w.heap.size) (hb : b < w.heap.size)
    (h0 : 0 ≤ k) (h1 : k ≤ 255) (hlA : A.length ≤ 7) (hlD : D.length ≤ 24) (hBA : A.all isB = true) (hBD : D.all isB = true) :
    Calls Tryz.prog 26 #[.pointer (some ⟨b, o, none⟩)] w fun e w' => e = .returned (.string (tS (k :: (A ++ D)))) ∧ Below w.heap.size w w' := by
  have HA := hideP hA
  have HD := hideP hD
  have HR := hideP R
  have HBA := hideP hBA
  have HBD := hideP hBD
  clear hA hD hBA hBD
  obtain ⟨r0, r1, r2⟩ := R
  go_enter Tryz.func26, Tryz.ntmps26
  go_wp2_with fail
  refine Calls.mono (dig_any k _ h0 (by omega)) ?_
  rintro e w1 ⟨rfl, k1⟩
  have K1 := hideP k1
  clear k1 r0 r1 r2
  go_wp2
  go_loopw [3, 4] (fun s i wr => ∃ j : Nat, j ≤ A.length ∧ i = .int .i64 j ∧ s = .string (tS (k :: A.take j)) ∧ Below w.heap.size w wr) (fun _ i _ => A.length - (intOf i).toNat)
  case atStart => exact ⟨0, Nat.zero_le _, rfl, by simp [tS_one], K1.out⟩
  case round =>
    obtain ⟨j, hj, rfl, rfl, hbel⟩ := hrel
    have hz := hbel.size
    obtain ⟨r0, r1, r2⟩ := HR.out.keep hbel hb
    have hbw : b < wr.heap.size := by omega
    have hne : (some (⟨b, o, none⟩ : Addr)) ≠ none := by simp
    have HBel := hideP hbel
    clear hbel
    by_cases hlt : j < A.length
    · have hlt' : (j : Int) < (A.length : Int) := by omega
      rcases HA.out with e | ⟨g, o', rfl, _, hg, hc⟩
      · rw [e] at hlt; simp at hlt
      have a0 := (HBel.out.cell (p := ⟨g, o' + j, none⟩) (by show g < _; omega)).trans (hc j hlt)
      have hgl : g < wr.heap.size := by omega
      obtain ⟨x0, x1⟩ := all_at HBA.out j hlt
      have HT : Hid (tS (k :: A.take j) ++ ⟨#[44]⟩ ++ dS A[j] = tS (k :: A.take (j + 1))) := hideP (by rw [tS_snoc, List.take_succ_eq_append_getElem hlt])
      have hsz : (tS (k :: A.take j)).size ≤ 4 * 40 := Nat.le_trans (tS_size _) (by simp; omega)
      have hdz := dS_size A[j]
      have CD := hideP (fun w => dig_any A[j] w x0 (by omega))
      clear hc hne
      generalize A[j] = x at *
      generalize tS (k :: A.take j) = s at *
      generalize dS x = d at *
      go_wp2_with fail
      refine Calls.mono (CD.out _) ?_
      rintro e w5 ⟨rfl, k5⟩
      go_wp2
      go_roundw
      case rel => exact ⟨j + 1, by omega, by go_num, by rw [HT.out], HBel.out.trans (k5.mono (by omega))⟩
      case measure => simp [intOf]; omega
    · obtain rfl : j = A.length := by omega
      rw [List.take_length]
      go_wp2
      go_loopw [3, 5] (fun s i wr => ∃ j : Nat, j ≤ D.length ∧ i = .int .i64 j ∧ s = .string (tS (k :: (A ++ D.take j))) ∧ Below w.heap.size w wr) (fun _ i _ => D.length - (intOf i).toNat)
      case atStart => exact ⟨0, Nat.zero_le _, rfl, by simp, HBel.out⟩
      case round =>
        obtain ⟨j, hj, rfl, rfl, hbel⟩ := hrel
        have hz := hbel.size
        obtain ⟨r0, r1, r2⟩ := HR.out.keep hbel hb
        have hbw : b < wr.heap.size := by omega
        have hne : (some (⟨b, o, none⟩ : Addr)) ≠ none := by simp
        have HBel := hideP hbel
        clear hbel
        by_cases hlt : j < D.length
        · have hlt' : (j : Int) < (D.length : Int) := by omega
          rcases HD.out with e | ⟨g, o', rfl, _, hg, hc⟩
          · rw [e] at hlt; simp at hlt
          have a0 := (HBel.out.cell (p := ⟨g, o' + j, none⟩) (by show g < _; omega)).trans (hc j hlt)
          have hgl : g < wr.heap.size := by omega
          obtain ⟨x0, x1⟩ := all_at HBD.out j hlt
          have HT : Hid (tS (k :: (A ++ D.take j)) ++ ⟨#[44]⟩ ++ dS D[j] = tS (k :: (A ++ D.take (j + 1)))) := hideP (by rw [tS_snoc, List.take_succ_eq_append_getElem hlt, List.append_assoc])
          have hsz : (tS (k :: (A ++ D.take j))).size ≤ 4 * 40 := Nat.le_trans (tS_size _) (by simp; omega)
          have hdz := dS_size D[j]
          have CD := hideP (fun w => dig_any D[j] w x0 (by omega))
          clear hc hne
          generalize D[j] = x at *
          generalize tS (k :: (A ++ D.take j)) = s at *
          generalize dS x = d at *
          go_wp2_with fail
          refine Calls.mono (CD.out _) ?_
          rintro e w9 ⟨rfl, k9⟩
          go_wp2
          go_roundw
          case rel => exact ⟨j + 1, by omega, by go_num, by rw [HT.out], HBel.out.trans (k9.mono (by omega))⟩
          case measure => simp [intOf]; omega
        · obtain rfl : j = D.length := by omega
          go_wp2
          go_returns
          exact ⟨by rw [List.take_length]; rfl, HBel.out⟩

end Go.Proofs.YtbceacnadkhdoaaGreatDoor
