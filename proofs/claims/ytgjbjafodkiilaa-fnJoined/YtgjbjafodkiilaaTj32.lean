/- SameRequests: the program's and the model's. -/
import Derived.Test.YtgjbjafodkiilaaTj31
import Derived.Test.YtgjbjafodkiilaaTj15
import Derived.Test.YtgjbjafodkiilaaTj9
import Derived.Lib.Bytes
namespace Go.Proofs.Ytgjbjafodkiilaa
open Go.RowKit
set_option linter.unusedVariables false

/-- Bytes in memory as a text. -/
theorem conv_row {w : World} {lo hi : Nat} {bo : Option Addr} {D : List Int} (cb : Nat) (h : Row .u8 w lo hi bo D) :
    (convert 22 9 (.slice bo D.length cb)).run Try.prog w = .ok (.string (strOfNums D)) w := by
  rcases h with rfl | ⟨g, o, rfl, _, _, hc⟩
  · cases bo with
    | none => exact run_convert_bytes_nil (P := Try.prog) w 22 5 Try.underlying22 Try.underlying5 _ _ 9 Try.underlying9
    | some a =>
      rw [run_convert_bytes_string w 22 9 5 _ _ cb Try.underlying22 Try.underlying5 Try.underlying9]
      have hl := run_loadCells_list (P := Try.prog) w a [] (fun j v hj => by simp at hj)
      exact run_bytesToString w a 0 cb [] hl
  · exact run_convert_bytes_arg (P := Try.prog) w 22 5 Try.underlying22 Try.underlying5 g o D.length cb D rfl (fun i hi => by rw [hc i hi]; simp [List.getD, List.getElem?_eq_getElem hi]) 9 Try.underlying9

theorem str_same {A B : List Int} (ha : byts A) (hb : byts B) : ((strOfNums A).toList == (strOfNums B).toList) = decide (A = B) := by
  rw [Bool.eq_iff_iff, beq_iff_eq, decide_eq_true_iff, Lib.strOfNums_toList, Lib.strOfNums_toList]
  constructor
  · intro h
    have hl : A.length = B.length := by have := congrArg List.length h; rwa [Lib.bytesOf_length, Lib.bytesOf_length] at this
    refine List.ext_getElem hl fun i h1 h2 => ?_
    have hi : (Lib.bytesOf A)[i]? = (Lib.bytesOf B)[i]? := by rw [h]
    unfold Lib.bytesOf at hi
    rw [List.getElem?_map, List.getElem?_map, List.getElem?_eq_getElem h1, List.getElem?_eq_getElem h2] at hi
    simp only [Option.map_some, Option.some.injEq] at hi
    have e := congrArg UInt8.toNat hi
    have ba := ha i h1
    have bb := hb i h2
    rw [UInt8.toNat_ofNat_of_lt' (by show _ < 256; omega), UInt8.toNat_ofNat_of_lt' (by show _ < 256; omega)] at e
    omega
  · rintro rfl; rfl

/-- Whether two requests are the same. -/
def sameQ (k k2 : Int) (A A2 D D2 : List Int) : Bool := decide (k = k2) && decide (A = A2) && decide (D = D2)

set_option maxHeartbeats 1000000 in
theorem iSame_any (lo hi lo2 hi2 : Nat) (k k2 : Int) (ao bo ao2 bo2 : Option Addr) (ca cb ca2 cb2 : Nat) (A D A2 D2 : List Int) (w : World) (ha : Row .i64 w lo hi ao A) (hd : Row .u8 w lo hi bo D) (ha2 : Row .i64 w lo2 hi2 ao2 A2) (hd2 : Row .u8 w lo2 hi2 bo2 D2)
    (h1 : hi ≤ w.heap.size) (h2 : hi2 ≤ w.heap.size) (hA : A.length ≤ 1048576) (hD : D.length ≤ 1048576) (hA2 : A2.length ≤ 1048576) (hD2 : D2.length ≤ 1048576) :
    Calls Try.prog 12 #[.agg #[.int .i64 k, .slice ao A.length ca, .slice bo D.length cb], .agg #[.int .i64 k2, .slice ao2 A2.length ca2, .slice bo2 D2.length cb2]] w fun e w' => e = .returned (.bool (sameQ k k2 A A2 D D2)) ∧ Below w.heap.size w w' := by
  have CI := equalI_any lo hi lo2 hi2 ao ao2 ca ca2 A A2
  have CB := equalB_any lo hi lo2 hi2 bo bo2 cb cb2 D D2
  have hs : sameQ k k2 A A2 D D2 = (decide (k = k2) && decide (A = A2) && decide (D = D2)) := rfl
  obtain ⟨p, hp⟩ : ∃ p, decide (A = A2) = p := ⟨_, rfl⟩
  obtain ⟨q, hq⟩ : ∃ q, decide (D = D2) = q := ⟨_, rfl⟩
  rw [hp] at CI
  rw [hq] at CB
  rw [hs, hp, hq]
  have HA := hideP ha
  have HD := hideP hd
  have HA2 := hideP ha2
  have HD2 := hideP hd2
  have CI' := hideP CI
  have CB' := hideP CB
  clear CI CB ha hd ha2 hd2 hp hq hs
  by_cases hk : k = k2
  · have hk' : (k == k2) = true := by simpa using hk
    have hk2 : decide (k = k2) = true := by simpa using hk
    rw [hk2]
    clear hk hk2
    go_enter Try.func12, Try.ntmps12
    go_wp2_with fail
    refine Calls.mono (CI'.out _ (HA.out.keep (B := w.heap.size) (by go_grown) h1) (HA2.out.keep (B := w.heap.size) (by go_grown) h2) (by simp; omega) (by simp; omega) hA hA2) ?_
    rintro e w1 ⟨rfl, k1⟩
    have K1 : Hid (Below w.heap.size w w1) := hideP (Below.trans (by go_grown) (k1.mono (by simp; omega)))
    have X1 : Hid (Bx w1 w.heap.size k (.slice ao A.length ca) (.slice bo D.length cb)) := hideP (Bx.keep ⟨by simp, by simp, by simp⟩ k1 (by simp; omega))
    have Y1 : Hid (Bx w1 (w.heap.size + 1) k2 (.slice ao2 A2.length ca2) (.slice bo2 D2.length cb2)) := hideP (Bx.keep ⟨by simp, by simp, by simp⟩ k1 (by simp))
    have n1 : w.heap.size + 1 < w1.heap.size := by have := k1.size; simp at this; omega
    clear k1
    obtain ⟨p0, p1, p2⟩ := X1.out
    obtain ⟨q0, q1, q2⟩ := Y1.out
    cases p
    · go_wp2
      go_returns
      exact ⟨by simp, K1.out⟩
    · go_wp2_with fail
      clear p0 p1 p2 q0 q1 q2
      refine Calls.mono (CB'.out _ (HD.out.keep K1.out h1) (HD2.out.keep K1.out h2) (by omega) (by omega) hD hD2) ?_
      rintro e w2 ⟨rfl, k2⟩
      go_wp2
      go_returns
      exact ⟨by simp, K1.out.trans (k2.mono (by omega))⟩
  · have hk' : (k == k2) = false := by simpa using hk
    have hk2 : decide (k = k2) = false := by simpa using hk
    rw [hk2]
    clear hk hk2
    go_enter Try.func12, Try.ntmps12
    go_wp2
    go_returns
    exact ⟨by simp, by go_grown⟩

end Go.Proofs.Ytgjbjafodkiilaa
