/- SameRequests: the program's and the model's. RequestFault: the law's walk. Results with bytes, and requests: held against each other, marked, held; what is known of a law's boxes. -/
import Derived.Test.YtbceacnadkhdoaaGreatDoorV42
import Derived.Test.YtbceacnadkhdoaaGreatDoorV7
import Derived.Test.YtbceacnadkhdoaaGreatDoorV26
import Derived.Lib.Bytes
import Derived.Test.YtbceacnadkhdoaaGreatDoorV24
import Derived.Test.YtbceacnadkhdoaaGreatDoorV18
namespace Go.Proofs.YtbceacnadkhdoaaGreatDoor
open Go.RowKit
set_option linter.unusedVariables false

/-- Bytes in memory as a text. -/
theorem conv_row {w : World} {lo hi : Nat} {bo : Option Addr} {D : List Int} (cb : Nat) (h : Row .u8 w lo hi bo D) :
    (convert 22 9 (.slice bo D.length cb)).run Tryz.prog w = .ok (.string (strOfNums D)) w := by
  rcases h with rfl | ⟨g, o, rfl, _, _, hc⟩
  · cases bo with
    | none => exact run_convert_bytes_nil (P := Tryz.prog) w 22 5 Tryz.underlying22 Tryz.underlying5 _ _ 9 Tryz.underlying9
    | some a =>
      rw [run_convert_bytes_string w 22 9 5 _ _ cb Tryz.underlying22 Tryz.underlying5 Tryz.underlying9]
      have hl := run_loadCells_list (P := Tryz.prog) w a [] (fun j v hj => by simp at hj)
      exact run_bytesToString w a 0 cb [] hl
  · exact run_convert_bytes_arg (P := Tryz.prog) w 22 5 Tryz.underlying22 Tryz.underlying5 g o D.length cb D rfl (fun i hi => by rw [hc i hi]; simp [List.getD, List.getElem?_eq_getElem hi]) 9 Tryz.underlying9

theorem str_same {A B : List Int} (ha : byts A) (hb : byts B) : ((strOfNums A).toList == (strOfNums B).toList) = decide (A = B) := by
  rw [Bool.eq_iff_iff, beq_iff_eq, decide_eq_true_iff, Lib.strOfNums_toList, Lib.strOfNums_toList]
  constructor
  · intro h
    have hl : A.length = B.length := by have := congrArg List.length h; rwa [Lib.bytesOf_length, Lib.bytesOf_length] at this
    refine List.ext_getElem hl fun i h1 h2 => ?_
    have hi : (Lib.bytesOf A)[i]? = (Lib.bytesOf B)[i]? := by rw [h]
    unfold Lib.bytesOf at hi
    rw [List.getElem?_map, List.getElem?_map, List.getElem?_eq_getElem h1, List.getElem?_eq_getElem h2] at hi
    simp only [Option.map_some, Option.some.injEq] at hi
    have e := congrArg UInt8.toNat hi
    have ba := ha i h1
    have bb := hb i h2
    rw [UInt8.toNat_ofNat_of_lt' (by show _ < 256; omega), UInt8.toNat_ofNat_of_lt' (by show _ < 256; omega)] at e
    omega
  · rintro rfl; rfl

/-- Whether two requests are the same. -/
def sameQ (k k2 : Int) (A A2 D D2 : List Int) : Bool := decide (k = k2) && decide (A = A2) && decide (D = D2)

set_option maxHeartbeats 1000000 in
theorem iSame_any (lo hi lo2 hi2 : Nat) (k k2 : Int) (ao bo ao2 bo2 : Option Addr) (ca cb ca2 cb2 : Nat) (A D A2 D2 : List Int) (w : World) (ha : Row .i64 w lo hi ao A) (hd : Row .u8 w lo hi bo D) (ha2 : Row .i64 w lo2 hi2 ao2 A2) (hd2 : Row .u8 w lo2 hi2 bo2 D2)
    (h1 : hi ≤ w.heap.size) (h2 : hi2 ≤ w.heap.size) (hA : A.length ≤ 1048576) (hD : D.length ≤ 1048576) (hA2 : A2.length ≤ 1048576) (hD2 : D2.length ≤ 1048576) :
    Calls Tryz.prog 20 #[.agg #[.int .i64 k, .slice ao A.length ca, .slice bo D.length cb], .agg #[.int .i64 k2, .slice ao2 A2.length ca2, .slice bo2 D2.length cb2]] w fun e w' => e = .returned (.bool (sameQ k k2 A A2 D D2)) ∧ Below w.heap.size w w' := by
  have CI := equalI_any lo hi lo2 hi2 ao ao2 ca ca2 A A2
  have CB := equalB_any lo hi lo2 hi2 bo bo2 cb cb2 D D2
  have hs : sameQ k k2 A A2 D D2 = (decide (k = k2) && decide (A = A2) && decide (D = D2)) := rfl
  obtain ⟨p, hp⟩ : ∃ p, decide (A = A2) = p := ⟨_, rfl⟩
  obtain ⟨q, hq⟩ : ∃ q, decide (D = D2) = q := ⟨_, rfl⟩
  rw [hp] at CI
  rw [hq] at CB
  rw [hs, hp, hq]
  have HA := hideP ha
  have HD := hideP hd
  have HA2 := hideP ha2
  have HD2 := hideP hd2
  have CI' := hideP CI
  have CB' := hideP CB
  clear CI CB ha hd ha2 hd2 hp hq hs
  by_cases hk : k = k2
  · have hk' : (k == k2) = true := by simpa using hk
    have hk2 : decide (k = k2) = true := by simpa using hk
    rw [hk2]
    clear hk hk2
    go_enter Tryz.func20, Tryz.ntmps20
    go_wp2_with fail
    refine Calls.mono (CI'.out _ (HA.out.keep (B := w.heap.size) (by go_grown) h1) (HA2.out.keep (B := w.heap.size) (by go_grown) h2) (by simp; omega) (by simp; omega) hA hA2) ?_
    rintro e w1 ⟨rfl, k1⟩
    have K1 : Hid (Below w.heap.size w w1) := hideP (Below.trans (by go_grown) (k1.mono (by simp; omega)))
    have X1 : Hid (Bx w1 w.heap.size k (.slice ao A.length ca) (.slice bo D.length cb)) := hideP (Bx.keep ⟨by simp, by simp, by simp⟩ k1 (by simp; omega))
    have Y1 : Hid (Bx w1 (w.heap.size + 1) k2 (.slice ao2 A2.length ca2) (.slice bo2 D2.length cb2)) := hideP (Bx.keep ⟨by simp, by simp, by simp⟩ k1 (by simp))
    have n1 : w.heap.size + 1 < w1.heap.size := by have := k1.size; simp at this; omega
    clear k1
    obtain ⟨p0, p1, p2⟩ := X1.out
    obtain ⟨q0, q1, q2⟩ := Y1.out
    cases p
    · go_wp2
      go_returns
      exact ⟨by simp, K1.out⟩
    · go_wp2_with fail
      clear p0 p1 p2 q0 q1 q2
      refine Calls.mono (CB'.out _ (HD.out.keep K1.out h1) (HD2.out.keep K1.out h2) (by omega) (by omega) hD hD2) ?_
      rintro e w2 ⟨rfl, k2⟩
      go_wp2
      go_returns
      exact ⟨by simp, K1.out.trans (k2.mono (by omega))⟩
  · have hk' : (k == k2) = false := by simpa using hk
    have hk2 : decide (k = k2) = false := by simpa using hk
    rw [hk2]
    clear hk hk2
    go_enter Tryz.func20, Tryz.ntmps20
    go_wp2
    go_returns
    exact ⟨by simp, by go_grown⟩

end Go.Proofs.YtbceacnadkhdoaaGreatDoor

namespace Go.Proofs.YtbceacnadkhdoaaGreatDoor
open Go.RowKit
set_option linter.unusedVariables false

end Go.Proofs.YtbceacnadkhdoaaGreatDoor

namespace Go.Proofs.YtbceacnadkhdoaaGreatDoor
open Go.RowKit
set_option linter.unusedVariables false

/-- Behind new blocks what turns of the old ones turns still. -/
theorem Far.after {lo hi : Nat} {w w1 w2 : World} (k : Below w.heap.size w w1) (f : Far lo hi w1 w2) : Far lo hi w w2 := (Far.of_below k).trans f

/-- A result with bytes, its box and its row. -/
structure PW (W : World) (b lo hi : Nat) (c : Int) (ao : Option Addr) (ca : Nat) (L : List Int) : Prop where
  box : Rb W b (.int .i64 c) (.slice ao L.length ca)
  row : Wrt .u8 W lo hi ao L
  le : lo ≤ hi
  hs : hi ≤ W.heap.size
theorem PW.keep {W W' : World} {b lo hi B : Nat} {c : Int} {ao : Option Addr} {ca : Nat} {L : List Int} (h : PW W b lo hi c ao ca L) (k : Below B W W') (hb : b < B) (hh : hi ≤ B) : PW W' b lo hi c ao ca L :=
  ⟨h.box.keep k hb, h.row.keep k hh, h.le, Nat.le_trans h.hs k.size⟩
theorem PW.far {W W' : World} {b lo hi lo' hi' : Nat} {c : Int} {ao : Option Addr} {ca : Nat} {L : List Int} (h : PW W b lo hi c ao ca L) (f : Far lo' hi' W W') (hb : b < lo' ∨ hi' ≤ b) (hd : hi ≤ lo' ∨ hi' ≤ lo) : PW W' b lo hi c ao ca L :=
  ⟨h.box.far f hb, h.row.far f hd h.hs, h.le, Nat.le_trans h.hs f.size⟩
theorem PW.lt {W : World} {b lo hi : Nat} {c : Int} {ao : Option Addr} {ca : Nat} {L : List Int} (h : PW W b lo hi c ao ca L) : b < W.heap.size := h.box.lt
/-- .. just put into its box. -/
theorem PW.new {w : World} {base : Nat} {c : Int} {ao : Option Addr} {ca : Nat} {L : List Int} {T : TypeId} (O : OwnR .u8 5 w base ao ca L) (hb : base ≤ w.heap.size) : PW (w.alloc (.cells #[.int .i64 c, .slice ao L.length ca] T)) w.heap.size base w.heap.size c ao ca L :=
  ⟨⟨by simp, by simp, by simp, by simp, by simp⟩, O.wrt.keep (B := w.heap.size) ((Below.refl _ _).alloc (Nat.le_refl _) _) (Nat.le_refl _), hb, by simp⟩

/-- A request, its box and its rows. -/
structure PX (W : World) (b lo mid hi : Nat) (k : Int) (ao bo : Option Addr) (ca cb : Nat) (A D : List Int) : Prop where
  box : Bx W b k (.slice ao A.length ca) (.slice bo D.length cb)
  req : Req W lo mid hi ao bo A D
  lt : b < W.heap.size
theorem PX.keep {W W' : World} {b lo mid hi B : Nat} {k : Int} {ao bo : Option Addr} {ca cb : Nat} {A D : List Int} (h : PX W b lo mid hi k ao bo ca cb A D) (kk : Below B W W') (hb : b < B) (hh : hi ≤ B) : PX W' b lo mid hi k ao bo ca cb A D :=
  ⟨h.box.keep kk hb, h.req.keep kk hh, Nat.lt_of_lt_of_le h.lt kk.size⟩
theorem PX.new {w : World} {base mid : Nat} {k : Int} {ao bo : Option Addr} {ca cb : Nat} {A D : List Int} {T : TypeId} (R : Req w base mid w.heap.size ao bo A D) : PX (w.alloc (.cells #[.int .i64 k, .slice ao A.length ca, .slice bo D.length cb] T)) w.heap.size base mid w.heap.size k ao bo ca cb A D :=
  ⟨⟨by simp, by simp, by simp⟩, R.keep (B := w.heap.size) ((Below.refl _ _).alloc (Nat.le_refl _) _) (Nat.le_refl _), by simp⟩

theorem pkL_len' (k : Int) (A D : List Int) : (pkL k A D).length ≤ 1048576 := by have := pkL_len k A D; omega

end Go.Proofs.YtbceacnadkhdoaaGreatDoor
