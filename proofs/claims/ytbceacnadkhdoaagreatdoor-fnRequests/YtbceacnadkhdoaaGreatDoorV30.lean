/- RequestText: the program's. -/
import Derived.Test.YtbceacnadkhdoaaGreatDoorV28
import Derived.Test.YtbceacnadkhdoaaGreatDoorV29
import Derived.Lib.AppendIntMem
namespace Go.Proofs.YtbceacnadkhdoaaGreatDoor
open Go.RowKit
set_option linter.unusedVariables false

/-- The library's table of tens, wherever the walk stands. -/
def Tens (B : Nat) (w : World) : Prop := Lib.TabBelow Tryz.prog B w "internal/strconv.uint64pow10" .u64 Lib.pow10Tab
theorem Tens.keep {B : Nat} {w w' : World} (h : Tens B w) (k : Below B w w') : Tens B w' := fun w'' k' => h w'' (k.trans k')

theorem Tens.up {B B' : Nat} {w : World} (h : Tens B w) (hb : B ≤ B') : Tens B' w := fun w' k => h w' (k.mono hb)

theorem grown_below (w : World) (k : Nat) (os : Array Obj) : Below w.heap.size w (Sort.grow (w.drewN k) os) := by
  refine ⟨rfl, rfl, rfl, by simp [Sort.grow], fun b hb => ?_⟩
  simp [Sort.grow, Array.getElem?_append, hb]

/-- strconv.Itoa at a byte. -/
theorem itoa_any (B : Nat) (n : Int) (w : World) (h : Tens B w) (h0 : 0 ≤ n) (h1 : n ≤ 255) :
    Calls Tryz.prog 34 #[.int .i64 n] w fun e w' => e = .returned (.string (dS n)) ∧ Below w.heap.size w w' := by
  refine (Any.strconv_Itoa Tryz.laysM171 n (by omega) (by omega) w (h w (Below.refl _ _))).mono ?_
  rintro e w' ⟨rfl, k, os, rfl⟩
  refine ⟨?_, grown_below w k os⟩
  obtain ⟨m, rfl⟩ : ∃ m : Nat, n = m := ⟨n.toNat, by omega⟩
  rw [Lib.itoa_nonneg, dec_d3 m (by omega)]
  rfl

theorem words_txt (L : List Int) : Lib.join ((L.map dS).map (·.data.toList)) (⟨#[44]⟩ : ByteArray).data.toList = txt L := by
  unfold txt wds
  rw [List.map_map]
  rfl

set_option maxHeartbeats 1000000 in
theorem iText_no (lo hi : Nat) (k : Int) (ao bo : Option Addr) (ca cb : Nat) (A D : List Int) (w : World) (hA : Row .i64 w lo hi ao A) (hs : hi ≤ w.heap.size) (h : rF k A D.length ≠ 0) :
    Calls Tryz.prog 14 #[.agg #[.int .i64 k, .slice ao A.length ca, .slice bo D.length cb]] w fun e w' => e = .returned (.agg #[.int .i64 (rF k A D.length), .string ⟨#[]⟩]) ∧ Below w.heap.size w w' := by
  have HA := hideP hA
  obtain ⟨c, hc⟩ : ∃ c, rF k A D.length = c := ⟨_, rfl⟩
  have HC := hideP hc
  have hne : (c != 0) = true := by rw [← hc]; simpa using h
  clear hA h hc
  go_enter Tryz.func14, Tryz.ntmps14
  go_wp2_with fail
  refine Calls.mono (iFault_any lo hi k ao bo ca D.length cb A _ (HA.out.keep (B := w.heap.size) (by go_grown) hs) (by simp; omega)) ?_
  rintro e w1 ⟨rfl, k1⟩
  rw [HC.out]
  have K1 : Hid (Below w.heap.size w w1) := hideP (Below.trans (by go_grown) (k1.mono (by simp; omega)))
  obtain ⟨r0, r1, r2, r3, r4⟩ : Rb w1 (w.heap.size + 1) (.int .i64 0) (.string ⟨#[]⟩) := Rb.keep ⟨by simp, by simp, by simp, by simp, by simp⟩ k1 (by simp)
  clear k1
  go_wp2
  refine bodyPost_ret (v := .agg #[.int .i64 c, .string ⟨#[]⟩]) (by simp [results, Tryz.results14, go_sem, *]) rfl ⟨by rw [HC.out], ?_⟩
  repeat' (first | exact K1.out | (with_reducible refine Below.setCell ?_ ?_ _) | go_size)

set_option maxRecDepth 100000 in
set_option maxHeartbeats 2000000 in
theorem iText_yes (lo hi : Nat) (k : Int) (ao bo : Option Addr) (ca cb : Nat) (A D : List Int) (w : World) (hA : Row .i64 w lo hi ao A) (hD : Row .u8 w lo hi bo D) (hs : hi ≤ w.heap.size) (hBD : D.all isB = true) (hT : Tens w.heap.size w) (h : rF k A D.length = 0) :
    Calls Tryz.prog 14 #[.agg #[.int .i64 k, .slice ao A.length ca, .slice bo D.length cb]] w fun e w' => e = .returned (.agg #[.int .i64 0, .string (tS (bod k A D))]) ∧ Below w.heap.size w w' := by
  have HA := hideP hA
  have HD := hideP hD
  obtain ⟨l1, l2, q1, q2, q3⟩ := rF_lens h
  have HB := hideP q3
  have HC := hideP h
  have HT := hideP hT
  have hbl : Hid ((bod k A D).length = A.length + D.length + 1) := hideP (bod_len _ _ _)
  have HBB : Hid ((bod k A D).all isB = true) := hideP (by unfold bod; simp [isB] at *; exact ⟨⟨by omega, by omega⟩, HB.out, hBD⟩)
  obtain ⟨L, hL⟩ : ∃ L, bod k A D = L := ⟨_, rfl⟩
  have HL := hideP hL
  rw [hL] at hbl HBB
  rw [hL]
  clear hA hD h q3 hT hBD hL
  go_enter Tryz.func14, Tryz.ntmps14
  go_wp2_with fail
  refine Calls.mono (iFault_any lo hi k ao bo ca D.length cb A _ (HA.out.keep (B := w.heap.size) (by go_grown) hs) (by simp; omega)) ?_
  rintro e w1 ⟨rfl, k1⟩
  rw [HC.out]
  have K1 : Hid (Below w.heap.size w w1) := hideP (Below.trans (by go_grown) (k1.mono (by simp; omega)))
  have R1 : Hid (Rb w1 (w.heap.size + 1) (.int .i64 0) (.string ⟨#[]⟩)) := hideP (Rb.keep ⟨by simp, by simp, by simp, by simp, by simp⟩ k1 (by simp))
  have n1 : w.heap.size + 1 < w1.heap.size := R1.out.lt
  obtain ⟨p0, p1, p2⟩ : Bx w1 w.heap.size k (.slice ao A.length ca) (.slice bo D.length cb) := Bx.keep ⟨by simp, by simp, by simp⟩ k1 (by simp; omega)
  clear k1
  go_wp2_with fail
  clear p0 p1 p2
  refine Calls.mono (body_any lo hi k ao bo ca cb A D w1 (HA.out.keep K1.out hs) (HD.out.keep K1.out hs) (by omega) ⟨by omega, by omega⟩ HB.out (by omega)) ?_
  rintro e w2 ⟨ao2, cap2, rfl, O2, k2⟩
  rw [HL.out] at O2
  rw [HL.out]
  have HO2 := hideP O2.wrt.row
  have K2 : Hid (Below w.heap.size w w2) := hideP (K1.out.trans (k2.mono (by omega)))
  have R2 := hideP (R1.out.keep k2 n1)
  have hz12 := k2.size
  have hbn : 0 < L.length := by rw [hbl.out]; omega
  have hbm : L.length ≤ 40 := by rw [hbl.out]; omega
  have hbm' : (L.length : Int) ≤ 40 := by omega
  clear O2 k2 R1 K1 HA HD HB HC HL hbl
  go_wp2
  go_loopw [4, 16] (fun s i wr => ∃ (j : Nat) (ao1 : Option Addr) (cap1 : Nat), j ≤ L.length ∧ i = .int .i64 j ∧ s = .slice ao1 ((L.take j).map dS).length cap1 ∧ OwnS 9 wr w2.heap.size ao1 cap1 ((L.take j).map dS) ∧ Below w2.heap.size w2 wr) (fun _ i _ => L.length - (intOf i).toNat)
  case atStart => exact ⟨0, none, 0, Nat.zero_le _, rfl, rfl, OwnS.nil _ _ _, Below.refl _ _⟩
  case round =>
    obtain ⟨j, ao1, cap1, hj, rfl, rfl, O1, k3⟩ := hrel
    have HO1 := hideP O1
    have HK3 := hideP k3
    have hz := k3.size
    clear O1 k3
    by_cases hlt : j < L.length
    · have hlt' : (j : Int) < (L.length : Int) := by omega
      rcases HO2.out with e | ⟨g, o, rfl, _, hg, hc⟩
      · rw [e] at hlt; simp at hlt
      have a0 := (HK3.out.cell (p := ⟨g, o + j, none⟩) hg).trans (hc j hlt)
      have hgl : g < wr.heap.size := by omega
      obtain ⟨x0, x1⟩ := all_at HBB.out j hlt
      have HT1 : Hid ((L.take (j + 1)).map dS = (L.take j).map dS ++ [dS L[j]]) := hideP (by rw [List.take_succ_eq_append_getElem hlt, List.map_append]; rfl)
      have HL1 := hideP (show ((L.take j).map dS).length ≤ 1048576 by simp; omega)
      clear hc
      generalize L[j] = x at *
      generalize (L.take j).map dS = M at *
      go_wp2_with fail
      refine Calls.mono (itoa_any w.heap.size x wr (HT.out.keep (K2.out.trans (HK3.out.mono (by omega)))) x0 x1) ?_
      rintro e w3 ⟨rfl, k3⟩
      have HO3 := hideP (HO1.out.keep k3)
      have HK4 := hideP (HK3.out.trans (k3.mono (by omega)))
      have hz3 := k3.size
      clear k3 HO1 HK3 a0
      generalize dS x = d at *
      go_wp2_with (first | (at_builtin; refine wpList_appS (T := 9) (S := 56) Tryz.underlying56 Tryz.infoS rfl _ _ rfl w2.heap.size ao1 cap1 M rfl (HO3.out.alloc _) w3.heap.size 1 d rfl (by rw [World.cell?_alloc_new]; rfl) (by have := HL1.out; omega) (by simp; omega) ?_; intro ao4 cap4 w4 O4 K4; refine Hid.out ?_) | go_in)
      have HO4 := hideP O4
      have HK5 : Hid (Below w2.heap.size w2 w4) := hideP ((HK4.out.alloc (by omega) _).trans K4)
      clear O4 K4
      refine hideP ?_
      go_wp2
      go_roundw
      case rel => exact ⟨j + 1, ao4, cap4, by omega, by go_num, by rw [HT1.out]; simp, by rw [HT1.out]; exact HO4.out, HK5.out⟩
      case measure => simp [intOf]; omega
    · obtain rfl : j = L.length := by omega
      rw [List.take_length] at HO1
      rw [List.take_length]
      obtain ⟨g, rfl, hg1, hg2, hcap, hcl⟩ := HO1.out.cells (fun e => by rw [List.map_eq_nil_iff] at e; rw [e] at hbn; simp at hbn)
      have hj := Any.strings_Join Tryz.lays156 Tryz.Builder_Extra_156 g 0 cap1 (L.map dS) ⟨#[44]⟩ wr hcl hg2 (by simp; omega) hcap (by rw [words_txt]; have := txt_len L; omega)
      rw [List.length_map, words_txt] at hj
      have HJ := hideP hj
      clear hj
      have K6 := hideP (K2.out.trans (HK3.out.mono (by omega)))
      have R6 := hideP (R2.out.keep HK3.out (by omega))
      have n6 : w.heap.size + 1 < wr.heap.size := by omega
      clear hcl hcap R2 K2 HK3 HO1 HO2
      go_wp2_with fail
      refine Calls.mono HJ.out ?_
      rintro e w7 ⟨rfl, k7⟩
      have K7 := hideP (K6.out.trans (k7.mono (by omega)))
      obtain ⟨r0, r1, r2, r3, r4⟩ := R6.out.keep k7 n6
      clear k7 R6 K6 HJ
      go_wp2
      refine bodyPost_ret (v := .agg #[.int .i64 0, .string (tS L)]) (by simp [results, Tryz.results14, go_sem, *]; rfl) rfl ⟨rfl, ?_⟩
      repeat' (first | exact K7.out | (with_reducible refine Below.setCell ?_ ?_ _) | go_size)

/-- RequestText of the program at every request. -/
theorem iText_any (lo hi : Nat) (k : Int) (ao bo : Option Addr) (ca cb : Nat) (A D : List Int) (w : World) (hA : Row .i64 w lo hi ao A) (hD : Row .u8 w lo hi bo D) (hs : hi ≤ w.heap.size) (hBD : D.all isB = true) (hT : Tens w.heap.size w) :
    Calls Tryz.prog 14 #[.agg #[.int .i64 k, .slice ao A.length ca, .slice bo D.length cb]] w fun e w' => e = .returned (.agg #[.int .i64 (rF k A D.length), .string (tX k A D)]) ∧ Below w.heap.size w w' := by
  by_cases h : rF k A D.length = 0
  · rw [h, tX_yes h]; exact iText_yes lo hi k ao bo ca cb A D w hA hD hs hBD hT h
  · rw [tX_no h]; exact iText_no lo hi k ao bo ca cb A D w hA hs h

end Go.Proofs.YtbceacnadkhdoaaGreatDoor
