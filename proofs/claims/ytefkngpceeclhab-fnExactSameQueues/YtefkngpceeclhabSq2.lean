/- Whether two queues are the same: the model's. -/
import Derived.Test.YtefkngpceeclhabSq1
import Derived.Test.YtefkngpceeclhabKeepG
import Derived.Test.YtefkngpceeclhabRd0
import Derived.Lib.Bytes
namespace Go.Proofs.Ytefkngpceeclhab
open Go.RowKit
set_option linter.unusedVariables false

/-- Bytes in memory as a text. -/
theorem conv_row {w : World} {lo hi : Nat} {bo : Option Addr} {D : List Int} (cb : Nat) (h : Row .u8 w lo hi bo D) :
    (convert 24 9 (.slice bo D.length cb)).run Try.prog w = .ok (.string (strOfNums D)) w := by
  rcases h with rfl | ⟨g, o, rfl, _, _, hc⟩
  · cases bo with
    | none => exact run_convert_bytes_nil (P := Try.prog) w 24 5 Try.underlying24 Try.underlying5 _ _ 9 Try.underlying9
    | some a =>
      rw [run_convert_bytes_string w 24 9 5 _ _ cb Try.underlying24 Try.underlying5 Try.underlying9]
      have hl := run_loadCells_list (P := Try.prog) w a [] (fun j v hj => by simp at hj)
      exact run_bytesToString w a 0 cb [] hl
  · exact run_convert_bytes_arg (P := Try.prog) w 24 5 Try.underlying24 Try.underlying5 g o D.length cb D rfl (fun i hi => by rw [hc i hi]; simp [List.getD, List.getElem?_eq_getElem hi]) 9 Try.underlying9

theorem str_same {A B : List Int} (ha : byts A) (hb : byts B) : ((strOfNums A).toList == (strOfNums B).toList) = decide (A = B) := by
  rw [Bool.eq_iff_iff, beq_iff_eq, decide_eq_true_iff, Lib.strOfNums_toList, Lib.strOfNums_toList]
  constructor
  · intro h
    have hl : A.length = B.length := by have := congrArg List.length h; rwa [Lib.bytesOf_length, Lib.bytesOf_length] at this
    refine List.ext_getElem hl fun i h1 h2 => ?_
    have hi : (Lib.bytesOf A)[i]? = (Lib.bytesOf B)[i]? := by rw [h]
    unfold Lib.bytesOf at hi
    rw [List.getElem?_map, List.getElem?_map, List.getElem?_eq_getElem h1, List.getElem?_eq_getElem h2] at hi
    simp only [Option.map_some, Option.some.injEq] at hi
    have e := congrArg UInt8.toNat hi
    have ba := ha i h1
    have bb := hb i h2
    rw [UInt8.toNat_ofNat_of_lt' (by show _ < 256; omega), UInt8.toNat_ofNat_of_lt' (by show _ < 256; omega)] at e
    omega
  · rintro rfl; rfl

set_option maxRecDepth 100000 in
set_option maxHeartbeats 2000000 in
theorem sItems_any (lo hi lo2 hi2 : Nat) (so so2 : Option Addr) (sc sc2 : Nat) (L M : List Mg) (w : World) (hL : Ms w lo hi so L) (hM : Ms w lo2 hi2 so2 M) (h1 : hi ≤ w.heap.size) (h2 : hi2 ≤ w.heap.size) (hn : L.length + mzs L ≤ 1048576) (hn2 : M.length + mzs M ≤ 1048576) (hb : ∀ r ∈ L, byts r.b.L) (hb2 : ∀ r ∈ M, byts r.b.L) :
    Calls Try.prog 32 #[.slice so L.length sc, .slice so2 M.length sc2] w fun e w' => e = .returned (.bool (decide (L.map Mg.ct = M.map Mg.ct))) ∧ Below w.heap.size w w' := by
  have hl' : (L.length : Int) ≤ 1048576 := by omega
  have HL := hideP hL
  have HM := hideP hM
  have HBY := hideP hb
  have HBY2 := hideP hb2
  clear hL hM hb hb2
  by_cases hlen : L.length = M.length
  · have hne : ((L.length : Int) != (M.length : Int)) = false := by simp; omega
    have HLen := hideP hlen
    clear hlen
    go_enter Try.func32, Try.ntmps32
    go_wp2
    go_loopw [5] (fun i wr => ∃ X Y X' Y' : List Mg, X ++ Y = L ∧ X' ++ Y' = M ∧ X.length = X'.length ∧ X.map Mg.ct = X'.map Mg.ct ∧ i = .int .i64 (X.length : Nat) ∧ Below w.heap.size w wr) (fun i _ => L.length - (intOf i).toNat)
    case atStart => exact ⟨[], L, [], M, rfl, rfl, rfl, rfl, rfl, Below.refl _ _⟩
    case round =>
      obtain ⟨X, Y, X', Y', hXY, hXY', hXl, hct, rfl, kb⟩ := hrel
      have hlen : X.length + Y.length = L.length := by rw [← hXY]; simp
      have hlen' : X'.length + Y'.length = M.length := by rw [← hXY']; simp
      have hz := kb.size
      have HB := hideP kb
      have HC := hideP hct
      clear kb hct
      cases Y with
      | cons r Y =>
        cases Y' with
        | nil => have := HLen.out; simp at hlen hlen'; omega
        | cons s Y' =>
          have hlt : (X.length : Int) < (L.length : Int) := by simp at hlen; omega
          have hlt2 : (X.length : Int) < (M.length : Int) := by simp at hlen'; omega
          have hsz : r.b.L.length ≤ mzs L := mzs_mem (m := r) (by rw [← hXY]; simp)
          have hsz2 : s.b.L.length ≤ mzs M := mzs_mem (m := s) (by rw [← hXY']; simp)
          have hst := str_same (HBY.out r (by rw [← hXY]; simp)) (HBY2.out s (by rw [← hXY']; simp))
          have h0 := HL.out
          rw [← hXY] at h0
          have h0' := HM.out
          rw [← hXY'] at h0'
          obtain ⟨g, o, rfl, hg, hc, hon⟩ := Ms.at h0
          obtain ⟨g', o', rfl, hg', hc', hon'⟩ := Ms.at h0'
          obtain ⟨a0, a1⟩ := hc.keep HB.out (by omega)
          rw [← hXl] at hc'
          obtain ⟨b0, b1⟩ := hc'.keep HB.out (by omega)
          have hgl : g < wr.heap.size := by omega
          have hgl' : g' < wr.heap.size := by omega
          have HXl := hideP hXl
          have HXY := hideP hXY
          have HXY' := hideP hXY'
          have HR := hideP (Row.keep hon HB.out h1)
          have HS := hideP (Row.keep hon' HB.out h2)
          have HN := hideP (fun e => ct_not (Y := Y) (Y' := Y') HC.out (r := r) (s := s) e)
          clear h0 h0' hc hc' hXY hXY' hon hon' HL HM hXl
          obtain ⟨k, ao, cap, gb, D⟩ := r
          obtain ⟨k', ao', cap', gb', D'⟩ := s
          simp only at a0 a1 b0 b1 hsz hsz2 HR HS HN hst
          have C1 := hideP (fun (w1 : World) (kk : Kept wr w1) => conv_row cap (HR.out.keep (Kept.below kk) (by omega)))
          have C2 := hideP (fun (w1 : World) (kk : Kept wr w1) => conv_row cap' (HS.out.keep (Kept.below kk) (by omega)))
          generalize D.length = dn at *
          generalize D'.length = dn' at *
          generalize strOfNums D = t1 at *
          generalize strOfNums D' = t2 at *
          have HST := hideP hst
          clear hst HR HS
          by_cases hk : k = k'
          · have hk' : (k != k') = false := by simpa using hk
            have HK := hideP hk
            clear hk
            by_cases hd : D = D'
            · have hs : (t1.toList == t2.toList) = true := by rw [HST.out]; exact decide_eq_true hd
              have HD := hideP hd
              clear hd HN HST
              go_wp2_with fail
              refine wp_region_wq (by kernel_rfl) (by kernel_rfl) ?_
              repeat (first | (refine wq_up _ (by first | exact wanted_free rfl | exact wanted_yes rfl rfl | exact wanted_no rfl rfl | exact wanted_lost rfl rfl) (by first | with_reducible rfl | decide) ?_; apply Exists.intro; refine ⟨fun w1 k1 => ?_, fun K hK => ?_⟩; (focus (have hc := Kept.cell k1; have c1 := C1.out w1 k1; have c2 := C2.out w1 k1; go_simp; first | done | rfl)); (go_simp; refine hK _ ?_; clear hK K)) | (refine wq_off _ (by first | exact wanted_free rfl | exact wanted_yes rfl rfl | exact wanted_no rfl rfl | exact wanted_lost rfl rfl) (by first | with_reducible rfl | decide) ?_; intro K hK; go_simp; refine hK _ ?_; clear hK K))
              refine wq_nil ?_
              intro w6 k6
              replace k6 := Kept.below k6
              have hc6 := Kept.cell k6
              have hf6 := Kept.frozen k6
              have hz6 := k6.size
              try simp only [World.size_alloc] at hz6
              try simp only [World.size_setCell] at hz6
              try simp only [World.size_drew] at hz6
              try (first | have hs6 := sz12 hz6 | have hs6 := sz11 hz6 | have hs6 := sz10 hz6 | have hs6 := sz9 hz6 | have hs6 := sz8 hz6 | have hs6 := sz7 hz6 | have hs6 := sz6 hz6 | have hs6 := sz5 hz6 | have hs6 := sz4 hz6 | have hs6 := sz3 hz6 | have hs6 := sz2 hz6 | have hs6 := sz1 hz6)
              clear a0 a1 b0 b1 C1 C2
              go_wp2
              go_roundw
              case rel => exact ⟨X ++ [⟨k, ⟨ao, cap, gb, D⟩⟩], Y, X' ++ [⟨k', ⟨ao', cap', gb', D'⟩⟩], Y', mid_in HXY.out, mid_in HXY'.out, by simp [HXl.out], by rw [List.map_append, List.map_append, HC.out]; simp only [List.map_cons, List.map_nil, Mg.ct, HK.out, HD.out], by simp, HB.out.trans (k6.mono HB.out.size)⟩
              case measure => simp [intOf]; omega
            · have hs : (t1.toList == t2.toList) = false := by rw [HST.out]; exact decide_eq_false hd
              have HE : Hid (decide (L.map Mg.ct = M.map Mg.ct) = false) := hideP (by
                have := HN.out (fun e => hd (by simpa [Mg.ct] using (Prod.ext_iff.1 e).2))
                rw [HXY.out, HXY'.out] at this
                exact decide_eq_false this)
              clear hd HN HST
              go_wp2_with fail
              refine wp_region_wq (by kernel_rfl) (by kernel_rfl) ?_
              repeat (first | (refine wq_up _ (by first | exact wanted_free rfl | exact wanted_yes rfl rfl | exact wanted_no rfl rfl | exact wanted_lost rfl rfl) (by first | with_reducible rfl | decide) ?_; apply Exists.intro; refine ⟨fun w1 k1 => ?_, fun K hK => ?_⟩; (focus (have hc := Kept.cell k1; have c1 := C1.out w1 k1; have c2 := C2.out w1 k1; go_simp; first | done | rfl)); (go_simp; refine hK _ ?_; clear hK K)) | (refine wq_off _ (by first | exact wanted_free rfl | exact wanted_yes rfl rfl | exact wanted_no rfl rfl | exact wanted_lost rfl rfl) (by first | with_reducible rfl | decide) ?_; intro K hK; go_simp; refine hK _ ?_; clear hK K))
              refine wq_nil ?_
              intro w6 k6
              replace k6 := Kept.below k6
              have hc6 := Kept.cell k6
              have hf6 := Kept.frozen k6
              have hz6 := k6.size
              try simp only [World.size_alloc] at hz6
              try simp only [World.size_setCell] at hz6
              try simp only [World.size_drew] at hz6
              try (first | have hs6 := sz12 hz6 | have hs6 := sz11 hz6 | have hs6 := sz10 hz6 | have hs6 := sz9 hz6 | have hs6 := sz8 hz6 | have hs6 := sz7 hz6 | have hs6 := sz6 hz6 | have hs6 := sz5 hz6 | have hs6 := sz4 hz6 | have hs6 := sz3 hz6 | have hs6 := sz2 hz6 | have hs6 := sz1 hz6)
              clear a0 a1 b0 b1 C1 C2
              go_wp2
              go_returns
              exact ⟨by rw [HE.out]; rfl, HB.out.trans (k6.mono HB.out.size)⟩
          · have hk' : (k != k') = true := by simpa using hk
            have HE : Hid (decide (L.map Mg.ct = M.map Mg.ct) = false) := hideP (by
              have := HN.out (fun e => hk (by simpa [Mg.ct] using (Prod.ext_iff.1 e).1))
              rw [HXY.out, HXY'.out] at this
              exact decide_eq_false this)
            clear hk HN HST
            go_wp2_with fail
            refine wp_region_wq (by kernel_rfl) (by kernel_rfl) ?_
            repeat (first | (refine wq_up _ (by first | exact wanted_free rfl | exact wanted_yes rfl rfl | exact wanted_no rfl rfl | exact wanted_lost rfl rfl) (by first | with_reducible rfl | decide) ?_; apply Exists.intro; refine ⟨fun w1 k1 => ?_, fun K hK => ?_⟩; (focus (have hc := Kept.cell k1; go_simp; first | done | rfl)); (go_simp; refine hK _ ?_; clear hK K)) | (refine wq_off _ (by first | exact wanted_free rfl | exact wanted_yes rfl rfl | exact wanted_no rfl rfl | exact wanted_lost rfl rfl) (by first | with_reducible rfl | decide) ?_; intro K hK; go_simp; refine hK _ ?_; clear hK K))
            refine wq_nil ?_
            intro w6 k6
            replace k6 := Kept.below k6
            have hc6 := Kept.cell k6
            have hf6 := Kept.frozen k6
            have hz6 := k6.size
            try simp only [World.size_alloc] at hz6
            try simp only [World.size_setCell] at hz6
            try simp only [World.size_drew] at hz6
            try (first | have hs6 := sz12 hz6 | have hs6 := sz11 hz6 | have hs6 := sz10 hz6 | have hs6 := sz9 hz6 | have hs6 := sz8 hz6 | have hs6 := sz7 hz6 | have hs6 := sz6 hz6 | have hs6 := sz5 hz6 | have hs6 := sz4 hz6 | have hs6 := sz3 hz6 | have hs6 := sz2 hz6 | have hs6 := sz1 hz6)
            clear a0 a1 b0 b1 C1 C2
            go_wp2
            go_returns
            exact ⟨by rw [HE.out]; rfl, HB.out.trans (k6.mono HB.out.size)⟩
      | nil =>
        have hX : X = L := by simpa using hXY
        have hY' : Y' = [] := List.length_eq_zero_iff.1 (by have := HLen.out; simp at hlen; omega)
        subst hY'
        have hX' : X' = M := by simpa using hXY'
        have HE : Hid (decide (L.map Mg.ct = M.map Mg.ct) = true) := hideP (by rw [← hX, ← hX']; exact decide_eq_true HC.out)
        have e1 : X.length = L.length := by rw [hX]
        clear hX hX' hXY hXY' hXl HC HL HM
        rw [e1]
        go_wp2
        go_returns
        exact ⟨by rw [HE.out]; rfl, HB.out⟩
  · have hne : ((L.length : Int) != (M.length : Int)) = true := by simp; omega
    have HE : Hid (decide (L.map Mg.ct = M.map Mg.ct) = false) := hideP (decide_eq_false (ct_len_not hlen))
    clear hlen HL HM
    go_enter Try.func32, Try.ntmps32
    go_wp2
    go_returns
    exact ⟨by rw [HE.out]; rfl, Below.refl _ _⟩

set_option maxHeartbeats 1000000 in
theorem sSameQ_any (lo hi lo2 hi2 : Nat) (so so2 : Option Addr) (sc sc2 : Nat) (L M : List Mg) (v u : Bool) (w : World) (hL : Ms w lo hi so L) (hM : Ms w lo2 hi2 so2 M) (h1 : hi ≤ w.heap.size) (h2 : hi2 ≤ w.heap.size) (hn : L.length + mzs L ≤ 1048576) (hn2 : M.length + mzs M ≤ 1048576) (hb : ∀ r ∈ L, byts r.b.L) (hb2 : ∀ r ∈ M, byts r.b.L) :
    Calls Try.prog 16 #[.agg #[.slice so L.length sc, .bool v], .agg #[.slice so2 M.length sc2, .bool u]] w fun e w' => e = .returned (.bool (sameQs v u (L.map Mg.ct) (M.map Mg.ct))) ∧ Below w.heap.size w w' := by
  have EF := hideP (fun w1 (kk : Below w.heap.size w w1) => sItems_any lo hi lo2 hi2 so so2 sc sc2 L M w1 (hL.keep kk h1) (hM.keep kk h2) (by have := kk.size; omega) (by have := kk.size; omega) hn hn2 hb hb2)
  have hs : sameQs v u (L.map Mg.ct) (M.map Mg.ct) = ((v == u) && decide (L.map Mg.ct = M.map Mg.ct)) := rfl
  obtain ⟨q, hq⟩ : ∃ q, decide (L.map Mg.ct = M.map Mg.ct) = q := ⟨_, rfl⟩
  rw [hs]
  rw [hq] at EF ⊢
  clear hL hM hq hs hn hn2 hb hb2
  generalize L.length = n1 at *
  generalize M.length = n2 at *
  by_cases hk : v = u
  · have hk' : (v == u) = true := by simpa using hk
    rw [hk']
    clear hk
    go_enter Try.func16, Try.ntmps16
    go_wp2_with fail
    refine Calls.mono (EF.out _ (by go_grown)) ?_
    rintro e w1 ⟨rfl, k1⟩
    have K1 : Hid (Below w.heap.size w w1) := hideP (Below.trans (by go_grown) (k1.mono (by simp; omega)))
    clear k1
    go_wp2
    go_returns
    exact ⟨by simp, K1.out⟩
  · have hk' : (v == u) = false := by simpa using hk
    rw [hk']
    clear hk
    go_enter Try.func16, Try.ntmps16
    go_wp2
    go_returns
    exact ⟨by simp, by go_grown⟩
end Go.Proofs.Ytefkngpceeclhab
