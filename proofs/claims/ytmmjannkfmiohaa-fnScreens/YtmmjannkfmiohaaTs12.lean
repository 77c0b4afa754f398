/- Lists of ids by the model: whether one is there, their faults, the slot asked behind them. -/
import Derived.Test.YtmmjannkfmiohaaTs11
import Derived.Test.YtmmjannkfmiohaaTs5
namespace Go.Proofs.Ytmmjannkfmiohaa
open Go.RowKit
set_option linter.unusedVariables false

theorem Try.infoI5 : (Try.prog.info? 2).map (fun i => (i.zero, i.size, i.bytes)) = some (some (.int .i64 0), 1, 8) := by kernel_rfl

theorem Row.uptoI {k : IntKind} {w : World} {lo hi g o : Nat} {L : List Int} (h : Row k w lo hi (some ⟨g, o, none⟩) L) (i : Nat) : Row k w lo hi (some ⟨g, o, none⟩) (L.take i) := by
  rcases h with rfl | ⟨g', o', ha, h1, h2, hcl⟩
  · exact .inl (by simp)
  · cases ha
    exact .inr ⟨g, _, rfl, h1, h2, fun j hj => by rw [List.getElem_take]; exact hcl j (by simp at hj; omega)⟩

theorem Try.sizeI5 (w : World) : (sizeOf 2).run Try.prog w = .ok 1 w := by
  obtain ⟨i0, hi0, hz0, hz1, hz2⟩ := info_parts Try.infoI5
  simp [sizeOf, typeInfo, hi0, hz1]

set_option maxRecDepth 100000 in
theorem sl_uptoI (g o len cap : Nat) (kh : IntKind) (h : Int) (h0 : 0 ≤ h) (h1 : h ≤ cap) (w : World) :
    (Instr.slice 26 (.slice (some ⟨g, o, none⟩) len cap) none (some (.int kh h)) none).run Try.prog w = .ok (.slice (some ⟨g, o, none⟩) h.toNat cap) w := by
  rw [run_slice_h w 26 _ len cap Try.underlying26 kh h h0 h1]
  have e : Try.prog.elem 26 = 2 := by kernel_rfl
  rw [e, Try.sizeI5]
  simp only [Result.andThen_ok]
  unfold sliced
  by_cases hc : cap = 0
  · simp [hc]
  · simp [hc, add_none]

theorem has_take_no {L : List Int} {v : Int} {k : Nat} (h : k < L.length) (h1 : (L.take k).contains v = false) (h2 : (L[k] == v) = false) : (L.take (k + 1)).contains v = false := by
  rw [take_snoc h]
  have e : L[k] ≠ v := by simpa using h2
  simp only [List.contains_eq_mem, List.mem_append, List.mem_singleton, decide_eq_false_iff_not] at h1 ⊢
  rintro (h | h)
  · exact h1 h
  · exact e h.symm
theorem has_take_yes {L : List Int} {v : Int} {k : Nat} (h : k < L.length) (h2 : (L[k] == v) = true) : L.contains v = true := by
  have e : L[k] = v := by simpa using h2
  rw [← e]
  simp

set_option maxHeartbeats 1000000 in
theorem sHas_any (lo hi : Nat) (ao : Option Addr) (ca : Nat) (L : List Int) (v : Int) (w : World) (ha : Row .i64 w lo hi ao L) (hl : L.length ≤ 1048576) :
    Calls Try.prog 68 #[.slice ao L.length ca, .int .i64 v] w fun e w' => e = .returned (.bool (hasI L v)) ∧ w' = w := by
  have hl' : (L.length : Int) ≤ 1048576 := by omega
  have HA := hideP ha
  clear ha
  go_enter Try.func68, Try.ntmps68
  go_wp2
  go_loop [5] (fun i => ∃ k : Nat, k ≤ L.length ∧ i = .int .i64 k ∧ (L.take k).contains v = false) (fun i => L.length - (intOf i).toNat)
  case atStart => exact ⟨0, Nat.zero_le _, rfl, by simp⟩
  case round =>
    obtain ⟨k, hk, rfl, hno⟩ := hrel
    by_cases hlt : k < L.length
    · have hlt' : (k : Int) < (L.length : Int) := by omega
      have hne : L ≠ [] := fun e => by rw [e] at hlt; simp at hlt
      rcases HA.out with e | ⟨g, o, rfl, _, hg, hc⟩
      · exact absurd e hne
      have a0 := hc k hlt
      have Y : (L[k] == v) = true → L.contains v = true := has_take_yes hlt
      have N := hideP (fun h => has_take_no hlt hno h)
      clear hc HA hno
      obtain ⟨x, hx⟩ : ∃ x, L[k] = x := ⟨_, rfl⟩
      rw [hx] at a0 Y N
      clear hx
      cases hxe : (x == v)
      · clear Y
        go_wp2
        go_round
        case rel => exact ⟨k + 1, by omega, by go_num, N.out hxe⟩
        case measure => simp [intOf]; omega
      · have Y' : Hid (true = hasI L v) := (Y hxe).symm
        clear N Y
        go_wp2
        go_returns
        exact ⟨congrArg (fun b => Ending.returned (.bool b)) Y'.out, rfl⟩
    · obtain rfl : k = L.length := by omega
      rw [List.take_length] at hno
      have hno' : Hid (false = hasI L v) := hno.symm
      clear hno
      go_wp2
      go_returns
      exact ⟨congrArg (fun b => Ending.returned (.bool b)) hno'.out, rfl⟩

set_option maxHeartbeats 2000000 in
theorem sFault5_any (lo hi : Nat) (ao : Option Addr) (ca : Nat) (L : List Int) (w : World) (ha : Row .i64 w lo hi ao L) (hs : hi ≤ w.heap.size) (hl : L.length ≤ 1048576) (hca : L.length ≤ ca) :
    Calls Try.prog 54 #[.slice ao L.length ca] w fun e w' => e = .returned (.int .i64 (idsF L)) ∧ Below w.heap.size w w' := by
  have hl' : (L.length : Int) ≤ 1048576 := by omega
  have HA := hideP ha
  clear ha
  by_cases hmany : 12 < L.length
  · have hmany' : (12 : Int) < (L.length : Int) := by omega
    have e := hideP (idsF_many hmany).symm
    go_enter Try.func54, Try.ntmps54
    go_wp2
    go_returns
    exact ⟨congrArg (fun x => Ending.returned (.int .i64 x)) e.out, Below.refl _ _⟩
  have hfew' : ¬ (12 : Int) < (L.length : Int) := by omega
  have HF := hideP (idsF_few (L := L) (by omega))
  go_enter Try.func54, Try.ntmps54
  go_wp2
  go_loopw [3] (fun i wr => ∃ k : Nat, k ≤ L.length ∧ i = .int .i64 k ∧ Below w.heap.size w wr ∧ scan (L.take k) (L.drop k) = scan [] L) (fun i _ => L.length - (intOf i).toNat)
  case atStart => exact ⟨0, Nat.zero_le _, rfl, Below.refl _ _, by simp⟩
  case round =>
    obtain ⟨k, hk, rfl, hbel, hsc⟩ := hrel
    have hz := hbel.size
    by_cases hlt : k < L.length
    · have hlt' : (k : Int) < (L.length : Int) := by omega
      have hne : L ≠ [] := fun e => by rw [e] at hlt; simp at hlt
      rcases HA.out with e | ⟨g, o, rfl, hlo, hg, hc⟩
      · exact absurd e hne
      have hR : Row .i64 w lo hi (some ⟨g, o, none⟩) L := .inr ⟨g, o, rfl, hlo, hg, hc⟩
      have HT := hideP ((hR.keep hbel (by omega)).uptoI k)
      have a0 := (hbel.cell (p := ⟨g, o + k, none⟩) (by show g < _; omega)).trans (hc k hlt)
      have N1 := hideP (scan_no hlt)
      have N2 := hideP (scan_twice hlt)
      have N3 := hideP (scan_on hlt)
      have HSC := hideP hsc
      have HBel := hideP hbel
      have hgl : g < wr.heap.size := by omega
      have htk : (L.take k).length = k := by simp; omega
      clear hc HA hsc hbel hR hne
      obtain ⟨x, hx⟩ : ∃ x, L[k] = x := ⟨_, rfl⟩
      rw [hx] at a0 N1 N2 N3
      clear hx
      obtain ⟨T, hT⟩ : ∃ T, L.take k = T := ⟨_, rfl⟩
      rw [hT] at N1 N2 N3 HSC HT htk
      have HTL := hideP htk
      clear hT htk
      cases hok : okId x
      · go_wp2_with (go_at_call 67; refine Calls.mono (sId_any _ _) ?_; rintro e w1 ⟨rfl, rfl⟩; rw [hok])
        go_returns
        exact ⟨congrArg (fun x => Ending.returned (.int .i64 x)) (by rw [HF.out, ← HSC.out, N1.out hok]), HBel.out⟩
      · have hcak : (k : Int) ≤ (ca : Int) := by omega
        have hk0 : (0 : Int) ≤ (k : Int) := by omega
        have SL := sl_uptoI g o L.length ca .i64 k hk0 hcak
        rw [Int.toNat_natCast] at SL
        have CH := hideP (fun w1 (kk : Kept wr w1) => sHas_any lo hi (some ⟨g, o, none⟩) ca T x w1 (HT.out.keep kk (by omega)) (by rw [HTL.out]; omega))
        rw [HTL.out] at CH
        cases hha : hasI T x
        · rw [hha] at CH
          have HS1 := hideP (HSC.out.symm.trans (N3.out hok hha)).symm
          clear HSC N1 N2 N3 HT
          go_wp2_with (go_at_call 67; refine Calls.mono (sId_any _ _) ?_; rintro e w1 ⟨rfl, rfl⟩; rw [hok])
          refine wp_region_kept (by kernel_rfl) (by kernel_rfl) ?_
          repeat (refine kept_step (by rfl) ?_; apply Exists.intro; refine ⟨fun w1 k1 => ?_, fun K hK => ?_⟩; (focus (have hc := Kept.cell k1; go_simp; first | done | rfl | (go_at_call 68; exact kept_call_same k1 (CH.out _ k1)))); (go_simp; refine hK _ ?_; clear hK K))
          refine wpQuiet_nil ?_
          intro w8 k8
          replace k8 := Kept.below k8
          have hc8 := Kept.cell k8
          have hf8 := Kept.frozen k8
          have hz8 := k8.size
          try simp only [World.size_alloc] at hz8
          try simp only [World.size_setCell] at hz8
          try simp only [World.size_drew] at hz8
          try (first | have hs8 := sz12 hz8 | have hs8 := sz11 hz8 | have hs8 := sz10 hz8 | have hs8 := sz9 hz8 | have hs8 := sz8 hz8 | have hs8 := sz7 hz8 | have hs8 := sz6 hz8 | have hs8 := sz5 hz8 | have hs8 := sz4 hz8 | have hs8 := sz3 hz8 | have hs8 := sz2 hz8 | have hs8 := sz1 hz8)
          go_wp2
          go_roundw
          case rel => exact ⟨k + 1, by omega, by go_num, HBel.out.trans (k8.mono HBel.out.size), HS1.out⟩
          case measure => simp [intOf]; omega
        · rw [hha] at CH
          have HS1 := hideP (HSC.out.symm.trans (N2.out hok hha)).symm
          clear HSC N1 N2 N3 HT
          go_wp2_with (go_at_call 67; refine Calls.mono (sId_any _ _) ?_; rintro e w1 ⟨rfl, rfl⟩; rw [hok])
          refine wp_region_kept (by kernel_rfl) (by kernel_rfl) ?_
          repeat (refine kept_step (by rfl) ?_; apply Exists.intro; refine ⟨fun w1 k1 => ?_, fun K hK => ?_⟩; (focus (have hc := Kept.cell k1; go_simp; first | done | rfl | (go_at_call 68; exact kept_call_same k1 (CH.out _ k1)))); (go_simp; refine hK _ ?_; clear hK K))
          refine wpQuiet_nil ?_
          intro w8 k8
          replace k8 := Kept.below k8
          have hc8 := Kept.cell k8
          have hf8 := Kept.frozen k8
          have hz8 := k8.size
          try simp only [World.size_alloc] at hz8
          try simp only [World.size_setCell] at hz8
          try simp only [World.size_drew] at hz8
          try (first | have hs8 := sz12 hz8 | have hs8 := sz11 hz8 | have hs8 := sz10 hz8 | have hs8 := sz9 hz8 | have hs8 := sz8 hz8 | have hs8 := sz7 hz8 | have hs8 := sz6 hz8 | have hs8 := sz5 hz8 | have hs8 := sz4 hz8 | have hs8 := sz3 hz8 | have hs8 := sz2 hz8 | have hs8 := sz1 hz8)
          go_wp2
          go_returns
          exact ⟨congrArg (fun x => Ending.returned (.int .i64 x)) (by rw [HF.out]; exact HS1.out), HBel.out.trans (k8.mono HBel.out.size)⟩
    · obtain rfl : k = L.length := by omega
      have HSC := hideP hsc
      have HBel := hideP hbel
      clear hsc hbel
      go_wp2
      go_returns
      exact ⟨congrArg (fun x => Ending.returned (.int .i64 x)) (by rw [HF.out, ← HSC.out, scan_done L _ (Nat.le_refl _)]), HBel.out⟩

set_option maxHeartbeats 400000 in
theorem sSlot5_any (s : Int) (w : World) :
    Calls Try.prog 78 #[.int .i64 s] w fun e w' => e = .returned (.bool (decide (0 ≤ s ∧ s ≤ 3))) ∧ w' = w := by
  have C := hideP (in5_any s 0 3 w)
  generalize decide (0 ≤ s ∧ s ≤ 3) = b at C
  go_enter Try.func78, Try.ntmps78
  go_wp2_with (go_at_call 53; refine Calls.mono C.out ?_; rintro e w1 ⟨rfl, rfl⟩)
  go_returns
  exact ⟨rfl, rfl⟩

end Go.Proofs.Ytmmjannkfmiohaa
