/- The program's DropOwn: names are dropped from the set; what is left of the list, in order. -/
import Derived.Test.YtmbfnmgndablkaaId9
namespace Go.Proofs.Ytmbfnmgndablkaa
open Go.RowKit Go.Maps
set_option linter.unusedVariables false
attribute [local go_sem high] fI0 fI1

theorem Far.grown {b : Nat} {w w' : World} (g : w.grownBy w' (some b)) : Far b (b + 1) w w' :=
  ⟨g.os, g.tape, g.output, g.size, fun i hi hc => g.block i hi (by intro e; injection e with e; omega)⟩

/-- Which are left in the set when the first k of O were dropped. -/
def lftI (L O : List Int) (z : Int) : Bool := hasI L z && !hasI O z
theorem lftI_zero (L : List Int) (z : Int) : hasI L z = lftI L [] z := by simp [lftI, hasI]
theorem lftI_snoc {L O : List Int} {k : Nat} (h : k < O.length) (z : Int) : (!(z == O[k]) && lftI L (O.take k) z) = lftI L (O.take (k + 1)) z := by
  unfold lftI
  rw [← hasI_snoc h]
  cases z == O[k] <;> cases hasI L z <;> cases hasI (O.take k) z <;> rfl
theorem lftI_own {L : List Int} {s : Int} {x : Int} (h : x ∈ L) : lftI L (ownL L s) x = !(slV x == s) := by
  have h1 : hasI L x = true := by simpa [hasI] using h
  have h2 : hasI (ownL L s) x = (slV x == s) := by
    unfold hasI ownL
    rw [Bool.eq_iff_iff]
    simp [h]
  unfold lftI
  rw [h1, h2]
  rfl
theorem own_wf {L : List Int} {s : Int} (h : ∀ x ∈ L, okId x = true) {k : Nat} (hk : k < (ownL L s).length) : (Lit.int .i64 (ownL L s)[k]).wf = true := by
  have h1 : (ownL L s)[k] ∈ L := (List.mem_filter.1 (List.getElem_mem hk)).1
  have := okId_iff.1 (h _ h1)
  exact wf5 (by omega) (by omega)

set_option maxHeartbeats 4000000 in
theorem iDrop_yes (lo hi : Nat) (ao : Option Addr) (ca : Nat) (L : List Int) (s : Int) (w : World) (ha : Row .i64 w lo hi ao L) (hs : hi ≤ w.heap.size) (hl : L.length ≤ 1048576) (h0 : askF L s = 0) :
    Calls Try.prog 13 #[.slice ao L.length ca, .int .i64 s] w (IsS w 0 (offL L s)) := by
  have hl' : (L.length : Int) ≤ 1048576 := by omega
  have C := hideP (fun w1 (k : Below w.heap.size w w1) => names_yes (iFor_any lo hi ao ca L s w1 (ha.keep k hs) (Nat.le_trans hs k.size) hl) h0)
  have X := hideP (fun w1 (k : Below w.heap.size w w1) => iOwnIds_any lo hi ao ca L s w1 (ha.keep k hs) (Nat.le_trans hs k.size) hl)
  have HOK := hideP (idsF_ok (askF_ok h0).1).1
  have WF1 := hideP (fun k (hk : k < (ownL L s).length) => own_wf HOK.out hk)
  have LO := hideP (fun x (hx : x ∈ L) => lftI_own (s := s) hx)
  have HA := hideP ha
  have hol : (ownL L s).length ≤ 1048576 := Nat.le_trans (ownL_len _ _) hl
  clear ha h0
  generalize ownL L s = O at *
  have hol' : (O.length : Int) ≤ 1048576 := by omega
  go_enter Try.func13, Try.ntmps13
  go_wp2_with (first | (go_at_call 33; refine Calls.mono (C.out _ (by go_grown)) ?_; rintro e w1 ⟨rfl, k1, l1, n1⟩; have K1 := hideP (Below.trans (by go_grown : Below w.heap.size w _) (k1.mono (by simp))); have RB : Hid (Rb w1 w.heap.size (.int .i64 0) (.slice none 0 0)) := Rb.keep ⟨by simp, by simp, by simp, by simp, by simp⟩ k1 (by simp); simp only [World.size_alloc] at n1 l1; have N1 := hideP n1; clear k1 n1) | (go_at_call 35; refine Calls.mono (X.out _ K1.out) ?_; rintro e w2 ⟨ao2, ca2, rfl, O2, k2⟩; have K2 := hideP (K1.out.trans (k2.mono (by omega))); have RB2 := hideP (RB.out.keep k2 (by omega)); have N2 := hideP (N1.out.keep k2 (by omega)); have h2 := k2.size; have W2 := hideP O2.wrt.row; clear k2 O2))
  go_loopw [26] (fun i wr => ∃ k : Nat, k ≤ O.length ∧ i = .int .i64 k ∧ Below w.heap.size w wr ∧ w2.heap.size ≤ wr.heap.size ∧ Nam wr (w.heap.size + 1) L.length (lftI L (O.take k)) ∧ Row .i64 wr w1.heap.size w2.heap.size ao2 O ∧ Rb wr w.heap.size (.int .i64 0) (.slice none 0 0)) (fun i _ => O.length - (intOf i).toNat)
  case atStart => exact ⟨0, Nat.zero_le _, rfl, K2.out, Nat.le_refl _, N2.out.as (fun z => by simpa using lftI_zero L z), W2.out, RB2.out⟩
  case round =>
    clear C X W2 N2 RB2 N1 RB
    obtain ⟨k, hk, rfl, hbel, hsz, hnam, hrow, hrb⟩ := hrel
    have HBel := hideP hbel
    have HNam := hideP hnam
    have HRow := hideP hrow
    have HRb := hideP hrb
    clear hbel hnam hrow hrb
    by_cases hlt : k < O.length
    · have hlt' : (k : Int) < (O.length : Int) := by omega
      have hne : O ≠ [] := fun e => by rw [e] at hlt; simp at hlt
      rcases HRow.out with e | ⟨g, o, rfl, hlo, hg, hc⟩
      · exact absurd e hne
      have a0 := hc k hlt
      have SN := hideP (lftI_snoc (L := L) hlt)
      have hxw := WF1.out k hlt
      have hgl : g < wr.heap.size := by omega
      clear hc hne
      obtain ⟨x, hx⟩ : ∃ x, O[k] = x := ⟨_, rfl⟩
      rw [hx] at a0 SN hxw
      clear hx
      go_wp2_with (first | (at_delete; refine wpList_namDel rfl _ _ rfl (w.heap.size + 1) L.length (lftI L (O.take k)) rfl HNam.out x rfl hxw ?_; intro w3 N3 G3) | go_in)
      go_roundw
      case rel =>
        refine ⟨k + 1, by omega, by go_num, ?_, ?_, N3.as SN.out, ?_, ?_⟩
        · exact Below.grown HBel.out G3 (by omega) (fun j hj => by cases hj; omega)
        · have := G3.size
          omega
        · exact HRow.out.far (Far.grown G3) (by omega) (by omega)
        · exact HRb.out.far (Far.grown G3) (by omega)
      case measure => simp [intOf]; omega
    · obtain rfl : k = O.length := by omega
      rw [List.take_length] at HNam
      clear HRow WF1
      have HW3 := hideP hsz
      obtain ⟨W3, rfl⟩ : ∃ W3, W3 = wr := ⟨_, rfl⟩
      clear hlt
      go_wp2
      go_loopw [9, 35] (fun v i wr => ∃ j : Nat, j ≤ L.length ∧ i = .int .i64 j ∧ Below W3.heap.size W3 wr ∧ ∃ ao' cap', v = .slice ao' (offL (L.take j) s).length cap' ∧ OwnR .i64 2 wr W3.heap.size ao' cap' (offL (L.take j) s)) (fun _ i _ => L.length - (intOf i).toNat)
      case atStart => exact ⟨0, Nat.zero_le _, rfl, Below.refl _ _, none, 0, by simp [offL], by simpa [offL] using OwnR.nil _ _ _ _⟩
      case round =>
        obtain ⟨j, hj, rfl, hbel, ao', cap', rfl, hown⟩ := hrel
        have hbs := hbel.size
        have HO := hideP hown
        have KB := hideP hbel
        have hnl := HNam.out.lt
        by_cases hlt : j < L.length
        · have hlt' : (j : Int) < (L.length : Int) := by omega
          have hne : L ≠ [] := fun e => by rw [e] at hlt; simp at hlt
          rcases HA.out with e | ⟨g, o, rfl, hlo, hg, hc⟩
          · exact absurd e hne
          have a0 := ((HBel.out.trans (hbel.mono HBel.out.size)).cell (p := ⟨g, o + j, none⟩) (by show g < _; omega)).trans (hc j hlt)
          have N1 := hideP (offL_yes (s := s) hlt)
          have N2 := hideP (offL_no (s := s) hlt)
          have hbw := HBel.out.size
          have hgl : g < wr.heap.size := by omega
          have hlen : (offL (L.take j) s).length ≤ 1048576 := Nat.le_trans (offL_len _ _) (by simp; omega)
          have hxw : (Lit.int .i64 L[j]).wf = true := by have := okId_iff.1 (HOK.out _ (List.getElem_mem hlt)); exact wf5 (by omega) (by omega)
          have LX := hideP (LO.out _ (List.getElem_mem hlt))
          clear hc hbel hne hown
          obtain ⟨x, hx⟩ : ∃ x, L[j] = x := ⟨_, rfl⟩
          rw [hx] at a0 N1 N2 hxw LX
          clear hx
          generalize offL (L.take j) s = M at *
          have NH := hideP (HNam.out.keep KB.out hnl)
          cases hsx : (slV x == s)
          · have LX' : Hid (lftI L O x = true) := by have := LX.out; rw [hsx] at this; exact this
            go_wp2_with (first | (go_at_call 34; refine Calls.mono (iHas_any _ L.length (lftI L O) x _ NH.out hxw) ?_; rintro e w4 ⟨rfl, k4⟩; have K4 := hideP k4; have hz4 := k4.size; clear k4; rw [LX'.out]) | (at_builtin; refine wpList_app (k := .i64) (T := 2) (S := 24) (bytes := 8) Try.underlying24 Try.infoI5 (by omega) rfl _ _ rfl W3.heap.size ao' cap' M rfl ((HO.out.keep K4.out).alloc _) _ 1 [x] rfl (src_one .i64 w4 x 2) (by simp; omega) (by simp; omega) ?_; intro ao8 ca8 w8 O8 K8) | go_in)
            go_roundw
            case rel =>
              refine ⟨j + 1, by omega, by go_num, ?_, ao8, ca8, by rw [N1.out hsx]; simp, by rw [N1.out hsx]; exact O8⟩
              exact (KB.out.trans (K4.out.mono hbs)).trans (Below.trans (by go_grown : Below W3.heap.size w4 _) K8)
            case measure => simp [intOf]; omega
          · have LX' : Hid (lftI L O x = false) := by have := LX.out; rw [hsx] at this; exact this
            go_wp2_with (first | (go_at_call 34; refine Calls.mono (iHas_any _ L.length (lftI L O) x _ NH.out hxw) ?_; rintro e w4 ⟨rfl, k4⟩; have K4 := hideP k4; have hz4 := k4.size; clear k4; rw [LX'.out]))
            go_roundw
            case rel => exact ⟨j + 1, by omega, by go_num, KB.out.trans (K4.out.mono hbs), ao', cap', by rw [N2.out hsx], by rw [N2.out hsx]; exact HO.out.keep K4.out⟩
            case measure => simp [intOf]; omega
        · obtain rfl : j = L.length := by omega
          rw [List.take_length] at HO
          clear hown
          rw [List.take_length]
          have hrl := HRb.out.lt
          have hbw := HBel.out.size
          obtain ⟨c0, c1, f0, f1, lt0⟩ := HRb.out.keep KB.out hrl
          have KF := hideP (HBel.out.trans (KB.out.mono hbw))
          clear hbel
          go_wp2
          refine bodyPost_ret (v := .agg #[.int .i64 0, .slice ao' (offL L s).length cap']) (by simp [results, Try.results13, go_sem, *]) rfl ⟨ao', cap', rfl, ?_, ?_⟩
          · exact ((HO.out.set _ _ hrl).set _ _ hrl).le (by omega)
          · repeat' (first | exact KF.out | (with_reducible refine Below.setCell ?_ ?_ _) | go_size)

set_option maxHeartbeats 800000 in
theorem iDropOwn_any (lo hi : Nat) (ao : Option Addr) (ca : Nat) (L : List Int) (s : Int) (w : World) (ha : Row .i64 w lo hi ao L) (hs : hi ≤ w.heap.size) (hl : L.length ≤ 1048576) :
    Calls Try.prog 13 #[.slice ao L.length ca, .int .i64 s] w (IsS w (askF L s) (ofL L s)) := by
  by_cases h0 : askF L s = 0
  · rw [ofL_yes h0, h0]
    exact iDrop_yes lo hi ao ca L s w ha hs hl h0
  · rw [ofL_no h0]
    have C := hideP (fun w1 (k : Below w.heap.size w w1) => names_no (iFor_any lo hi ao ca L s w1 (ha.keep k hs) (Nat.le_trans hs k.size) hl) h0)
    clear ha
    generalize askF L s = c at *
    have hb : (c == 0) = false := by simpa using h0
    go_enter Try.func13, Try.ntmps13
    go_wp2_with (go_at_call 33; refine Calls.mono (C.out _ (by go_grown)) ?_; rintro e w1 ⟨rfl, k1⟩; have K1 := hideP (Below.trans (by go_grown : Below w.heap.size w _) (k1.mono (by simp))); obtain ⟨c0, c1, f0, f1, lt0⟩ : Rb w1 w.heap.size (.int .i64 0) (.slice none 0 0) := Rb.keep ⟨by simp, by simp, by simp, by simp, by simp⟩ k1 (by simp); clear k1)
    refine bodyPost_ret (v := .agg #[.int .i64 c, .slice none 0 0]) (by simp [results, Try.results13, go_sem, *]) rfl ⟨none, 0, rfl, OwnR.nil _ _ _ _, ?_⟩
    repeat' (first | exact K1.out | (with_reducible refine Below.setCell ?_ ?_ _) | go_size)
end Go.Proofs.Ytmbfnmgndablkaa
