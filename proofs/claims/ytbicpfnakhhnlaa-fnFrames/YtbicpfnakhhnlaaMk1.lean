/- Frames held against each other, marked, held. -/
import Derived.Test.YtbicpfnakhhnlaaMk0
namespace Go.Proofs.Ytbicpfnakhhnlaa
open Go.RowKit
set_option linter.unusedVariables false

theorem map_at {bs cs : List Bd} (h : cs.map Bd.L = bs.map Bd.L) (i : Nat) (h1 : i < bs.length) (h2 : i < cs.length) : cs[i].L = bs[i].L := by
  have e : (cs.map Bd.L)[i]? = (bs.map Bd.L)[i]? := by rw [h]
  simpa [h1, h2] using e

set_option maxHeartbeats 1000000 in
theorem eqBB_same (lo hi lo2 hi2 : Nat) (so so2 : Option Addr) (sc sc2 : Nat) (bs cs : List Bd) (w : World) (hE : cs.map Bd.L = bs.map Bd.L) (hS : Spn w lo hi so bs) (hB : ∀ b ∈ bs, b.on w) (hS2 : Spn w lo2 hi2 so2 cs) (hB2 : ∀ b ∈ cs, b.on w) (h1 : hi ≤ w.heap.size) (h2 : hi2 ≤ w.heap.size) (hn : bs.length ≤ 1000) (hl : ∀ b ∈ bs, b.L.length ≤ 1000) :
    Calls Try.prog 78 #[.slice so bs.length sc, .slice so2 cs.length sc2] w fun e w' => e = .returned (.bool true) ∧ Below w.heap.size w w' := by
  have hlen : cs.length = bs.length := by have := congrArg List.length hE; simpa using this
  rw [hlen]
  have hn' : (bs.length : Int) ≤ 1000 := by omega
  have HE := hideP hE
  have HS := hideP hS
  have HB := hideP hB
  have HS2 := hideP hS2
  have HB2 := hideP hB2
  have HL := hideP hl
  have HLen := hideP hlen
  clear hE hS hB hS2 hB2 hl hlen
  go_enter Try.func78, Try.ntmps78
  go_wp2
  go_loopw [5] (fun i wr => ∃ k : Nat, k ≤ bs.length ∧ i = .int .i64 k ∧ Below w.heap.size w wr) (fun i _ => bs.length - (intOf i).toNat)
  case atStart => exact ⟨0, Nat.zero_le _, rfl, Below.refl _ _⟩
  case round =>
    obtain ⟨k, hk, rfl, hbel⟩ := hrel
    have hz := hbel.size
    by_cases hlt : k < bs.length
    · have hlt' : (k : Int) < (bs.length : Int) := by omega
      have hlt2 : k < cs.length := by rw [HLen.out]; exact hlt
      have hne : bs ≠ [] := fun e => by rw [e] at hlt; simp at hlt
      have hne2 : cs ≠ [] := fun e => by rw [e] at hlt2; simp at hlt2
      rcases HS.out with e | ⟨gs, rfl, _, hg, hc⟩
      · exact absurd e hne
      rcases HS2.out with e | ⟨gs2, rfl, _, hg2, hc2⟩
      · exact absurd e hne2
      have a0 := (hbel.cell (p := ⟨gs, k, none⟩) (by show gs < _; omega)).trans (hc k hlt)
      have b0 := (hbel.cell (p := ⟨gs2, k, none⟩) (by show gs2 < _; omega)).trans (hc2 k hlt2)
      have hX := map_at HE.out k hlt hlt2
      obtain ⟨l3, u3, r3, q3⟩ := Bd.row (HB.out bs[k] (List.getElem_mem _))
      obtain ⟨l4, u4, r4, q4⟩ := Bd.row (HB2.out cs[k] (List.getElem_mem _))
      have hbl := HL.out bs[k] (List.getElem_mem _)
      have hgl : gs < wr.heap.size := by omega
      have hgl' : gs2 < wr.heap.size := by omega
      have HBel := hideP hbel
      unfold Bd.val at a0 b0
      rw [hX] at b0 r4
      have EQ := eqB_same l3 u3 l4 u4 bs[k].ao cs[k].ao bs[k].cap cs[k].cap bs[k].L
      have EQ' := fun w1 (kk : Kept wr w1) => EQ w1 (r3.keep (HBel.out.trans (kk.mono HBel.out.size)) q3) (r4.keep (HBel.out.trans (kk.mono HBel.out.size)) q4) (by have := Below.size kk; omega) (by have := Below.size kk; omega) (by omega)
      have EQH := hideP EQ'
      clear hc hc2 hbel EQ EQ' r3 r4 hX hne hne2
      generalize bs[k].L = X at *
      generalize bs[k].ao = x1 at *
      generalize cs[k].ao = x2 at *
      generalize bs[k].cap = x3 at *
      generalize cs[k].cap = x4 at *
      go_wp2
      refine wp_region_kept (by kernel_rfl) (by kernel_rfl) ?_
      repeat (refine kept_step (by rfl) ?_; apply Exists.intro; refine ⟨fun w1 k1 => ?_, fun K hK => ?_⟩; (focus (have hc := Kept.cell k1; go_simp; first | done | rfl | (go_at_call 26; exact kept_call k1 (EQH.out _ k1)))); (go_simp; refine hK _ ?_; clear hK K))
      refine wpQuiet_nil ?_
      intro w6 k6
      replace k6 := Kept.below k6
      have hc6 := Kept.cell k6
      have hf6 := Kept.frozen k6
      have hz6 := k6.size
      try simp only [World.size_alloc] at hz6
      try simp only [World.size_setCell] at hz6
      try simp only [World.size_drew] at hz6
      try (first | have hs6 := sz12 hz6 | have hs6 := sz11 hz6 | have hs6 := sz10 hz6 | have hs6 := sz9 hz6 | have hs6 := sz8 hz6 | have hs6 := sz7 hz6 | have hs6 := sz6 hz6 | have hs6 := sz5 hz6 | have hs6 := sz4 hz6 | have hs6 := sz3 hz6 | have hs6 := sz2 hz6 | have hs6 := sz1 hz6)
      go_wp2
      go_roundw
      case rel => exact ⟨k + 1, by omega, by go_num, HBel.out.trans (k6.mono HBel.out.size)⟩
      case measure => simp [intOf]; omega
    · have HBel := hideP hbel
      clear hbel
      go_wp2
      go_returns
      exact ⟨rfl, HBel.out⟩

/-- Frames may be read. -/
structure FrR (w : World) (lo hi : Nat) (so : Option Addr) (bs : List Bd) (r : Bd) : Prop where
  spine : Spn w lo hi so bs
  each : ∀ b ∈ bs ++ [r], b.on w
  inn : ∀ b ∈ bs ++ [r], b.L ≠ [] → b.g < hi
theorem Frm.frr {w : World} {lo hi : Nat} {so : Option Addr} {bs : List Bd} {r : Bd} (h : Frm w lo hi so bs r) : FrR w lo hi so bs r := ⟨h.spine, h.bods.each, fun b m e => (h.bods.inn b m e).2⟩
theorem FrR.keep {w w' : World} {lo hi B : Nat} {so : Option Addr} {bs : List Bd} {r : Bd} (h : FrR w lo hi so bs r) (k : Below B w w') (hb : hi ≤ B) : FrR w' lo hi so bs r :=
  ⟨h.spine.keep k hb, fun b m => Bd.on_keep (h.each b m) k (fun e => by have := h.inn b m e; omega), h.inn⟩

set_option maxHeartbeats 800000 in
theorem eqF_same (lo hi lo2 hi2 : Nat) (so so2 : Option Addr) (sc sc2 : Nat) (bs cs : List Bd) (r q : Bd) (n : Int) (w : World) (hE : cs.map Bd.L = bs.map Bd.L) (hE2 : q.L = r.L) (hR : FrR w lo hi so bs r) (hQ : FrR w lo2 hi2 so2 cs q) (h1 : hi ≤ w.heap.size) (h2 : hi2 ≤ w.heap.size) (hn : bs.length ≤ 1000) (hl : ∀ b ∈ bs, b.L.length ≤ 1000) (hr : r.L.length ≤ 1000) :
    Calls Try.prog 57 #[.agg #[.slice so bs.length sc, .int .i64 n, .slice r.ao r.L.length r.cap], .agg #[.slice so2 cs.length sc2, .int .i64 n, .slice q.ao q.L.length q.cap]] w fun e w' => e = .returned (.bool true) ∧ Below w.heap.size w w' := by
  have EB := fun w1 (k : Below w.heap.size w w1) => eqBB_same lo hi lo2 hi2 so so2 sc sc2 bs cs w1 hE (hR.spine.keep k h1) (fun b m => (hR.keep k h1).each b (by simp [m])) (hQ.spine.keep k h2) (fun b m => (hQ.keep k h2).each b (by simp [m])) (by have := k.size; omega) (by have := k.size; omega) hn hl
  obtain ⟨l3, u3, r3, q3⟩ := Bd.row (hR.each r (by simp))
  obtain ⟨l4, u4, r4, q4⟩ := Bd.row (hQ.each q (by simp))
  rw [hE2] at r4 ⊢
  have EQ := fun w1 (k : Below w.heap.size w w1) => eqB_same l3 u3 l4 u4 r.ao q.ao r.cap q.cap r.L w1 (r3.keep k q3) (r4.keep k q4) (by have := k.size; omega) (by have := k.size; omega) (by omega)
  have EB' := hideP EB
  have EQ' := hideP EQ
  have hnn : (n != n) = false := by simp
  clear EB EQ r3 r4 hE hR hQ hl hE2
  generalize cs.length = c2 at *
  generalize bs.length = c1 at *
  generalize r.L.length = c3 at *
  generalize r.ao = x1 at *
  generalize q.ao = x2 at *
  generalize r.cap = x3 at *
  generalize q.cap = x4 at *
  go_enter Try.func57, Try.ntmps57
  go_wp2_with fail
  refine Calls.mono (EB'.out _ (by go_grown)) ?_
  rintro e w1 ⟨rfl, k1⟩
  have K1 : Hid (Below w.heap.size w w1) := hideP (Below.trans (by go_grown) (k1.mono (by simp; omega)))
  have X1 : R3 w1 w.heap.size (.slice so c1 sc) (.int .i64 n) (.slice x1 c3 x3) := R3.keep ⟨by simp, by simp, by simp, by simp, by simp, by simp, by simp; omega⟩ k1 (by simp; omega)
  have Y1 : R3 w1 (w.heap.size + 1) (.slice so2 c2 sc2) (.int .i64 n) (.slice x2 c3 x4) := R3.keep ⟨by simp, by simp, by simp, by simp, by simp, by simp, by simp⟩ k1 (by simp)
  clear k1
  obtain ⟨a0, a1, a2, a3, a4, a5, a6⟩ := X1
  obtain ⟨b0, b1, b2, b3, b4, b5, b6⟩ := Y1
  go_wp2_with fail
  refine Calls.mono (EQ'.out _ K1.out) ?_
  rintro e w2 ⟨rfl, k2⟩
  have K2 := hideP (K1.out.trans (k2.mono (by omega)))
  clear k2 a0 a1 a2 a3 a4 a5 b0 b1 b2 b3 b4 b5
  go_wp2
  go_returns
  exact ⟨rfl, K2.out⟩

set_option maxHeartbeats 800000 in
theorem eqFR_same (lo hi lo2 hi2 : Nat) (so so2 : Option Addr) (sc sc2 : Nat) (bs cs : List Bd) (r q : Bd) (c n : Int) (w : World) (hE : cs.map Bd.L = bs.map Bd.L) (hE2 : q.L = r.L) (hR : FrR w lo hi so bs r) (hQ : FrR w lo2 hi2 so2 cs q) (h1 : hi ≤ w.heap.size) (h2 : hi2 ≤ w.heap.size) (hn : bs.length ≤ 1000) (hl : ∀ b ∈ bs, b.L.length ≤ 1000) (hr : r.L.length ≤ 1000) :
    Calls Try.prog 25 #[.agg #[.int .i64 c, .slice so bs.length sc, .int .i64 n, .slice r.ao r.L.length r.cap], .agg #[.int .i64 c, .slice so2 cs.length sc2, .int .i64 n, .slice q.ao q.L.length q.cap]] w fun e w' => e = .returned (.bool true) ∧ Below w.heap.size w w' := by
  have EB := fun w1 (k : Below w.heap.size w w1) => eqF_same lo hi lo2 hi2 so so2 sc sc2 bs cs r q n w1 hE hE2 (hR.keep k h1) (hQ.keep k h2) (by have := k.size; omega) (by have := k.size; omega) hn hl hr
  have EB' := hideP EB
  have hcc : (c != c) = false := by simp
  clear EB hE hR hQ hl hE2
  generalize cs.length = c2 at *
  generalize bs.length = c1 at *
  generalize r.L.length = c3 at *
  generalize q.L.length = c4 at *
  generalize r.ao = x1 at *
  generalize q.ao = x2 at *
  generalize r.cap = x3 at *
  generalize q.cap = x4 at *
  go_enter Try.func25, Try.ntmps25
  go_wp2_with fail
  refine Calls.mono (EB'.out _ (by go_grown)) ?_
  rintro e w1 ⟨rfl, k1⟩
  have K1 : Hid (Below w.heap.size w w1) := hideP (Below.trans (by go_grown) (k1.mono (by simp; omega)))
  clear k1
  go_wp2
  go_returns
  exact ⟨rfl, K1.out⟩

end Go.Proofs.Ytbicpfnakhhnlaa
