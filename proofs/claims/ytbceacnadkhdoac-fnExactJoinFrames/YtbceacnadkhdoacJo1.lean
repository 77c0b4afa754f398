/- Lists of requests: how great, copied, held against each other, marked, by the laws' own functions. -/
import Derived.Test.YtbceacnadkhdoacJo0
namespace Go.Proofs.Ytbceacnadkhdoac
open Go.RowKit
set_option linter.unusedVariables false

theorem Try.infoRq : (Try.prog.info? 41).map (fun i => (i.zero, i.size, i.bytes)) = some (some (.agg #[.int .i64 0, .slice none 0 0, .slice none 0 0]), 3, 56) := by kernel_rfl

theorem mid_in {α : Type} {X Y L : List α} {r : α} (h : X ++ r :: Y = L) : (X ++ [r]) ++ Y = L := by rw [← h]; simp

set_option maxHeartbeats 1000000 in
theorem szRS_any (lo hi : Nat) (so : Option Addr) (sc : Nat) (L : List Rq) (w : World) (hL : Rqs w lo hi so L) (hs : hi ≤ w.heap.size) (hn : L.length ≤ maxLen) (hm : ∀ r ∈ L, r.A.length ≤ maxLen ∧ r.D.length ≤ maxLen) :
    Calls Try.prog 4 #[.slice so L.length sc, .int .i64 1048576] w fun e w' => e = .returned (.int .i64 (szV 1048576 (L.length + szs L))) ∧ Below w.heap.size w w' := by
  unfold maxLen at hn
  by_cases hbig : (1048576 : Int) < (L.length : Int)
  · have h2 : (L.length : Int) ≤ 9223372036854775807 := by omega
    rw [szV_no (by omega)]
    go_enter Try.func4, Try.ntmps4
    go_wp2
    go_returns
    exact ⟨rfl, Below.refl _ _⟩
  have hb0 : 0 ≤ 1048576 - (L.length : Int) := by omega
  have HL := hideP hL
  have HM := hideP hm
  clear hL hm
  go_enter Try.func4, Try.ntmps4
  go_wp2
  go_loopw [1, 5] (fun q i wr => ∃ X Y : List Rq, X ++ Y = L ∧ i = .int .i64 (X.length : Nat) ∧ q = .int .i64 (1048576 - (L.length : Int) - (szs X : Int)) ∧ (szs X : Int) ≤ 1048576 - (L.length : Int) ∧ Below w.heap.size w wr) (fun _ i _ => L.length - (intOf i).toNat)
  case atStart => exact ⟨[], L, rfl, rfl, by simp [szs], by simp [szs]; omega, Below.refl _ _⟩
  case round =>
    obtain ⟨X, Y, hXY, rfl, rfl, hx, kb⟩ := hrel
    have hlen : X.length + Y.length = L.length := by rw [← hXY]; simp
    have htot : szs X + szs Y = szs L := by rw [← hXY, szs_app]
    have hz := kb.size
    cases Y with
    | cons r Y =>
      have hlt : (X.length : Int) < (L.length : Int) := by simp at hlen; omega
      have h0 := HL.out
      rw [← hXY] at h0
      obtain ⟨g, o, rfl, hg, hc, _⟩ := Rqs.at h0
      obtain ⟨a0, a1, a2⟩ := IsReq.keep hc kb (by omega)
      obtain ⟨m1, m2⟩ := HM.out r (by rw [← hXY]; simp)
      have hgl : g < wr.heap.size := by omega
      have hsr : szs (X ++ [r]) = szs X + r.A.length + r.D.length := by rw [szs_app]; simp only [szs, Rq.sz]; omega
      have hsL : szs X + r.A.length + r.D.length ≤ szs L := by rw [← htot]; simp only [szs, Rq.sz]; omega
      have HB := hideP kb
      have HXY := hideP hXY
      have HSR := hideP hsr
      clear h0 hc kb hXY hlen htot hsr
      obtain ⟨k, ao, ca, A, bo, cb, D⟩ := r
      simp only at a0 a1 a2 m1 m2 hsL HSR
      have hp0 : 0 ≤ 1048576 - (L.length : Int) - (szs X : Int) := by omega
      have hp1 : 1048576 - (L.length : Int) - (szs X : Int) ≤ 1048576 := by omega
      by_cases hfit : (szs X : Int) + A.length + D.length ≤ 1048576 - (L.length : Int)
      · have hq0 : 0 ≤ 1048576 - (L.length : Int) - (szs X : Int) - (A.length : Int) - (D.length : Int) := by omega
        go_wp2_with fail
        refine Calls.mono (szR_small k ao bo A.length ca D.length cb _ wr m1 m2 hp0 hp1 (by omega)) ?_
        rintro e w1 ⟨rfl, k1⟩
        have HB1 := hideP (HB.out.trans (k1.mono hz))
        clear k1
        go_wp2
        go_roundw
        case rel => exact ⟨X ++ [⟨k, ao, ca, A, bo, cb, D⟩], Y, mid_in HXY.out, by simp, by rw [HSR.out]; go_num, by rw [HSR.out]; omega, HB1.out⟩
        case measure => simp [intOf]; omega
      · have hv := hideP (szV_no (l := 1048576) (n := L.length + szs L) (by omega))
        go_wp2_with fail
        refine Calls.mono (szR_big k ao bo A.length ca D.length cb _ wr m1 m2 hp0 hp1 (by omega)) ?_
        rintro e w1 ⟨rfl, k1⟩
        have HB1 := hideP (HB.out.trans (k1.mono hz))
        clear k1
        go_wp2
        go_returns
        exact ⟨by rw [hv.out]; rfl, HB1.out⟩
    | nil =>
      have hX : X = L := by simpa using hXY
      subst hX
      have hv := hideP (szV_yes (l := 1048576) (n := X.length + szs X) (by omega))
      have HB := hideP kb
      clear kb hXY
      go_wp2
      go_returns
      exact ⟨by rw [hv.out, show (1048576 : Int) - ((X.length + szs X : Nat) : Int) = 1048576 - (X.length : Int) - (szs X : Int) by omega]; rfl, HB.out⟩

/-- A copy of a list of requests, its first ones there. -/
structure FillQ (w wr : World) (g n : Nat) (M : List Rq) : Prop where
  below : Below w.heap.size w wr
  own : OwnQ wr g wr.heap.size M
  there : ∀ c, c < n * 3 → ∃ u, wr.cell? ⟨g, c, none⟩ = some u
  le : w.heap.size ≤ g
theorem FillQ.keep {w wr wr' : World} {g n : Nat} {M : List Rq} (h : FillQ w wr g n M) (k : Below wr.heap.size wr wr') : Below w.heap.size w wr' ∧ OwnQ wr' g wr.heap.size M ∧ (∀ c, c < n * 3 → ∃ u, wr'.cell? ⟨g, c, none⟩ = some u) := by
  have hg := h.own.sp.le
  exact ⟨h.below.trans (k.mono h.below.size), h.own.keep k (Nat.le_refl _), fun c hc => by obtain ⟨u, hu⟩ := h.there c hc; exact ⟨u, (k.cell (p := ⟨g, c, none⟩) (by show g < _; omega)).trans hu⟩⟩
theorem FillQ.step {w wr w2 : World} {g n mid : Nat} {M : List Rq} {r : Rq} (h : FillQ w wr g n M) (hi : M.length < n) (k : Below wr.heap.size wr w2) (R : Req w2 wr.heap.size mid w2.heap.size r.ao r.bo r.A r.D) :
    FillQ w (((w2.setCell ⟨g, M.length * 3, none⟩ (.int .i64 r.k)).setCell ⟨g, M.length * 3 + 1, none⟩ (.slice r.ao r.A.length r.ca)).setCell ⟨g, M.length * 3 + 2, none⟩ (.slice r.bo r.D.length r.cb)) g n (M ++ [r]) := by
  obtain ⟨hb, ho, ht⟩ := h.keep k
  have hg := h.own.sp.le
  have hgl : w.heap.size ≤ g := h.le
  obtain ⟨u0, t0⟩ := ht (M.length * 3) (by omega)
  obtain ⟨u1, t1⟩ := ht (M.length * 3 + 1) (by omega)
  obtain ⟨u2, t2⟩ := ht (M.length * 3 + 2) (by omega)
  have F : Far g (g + 1) w2 (((w2.setCell ⟨g, M.length * 3, none⟩ (.int .i64 r.k)).setCell ⟨g, M.length * 3 + 1, none⟩ (.slice r.ao r.A.length r.ca)).setCell ⟨g, M.length * 3 + 2, none⟩ (.slice r.bo r.D.length r.cb)) :=
    (((Far.refl g (g + 1) w2).setCell (p := ⟨g, _, none⟩) (Nat.le_refl _) (by show g < g + 1; omega) _).setCell (p := ⟨g, _, none⟩) (Nat.le_refl _) (by show g < g + 1; omega) _).setCell (p := ⟨g, _, none⟩) (Nat.le_refl _) (by show g < g + 1; omega) _
  refine ⟨((hb.setCell (p := ⟨g, _, none⟩) hgl _).setCell (p := ⟨g, _, none⟩) hgl _).setCell (p := ⟨g, _, none⟩) hgl _, ⟨fun i hi' => ?_, fun c => by simpa using ho.free c, ?_⟩, fun c hc => ?_, hgl⟩
  · by_cases e : i < M.length
    · rw [List.getElem_append_left e]
      obtain ⟨c0, c1, c2⟩ := ho.cells i e
      refine ⟨?_, ?_, ?_⟩ <;> (repeat rw [cell_set_other (by omega)]) <;> assumption
    · obtain rfl : i = M.length := by simp at hi'; omega
      simp only [List.getElem_append_right (Nat.le_refl _), Nat.sub_self, List.getElem_cons_zero]
      refine ⟨?_, ?_, ?_⟩
      · rw [cell_set_other (by omega), cell_set_other (by omega)]; exact cell_set_same t0
      · rw [cell_set_other (by omega)]; exact cell_set_same ((cell_set_other (by omega)).trans t1)
      · exact cell_set_same ((cell_set_other (by omega)).trans ((cell_set_other (by omega)).trans t2))
  · simp only [World.size_setCell]
    exact Sp.snoc (ho.sp.far F (Nat.le_refl _)) (R.far F (.inr (by omega)))
  · have key : ∀ (W : World) (d : Nat) (v : Value), (∃ u, W.cell? ⟨g, c, none⟩ = some u) → ∃ u, (W.setCell ⟨g, d, none⟩ v).cell? ⟨g, c, none⟩ = some u := fun W d v ⟨u, hu⟩ => by
      by_cases e : c = d
      · subst e; exact ⟨v, cell_set_same hu⟩
      · exact ⟨u, (cell_set_other e).trans hu⟩
    exact key _ _ _ (key _ _ _ (key _ _ _ (ht c hc)))
theorem fillQ_new {w w1 : World} {n : Nat} {xs : List Value} (ho : w1.ownsRow w.heap.size 41 3 (.slice (some ⟨w.heap.size, 0, none⟩) n n) n xs) (hg : w.grownBy w1 none) : FillQ w w1 w.heap.size n [] := by
  have hlt := (World.ownsRow.lt ho w.heap.size rfl).2
  refine ⟨⟨hg.os, hg.tape, hg.output, hg.size, fun k hk => hg.block k hk (by simp)⟩, ⟨fun i hi => by simp at hi, fun c => World.ownsRow.frozenAt ho c, by omega, Nat.le_refl _⟩, fun c hc => ?_, Nat.le_refl _⟩
  rw [World.ownsRow.cellAt ho c hc]
  exact ⟨xs[c]'(by rw [ho.1]; exact hc), by simp⟩

set_option maxHeartbeats 2000000 in
theorem toRS_any (lo hi : Nat) (so : Option Addr) (sc : Nat) (L : List Rq) (w : World) (hL : Rqs w lo hi so L) (hs : hi ≤ w.heap.size) (hn : L.length + szs L ≤ 1048576) :
    Calls Try.prog 6 #[.slice so L.length sc] w fun e w' => ∃ (g : Nat) (M : List Rq), e = .returned (.slice (some ⟨g, 0, none⟩) M.length M.length) ∧ M.map Rq.ct = L.map Rq.ct ∧ w.heap.size ≤ g ∧ OwnQ w' g w'.heap.size M ∧ Below w.heap.size w w' := by
  have hl' : (L.length : Int) ≤ 1048576 := by omega
  have HL := hideP hL
  clear hL
  obtain ⟨i0, hi0, hz0, hz1, hz2⟩ := info_parts Try.infoRq
  go_enter Try.func6, Try.ntmps6
  go_wp2_with (first | (at_make; refine wpList_make_full _ rfl _ _ 28 rfl w.heap.size 41 i0 (.agg #[.int .i64 0, .slice none 0 0, .slice none 0 0]) 3 Try.underlying28 hi0 hz0 hz1 .i64 .i64 _ _ L.length rfl rfl rfl rfl (by rw [hz2]; omega) (by unfold maxLen; omega) (Nat.le_refl _) ?_; intro w1 hown1 hgrow1) | go_in)
  have F1 : Hid (FillQ w w1 w.heap.size L.length []) := fillQ_new hown1 hgrow1
  clear hown1 hgrow1
  go_wp2
  go_loopw [4] (fun i wr => ∃ X Y M : List Rq, X ++ Y = L ∧ M.map Rq.ct = X.map Rq.ct ∧ i = .int .i64 (X.length : Nat) ∧ FillQ w wr w.heap.size L.length M) (fun i _ => L.length - (intOf i).toNat)
  case atStart => exact ⟨[], L, [], rfl, rfl, rfl, F1.out⟩
  case round =>
    obtain ⟨X, Y, M, hXY, hMX, rfl, F⟩ := hrel
    have hlen : X.length + Y.length = L.length := by rw [← hXY]; simp
    have hML : M.length = X.length := by have := congrArg List.length hMX; simpa using this
    cases Y with
    | cons r Y =>
      have hlt : (X.length : Int) < (L.length : Int) := by simp at hlen; omega
      have h0 := HL.out
      have hsz : r.A.length + r.D.length ≤ szs L := szs_mem (r := r) (by rw [← hXY]; simp)
      rw [← hXY] at h0
      obtain ⟨g, o, rfl, hg, hc, hon⟩ := Rqs.at h0
      obtain ⟨a0, a1, a2⟩ := IsReq.keep hc F.below (by omega)
      obtain ⟨rA, rD⟩ := hon.keep F.below (by omega)
      have hz := F.below.size
      have hgl : g < wr.heap.size := by omega
      have HF := hideP F
      have HXY := hideP hXY
      have HMX := hideP hMX
      have HA := hideP rA
      have HD := hideP rD
      have hMn : M.length < L.length := by omega
      clear h0 hc F hXY hMX rA rD F1 hon
      obtain ⟨k, ao, ca, A, bo, cb, D⟩ := r
      simp only at a0 a1 a2 hsz HA HD
      go_wp2_with fail
      refine Calls.mono (toReq_any lo hi k ao bo ca cb A D wr HA.out HD.out (by omega) (by omega) (by omega)) ?_
      rintro e w2 ⟨ao', bo', mid, rfl, k2, R2⟩
      have ST := HF.out.step (r := ⟨k, ao', A.length, A, bo', D.length, D⟩) hMn k2 R2
      obtain ⟨_, ho, ht⟩ := HF.out.keep k2
      rw [hML] at ST
      obtain ⟨u0, t0⟩ := ht (X.length * 3) (by omega)
      obtain ⟨u1, t1⟩ := ht (X.length * 3 + 1) (by omega)
      obtain ⟨u2, t2⟩ := ht (X.length * 3 + 2) (by omega)
      have f := ho.free
      have hgl2 : w.heap.size < w2.heap.size := by have := HF.out.own.sp.le; have := k2.size; omega
      have HST := hideP ST
      clear ST ho ht k2 R2 HF a0 a1 a2 HL HA HD
      go_wp2
      go_roundw
      case rel => exact ⟨X ++ [⟨k, ao, ca, A, bo, cb, D⟩], Y, M ++ [⟨k, ao', A.length, A, bo', D.length, D⟩], mid_in HXY.out, by rw [List.map_append, List.map_append, HMX.out]; rfl, by simp, HST.out⟩
      case measure => simp [intOf]; omega
    | nil =>
      have hX : X = L := by simpa using hXY
      subst hX
      have HF := hideP F
      have HMX := hideP hMX
      clear F F1 hXY hMX HL
      rw [← hML]
      go_wp2
      go_returns
      exact ⟨w.heap.size, M, by rw [hML]; rfl, HMX.out, Nat.le_refl _, HF.out.own, HF.out.below⟩

theorem ct_at {X Y : List Rq} {r : Rq} {M : List Rq} (h : M.map Rq.ct = (X ++ r :: Y).map Rq.ct) : ∃ Z W s, M = Z ++ s :: W ∧ Z.length = X.length ∧ s.k = r.k ∧ s.A = r.A ∧ s.D = r.D := by
  have hl : M.length = X.length + Y.length + 1 := by have := congrArg List.length h; simp at this; omega
  have hlt : X.length < M.length := by omega
  have e : M = M.take X.length ++ M[X.length] :: M.drop (X.length + 1) := by simp
  have h2 : (M[X.length]).ct = r.ct := by
    have : (M.map Rq.ct)[X.length]'(by simpa using hlt) = ((X ++ r :: Y).map Rq.ct)[X.length]'(by simp) := by simp only [h]
    simpa using this
  simp only [Rq.ct, Prod.mk.injEq] at h2
  exact ⟨_, _, _, e, by simp; omega, h2.1, h2.2.1, h2.2.2⟩

set_option maxHeartbeats 2000000 in
theorem eqRS_same (lo hi lo2 hi2 : Nat) (so so2 : Option Addr) (sc sc2 : Nat) (L M : List Rq) (w : World) (hE : M.map Rq.ct = L.map Rq.ct) (hL : Rqs w lo hi so L) (hM : Rqs w lo2 hi2 so2 M) (h1 : hi ≤ w.heap.size) (h2 : hi2 ≤ w.heap.size) (hn : L.length + szs L ≤ 1048576) :
    Calls Try.prog 9 #[.slice so L.length sc, .slice so2 M.length sc2] w fun e w' => e = .returned (.bool true) ∧ Below w.heap.size w w' := by
  have hlen : M.length = L.length := by have := congrArg List.length hE; simpa using this
  rw [hlen]
  have hn' : (L.length : Int) ≤ 1048576 := by omega
  have HE := hideP hE
  have HL := hideP hL
  have HM := hideP hM
  clear hE hL hM hlen
  go_enter Try.func9, Try.ntmps9
  go_wp2
  go_loopw [5] (fun i wr => ∃ X Y : List Rq, X ++ Y = L ∧ i = .int .i64 (X.length : Nat) ∧ Below w.heap.size w wr) (fun i _ => L.length - (intOf i).toNat)
  case atStart => exact ⟨[], L, rfl, rfl, Below.refl _ _⟩
  case round =>
    obtain ⟨X, Y, hXY, rfl, kb⟩ := hrel
    have hlen : X.length + Y.length = L.length := by rw [← hXY]; simp
    have hz := kb.size
    cases Y with
    | cons r Y =>
      have hlt : (X.length : Int) < (L.length : Int) := by simp at hlen; omega
      have hsz : r.A.length + r.D.length ≤ szs L := szs_mem (r := r) (by rw [← hXY]; simp)
      have h0 := HL.out
      have e0 := HE.out
      rw [← hXY] at h0 e0
      obtain ⟨Z, V, s, hMe, hZ, sk, sA, sD⟩ := ct_at e0
      have m0 := HM.out
      rw [hMe] at m0
      obtain ⟨g, o, rfl, hg, hc, hon⟩ := Rqs.at h0
      obtain ⟨g2, o2, rfl, hg2, hc2, hon2⟩ := Rqs.at m0
      obtain ⟨a0, a1, a2⟩ := IsReq.keep hc kb (by omega)
      obtain ⟨b0, b1, b2⟩ := IsReq.keep hc2 kb (by omega)
      rw [hZ] at b0 b1 b2
      have hgl : g < wr.heap.size := by omega
      have hgl2 : g2 < wr.heap.size := by omega
      have HB := hideP kb
      have HXY := hideP hXY
      obtain ⟨rA, rD⟩ := hon
      obtain ⟨qA, qD⟩ := hon2
      obtain ⟨k, ao, ca, A, bo, cb, D⟩ := r
      obtain ⟨k2, ao2, ca2, A2, bo2, cb2, D2⟩ := s
      simp only at sk sA sD rA rD qA qD a0 a1 a2 b0 b1 b2 hsz
      subst sk sA sD
      have EQ := hideP (fun w1 (kk : Kept wr w1) => eqR_same lo hi lo2 hi2 k2 ao bo ao2 bo2 ca cb ca2 cb2 A2 D2 w1 (rA.keep (HB.out.trans (Below.mono kk hz)) h1) (rD.keep (HB.out.trans (Below.mono kk hz)) h1) (qA.keep (HB.out.trans (Below.mono kk hz)) h2) (qD.keep (HB.out.trans (Below.mono kk hz)) h2) (by have := Below.size kk; omega) (by have := Below.size kk; omega) (by omega) (by omega))
      clear h0 e0 m0 hc hc2 kb hXY hMe rA rD qA qD HL HM HE
      go_wp2
      refine wp_region_kept (by kernel_rfl) (by kernel_rfl) ?_
      repeat (refine kept_step (by rfl) ?_; apply Exists.intro; refine ⟨fun w1 k1 => ?_, fun K hK => ?_⟩; (focus (have hc := Kept.cell k1; go_simp; first | done | rfl | (go_at_call 19; exact kept_call k1 (EQ.out _ k1)))); (go_simp; refine hK _ ?_; clear hK K))
      refine wpQuiet_nil ?_
      intro w6 k6
      replace k6 := Kept.below k6
      have hc6 := Kept.cell k6
      have hf6 := Kept.frozen k6
      have hz6 := k6.size
      try simp only [World.size_alloc] at hz6
      try simp only [World.size_setCell] at hz6
      try simp only [World.size_drew] at hz6
      try (first | have hs6 := sz12 hz6 | have hs6 := sz11 hz6 | have hs6 := sz10 hz6 | have hs6 := sz9 hz6 | have hs6 := sz8 hz6 | have hs6 := sz7 hz6 | have hs6 := sz6 hz6 | have hs6 := sz5 hz6 | have hs6 := sz4 hz6 | have hs6 := sz3 hz6 | have hs6 := sz2 hz6 | have hs6 := sz1 hz6)
      go_wp2
      go_roundw
      case rel => exact ⟨X ++ [⟨k2, ao, ca, A2, bo, cb, D2⟩], Y, mid_in HXY.out, by simp, HB.out.trans (k6.mono HB.out.size)⟩
      case measure => simp [intOf]; omega
    | nil =>
      have HB := hideP kb
      have hX : X = L := by simpa using hXY
      subst hX
      clear kb hXY
      go_wp2
      go_returns
      exact ⟨rfl, HB.out⟩
end Go.Proofs.Ytbceacnadkhdoac
