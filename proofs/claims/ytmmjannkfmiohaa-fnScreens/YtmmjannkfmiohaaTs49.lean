/- FnScreens: the mathematics; what its walk carries along. OwnOf, the program's and the model's; the model's DropOwn. Lists of ids: those of a slot alone, and those of others; what is free there. Mathematics; lwNums; what FnIds draws. -/
import Derived.Test.YtmmjannkfmiohaaTs31
import Derived.Test.YtmmjannkfmiohaaTs46
import Derived.Test.YtmmjannkfmiohaaTs47
import Derived.Test.YtmmjannkfmiohaaTs48
import Derived.Test.YtmmjannkfmiohaaTs18
import Derived.Test.YtmmjannkfmiohaaTs23
namespace Go.Proofs.Ytmmjannkfmiohaa
open Go.RowKit Go.Maps
set_option linter.unusedVariables false

theorem pts_all : ((List.range 84).all fun j => (rowsPts 0 1 12 7)[j]? == some ((((j + 12) % 12 : Nat) : Int), (((j + 12) / 12 : Nat) : Int))) = true := by kernel_rfl
theorem pts_at {i : Nat} (h : 12 ≤ i) (h2 : i < 96) : (ptsOf stripR)[i - 12]? = some (((i % 12 : Nat) : Int), ((i / 12 : Nat) : Int)) := by
  have h1 := List.all_eq_true.1 pts_all (i - 12) (List.mem_range.2 (by omega))
  have e : i - 12 + 12 = i := by omega
  rw [e] at h1
  rw [pts_strip]
  simpa using h1
theorem pts_lenS : (ptsOf stripR).length = 84 := by rw [pts_strip, rowsPts_len]
theorem at_pts {A : List Int} {f : Int × Int → Int} {i : Nat} (hA : A.length = 12) (h : 12 ≤ i) (h2 : i < 96) : (A ++ (ptsOf stripR).map f)[i]? = some (f (((i % 12 : Nat) : Int), ((i / 12 : Nat) : Int))) := by
  rw [List.getElem?_append_right (by omega), hA, List.getElem?_map, pts_at h h2]
  rfl
structure ScrOk (C : List Wc) (LL : List La) (A : List Int) : Prop where
  st : stF C = 0
  la : laF LL = 0
  len : A.length = 12
  s : scrL C LL A = scrC C LL A
  o : oscL C = ownC C
theorem scr_ok {C : List Wc} {LL : List La} {A : List Int} (h : scrZ C LL A = 0) : ScrOk C LL A := by
  have hs := scrL_yes h
  by_cases h1 : stF C = 0
  · by_cases h2 : laF LL = 0
    · by_cases h3 : A.length = 12
      · exact ⟨h1, h2, h3, hs, oscL_yes h1⟩
      · rw [scrZ_len h1 h2 h3] at h; exact absurd h (by decide)
    · rw [scrZ_la h1 h2] at h; exact absurd h h2
  · rw [scrZ_st h1] at h; exact absurd h h1
theorem scrC_lenS {C : List Wc} {LL : List La} {A : List Int} (h : A.length = 12) : (scrC C LL A).length = 96 := by unfold scrC; rw [List.length_append, List.length_map, pts_lenS, h]
theorem scrC_at {C : List Wc} {LL : List La} {A : List Int} {i : Nat} (hA : A.length = 12) (h : 12 ≤ i) (h2 : i < 96) : (scrC C LL A)[i]? = some (scrP LL C (((i % 12 : Nat) : Int), ((i / 12 : Nat) : Int))) := at_pts hA h h2
theorem ownC_at {C : List Wc} {i : Nat} (h : 12 ≤ i) (h2 : i < 96) : (ownC C)[i]? = some (ownP C (((i % 12 : Nat) : Int), ((i / 12 : Nat) : Int))) := at_pts (by simp) h h2
theorem own_top {C : List Wc} {x y : Int} (h : stF C = 0) : ownP C (x, y) = topV C x y := by unfold ownP topV; rw [if_pos h]
theorem ids_pos {L : List Wn} (h : stF (L.map Wn.ct) = 0) : ∀ k (hk : k < L.length), L[k].i ≠ 0 := by
  intro k hk e
  obtain ⟨h3, h4⟩ := idsF_ok (stF_ok h).1
  rw [mapI] at h3
  have := okId_iff.1 (h3 L[k].i (List.mem_map_of_mem (List.getElem_mem hk)))
  omega
theorem ids_one {L : List Wn} (h : stF (L.map Wn.ct) = 0) {j k : Nat} (hj : j < L.length) (hk : k < L.length) (e : L[j].i = L[k].i) : j = k := by
  obtain ⟨h3, h4⟩ := idsF_ok (stF_ok h).1
  rw [mapI] at h4
  have hp := List.pairwise_iff_getElem.1 h4
  rcases Nat.lt_trichotomy j k with h | h | h
  · exact absurd (by rw [List.getElem_map, List.getElem_map]; exact e) (hp j k (by simpa using hj) (by simpa using hk) h)
  · exact h
  · exact absurd (by rw [List.getElem_map, List.getElem_map]; exact e.symm) (hp k j (by simpa using hk) (by simpa using hj) h)
theorem stF_eachS {C : List Wc} (h : stF C = 0) {c : Wc} (hc : c ∈ C) : stF [c] = 0 := by
  obtain ⟨h1, h2⟩ := stF_ok h
  obtain ⟨a, b⟩ := idsF_ok h1
  have : idsF ([c].map Wc.i) = 0 := idsF_mk (by simp) (fun x hx => by simp at hx; subst hx; exact a _ (List.mem_map_of_mem hc)) (by simp)
  rw [stF_ws this]
  exact wsF_all fun t ht => by simp at ht; subst ht; exact wsF_mem h2 _ hc
/-- The window that is at the top there. -/
structure TopS (L : List Wn) (LL : List La) (x y : Int) (m : Nat) (s : Nat) : Prop where
  lt : m < L.length
  one : ∀ k (hk : k < L.length), L[k].i = L[m].i → k = m
  id : L[m].i ≠ 0
  good : Good L[m] x y
  top : topV (L.map Wn.ct) x y = L[m].i
  scr : scrP LL (L.map Wn.ct) (x, y) = if y = L[m].y then 256 + ((LL.getD s ⟨0, 0⟩).l * 16 + (LL.getD s ⟨0, 0⟩).p) else celV L[m].ct (x - L[m].x) (y - L[m].y)
  sl : (s : Int) = L[m].i / 64
  s4 : s < 4
theorem top_cases {L : List Wn} {LL : List La} {x y : Int} (h : stF (L.map Wn.ct) = 0) : (topV (L.map Wn.ct) x y = 0 ∧ scrP LL (L.map Wn.ct) (x, y) = 0) ∨ ∃ m s, TopS L LL x y m s := by
  rcases top_or x y L with hno | ⟨A, r, B, ht⟩
  · exact .inl ⟨(top_none h hno).2, scrP_none hno⟩
  · right
    have hG := good_of h ht
    have hlt : A.length < L.length := by rw [ht.eq]; simp
    have hr : L[A.length] = r := by simp [ht.eq]
    obtain ⟨s, hs1, hs2⟩ := slot_at hG.id
    refine ⟨A.length, s, hlt, fun k hk e => ids_one h hk hlt e, ids_pos h _ hlt, by rw [hr]; exact hG, by rw [hr]; exact (top_some h ht).2, ?_, by rw [hr]; exact hs1, hs2⟩
    rw [hr, scrP_some ht]
    unfold celS
    have e1 : r.ct.y = r.y := rfl
    have e2 : r.ct.i = r.i := rfl
    have e3 : r.ct.x = r.x := rfl
    rw [e1, e2]
    by_cases e : y = r.y
    · rw [if_pos e, if_pos e]
      unfold bansV
      rw [← hs1, Int.toNat_natCast]
    · rw [if_neg e, if_neg e]
      have hc : r.ct ∈ L.map Wn.ct := List.mem_map_of_mem (by rw [ht.eq]; simp)
      exact (cel_in (stF_eachS h hc) hG.own).2.symm

/-- What stands in memory in the rounds. -/
structure SA (w W : World) (so la : Option Addr) (g1 g2 : Nat) (L : List Wn) (LL : List La) (S O : List Int) (b6 b9 c1 c2 : Nat) : Prop where
  kw : Below w.heap.size w W
  l : Ws W 0 W.heap.size so L
  a : Las W 0 W.heap.size la LL
  x : Rb W b6 (.int .i64 0) (.slice (some ⟨g1, 0, none⟩) 96 c1)
  s : OwI W 0 g1 c1 S
  y : Rb W b9 (.int .i64 0) (.slice (some ⟨g2, 0, none⟩) 96 c2)
  o : OwI W 0 g2 c2 O
theorem OwI.keep {w w' : World} {base g cap B : Nat} {L : List Int} (h : OwI w base g cap L) (k : Below B w w') (hb : g < B) : OwI w' base g cap L :=
  ⟨fun i hi => (k.cell (p := ⟨g, i, none⟩) hb).trans (h.c i hi), fun c => (k.frozen (p := ⟨g, c, none⟩) hb).trans (h.fr c), h.lo, Nat.lt_of_lt_of_le h.lt k.size, h.room⟩
theorem Ws.upS {w w' : World} {so : Option Addr} {L : List Wn} (h : Ws w 0 w.heap.size so L) (k : Below w.heap.size w w') : Ws w' 0 w'.heap.size so L := (h.keep k (Nat.le_refl _)).wide (Nat.le_refl _) k.size
theorem Las.upS {w w' : World} {so : Option Addr} {L : List La} (h : Las w 0 w.heap.size so L) (k : Below w.heap.size w w') : Las w' 0 w'.heap.size so L := (h.keep k (Nat.le_refl _)).wide (Nat.le_refl _) k.size
theorem Row.upS {kd : IntKind} {w w' : World} {so : Option Addr} {L : List Int} (h : Row kd w 0 w.heap.size so L) (k : Below w.heap.size w w') : Row kd w' 0 w'.heap.size so L := (h.keep k (Nat.le_refl _)).wide (Nat.le_refl _) k.size
theorem SA.keep {w W W' : World} {so la : Option Addr} {g1 g2 : Nat} {L : List Wn} {LL : List La} {S O : List Int} {b6 b9 c1 c2 : Nat} (h : SA w W so la g1 g2 L LL S O b6 b9 c1 c2) (k : Below W.heap.size W W') : SA w W' so la g1 g2 L LL S O b6 b9 c1 c2 :=
  ⟨h.kw.trans (k.mono h.kw.size), h.l.upS k, h.a.upS k, h.x.keep k h.x.lt, h.s.keep k h.s.lt, h.y.keep k h.y.lt, h.o.keep k h.o.lt⟩
theorem OwI.pre {w : World} {g cap : Nat} {A M : List Int} (h : OwI w 0 g cap (A ++ M)) : Row .i64 w 0 w.heap.size (some ⟨g, 0, none⟩) A :=
  .inr ⟨g, 0, rfl, Nat.zero_le _, h.lt, fun i hi => by rw [Nat.zero_add, h.c i (by simp; omega), List.getElem_append_left hi]⟩
theorem OwI.at {w : World} {base g cap i : Nat} {L : List Int} {v : Int} (h : OwI w base g cap L) (e : L[i]? = some v) : w.cell? ⟨g, i, none⟩ = some (.int .i64 v) := by
  obtain ⟨hi, he⟩ := List.getElem?_eq_some_iff.1 e
  rw [h.c i hi, he]
end Go.Proofs.Ytmmjannkfmiohaa

namespace Go.Proofs.Ytmmjannkfmiohaa
open Go.RowKit Go.Maps
set_option linter.unusedVariables false
attribute [local go_sem high] fI0 fI1

/-- The lists of OwnOf and DropOwn. -/
def owL (L : List Int) (s : Int) : List Int := if askF L s = 0 then ownL L s else []
def ofL (L : List Int) (s : Int) : List Int := if askF L s = 0 then offL L s else []
theorem owL_yes {L : List Int} {s : Int} (h : askF L s = 0) : owL L s = ownL L s := by unfold owL; rw [if_pos h]
theorem owL_no {L : List Int} {s : Int} (h : ¬ askF L s = 0) : owL L s = [] := by unfold owL; rw [if_neg h]
theorem ofL_yes {L : List Int} {s : Int} (h : askF L s = 0) : ofL L s = offL L s := by unfold ofL; rw [if_pos h]
theorem ofL_no {L : List Int} {s : Int} (h : ¬ askF L s = 0) : ofL L s = [] := by unfold ofL; rw [if_neg h]
theorem owL_len (L : List Int) (s : Int) : (owL L s).length ≤ L.length := by
  unfold owL; split
  · exact ownL_len _ _
  · simp
theorem ofL_len (L : List Int) (s : Int) : (ofL L s).length ≤ L.length := by
  unfold ofL; split
  · exact offL_len _ _
  · simp

/-- What OwnOf and DropOwn answer: a code, and a list in memory of its own. -/
def IsS (w : World) (c : Int) (M : List Int) (e : Ending) (w' : World) : Prop :=
  ∃ ao' cap', e = .returned (.agg #[.int .i64 c, .slice ao' M.length cap']) ∧ OwnR .i64 2 w' w.heap.size ao' cap' M ∧ Below w.heap.size w w'

end Go.Proofs.Ytmmjannkfmiohaa

namespace Go.Proofs.Ytmmjannkfmiohaa
open Go.RowKit
set_option linter.unusedVariables false

theorem own_len_off (L : List Int) (s : Int) : (ownL L s).length + (offL L s).length = L.length := by
  induction L with
  | nil => rfl
  | cons x r ih =>
    unfold ownL offL at ih ⊢
    rw [List.filter_cons, List.filter_cons]
    cases h : slV x == s
    · simp only [Bool.not_false, if_true, Bool.false_eq_true, if_false, List.length_cons]; omega
    · simp only [Bool.not_true, if_true, Bool.false_eq_true, if_false, List.length_cons]; omega
theorem idsF_own {L : List Int} {s : Int} (h : idsF L = 0) : idsF (ownL L s) = 0 := by
  obtain ⟨a, b⟩ := idsF_ok h
  exact idsF_mk (Nat.le_trans (ownL_len L s) (idsF_len h)) (fun x hx => a x (List.mem_filter.1 hx).1) (b.filter _)
theorem idsF_off {L : List Int} {s : Int} (h : idsF L = 0) : idsF (offL L s) = 0 := by
  obtain ⟨a, b⟩ := idsF_ok h
  exact idsF_mk (Nat.le_trans (offL_len L s) (idsF_len h)) (fun x hx => a x (List.mem_filter.1 hx).1) (b.filter _)
theorem id_of {s i : Int} (h0 : 0 ≤ s) (h3 : s ≤ 3) (i1 : 1 ≤ i) (i3 : i ≤ 3) : okId (64 * s + i) = true ∧ slV (64 * s + i) = s := by
  have h : okId (64 * s + i) = true := okId_iff.2 (by omega)
  exact ⟨h, by rw [slV_yes h]; omega⟩
theorem has_own {L : List Int} {s i : Int} (h0 : 0 ≤ s) (h3 : s ≤ 3) (i1 : 1 ≤ i) (i3 : i ≤ 3) : (ownL L s).contains (64 * s + i) = L.contains (64 * s + i) := by
  rw [Bool.eq_iff_iff]
  simp [ownL, (id_of h0 h3 i1 i3).2]
theorem has_off {L : List Int} {s i : Int} (h0 : 0 ≤ s) (h3 : s ≤ 3) (i1 : 1 ≤ i) (i3 : i ≤ 3) : (offL L s).contains (64 * s + i) = false := by
  rw [Bool.eq_false_iff]
  simp [offL, (id_of h0 h3 i1 i3).2]
theorem nxt_own {L : List Int} {s : Int} (h0 : 0 ≤ s) (h3 : s ≤ 3) : nxt (ownL L s) s = nxt L s := by
  unfold nxt
  rw [has_own h0 h3 (by omega) (by omega), has_own h0 h3 (by omega) (by omega), has_own h0 h3 (by omega) (by omega)]
theorem nxt_off {L : List Int} {s : Int} (h0 : 0 ≤ s) (h3 : s ≤ 3) : nxt (offL L s) s = 64 * s + 1 := by
  unfold nxt
  rw [has_off h0 h3 (by omega) (by omega)]
  rfl
theorem nxt_free {L : List Int} {s : Int} (h0 : 0 ≤ s) (h3 : s ≤ 3) (h : nxt L s ≠ -1) : nxt L s ∉ L ∧ okId (nxt L s) = true ∧ slV (nxt L s) = s := by
  unfold nxt at h ⊢
  cases b1 : L.contains (64 * s + 1)
  · simp only [Bool.false_eq_true, if_false]
    exact ⟨by simpa using b1, id_of h0 h3 (by omega) (by omega)⟩
  · cases b2 : L.contains (64 * s + 2)
    · simp only [Bool.false_eq_true, if_false, if_true]
      exact ⟨by simpa using b2, id_of h0 h3 (by omega) (by omega)⟩
    · cases b3 : L.contains (64 * s + 3)
      · simp only [Bool.false_eq_true, if_false, if_true]
        exact ⟨by simpa using b3, id_of h0 h3 (by omega) (by omega)⟩
      · rw [b1, b2, b3] at h
        exact absurd rfl h

set_option maxHeartbeats 1000000 in
theorem nums_same (lo hi lo2 hi2 : Nat) (ao bo : Option Addr) (ca cb : Nat) (L : List Int) (w : World) (ha : Row .i64 w lo hi ao L) (hb : Row .i64 w lo2 hi2 bo L) (h1 : hi ≤ w.heap.size) (h2 : hi2 ≤ w.heap.size) (hl : L.length ≤ 1048576) :
    Calls Try.prog 15 #[.slice ao L.length ca, .slice bo L.length cb] w fun e w' => e = .returned (.bool true) ∧ Below w.heap.size w w' := by
  have hl' : (L.length : Int) ≤ 1048576 := by omega
  have HA := hideP ha
  have HB := hideP hb
  clear ha hb
  go_enter Try.func15, Try.ntmps15
  go_wp2
  go_loopw [5] (fun i wr => ∃ k : Nat, k ≤ L.length ∧ i = .int .i64 k ∧ Below w.heap.size w wr) (fun i _ => L.length - (intOf i).toNat)
  case atStart => exact ⟨0, Nat.zero_le _, rfl, Below.refl _ _⟩
  case round =>
    obtain ⟨k, hk, rfl, hbel⟩ := hrel
    have hz := hbel.size
    by_cases hlt : k < L.length
    · have hlt' : (k : Int) < (L.length : Int) := by omega
      have hne : L ≠ [] := fun e => by rw [e] at hlt; simp at hlt
      rcases HA.out with e | ⟨g, o, rfl, _, hg, hc⟩
      · exact absurd e hne
      rcases HB.out with e | ⟨g', o', rfl, _, hg', hc'⟩
      · exact absurd e hne
      have a0 := (hbel.cell (p := ⟨g, o + k, none⟩) (by show g < _; omega)).trans (hc k hlt)
      have b0 := (hbel.cell (p := ⟨g', o' + k, none⟩) (by show g' < _; omega)).trans (hc' k hlt)
      have hgl : g < wr.heap.size := by omega
      have hgl' : g' < wr.heap.size := by omega
      have HBel := hideP hbel
      clear hc hc' hbel HA HB
      generalize L[k] = x at *
      go_wp2
      refine wp_region_kept (by kernel_rfl) (by kernel_rfl) ?_
      repeat (refine kept_step (by rfl) ?_; apply Exists.intro; refine ⟨fun w1 k1 => ?_, fun K hK => ?_⟩; (focus (have hc := Kept.cell k1; go_simp; first | done | rfl)); (go_simp; refine hK _ ?_; clear hK K))
      refine wpQuiet_nil ?_
      intro w5 k5
      replace k5 := Kept.below k5
      have hc5 := Kept.cell k5
      have hf5 := Kept.frozen k5
      have hz5 := k5.size
      try simp only [World.size_alloc] at hz5
      try simp only [World.size_setCell] at hz5
      try simp only [World.size_drew] at hz5
      try (first | have hs5 := sz12 hz5 | have hs5 := sz11 hz5 | have hs5 := sz10 hz5 | have hs5 := sz9 hz5 | have hs5 := sz8 hz5 | have hs5 := sz7 hz5 | have hs5 := sz6 hz5 | have hs5 := sz5 hz5 | have hs5 := sz4 hz5 | have hs5 := sz3 hz5 | have hs5 := sz2 hz5 | have hs5 := sz1 hz5)
      go_wp2
      go_roundw
      case rel => exact ⟨k + 1, by omega, by go_num, HBel.out.trans (k5.mono HBel.out.size)⟩
      case measure => simp [intOf]; omega
    · have HBel := hideP hbel
      clear hbel
      go_wp2
      go_returns
      exact ⟨rfl, HBel.out⟩

set_option maxHeartbeats 400000 in
theorem big5 (w : World) (a : Option Addr) (len cap : Nat) (hl : len ≤ maxLen) :
    Calls Try.prog 4 #[.slice a len cap] w fun e w' => e = .returned (.bool (decide ((1048576 : Int) < (len : Int)))) ∧ w' = w := by
  go_enter Try.func4, Try.ntmps4
  go_wp2
  go_returns
  exact ⟨rfl, rfl⟩

theorem Src.new5 (w W : World) (b : Nat) (a : Option Addr) (len cap : Nat) (f : Nat → Int) (T : TypeId) (hB : Bytes w w.heap.size a len f) (hl : len ≤ 1048576) (hW : Below w.heap.size w W) (hb : b = W.heap.size) :
    Src (W.alloc (.cells #[.slice a len cap, .int .i64 0] T)) w.heap.size b a len cap f 0 := by
  subst hb
  exact ⟨by simp, hW.size, by simp [go_sem], by simp [go_sem], by simp [go_sem], hB.stay (Nat.le_refl _) (Turn.of_below (b := w.heap.size) (hW.alloc hW.size _)) (Nat.le_refl _), hl⟩

/-- Ids and a slot were drawn. -/
def DrawS (w : World) (e : Ending) (w' : World) : Prop :=
  ∃ (ao : Option Addr) (ca : Nat) (L : List Int) (s : Int), e = .returned (.tuple #[.slice ao L.length ca, .int .i64 s]) ∧ L.length ≤ 13 ∧ L.length ≤ ca ∧ 0 ≤ s ∧ s ≤ 4 ∧ Below w.heap.size w w' ∧ Row .i64 w' w.heap.size w'.heap.size ao L

end Go.Proofs.Ytmmjannkfmiohaa
