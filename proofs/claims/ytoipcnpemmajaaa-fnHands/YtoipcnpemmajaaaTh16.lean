/- Panes taken out: whether one is meant, the first one, and the row behind it. Copies of stacks, in whatever later world. StackFault: the law's walk. The input: whether a focus is one, its fault, a focus that is lost: by the program and by the model. -/
import Derived.Test.YtoipcnpemmajaaaTh15
import Derived.Laws.CopyRow
import Derived.Lib.SliceRun
import Derived.Test.YtoipcnpemmajaaaTh14
import Derived.Test.YtoipcnpemmajaaaTh13
namespace Go.Proofs.Ytoipcnpemmajaaa
open Go.RowKit Go.Maps
set_option linter.unusedVariables false

/-- A block of so many cells of one kind. -/
def Blk (w : World) (g : Nat) (T : TypeId) (m : Nat) : Prop := ∃ cur, w.heap[g]? = some (.cells cur T (0, 0)) ∧ cur.size = m
theorem Blk.set {w : World} {g m : Nat} {T : TypeId} (h : Blk w g T m) (b o : Nat) (v : Value) : Blk (w.setCell ⟨b, o, none⟩ v) g T m := by
  obtain ⟨cur, h, hs⟩ := h
  by_cases e : b = g
  · subst e
    exact ⟨_, heap_setCell_same w b o cur T v h, by simpa using hs⟩
  · exact ⟨cur, (heap_setCell_other w ⟨b, o, none⟩ g v (by simpa using fun h => e h.symm)).trans h, hs⟩
theorem Blk.keep {w w' : World} {g m : Nat} {T : TypeId} (h : Blk w g T m) (k : Below w.heap.size w w') : Blk w' g T m := by
  obtain ⟨cur, h, hs⟩ := h
  exact ⟨cur, (k.block g (Array.getElem?_eq_some_iff.1 h).1).trans h, hs⟩
theorem Blk.lt {w : World} {g m : Nat} {T : TypeId} (h : Blk w g T m) : g < w.heap.size := by
  obtain ⟨cur, h, hs⟩ := h
  exact (Array.getElem?_eq_some_iff.1 h).1
theorem OwnV.blk {V : Wn → List Value} {T : TypeId} {w : World} {base g c : Nat} {L : List Wn} (h : OwnV V T w base (some ⟨g, 0, none⟩) c L) : Blk w g T (c * 7) ∧ L.length ≤ c ∧ c ≤ maxLen ∧ base ≤ g := by
  rcases h.2 with ⟨hv, _⟩ | ⟨g', c', cur, hv, h1, h2, h3, h4, h5, _⟩
  · cases hv
  · cases hv
    exact ⟨⟨cur, h2, h5⟩, h3, h4, h1⟩
theorem OwnV.of {V : Wn → List Value} {T : TypeId} {w : World} {base g c : Nat} {L : List Wn} (hV : ∀ v, (V v).length = 7) (hb : Blk w g T (c * 7)) (hl : L.length ≤ c) (hm : c ≤ maxLen) (hg : base ≤ g) (hc : ∀ i (h : i < L.length), Cl V w g (i * 7) L[i]) : OwnV V T w base (some ⟨g, 0, none⟩) c L := by
  obtain ⟨cur, h, hs⟩ := hb
  refine ⟨vcs_len hV L, .inr ⟨g, c, cur, rfl, hg, h, hl, hm, hs, ?_⟩⟩
  apply List.ext_getElem?
  intro j
  by_cases hj : j < L.length * 7
  · have hi : j / 7 < L.length := by omega
    have h1 := hc (j / 7) hi (j % 7) (by omega)
    have h2 := vcs_at hV L (j / 7) hi (j % 7) (by omega)
    rw [show j / 7 * 7 + j % 7 = j by omega] at h1 h2
    rw [h2, ← h1, List.getElem?_take_of_lt hj]
    simp [World.cell?, h]
  · rw [List.getElem?_eq_none (by simp; omega), List.getElem?_eq_none (by rw [vcs_len hV]; omega)]

theorem first_in {I : List Int} {id : Int} (h : id ∈ I) : ∃ A B, I = A ++ id :: B ∧ ∀ x ∈ A, x ≠ id := by
  induction I with
  | nil => simp at h
  | cons x I ih =>
    by_cases e : x = id
    · exact ⟨[], I, by rw [e]; rfl, fun x h => by simp at h⟩
    · obtain ⟨A, B, hh, hA⟩ := ih (by rcases List.mem_cons.1 h with h | h; exact absurd h.symm e; exact h)
      refine ⟨x :: A, B, by rw [hh]; rfl, fun y hy => ?_⟩
      rcases List.mem_cons.1 hy with rfl | hy
      · exact e
      · exact hA y hy

set_option maxRecDepth 100000 in
set_option maxHeartbeats 400000 in
theorem contains_any (lo hi : Nat) (ao : Option Addr) (ca : Nat) (I : List Int) (id : Int) (w : World) (hI : Row .i64 w lo hi ao I) (hs : hi ≤ w.heap.size) (hn : I.length ≤ 1048576) :
    Calls Try.prog 69 #[.slice ao I.length ca, .int .i64 id] w fun e w' => e = .returned (.bool (hasI I id)) ∧ w' = w := by
  by_cases h : id ∈ I
  · obtain ⟨A, B, he, hA⟩ := first_in h
    have IX := hideP (index_some lo hi ao ca I A B id w hI hs hn he hA)
    have hc : hasI I id = true := by unfold hasI; simpa using h
    rw [hc]
    have h0 : (0 : Int) ≤ (A.length : Int) := by omega
    clear hI he hA h hc hn hs
    generalize I.length = n at *
    go_enter Try.func69, Try.ntmps69
    go_wp2_with fail
    refine Calls.mono IX.out ?_
    rintro e w1 ⟨rfl, rfl⟩
    go_wp2
    go_returns
    exact ⟨rfl, rfl⟩
  · have IX := hideP (index_none lo hi ao ca I id w hI hs hn (fun x hx e => h (e ▸ hx)))
    have hc : hasI I id = false := by unfold hasI; simpa using h
    rw [hc]
    clear hI h hc hn hs
    generalize I.length = n at *
    go_enter Try.func69, Try.ntmps69
    go_wp2_with fail
    refine Calls.mono IX.out ?_
    rintro e w1 ⟨rfl, rfl⟩
    go_wp2
    go_returns
    exact ⟨rfl, rfl⟩

end Go.Proofs.Ytoipcnpemmajaaa

namespace Go.Proofs.Ytoipcnpemmajaaa
open Go.RowKit
set_option linter.unusedVariables false

/-- Copies of a stack, in whatever later world. -/
def CopyW (so : Option Addr) (sc n : Nat) (C : List Wc) (z : Nat) (w : World) : Prop :=
  ∀ w1, Below w.heap.size w w1 → Calls Try.prog 28 #[.slice so n sc] w1 fun e w' => ∃ (s : Option Addr) (M : List Wn), e = .returned (.slice s n n) ∧ M.length = n ∧ wzs M = z ∧ M.map Wn.ct = C ∧ Wq Wn.vals w' w1.heap.size w'.heap.size s M ∧ Below w1.heap.size w1 w'
theorem copyW (lo hi : Nat) (so : Option Addr) (sc : Nat) (L : List Wn) (w : World) (hL : Ws w lo hi so L) (hs : hi ≤ w.heap.size) (hn : L.length + wzs L ≤ 1048576) : CopyW so sc L.length (L.map Wn.ct) (wzs L) w := fun w1 k =>
  (toWS_any lo hi so sc L w1 (hL.keep k hs) (Nat.le_trans hs k.size) hn).mono fun e w' ⟨s, M, he, hc, hq, hb⟩ => ⟨s, M, by rw [he, lenW hc], lenW hc, wzs_ct hc, hc, hq, hb⟩
theorem eqW_n (n z : Nat) {C : List Wc} {lo hi lo2 hi2 : Nat} {s t : Option Addr} {c d : Nat} {M N : List Wn} {w : World} (hl : M.length = n) (hz : wzs M = z) (hM : M.map Wn.ct = C) (hN : N.map Wn.ct = C) (h1 : Wq Wn.vals w lo hi s M) (h2 : Wq Wn.vals w lo2 hi2 t N) (hn : n + z ≤ 1048576) :
    Calls Try.prog 30 #[.slice s n c, .slice t n d] w fun e w' => e = .returned (.bool true) ∧ Below w.heap.size w w' := by
  have hh := eqWS_same lo hi lo2 hi2 s t c d M N w (hN.trans hM.symm) h1.ws h2.ws h1.hs h2.hs (by omega)
  have hN' : N.length = n := by rw [← hl]; exact lenW (hN.trans hM.symm)
  rw [hl, hN'] at hh
  exact hh
theorem szW_n {lo hi : Nat} {so : Option Addr} {sc : Nat} {L : List Wn} {w : World} (hL : Ws w lo hi so L) (hs : hi ≤ w.heap.size) (hn : L.length + wzs L ≤ 1048576) :
    Calls Try.prog 26 #[.slice so L.length sc, .int .i64 1048576] w fun e w' => e = .returned (.int .i64 (1048576 - ((L.length + wzs L : Nat) : Int))) ∧ Below w.heap.size w w' := by
  have SZ := szWS_any lo hi so sc L 1048576 w hL hs (by unfold maxLen; omega) (fun r hr => by have := wzs_mem hr; unfold maxLen; omega) (by omega) (by omega)
  rwa [szV_yes (by omega)] at SZ
end Go.Proofs.Ytoipcnpemmajaaa

namespace Go.Proofs.Ytoipcnpemmajaaa
open Go.RowKit Go.Maps
set_option linter.unusedVariables false

end Go.Proofs.Ytoipcnpemmajaaa

namespace Go.Proofs.Ytoipcnpemmajaaa
open Go.RowKit Go.Maps
set_option linter.unusedVariables false

/-- Whether that is a focus over that stack; the fault of an input; the focus behind LoseFocus. -/
def isFo (C : List Wc) (f : Int) : Bool := f == 0 || hasI (C.map Wc.i) f
def inpF (C : List Wc) (f : Int) : Int := if stF C = 0 then (if isFo C f then 0 else 4) else stF C
def loseF (C : List Wc) (f : Int) : Int := if stF C = 0 ∧ isFo C f = false then 0 else f
theorem isFo_map (L : List Wn) (f : Int) : isFo (L.map Wn.ct) f = (f == 0 || hasI (L.map Wn.i) f) := by unfold isFo; rw [mapI]
theorem hasI_mem (I : List Int) (f : Int) : hasI I f = true ↔ f ∈ I := by unfold hasI; simp

set_option maxRecDepth 100000 in
set_option maxHeartbeats 800000 in
theorem iFocus_any (lo hi : Nat) (so : Option Addr) (sc : Nat) (L : List Wn) (f : Int) (w : World) (hL : Ws w lo hi so L) (hs : hi ≤ w.heap.size) (hn : L.length + wzs L ≤ 1048576) :
    Calls Try.prog 39 #[.int .i64 f, .slice so L.length sc] w fun e w' => e = .returned (.bool (isFo (L.map Wn.ct) f)) ∧ Below w.heap.size w w' := by
  rw [isFo_map]
  by_cases h0 : f = 0
  · subst h0
    rw [show ((0 : Int) == 0 || hasI (L.map Wn.i) 0) = true from rfl]
    clear hL
    go_enter Try.func39, Try.ntmps39
    go_wp2
    go_returns
    exact ⟨rfl, Below.refl _ _⟩
  · have e0 : (f == 0) = false := by simpa using h0
    rw [e0, Bool.false_or]
    have ID := idsIn_any lo hi so sc L w hL hs (by omega)
    have hlI : (L.map Wn.i).length ≤ 1048576 := by simp; omega
    generalize L.map Wn.i = I at *
    have ID' := hideP ID
    clear ID hL hn
    go_enter Try.func39, Try.ntmps39
    go_wp2_with fail
    refine Calls.mono ID'.out ?_
    rintro e w1 ⟨ao, cap, rfl, O1, k1⟩
    have IX := hideP (contains_any w.heap.size w1.heap.size ao cap I f w1 (OwnR.wrt O1).row (Nat.le_refl _) hlI)
    have K1 := hideP k1
    clear k1 O1 ID'
    go_wp2_with fail
    refine Calls.mono IX.out ?_
    rintro e w2 ⟨rfl, rfl⟩
    go_wp2
    go_returns
    exact ⟨rfl, K1.out⟩

set_option maxRecDepth 100000 in
set_option maxHeartbeats 800000 in
theorem iInput_any (lo hi : Nat) (t : Bool) (f : Int) (so : Option Addr) (sc : Nat) (L : List Wn) (w : World) (hL : Ws w lo hi so L) (hs : hi ≤ w.heap.size) (hn : L.length + wzs L ≤ 1048576) :
    Calls Try.prog 15 #[.agg #[.bool t, .int .i64 f], .slice so L.length sc] w fun e w' => e = .returned (.int .i64 (inpF (L.map Wn.ct) f)) ∧ Below w.heap.size w w' := by
  have SF := fun w1 (kk : Below w.heap.size w w1) => iStack_any lo hi so sc L w1 (hL.keep kk hs) (Nat.le_trans hs kk.size) hn
  have FO := fun w1 (kk : Below w.heap.size w w1) => iFocus_any lo hi so sc L f w1 (hL.keep kk hs) (Nat.le_trans hs kk.size) hn
  obtain ⟨C, hC⟩ : ∃ C, L.map Wn.ct = C := ⟨_, rfl⟩
  obtain ⟨n, hnL⟩ : ∃ n, L.length = n := ⟨_, rfl⟩
  simp only [hC, hnL] at SF FO ⊢
  obtain ⟨F, hF⟩ : ∃ F, stF C = F := ⟨_, rfl⟩
  obtain ⟨b, hb⟩ : ∃ b, isFo C f = b := ⟨_, rfl⟩
  have hv : inpF C f = if F = 0 then (if b then 0 else 4) else F := by unfold inpF; rw [hF, hb]
  rw [hv]
  simp only [hF] at SF
  simp only [hb] at FO
  have SF' := hideP SF
  have FO' := hideP FO
  clear SF FO hv hb hF hC hnL hL hn
  by_cases h0 : F = 0
  · subst h0
    cases b
    all_goals
      go_enter Try.func15, Try.ntmps15
      go_wp2_with (first | (go_at_call 17; refine Calls.mono (SF'.out _ (by repeat' (first | (with_reducible exact Below.refl _ _) | (with_reducible refine kept_below ?_ (by assumption) ?_) | (with_reducible refine Below.alloc ?_ ?_ _) | (with_reducible refine Below.drew ?_) | (with_reducible refine Below.setCell ?_ ?_ _) | go_size))) ?_; (all_goals try (first | (with_reducible assumption) | omega)); rintro e w1 ⟨rfl, k1⟩; (try replace k1 := kept_join (by assumption) k1); have hc1 := Kept.cell k1; have hf1 := Kept.frozen k1; have hz1 := k1.size; (try simp only [World.size_alloc] at hz1); (try simp only [World.size_setCell] at hz1); (try simp only [World.size_drew] at hz1); (try (first | have hs1 := sz12 hz1 | have hs1 := sz11 hz1 | have hs1 := sz10 hz1 | have hs1 := sz9 hz1 | have hs1 := sz8 hz1 | have hs1 := sz7 hz1 | have hs1 := sz6 hz1 | have hs1 := sz5 hz1 | have hs1 := sz4 hz1 | have hs1 := sz3 hz1 | have hs1 := sz2 hz1 | have hs1 := sz1 hz1))) | (go_at_call 39; refine Calls.mono (FO'.out _ (by repeat' (first | (with_reducible exact Below.refl _ _) | (with_reducible refine kept_below ?_ (by assumption) ?_) | (with_reducible refine Below.alloc ?_ ?_ _) | (with_reducible refine Below.drew ?_) | (with_reducible refine Below.setCell ?_ ?_ _) | go_size))) ?_; (all_goals try (first | (with_reducible assumption) | omega)); rintro e w1 ⟨rfl, k1⟩; (try replace k1 := kept_join (by assumption) k1); have hc1 := Kept.cell k1; have hf1 := Kept.frozen k1; have hz1 := k1.size; (try simp only [World.size_alloc] at hz1); (try simp only [World.size_setCell] at hz1); (try simp only [World.size_drew] at hz1); (try (first | have hs1 := sz12 hz1 | have hs1 := sz11 hz1 | have hs1 := sz10 hz1 | have hs1 := sz9 hz1 | have hs1 := sz8 hz1 | have hs1 := sz7 hz1 | have hs1 := sz6 hz1 | have hs1 := sz5 hz1 | have hs1 := sz4 hz1 | have hs1 := sz3 hz1 | have hs1 := sz2 hz1 | have hs1 := sz1 hz1))))
      go_returns
      refine ⟨rfl, ?_⟩
      repeat' (first | (with_reducible exact Below.refl _ _) | (with_reducible refine kept_below ?_ (by assumption) ?_) | (with_reducible refine Below.alloc ?_ ?_ _) | (with_reducible refine Below.drew ?_) | (with_reducible refine Below.setCell ?_ ?_ _) | go_size)
  · have hne : (F != 0) = true := by simpa using h0
    rw [if_neg h0]
    go_enter Try.func15, Try.ntmps15
    go_wp2_with (first | (go_at_call 17; refine Calls.mono (SF'.out _ (by repeat' (first | (with_reducible exact Below.refl _ _) | (with_reducible refine kept_below ?_ (by assumption) ?_) | (with_reducible refine Below.alloc ?_ ?_ _) | (with_reducible refine Below.drew ?_) | (with_reducible refine Below.setCell ?_ ?_ _) | go_size))) ?_; (all_goals try (first | (with_reducible assumption) | omega)); rintro e w1 ⟨rfl, k1⟩; (try replace k1 := kept_join (by assumption) k1); have hc1 := Kept.cell k1; have hf1 := Kept.frozen k1; have hz1 := k1.size; (try simp only [World.size_alloc] at hz1); (try simp only [World.size_setCell] at hz1); (try simp only [World.size_drew] at hz1); (try (first | have hs1 := sz12 hz1 | have hs1 := sz11 hz1 | have hs1 := sz10 hz1 | have hs1 := sz9 hz1 | have hs1 := sz8 hz1 | have hs1 := sz7 hz1 | have hs1 := sz6 hz1 | have hs1 := sz5 hz1 | have hs1 := sz4 hz1 | have hs1 := sz3 hz1 | have hs1 := sz2 hz1 | have hs1 := sz1 hz1))) | (go_at_call 39; refine Calls.mono (FO'.out _ (by repeat' (first | (with_reducible exact Below.refl _ _) | (with_reducible refine kept_below ?_ (by assumption) ?_) | (with_reducible refine Below.alloc ?_ ?_ _) | (with_reducible refine Below.drew ?_) | (with_reducible refine Below.setCell ?_ ?_ _) | go_size))) ?_; (all_goals try (first | (with_reducible assumption) | omega)); rintro e w1 ⟨rfl, k1⟩; (try replace k1 := kept_join (by assumption) k1); have hc1 := Kept.cell k1; have hf1 := Kept.frozen k1; have hz1 := k1.size; (try simp only [World.size_alloc] at hz1); (try simp only [World.size_setCell] at hz1); (try simp only [World.size_drew] at hz1); (try (first | have hs1 := sz12 hz1 | have hs1 := sz11 hz1 | have hs1 := sz10 hz1 | have hs1 := sz9 hz1 | have hs1 := sz8 hz1 | have hs1 := sz7 hz1 | have hs1 := sz6 hz1 | have hs1 := sz5 hz1 | have hs1 := sz4 hz1 | have hs1 := sz3 hz1 | have hs1 := sz2 hz1 | have hs1 := sz1 hz1))))
    go_returns
    refine ⟨rfl, ?_⟩
    repeat' (first | (with_reducible exact Below.refl _ _) | (with_reducible refine kept_below ?_ (by assumption) ?_) | (with_reducible refine Below.alloc ?_ ?_ _) | (with_reducible refine Below.drew ?_) | (with_reducible refine Below.setCell ?_ ?_ _) | go_size)

set_option maxRecDepth 100000 in
set_option maxHeartbeats 800000 in
theorem iLose_any (lo hi : Nat) (t : Bool) (f : Int) (so : Option Addr) (sc : Nat) (L : List Wn) (w : World) (hL : Ws w lo hi so L) (hs : hi ≤ w.heap.size) (hn : L.length + wzs L ≤ 1048576) :
    Calls Try.prog 13 #[.agg #[.bool t, .int .i64 f], .slice so L.length sc] w fun e w' => e = .returned (.agg #[.bool t, .int .i64 (loseF (L.map Wn.ct) f)]) ∧ Below w.heap.size w w' := by
  have SF := fun w1 (kk : Below w.heap.size w w1) => iStack_any lo hi so sc L w1 (hL.keep kk hs) (Nat.le_trans hs kk.size) hn
  have FO := fun w1 (kk : Below w.heap.size w w1) => iFocus_any lo hi so sc L f w1 (hL.keep kk hs) (Nat.le_trans hs kk.size) hn
  obtain ⟨C, hC⟩ : ∃ C, L.map Wn.ct = C := ⟨_, rfl⟩
  obtain ⟨n, hnL⟩ : ∃ n, L.length = n := ⟨_, rfl⟩
  simp only [hC, hnL] at SF FO ⊢
  obtain ⟨F, hF⟩ : ∃ F, stF C = F := ⟨_, rfl⟩
  obtain ⟨b, hb⟩ : ∃ b, isFo C f = b := ⟨_, rfl⟩
  have hv : loseF C f = if F = 0 ∧ b = false then 0 else f := by unfold loseF; rw [hF, hb]
  rw [hv]
  simp only [hF] at SF
  simp only [hb] at FO
  have SF' := hideP SF
  have FO' := hideP FO
  clear SF FO hv hb hF hC hnL hL hn
  by_cases h0 : F = 0
  · subst h0
    cases b
    · rw [if_pos ⟨rfl, rfl⟩]
      go_enter Try.func13, Try.ntmps13
      go_wp2_with (go_at_call 17; refine Calls.mono (SF'.out _ (by repeat' (first | (with_reducible exact Below.refl _ _) | (with_reducible refine kept_below ?_ (by assumption) ?_) | (with_reducible refine Below.alloc ?_ ?_ _) | (with_reducible refine Below.drew ?_) | (with_reducible refine Below.setCell ?_ ?_ _) | go_size))) ?_; (all_goals try (first | (with_reducible assumption) | omega)); rintro e w1 ⟨rfl, k1⟩; (try replace k1 := kept_join (by assumption) k1); have hc1 := Kept.cell k1; have hf1 := Kept.frozen k1; have hz1 := k1.size; (try simp only [World.size_alloc] at hz1); (try simp only [World.size_setCell] at hz1); (try simp only [World.size_drew] at hz1); (try (first | have hs1 := sz12 hz1 | have hs1 := sz11 hz1 | have hs1 := sz10 hz1 | have hs1 := sz9 hz1 | have hs1 := sz8 hz1 | have hs1 := sz7 hz1 | have hs1 := sz6 hz1 | have hs1 := sz5 hz1 | have hs1 := sz4 hz1 | have hs1 := sz3 hz1 | have hs1 := sz2 hz1 | have hs1 := sz1 hz1)))
      refine Calls.mono (FO'.out _ (by repeat' (first | (with_reducible exact Below.refl _ _) | (with_reducible refine kept_below ?_ (by assumption) ?_) | (with_reducible refine Below.alloc ?_ ?_ _) | (with_reducible refine Below.drew ?_) | (with_reducible refine Below.setCell ?_ ?_ _) | go_size))) ?_
      rintro e w2 ⟨rfl, k2⟩
      replace k2 := kept_join k1 k2
      have hz2 := k2.size
      simp only [World.size_alloc] at hz2
      have hc1 := Kept.cell k2
      have hf2 := Kept.frozen k2
      have z0 := hc1 w.heap.size 0 (by simp; omega)
      have z1 := hc1 w.heap.size 1 (by simp; omega)
      simp at z0 z1
      have x0 := hc1 (w.heap.size + 1) 0 (by simp)
      have x1 := hc1 (w.heap.size + 1) 1 (by simp)
      simp at x0 x1
      go_wp2
      refine bodyPost_ret (v := .agg #[.bool t, .int .i64 0]) (by simp [results, Try.results13, go_sem, x0, x1]) rfl ⟨rfl, ?_⟩
      repeat' (first | (with_reducible exact Below.refl _ _) | (with_reducible refine kept_below ?_ (by assumption) ?_) | (with_reducible refine Below.alloc ?_ ?_ _) | (with_reducible refine Below.drew ?_) | (with_reducible refine Below.setCell ?_ ?_ _) | go_size)
    · rw [if_neg (by simp)]
      go_enter Try.func13, Try.ntmps13
      go_wp2_with (first | (go_at_call 17; refine Calls.mono (SF'.out _ (by repeat' (first | (with_reducible exact Below.refl _ _) | (with_reducible refine kept_below ?_ (by assumption) ?_) | (with_reducible refine Below.alloc ?_ ?_ _) | (with_reducible refine Below.drew ?_) | (with_reducible refine Below.setCell ?_ ?_ _) | go_size))) ?_; (all_goals try (first | (with_reducible assumption) | omega)); rintro e w1 ⟨rfl, k1⟩; (try replace k1 := kept_join (by assumption) k1); have hc1 := Kept.cell k1; have hf1 := Kept.frozen k1; have hz1 := k1.size; (try simp only [World.size_alloc] at hz1); (try simp only [World.size_setCell] at hz1); (try simp only [World.size_drew] at hz1); (try (first | have hs1 := sz12 hz1 | have hs1 := sz11 hz1 | have hs1 := sz10 hz1 | have hs1 := sz9 hz1 | have hs1 := sz8 hz1 | have hs1 := sz7 hz1 | have hs1 := sz6 hz1 | have hs1 := sz5 hz1 | have hs1 := sz4 hz1 | have hs1 := sz3 hz1 | have hs1 := sz2 hz1 | have hs1 := sz1 hz1))) | (go_at_call 39; refine Calls.mono (FO'.out _ (by repeat' (first | (with_reducible exact Below.refl _ _) | (with_reducible refine kept_below ?_ (by assumption) ?_) | (with_reducible refine Below.alloc ?_ ?_ _) | (with_reducible refine Below.drew ?_) | (with_reducible refine Below.setCell ?_ ?_ _) | go_size))) ?_; (all_goals try (first | (with_reducible assumption) | omega)); rintro e w1 ⟨rfl, k1⟩; (try replace k1 := kept_join (by assumption) k1); have hc1 := Kept.cell k1; have hf1 := Kept.frozen k1; have hz1 := k1.size; (try simp only [World.size_alloc] at hz1); (try simp only [World.size_setCell] at hz1); (try simp only [World.size_drew] at hz1); (try (first | have hs1 := sz12 hz1 | have hs1 := sz11 hz1 | have hs1 := sz10 hz1 | have hs1 := sz9 hz1 | have hs1 := sz8 hz1 | have hs1 := sz7 hz1 | have hs1 := sz6 hz1 | have hs1 := sz5 hz1 | have hs1 := sz4 hz1 | have hs1 := sz3 hz1 | have hs1 := sz2 hz1 | have hs1 := sz1 hz1))))
      have x0 := hc1 (w.heap.size + 1) 0 (by simp)
      have x1 := hc1 (w.heap.size + 1) 1 (by simp)
      simp at x0 x1
      refine bodyPost_ret (v := .agg #[.bool t, .int .i64 f]) (by simp [results, Try.results13, go_sem, x0, x1]) rfl ⟨rfl, ?_⟩
      repeat' (first | (with_reducible exact Below.refl _ _) | (with_reducible refine kept_below ?_ (by assumption) ?_) | (with_reducible refine Below.alloc ?_ ?_ _) | (with_reducible refine Below.drew ?_) | (with_reducible refine Below.setCell ?_ ?_ _) | go_size)
  · have hne : (F == 0) = false := by simpa using h0
    rw [if_neg (fun h => h0 h.1)]
    go_enter Try.func13, Try.ntmps13
    go_wp2_with (first | (go_at_call 17; refine Calls.mono (SF'.out _ (by repeat' (first | (with_reducible exact Below.refl _ _) | (with_reducible refine kept_below ?_ (by assumption) ?_) | (with_reducible refine Below.alloc ?_ ?_ _) | (with_reducible refine Below.drew ?_) | (with_reducible refine Below.setCell ?_ ?_ _) | go_size))) ?_; (all_goals try (first | (with_reducible assumption) | omega)); rintro e w1 ⟨rfl, k1⟩; (try replace k1 := kept_join (by assumption) k1); have hc1 := Kept.cell k1; have hf1 := Kept.frozen k1; have hz1 := k1.size; (try simp only [World.size_alloc] at hz1); (try simp only [World.size_setCell] at hz1); (try simp only [World.size_drew] at hz1); (try (first | have hs1 := sz12 hz1 | have hs1 := sz11 hz1 | have hs1 := sz10 hz1 | have hs1 := sz9 hz1 | have hs1 := sz8 hz1 | have hs1 := sz7 hz1 | have hs1 := sz6 hz1 | have hs1 := sz5 hz1 | have hs1 := sz4 hz1 | have hs1 := sz3 hz1 | have hs1 := sz2 hz1 | have hs1 := sz1 hz1))) | (go_at_call 39; refine Calls.mono (FO'.out _ (by repeat' (first | (with_reducible exact Below.refl _ _) | (with_reducible refine kept_below ?_ (by assumption) ?_) | (with_reducible refine Below.alloc ?_ ?_ _) | (with_reducible refine Below.drew ?_) | (with_reducible refine Below.setCell ?_ ?_ _) | go_size))) ?_; (all_goals try (first | (with_reducible assumption) | omega)); rintro e w1 ⟨rfl, k1⟩; (try replace k1 := kept_join (by assumption) k1); have hc1 := Kept.cell k1; have hf1 := Kept.frozen k1; have hz1 := k1.size; (try simp only [World.size_alloc] at hz1); (try simp only [World.size_setCell] at hz1); (try simp only [World.size_drew] at hz1); (try (first | have hs1 := sz12 hz1 | have hs1 := sz11 hz1 | have hs1 := sz10 hz1 | have hs1 := sz9 hz1 | have hs1 := sz8 hz1 | have hs1 := sz7 hz1 | have hs1 := sz6 hz1 | have hs1 := sz5 hz1 | have hs1 := sz4 hz1 | have hs1 := sz3 hz1 | have hs1 := sz2 hz1 | have hs1 := sz1 hz1))))
    have x0 := hc1 (w.heap.size + 1) 0 (by simp)
    have x1 := hc1 (w.heap.size + 1) 1 (by simp)
    simp at x0 x1
    refine bodyPost_ret (v := .agg #[.bool t, .int .i64 f]) (by simp [results, Try.results13, go_sem, x0, x1]) rfl ⟨rfl, ?_⟩
    repeat' (first | (with_reducible exact Below.refl _ _) | (with_reducible refine kept_below ?_ (by assumption) ?_) | (with_reducible refine Below.alloc ?_ ?_ _) | (with_reducible refine Below.drew ?_) | (with_reducible refine Below.setCell ?_ ?_ _) | go_size)
end Go.Proofs.Ytoipcnpemmajaaa
