/- Panes taken out: whether one is meant, the first one, and the row behind it. Copies of stacks, in whatever later world. StackFault: the law's walk. -/
import Derived.Test.YtdigknenijmjcaaRr19
import Derived.Laws.CopyRow
import Derived.Lib.SliceRun
import Derived.Test.YtdigknenijmjcaaRr18
import Derived.Test.YtdigknenijmjcaaRr16
namespace Go.Proofs.Ytdigknenijmjcaa
open Go.RowKit Go.Maps
set_option linter.unusedVariables false

/-- A block of so many cells of one kind. -/
def Blk (w : World) (g : Nat) (T : TypeId) (m : Nat) : Prop := ∃ cur, w.heap[g]? = some (.cells cur T (0, 0)) ∧ cur.size = m
theorem Blk.set {w : World} {g m : Nat} {T : TypeId} (h : Blk w g T m) (b o : Nat) (v : Value) : Blk (w.setCell ⟨b, o, none⟩ v) g T m := by
  obtain ⟨cur, h, hs⟩ := h
  by_cases e : b = g
  · subst e
    exact ⟨_, heap_setCell_same w b o cur T v h, by simpa using hs⟩
  · exact ⟨cur, (heap_setCell_other w ⟨b, o, none⟩ g v (by simpa using fun h => e h.symm)).trans h, hs⟩
theorem Blk.keep {w w' : World} {g m : Nat} {T : TypeId} (h : Blk w g T m) (k : Below w.heap.size w w') : Blk w' g T m := by
  obtain ⟨cur, h, hs⟩ := h
  exact ⟨cur, (k.block g (Array.getElem?_eq_some_iff.1 h).1).trans h, hs⟩
theorem Blk.lt {w : World} {g m : Nat} {T : TypeId} (h : Blk w g T m) : g < w.heap.size := by
  obtain ⟨cur, h, hs⟩ := h
  exact (Array.getElem?_eq_some_iff.1 h).1
theorem OwnV.blk {V : Wn → List Value} {T : TypeId} {w : World} {base g c : Nat} {L : List Wn} (h : OwnV V T w base (some ⟨g, 0, none⟩) c L) : Blk w g T (c * 7) ∧ L.length ≤ c ∧ c ≤ maxLen ∧ base ≤ g := by
  rcases h.2 with ⟨hv, _⟩ | ⟨g', c', cur, hv, h1, h2, h3, h4, h5, _⟩
  · cases hv
  · cases hv
    exact ⟨⟨cur, h2, h5⟩, h3, h4, h1⟩
theorem OwnV.of {V : Wn → List Value} {T : TypeId} {w : World} {base g c : Nat} {L : List Wn} (hV : ∀ v, (V v).length = 7) (hb : Blk w g T (c * 7)) (hl : L.length ≤ c) (hm : c ≤ maxLen) (hg : base ≤ g) (hc : ∀ i (h : i < L.length), Cl V w g (i * 7) L[i]) : OwnV V T w base (some ⟨g, 0, none⟩) c L := by
  obtain ⟨cur, h, hs⟩ := hb
  refine ⟨vcs_len hV L, .inr ⟨g, c, cur, rfl, hg, h, hl, hm, hs, ?_⟩⟩
  apply List.ext_getElem?
  intro j
  by_cases hj : j < L.length * 7
  · have hi : j / 7 < L.length := by omega
    have h1 := hc (j / 7) hi (j % 7) (by omega)
    have h2 := vcs_at hV L (j / 7) hi (j % 7) (by omega)
    rw [show j / 7 * 7 + j % 7 = j by omega] at h1 h2
    rw [h2, ← h1, List.getElem?_take_of_lt hj]
    simp [World.cell?, h]
  · rw [List.getElem?_eq_none (by simp; omega), List.getElem?_eq_none (by rw [vcs_len hV]; omega)]

theorem first_in {I : List Int} {id : Int} (h : id ∈ I) : ∃ A B, I = A ++ id :: B ∧ ∀ x ∈ A, x ≠ id := by
  induction I with
  | nil => simp at h
  | cons x I ih =>
    by_cases e : x = id
    · exact ⟨[], I, by rw [e]; rfl, fun x h => by simp at h⟩
    · obtain ⟨A, B, hh, hA⟩ := ih (by rcases List.mem_cons.1 h with h | h; exact absurd h.symm e; exact h)
      refine ⟨x :: A, B, by rw [hh]; rfl, fun y hy => ?_⟩
      rcases List.mem_cons.1 hy with rfl | hy
      · exact e
      · exact hA y hy

set_option maxRecDepth 100000 in
set_option maxHeartbeats 400000 in
theorem contains_any (lo hi : Nat) (ao : Option Addr) (ca : Nat) (I : List Int) (id : Int) (w : World) (hI : Row .i64 w lo hi ao I) (hs : hi ≤ w.heap.size) (hn : I.length ≤ 1048576) :
    Calls Try.prog 51 #[.slice ao I.length ca, .int .i64 id] w fun e w' => e = .returned (.bool (hasI I id)) ∧ w' = w := by
  by_cases h : id ∈ I
  · obtain ⟨A, B, he, hA⟩ := first_in h
    have IX := hideP (index_some lo hi ao ca I A B id w hI hs hn he hA)
    have hc : hasI I id = true := by unfold hasI; simpa using h
    rw [hc]
    have h0 : (0 : Int) ≤ (A.length : Int) := by omega
    clear hI he hA h hc hn hs
    generalize I.length = n at *
    go_enter Try.func51, Try.ntmps51
    go_wp2_with fail
    refine Calls.mono IX.out ?_
    rintro e w1 ⟨rfl, rfl⟩
    go_wp2
    go_returns
    exact ⟨rfl, rfl⟩
  · have IX := hideP (index_none lo hi ao ca I id w hI hs hn (fun x hx e => h (e ▸ hx)))
    have hc : hasI I id = false := by unfold hasI; simpa using h
    rw [hc]
    clear hI h hc hn hs
    generalize I.length = n at *
    go_enter Try.func51, Try.ntmps51
    go_wp2_with fail
    refine Calls.mono IX.out ?_
    rintro e w1 ⟨rfl, rfl⟩
    go_wp2
    go_returns
    exact ⟨rfl, rfl⟩

end Go.Proofs.Ytdigknenijmjcaa

namespace Go.Proofs.Ytdigknenijmjcaa
open Go.RowKit
set_option linter.unusedVariables false

/-- Copies of a stack, in whatever later world. -/
def CopyW (so : Option Addr) (sc n : Nat) (C : List Wc) (z : Nat) (w : World) : Prop :=
  ∀ w1, Below w.heap.size w w1 → Calls Try.prog 8 #[.slice so n sc] w1 fun e w' => ∃ (s : Option Addr) (M : List Wn), e = .returned (.slice s n n) ∧ M.length = n ∧ wzs M = z ∧ M.map Wn.ct = C ∧ Wq Wn.vals w' w1.heap.size w'.heap.size s M ∧ Below w1.heap.size w1 w'
theorem copyW (lo hi : Nat) (so : Option Addr) (sc : Nat) (L : List Wn) (w : World) (hL : Ws w lo hi so L) (hs : hi ≤ w.heap.size) (hn : L.length + wzs L ≤ 1048576) : CopyW so sc L.length (L.map Wn.ct) (wzs L) w := fun w1 k =>
  (toWS_any lo hi so sc L w1 (hL.keep k hs) (Nat.le_trans hs k.size) hn).mono fun e w' ⟨s, M, he, hc, hq, hb⟩ => ⟨s, M, by rw [he, lenW hc], lenW hc, wzs_ct hc, hc, hq, hb⟩
theorem eqW_n (n z : Nat) {C : List Wc} {lo hi lo2 hi2 : Nat} {s t : Option Addr} {c d : Nat} {M N : List Wn} {w : World} (hl : M.length = n) (hz : wzs M = z) (hM : M.map Wn.ct = C) (hN : N.map Wn.ct = C) (h1 : Wq Wn.vals w lo hi s M) (h2 : Wq Wn.vals w lo2 hi2 t N) (hn : n + z ≤ 1048576) :
    Calls Try.prog 12 #[.slice s n c, .slice t n d] w fun e w' => e = .returned (.bool true) ∧ Below w.heap.size w w' := by
  have hh := eqWS_same lo hi lo2 hi2 s t c d M N w (hN.trans hM.symm) h1.ws h2.ws h1.hs h2.hs (by omega)
  have hN' : N.length = n := by rw [← hl]; exact lenW (hN.trans hM.symm)
  rw [hl, hN'] at hh
  exact hh
theorem szW_n {lo hi : Nat} {so : Option Addr} {sc : Nat} {L : List Wn} {w : World} (hL : Ws w lo hi so L) (hs : hi ≤ w.heap.size) (hn : L.length + wzs L ≤ 1048576) :
    Calls Try.prog 4 #[.slice so L.length sc, .int .i64 1048576] w fun e w' => e = .returned (.int .i64 (1048576 - ((L.length + wzs L : Nat) : Int))) ∧ Below w.heap.size w w' := by
  have SZ := szWS_any lo hi so sc L 1048576 w hL hs (by unfold maxLen; omega) (fun r hr => by have := wzs_mem hr; unfold maxLen; omega) (by omega) (by omega)
  rwa [szV_yes (by omega)] at SZ
end Go.Proofs.Ytdigknenijmjcaa

namespace Go.Proofs.Ytdigknenijmjcaa
open Go.RowKit Go.Maps
set_option linter.unusedVariables false

end Go.Proofs.Ytdigknenijmjcaa
