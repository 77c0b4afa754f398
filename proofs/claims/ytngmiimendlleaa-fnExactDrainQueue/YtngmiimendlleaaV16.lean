/- Messages copied by the laws' own functions. -/
import Derived.Test.YtngmiimendlleaaV15
namespace Go.Proofs.Ytngmiimendlleaa
open Go.RowKit
set_option linter.unusedVariables false

/-- A copy of a message: its body in a block of its own. -/
structure NewM (w w' : World) (k : Int) (D : List Int) (m : Mg) : Prop where
  ke : m.k = k
  le : m.b.L = D
  on : m.b.on w'
  inn : m.b.L ≠ [] → w.heap.size ≤ m.b.g ∧ m.b.g < w'.heap.size
theorem Bd.on_set {w : World} {b : Bd} (h : b.on w) (p : Addr) (v : Value) (hp : b.L ≠ [] → p.block ≠ b.g) : b.on (w.setCell p v) :=
  Bd.on_far h ((Far.refl p.block (p.block + 1) w).setCell (p := p) (Nat.le_refl _) (Nat.lt_succ_self _) v) fun e => by have := hp e; have := Bd.lt h e; omega

set_option maxHeartbeats 400000 in
theorem toM_any (lo hi : Nat) (k : Int) (ao : Option Addr) (ca : Nat) (D : List Int) (w : World) (hR : Row .u8 w lo hi ao D) (hs : hi ≤ w.heap.size) (hl : D.length ≤ 1048576) :
    Calls Try.prog 31 #[.agg #[.int .i64 k, .slice ao D.length ca]] w fun e w' => ∃ m : Mg, e = .returned (.agg #[.int .i64 k, .slice m.b.ao D.length m.b.cap]) ∧ NewM w w' k D m ∧ Below w.heap.size w w' := by
  have TB := hideP (fun w1 (kk : Below w.heap.size w w1) => toB_any lo hi ao ca D w1 (hR.keep kk hs) (by have := kk.size; omega) hl)
  clear hR
  go_enter Try.func31, Try.ntmps31
  go_wp2_with fail
  refine Calls.mono (TB.out _ (by go_grown)) ?_
  rintro e w1 ⟨rfl, k1, n1, W1⟩
  have HW1 : Hid (Bd.on w1 ⟨some ⟨w.heap.size + 1 + 1 + 1, 0, none⟩, D.length, w.heap.size + 1 + 1 + 1, D⟩) := hideP ⟨by simpa using W1, fun _ => rfl⟩
  have HK1 : Hid (Below w.heap.size w w1) := hideP (Below.trans (by go_grown) (k1.mono (by simp; omega)))
  have hn1 : w.heap.size + 1 + 1 + 1 < w1.heap.size := by simpa using n1
  clear W1 n1
  replace k1 := Kept.below k1
  have hc1 := Kept.cell k1
  have hf1 := Kept.frozen k1
  have hz1 := k1.size
  try simp only [World.size_alloc] at hz1
  try simp only [World.size_setCell] at hz1
  try simp only [World.size_drew] at hz1
  have hb1_0 : w.heap.size < w1.heap.size ∧ w.heap.size ≤ w1.heap.size ∧ w.heap.size ≤ w1.heap.size + 1 ∧ ¬ w.heap.size = w1.heap.size ∧ ¬ w.heap.size = w1.heap.size + 1 := by omega
  have hb1_1 : w.heap.size + 1 < w1.heap.size ∧ w.heap.size + 1 ≤ w1.heap.size ∧ w.heap.size + 1 ≤ w1.heap.size + 1 ∧ ¬ w.heap.size + 1 = w1.heap.size ∧ ¬ w.heap.size + 1 = w1.heap.size + 1 := by omega
  have hb1_2 : w.heap.size + 1 + 1 < w1.heap.size ∧ w.heap.size + 1 + 1 ≤ w1.heap.size ∧ w.heap.size + 1 + 1 ≤ w1.heap.size + 1 ∧ ¬ w.heap.size + 1 + 1 = w1.heap.size ∧ ¬ w.heap.size + 1 + 1 = w1.heap.size + 1 := by omega
  go_wp2
  refine bodyPost_ret (v := .agg #[.int .i64 k, .slice (some ⟨w.heap.size + 1 + 1 + 1, 0, none⟩) D.length D.length]) (by simp [results, Try.results31, go_sem, *]) rfl ⟨⟨k, some ⟨w.heap.size + 1 + 1 + 1, 0, none⟩, D.length, w.heap.size + 1 + 1 + 1, D⟩, rfl, ⟨rfl, rfl, ?_, fun _ => ⟨?_, ?_⟩⟩, ?_⟩
  · repeat (refine Bd.on_set ?_ _ _ (fun _ => by dsimp only; omega))
    exact HW1.out
  · dsimp only; omega
  · simp only [World.size_setCell]; omega
  · repeat' (first | exact HK1.out | (with_reducible refine Below.setCell ?_ ?_ _) | go_size)

/-- A copy of a list of messages, its first ones there. -/
structure FillM (w wr : World) (g n : Nat) (M : List Mg) : Prop where
  below : Below w.heap.size w wr
  le : w.heap.size ≤ g
  lt : g < wr.heap.size
  cells : ∀ i (h : i < M.length), M[i].cells wr g (i * 2)
  free : ∀ c, wr.frozen? ⟨g, c, none⟩ = false
  bods : Bods wr (g + 1) wr.heap.size (M.map Mg.b)
  there : ∀ c, c < n * 2 → ∃ u, wr.cell? ⟨g, c, none⟩ = some u
theorem FillM.keep {w wr wr' : World} {g n : Nat} {M : List Mg} (h : FillM w wr g n M) (k : Below wr.heap.size wr wr') : FillM w wr' g n M :=
  ⟨h.below.trans (k.mono h.below.size), h.le, Nat.lt_of_lt_of_le h.lt k.size, fun i hi => (h.cells i hi).keep k h.lt, fun c => (k.frozen (p := ⟨g, c, none⟩) h.lt).trans (h.free c), (h.bods.keep k (Nat.le_refl _)).wide (Nat.le_refl _) k.size, fun c hc => by obtain ⟨u, hu⟩ := h.there c hc; exact ⟨u, (k.cell (p := ⟨g, c, none⟩) h.lt).trans hu⟩⟩
theorem cell_there {W : World} {g c d : Nat} {v : Value} (h : ∃ u, W.cell? ⟨g, c, none⟩ = some u) : ∃ u, (W.setCell ⟨g, d, none⟩ v).cell? ⟨g, c, none⟩ = some u := by
  obtain ⟨u, hu⟩ := h
  by_cases e : c = d
  · subst e; exact ⟨v, cell_set_same hu⟩
  · exact ⟨u, (cell_set_other e).trans hu⟩
theorem FillM.step {w wr w2 : World} {g n : Nat} {M : List Mg} {m : Mg} (h : FillM w wr g n M) (hi : M.length < n) (k : Below wr.heap.size wr w2) {k' : Int} {D : List Int} (R : NewM wr w2 k' D m) :
    FillM w ((w2.setCell ⟨g, M.length * 2, none⟩ (.int .i64 m.k)).setCell ⟨g, M.length * 2 + 1, none⟩ (.slice m.b.ao m.b.L.length m.b.cap)) g n (M ++ [m]) := by
  have h2 := h.keep k
  have hlt := h.lt
  have B2 := (h.bods.keep k (Nat.le_refl _)).snoc (hi' := w2.heap.size) R.on (fun e => by have := R.inn e; omega) k.size
  obtain ⟨u0, t0⟩ := h2.there (M.length * 2) (by omega)
  obtain ⟨u1, t1⟩ := h2.there (M.length * 2 + 1) (by omega)
  have F : Far g (g + 1) w2 ((w2.setCell ⟨g, M.length * 2, none⟩ (.int .i64 m.k)).setCell ⟨g, M.length * 2 + 1, none⟩ (.slice m.b.ao m.b.L.length m.b.cap)) :=
    ((Far.refl g (g + 1) w2).setCell (p := ⟨g, _, none⟩) (Nat.le_refl _) (by show g < g + 1; omega) _).setCell (p := ⟨g, _, none⟩) (Nat.le_refl _) (by show g < g + 1; omega) _
  refine ⟨(h2.below.setCell (p := ⟨g, _, none⟩) h.le _).setCell (p := ⟨g, _, none⟩) h.le _, h.le, by simpa using h2.lt, fun i hi' => ?_, fun c => by simpa using h2.free c, ?_, fun c hc => cell_there (cell_there (h2.there c hc))⟩
  · by_cases e : i < M.length
    · obtain ⟨d0, d1⟩ := h2.cells i e
      rw [List.getElem_append_left e]
      exact ⟨((cell_set_other (by omega)).trans (cell_set_other (by omega))).trans d0, ((cell_set_other (by omega)).trans (cell_set_other (by omega))).trans d1⟩
    · obtain rfl : i = M.length := by simp at hi'; omega
      simp only [List.getElem_append_right (Nat.le_refl _), Nat.sub_self, List.getElem_cons_zero]
      exact ⟨(cell_set_other (by omega)).trans (cell_set_same t0), cell_set_same ((cell_set_other (by omega)).trans t1)⟩
  · rw [List.map_append]
    have := B2.far F (.inr (Nat.le_refl _))
    simpa using this
theorem fillM_new {w w1 : World} {n : Nat} {T : TypeId} {xs : List Value} (ho : w1.ownsRow w.heap.size T 2 (.slice (some ⟨w.heap.size, 0, none⟩) n n) n xs) (hg : w.grownBy w1 none) : FillM w w1 w.heap.size n [] := by
  have hlt := (World.ownsRow.lt ho w.heap.size rfl).2
  refine ⟨⟨hg.os, hg.tape, hg.output, hg.size, fun k hk => hg.block k hk (by simp)⟩, Nat.le_refl _, hlt, fun i hi => by simp at hi, fun c => World.ownsRow.frozenAt ho c, Bods.nil _ _ _, fun c hc => ?_⟩
  rw [World.ownsRow.cellAt ho c hc]
  exact ⟨xs[c]'(by rw [ho.1]; exact hc), by simp⟩
theorem FillM.qm {w wr : World} {g n : Nat} {M : List Mg} {s1 : Option Addr} (h : FillM w wr g n M) : QM wr w.heap.size wr.heap.size s1 [] (some ⟨g, 0, none⟩) M :=
  QM.single h.below.size (Nat.le_refl _) (h.bods.wide (by have := h.le; omega) (Nat.le_refl _)) (.inr ⟨g, rfl, h.le, h.lt, h.cells, h.free⟩)

set_option maxHeartbeats 2000000 in
theorem toMS_any (lo hi : Nat) (so : Option Addr) (sc : Nat) (L : List Mg) (w : World) (hL : Ms w lo hi so L) (hs : hi ≤ w.heap.size) (hn : L.length + mzs L ≤ 1048576) :
    Calls Try.prog 18 #[.slice so L.length sc] w fun e w' => ∃ (s : Option Addr) (M : List Mg), e = .returned (.slice s M.length M.length) ∧ M.map Mg.ct = L.map Mg.ct ∧ QM w' w.heap.size w'.heap.size none [] s M ∧ Below w.heap.size w w' := by
  have hl' : (L.length : Int) ≤ 1048576 := by omega
  have HL := hideP hL
  clear hL
  obtain ⟨i0, hi0, hz0, hz1, hz2⟩ := info_parts Try.infoM
  go_enter Try.func18, Try.ntmps18
  go_wp2_with (first | (at_make; refine wpList_make_full _ rfl _ _ 26 rfl w.heap.size 52 i0 (.agg #[.int .i64 0, .slice none 0 0]) 2 Try.underlying26 hi0 hz0 hz1 .i64 .i64 _ _ L.length rfl rfl rfl rfl (by rw [hz2]; omega) (by unfold maxLen; omega) (Nat.le_refl _) ?_; intro w1 hown1 hgrow1) | go_in)
  have F1 : Hid (FillM w w1 w.heap.size L.length []) := fillM_new hown1 hgrow1
  clear hown1 hgrow1
  go_wp2
  go_loopw [4] (fun i wr => ∃ X Y M : List Mg, X ++ Y = L ∧ M.map Mg.ct = X.map Mg.ct ∧ i = .int .i64 (X.length : Nat) ∧ FillM w wr w.heap.size L.length M) (fun i _ => L.length - (intOf i).toNat)
  case atStart => exact ⟨[], L, [], rfl, rfl, rfl, F1.out⟩
  case round =>
    obtain ⟨X, Y, M, hXY, hMX, rfl, F⟩ := hrel
    have hlen : X.length + Y.length = L.length := by rw [← hXY]; simp
    have hML : M.length = X.length := len_ct hMX
    cases Y with
    | cons r Y =>
      have hlt : (X.length : Int) < (L.length : Int) := by simp at hlen; omega
      have h0 := HL.out
      have hsz : r.b.L.length ≤ mzs L := mzs_mem (m := r) (by rw [← hXY]; simp)
      rw [← hXY] at h0
      obtain ⟨g, o, rfl, hg, hc, hon⟩ := Ms.at h0
      obtain ⟨a0, a1⟩ := hc.keep F.below (by omega)
      have rD := Row.keep hon F.below (by omega)
      have hz := F.below.size
      have hgl : g < wr.heap.size := by omega
      have HF := hideP F
      have HXY := hideP hXY
      have HMX := hideP hMX
      have HD := hideP rD
      have hMn : M.length < L.length := by omega
      clear h0 hc F hXY hMX rD F1 hon
      obtain ⟨k, ao, cap, gb, D⟩ := r
      simp only at a0 a1 hsz HD
      go_wp2_with fail
      refine Calls.mono (toM_any lo hi k ao cap D wr HD.out (by omega) (by omega)) ?_
      rintro e w2 ⟨m, rfl, R2, k2⟩
      have ST := HF.out.step hMn k2 R2
      have hF2 := HF.out.keep k2
      have hmk := R2.ke
      have hml := R2.le
      rw [hML, hmk, hml] at ST
      obtain ⟨u0, t0⟩ := hF2.there (X.length * 2) (by omega)
      obtain ⟨u1, t1⟩ := hF2.there (X.length * 2 + 1) (by omega)
      have f := hF2.free
      have hgl2 : w.heap.size < w2.heap.size := hF2.lt
      have HST := hideP ST
      have HCT : Hid (m.ct = (k, D)) := hideP (by simp [Mg.ct, hmk, hml])
      clear ST hF2 k2 R2 HF a0 a1 HL HD hmk hml
      go_wp2
      go_roundw
      case rel => exact ⟨X ++ [⟨k, ao, cap, gb, D⟩], Y, M ++ [m], mid_in HXY.out, by rw [List.map_append, List.map_append, HMX.out]; simp only [List.map_cons, HCT.out]; rfl, by simp, HST.out⟩
      case measure => simp [intOf]; omega
    | nil =>
      have hX : X = L := by simpa using hXY
      subst hX
      have HF := hideP F
      have HMX := hideP hMX
      clear F F1 hXY hMX HL
      rw [← hML]
      go_wp2
      go_returns
      exact ⟨some ⟨w.heap.size, 0, none⟩, M, by rw [hML]; rfl, HMX.out, HF.out.qm, HF.out.below⟩

theorem QM.set {w : World} {lo hi : Nat} {s1 s2 : Option Addr} {L1 L2 : List Mg} (h : QM w lo hi s1 L1 s2 L2) (p : Addr) (v : Value) (hp : p.block < lo) : QM (w.setCell p v) lo hi s1 L1 s2 L2 :=
  h.far ((Far.refl p.block (p.block + 1) w).setCell (p := p) (Nat.le_refl _) (Nat.lt_succ_self _) v) (.inr hp)

set_option maxHeartbeats 400000 in
theorem toQ_any (lo hi : Nat) (so : Option Addr) (sc : Nat) (L : List Mg) (v : Bool) (w : World) (hL : Ms w lo hi so L) (hs : hi ≤ w.heap.size) (hn : L.length + mzs L ≤ 1048576) :
    Calls Try.prog 6 #[.agg #[.slice so L.length sc, .bool v]] w fun e w' => ∃ (s : Option Addr) (M : List Mg), e = .returned (.agg #[.slice s M.length M.length, .bool v]) ∧ M.map Mg.ct = L.map Mg.ct ∧ QM w' w.heap.size w'.heap.size none [] s M ∧ Below w.heap.size w w' := by
  have TB := hideP (fun w1 (kk : Below w.heap.size w w1) => toMS_any lo hi so sc L w1 (hL.keep kk hs) (by have := kk.size; omega) hn)
  clear hL
  go_enter Try.func6, Try.ntmps6
  go_wp2_with fail
  refine Calls.mono (TB.out _ (by go_grown)) ?_
  rintro e w1 ⟨s, M, rfl, hM, Q1, k1⟩
  have HQ1 : Hid (QM w1 (w.heap.size + 1 + 1 + 1) w1.heap.size none [] s M) := hideP (by simpa using Q1)
  have HK1 : Hid (Below w.heap.size w w1) := hideP (Below.trans (by go_grown) (k1.mono (by simp; omega)))
  have HM := hideP hM
  have hn1 : w.heap.size + 1 + 1 + 1 ≤ w1.heap.size := HQ1.out.le
  clear hM Q1
  replace k1 := Kept.below k1
  have hc1 := Kept.cell k1
  have hf1 := Kept.frozen k1
  have hz1 := k1.size
  try simp only [World.size_alloc] at hz1
  try simp only [World.size_setCell] at hz1
  try simp only [World.size_drew] at hz1
  have hb1_0 : w.heap.size < w1.heap.size ∧ w.heap.size ≤ w1.heap.size ∧ w.heap.size ≤ w1.heap.size + 1 ∧ ¬ w.heap.size = w1.heap.size ∧ ¬ w.heap.size = w1.heap.size + 1 := by omega
  have hb1_1 : w.heap.size + 1 < w1.heap.size ∧ w.heap.size + 1 ≤ w1.heap.size ∧ w.heap.size + 1 ≤ w1.heap.size + 1 ∧ ¬ w.heap.size + 1 = w1.heap.size ∧ ¬ w.heap.size + 1 = w1.heap.size + 1 := by omega
  have hb1_2 : w.heap.size + 1 + 1 < w1.heap.size ∧ w.heap.size + 1 + 1 ≤ w1.heap.size ∧ w.heap.size + 1 + 1 ≤ w1.heap.size + 1 ∧ ¬ w.heap.size + 1 + 1 = w1.heap.size ∧ ¬ w.heap.size + 1 + 1 = w1.heap.size + 1 := by omega
  go_wp2
  refine bodyPost_ret (v := .agg #[.slice s M.length M.length, .bool v]) (by simp [results, Try.results6, go_sem, *]) rfl ⟨s, M, rfl, HM.out, ?_, ?_⟩
  · refine QM.wide (lo := w.heap.size + 1 + 1 + 1) (hi := w1.heap.size) ?_ (by omega) (by simp) (Nat.le_refl _)
    repeat (refine QM.set ?_ _ _ (by dsimp only; omega))
    exact HQ1.out
  · repeat' (first | exact HK1.out | (with_reducible refine Below.setCell ?_ ?_ _) | go_size)
end Go.Proofs.Ytngmiimendlleaa
