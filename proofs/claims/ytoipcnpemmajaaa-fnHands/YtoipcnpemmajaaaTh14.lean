/- A window asked for by its id: the model's, and the program's. A window asked for by its id, pointed at by the program. Windows held against each other by the laws' own functions. -/
import Derived.Test.YtoipcnpemmajaaaTh9
import Derived.Test.YtoipcnpemmajaaaTh13
import Derived.Test.YtoipcnpemmajaaaTh8
namespace Go.Proofs.Ytoipcnpemmajaaa
open Go.RowKit Go.Maps
set_option linter.unusedVariables false

/-- The first window of an id stands behind X and ahead of Y. -/
structure Fst (id : Int) (L X : List Wn) (r : Wn) (Y : List Wn) : Prop where
  eq : L = X ++ r :: Y
  at' : r.i = id
  no : ∀ v ∈ X, v.i ≠ id
theorem fst_or (id : Int) (L : List Wn) : (∀ v ∈ L, v.i ≠ id) ∨ ∃ X r Y, Fst id L X r Y := by
  induction L with
  | nil => exact .inl fun v h => by simp at h
  | cons v L ih =>
    by_cases e : v.i = id
    · exact .inr ⟨[], v, L, rfl, e, fun v h => by simp at h⟩
    · rcases ih with ih | ⟨X, r, Y, h⟩
      · refine .inl fun u hu => ?_
        rcases List.mem_cons.1 hu with rfl | hu
        · exact e
        · exact ih u hu
      · refine .inr ⟨v :: X, r, Y, by rw [h.eq]; rfl, h.at', fun u hu => ?_⟩
        rcases List.mem_cons.1 hu with rfl | hu
        · exact e
        · exact h.no u hu
/-- The code of asking for a window. -/
def askW (C : List Wc) (id : Int) : Int := if stF C = 0 then (if (C.map Wc.i).contains id then 0 else 4) else stF C
theorem askW_bad {C : List Wc} {id : Int} (h : ¬ stF C = 0) : askW C id = stF C := by unfold askW; rw [if_neg h]
theorem mapI (L : List Wn) : (L.map Wn.ct).map Wc.i = L.map Wn.i := by simp [Wn.ct]
theorem askW_none {L : List Wn} {id : Int} (h : stF (L.map Wn.ct) = 0) (hn : ∀ v ∈ L, v.i ≠ id) : askW (L.map Wn.ct) id = 4 := by
  unfold askW
  rw [if_pos h, if_neg]
  rw [mapI]
  simp only [List.contains_eq_mem, List.mem_map, decide_eq_true_eq]
  rintro ⟨v, hv, e⟩
  exact hn v hv e
theorem askW_yes {L X Y : List Wn} {r : Wn} {id : Int} (h : stF (L.map Wn.ct) = 0) (hf : Fst id L X r Y) : askW (L.map Wn.ct) id = 0 := by
  unfold askW
  rw [if_pos h, if_pos]
  rw [mapI, hf.eq]
  simp [hf.at']

set_option maxHeartbeats 1000000 in
theorem l7At_none (lo hi : Nat) (so : Option Addr) (sc : Nat) (L : List Wn) (id : Int) (w : World) (hL : Ws w lo hi so L) (hs : hi ≤ w.heap.size) (hn : L.length ≤ 1048576) (h : ∀ v ∈ L, v.i ≠ id) :
    Calls Try.prog 74 #[.slice so L.length sc, .int .i64 id] w fun e w' => e = .returned (.int .i64 (-1)) ∧ w' = w := by
  have hn' : (L.length : Int) ≤ 1048576 := by omega
  have HL := hideP hL
  have HN := hideP h
  clear hL h
  go_enter Try.func74, Try.ntmps74
  go_wp2
  go_loop [5] (fun i => ∃ X Y : List Wn, X ++ Y = L ∧ i = .int .i64 (X.length : Nat)) (fun i => L.length - (intOf i).toNat)
  case atStart => exact ⟨[], L, rfl, rfl⟩
  case round =>
    obtain ⟨X, Y, hXY, rfl⟩ := hrel
    have hlen : X.length + Y.length = L.length := by rw [← hXY]; simp
    cases Y with
    | cons r Y =>
      have hlt : (X.length : Int) < (L.length : Int) := by simp at hlen; omega
      have h0 := HL.out
      rw [← hXY] at h0
      obtain ⟨g, o, rfl, hg, hc, _⟩ := Ws.at h0
      obtain ⟨a0, _⟩ := hc.seven
      have hgl : g < w.heap.size := by omega
      have hne : (r.i == id) = false := by simpa using HN.out r (by rw [← hXY]; simp)
      have HXY := hideP hXY
      clear h0 hc hXY hlen HL HN
      generalize hri : r.i = ri at *
      go_wp2
      go_round
      case rel => exact ⟨X ++ [r], Y, midW HXY.out, by simp⟩
      case measure => simp [intOf]; omega
    | nil =>
      have hX : X = L := by simpa using hXY
      subst hX
      clear hXY HL HN hlen
      go_wp2
      go_returns
      exact ⟨rfl, rfl⟩

set_option maxHeartbeats 1000000 in
theorem l7At_some (lo hi : Nat) (so : Option Addr) (sc : Nat) (L X0 Y0 : List Wn) (r0 : Wn) (id : Int) (w : World) (hL : Ws w lo hi so L) (hs : hi ≤ w.heap.size) (hn : L.length ≤ 1048576) (h : Fst id L X0 r0 Y0) :
    Calls Try.prog 74 #[.slice so L.length sc, .int .i64 id] w fun e w' => e = .returned (.int .i64 (X0.length : Nat)) ∧ w' = w := by
  have hn' : (L.length : Int) ≤ 1048576 := by omega
  have HL := hideP hL
  have HF := hideP h
  have hX0 : (X0.length : Int) < (L.length : Int) := by rw [h.eq]; simp; omega
  clear hL h
  go_enter Try.func74, Try.ntmps74
  go_wp2
  go_loop [5] (fun i => ∃ X Y : List Wn, X ++ Y = X0 ∧ i = .int .i64 (X.length : Nat)) (fun i => L.length - (intOf i).toNat)
  case atStart => exact ⟨[], X0, rfl, rfl⟩
  case round =>
    obtain ⟨X, Y, hXY, rfl⟩ := hrel
    have hlen : X.length + Y.length = X0.length := by rw [← hXY]; simp
    have hlt : (X.length : Int) < (L.length : Int) := by omega
    cases Y with
    | cons r Y =>
      have h0 := HL.out
      rw [HF.out.eq, ← hXY] at h0
      simp only [List.append_assoc, List.cons_append] at h0
      obtain ⟨g, o, rfl, hg, hc, _⟩ := Ws.at h0
      obtain ⟨a0, _⟩ := hc.seven
      have hgl : g < w.heap.size := by omega
      have hne : (r.i == id) = false := by simpa using HF.out.no r (by rw [← hXY]; simp)
      have HXY := hideP hXY
      clear h0 hc hXY HL HF
      generalize hri : r.i = ri at *
      go_wp2
      go_round
      case rel => exact ⟨X ++ [r], Y, midW HXY.out, by simp⟩
      case measure => simp [intOf]; simp at hlen; omega
    | nil =>
      have hX : X = X0 := by simpa using hXY
      subst hX
      have h0 := HL.out
      rw [HF.out.eq] at h0
      obtain ⟨g, o, rfl, hg, hc, _⟩ := Ws.at h0
      obtain ⟨a0, _⟩ := hc.seven
      have hgl : g < w.heap.size := by omega
      have hne : (r0.i == id) = true := by simpa using HF.out.at'
      clear hXY HL HF h0 hc hlen
      generalize hri : r0.i = ri at *
      go_wp2
      go_returns
      exact ⟨rfl, rfl⟩

end Go.Proofs.Ytoipcnpemmajaaa

namespace Go.Proofs.Ytoipcnpemmajaaa
open Go.RowKit Go.Maps
set_option linter.unusedVariables false

set_option maxHeartbeats 1000000 in
theorem index_none (lo hi : Nat) (ao : Option Addr) (ca : Nat) (I : List Int) (id : Int) (w : World) (hI : Row .i64 w lo hi ao I) (hs : hi ≤ w.heap.size) (hn : I.length ≤ 1048576) (h : ∀ x ∈ I, x ≠ id) :
    Calls Try.prog 96 #[.slice ao I.length ca, .int .i64 id] w fun e w' => e = .returned (.int .i64 (-1)) ∧ w' = w := by
  have hn' : (I.length : Int) ≤ 1048576 := by omega
  have HI := hideP hI
  have HN := hideP h
  clear hI h
  go_enter Try.func96, Try.ntmps96
  go_wp2
  go_loop [8] (fun i => ∃ j : Nat, j ≤ I.length ∧ i = .int .i64 j) (fun i => I.length - (intOf i).toNat)
  case atStart => exact ⟨0, Nat.zero_le _, rfl⟩
  case round =>
    obtain ⟨j, hj, rfl⟩ := hrel
    by_cases hlt : j < I.length
    · have hlt' : (j : Int) < (I.length : Int) := by omega
      rcases HI.out with e | ⟨g, o, rfl, _, hg, hc⟩
      · rw [e] at hlt; simp at hlt
      have a0 := hc j hlt
      have hne : (id == I[j]) = false := by simpa using (HN.out I[j] (List.getElem_mem hlt)).symm
      have hgl : g < w.heap.size := by omega
      clear hc HI HN
      generalize I[j] = x at *
      go_wp2
      go_round
      case rel => exact ⟨j + 1, by omega, by go_num⟩
      case measure => simp [intOf]; omega
    · obtain rfl : j = I.length := by omega
      clear HI HN
      go_wp2
      go_returns
      exact ⟨rfl, rfl⟩

set_option maxHeartbeats 1000000 in
theorem index_some (lo hi : Nat) (ao : Option Addr) (ca : Nat) (I A B : List Int) (id : Int) (w : World) (hI : Row .i64 w lo hi ao I) (hs : hi ≤ w.heap.size) (hn : I.length ≤ 1048576) (he : I = A ++ id :: B) (h : ∀ x ∈ A, x ≠ id) :
    Calls Try.prog 96 #[.slice ao I.length ca, .int .i64 id] w fun e w' => e = .returned (.int .i64 (A.length : Nat)) ∧ w' = w := by
  have hn' : (I.length : Int) ≤ 1048576 := by omega
  have HI := hideP hI
  have HN := hideP h
  have HE := hideP he
  have hAl : A.length < I.length := by rw [he]; simp
  clear hI h he
  go_enter Try.func96, Try.ntmps96
  go_wp2
  go_loop [8] (fun i => ∃ j : Nat, j ≤ A.length ∧ i = .int .i64 j) (fun i => I.length - (intOf i).toNat)
  case atStart => exact ⟨0, Nat.zero_le _, rfl⟩
  case round =>
    obtain ⟨j, hj, rfl⟩ := hrel
    have hlt : j < I.length := by omega
    have hlt' : (j : Int) < (I.length : Int) := by omega
    rcases HI.out with e | ⟨g, o, rfl, _, hg, hc⟩
    · rw [e] at hlt; simp at hlt
    have a0 := hc j hlt
    have hgl : g < w.heap.size := by omega
    by_cases hjA : j < A.length
    · have hx : I[j] = A[j] := by simp only [HE.out]; exact List.getElem_append_left hjA
      have hne : (id == I[j]) = false := by rw [hx]; simpa using (HN.out A[j] (List.getElem_mem hjA)).symm
      clear hc HI HN HE hx
      generalize I[j] = x at *
      go_wp2
      go_round
      case rel => exact ⟨j + 1, by omega, by go_num⟩
      case measure => simp [intOf]; omega
    · obtain rfl : j = A.length := by omega
      have hx : I[A.length] = id := by simp [HE.out]
      rw [hx] at a0
      have hne : (id == id) = true := by simp
      clear hc HI HN HE hx
      go_wp2
      go_returns
      exact ⟨rfl, rfl⟩

set_option maxHeartbeats 800000 in
theorem place_bad (lo hi : Nat) (so : Option Addr) (sc : Nat) (L : List Wn) (id : Int) (w : World) (hL : Ws w lo hi so L) (hs : hi ≤ w.heap.size) (hn : L.length + wzs L ≤ 1048576) (h : ¬ stF (L.map Wn.ct) = 0) :
    Calls Try.prog 106 #[.slice so L.length sc, .int .i64 id] w fun e w' => e = .returned (.tuple #[.int .i64 0, .int .i64 (askW (L.map Wn.ct) id)]) ∧ Below w.heap.size w w' := by
  have SF := iStack_any lo hi so sc L w hL hs hn
  rw [askW_bad h]
  obtain ⟨F, hF⟩ : ∃ F, stF (L.map Wn.ct) = F := ⟨_, rfl⟩
  rw [hF] at SF h ⊢
  have hne : (F != 0) = true := by simpa using h
  have SF' := hideP SF
  clear SF hL hF h
  go_enter Try.func106, Try.ntmps106
  go_wp2_with fail
  refine Calls.mono SF'.out ?_
  rintro e w1 ⟨rfl, k1⟩
  have K1 := hideP k1
  clear k1
  go_wp2
  go_returns
  exact ⟨rfl, K1.out⟩

set_option maxHeartbeats 800000 in
theorem place_none (lo hi : Nat) (so : Option Addr) (sc : Nat) (L : List Wn) (id : Int) (w : World) (hL : Ws w lo hi so L) (hs : hi ≤ w.heap.size) (hn : L.length + wzs L ≤ 1048576) (h : stF (L.map Wn.ct) = 0) (hno : ∀ v ∈ L, v.i ≠ id) :
    Calls Try.prog 106 #[.slice so L.length sc, .int .i64 id] w fun e w' => e = .returned (.tuple #[.int .i64 0, .int .i64 (askW (L.map Wn.ct) id)]) ∧ Below w.heap.size w w' := by
  have SF := iStack_any lo hi so sc L w hL hs hn
  rw [h] at SF
  rw [askW_none h hno]
  have SF' := hideP SF
  have ID := fun w1 (kk : Below w.heap.size w w1) => idsIn_any lo hi so sc L w1 (hL.keep kk hs) (by have := kk.size; omega) (by omega)
  have hno' : ∀ x ∈ L.map Wn.i, x ≠ id := fun x hx => by obtain ⟨v, hv, rfl⟩ := List.mem_map.1 hx; exact hno v hv
  have hlI : (L.map Wn.i).length ≤ 1048576 := by simp; omega
  obtain ⟨I, hI⟩ : ∃ I, L.map Wn.i = I := ⟨_, rfl⟩
  rw [hI] at ID hno' hlI
  have ID' := hideP ID
  have HN := hideP hno'
  clear SF hL hno h ID hI hno'
  go_enter Try.func106, Try.ntmps106
  go_wp2_with fail
  refine Calls.mono SF'.out ?_
  rintro e w1 ⟨rfl, k1⟩
  have K1 := hideP k1
  clear k1
  go_wp2_with fail
  refine Calls.mono (ID'.out w1 K1.out) ?_
  rintro e w2 ⟨ao, cap, rfl, O2, k2⟩
  have K2 := hideP (K1.out.trans (k2.mono K1.out.size))
  have IX := hideP (index_none w1.heap.size w2.heap.size ao cap I id w2 (OwnR.wrt O2).row (Nat.le_refl _) hlI HN.out)
  clear k2 O2
  go_wp2_with fail
  refine Calls.mono IX.out ?_
  rintro e w3 ⟨rfl, rfl⟩
  go_wp2
  go_returns
  exact ⟨rfl, K2.out⟩

set_option maxHeartbeats 800000 in
theorem place_yes (lo hi : Nat) (so : Option Addr) (sc : Nat) (L X Y : List Wn) (r : Wn) (id : Int) (w : World) (hL : Ws w lo hi so L) (hs : hi ≤ w.heap.size) (hn : L.length + wzs L ≤ 1048576) (h : stF (L.map Wn.ct) = 0) (hf : Fst id L X r Y) :
    Calls Try.prog 106 #[.slice so L.length sc, .int .i64 id] w fun e w' => e = .returned (.tuple #[.int .i64 (X.length : Nat), .int .i64 0]) ∧ Below w.heap.size w w' := by
  have SF := iStack_any lo hi so sc L w hL hs hn
  rw [h] at SF
  have SF' := hideP SF
  have ID := fun w1 (kk : Below w.heap.size w w1) => idsIn_any lo hi so sc L w1 (hL.keep kk hs) (by have := kk.size; omega) (by omega)
  have hIe : L.map Wn.i = X.map Wn.i ++ id :: Y.map Wn.i := by rw [hf.eq]; simp [hf.at']
  have hno' : ∀ x ∈ X.map Wn.i, x ≠ id := fun x hx => by obtain ⟨v, hv, rfl⟩ := List.mem_map.1 hx; exact hf.no v hv
  have hlI : (L.map Wn.i).length ≤ 1048576 := by simp; omega
  have hXl : (X.map Wn.i).length = X.length := by simp
  have hXL : X.length < L.length := by rw [hf.eq]; simp
  obtain ⟨I, hI⟩ : ∃ I, L.map Wn.i = I := ⟨_, rfl⟩
  obtain ⟨A, hA⟩ : ∃ A, X.map Wn.i = A := ⟨_, rfl⟩
  rw [hI] at ID hlI hIe
  rw [hA] at hno' hIe hXl
  have ID' := hideP ID
  have HN := hideP hno'
  have HE := hideP hIe
  have HX := hideP hXl
  clear SF hL h ID hI hno' hIe hf hA hXl
  go_enter Try.func106, Try.ntmps106
  go_wp2_with fail
  refine Calls.mono SF'.out ?_
  rintro e w1 ⟨rfl, k1⟩
  have K1 := hideP k1
  clear k1
  go_wp2_with fail
  refine Calls.mono (ID'.out w1 K1.out) ?_
  rintro e w2 ⟨ao, cap, rfl, O2, k2⟩
  have K2 := hideP (K1.out.trans (k2.mono K1.out.size))
  have IX := index_some w1.heap.size w2.heap.size ao cap I A (Y.map Wn.i) id w2 (OwnR.wrt O2).row (Nat.le_refl _) hlI HE.out HN.out
  rw [HX.out] at IX
  have IX' := hideP IX
  have hX0 : ¬ (X.length : Int) < 0 := by omega
  clear k2 O2 IX
  go_wp2_with fail
  refine Calls.mono IX'.out ?_
  rintro e w3 ⟨rfl, rfl⟩
  go_wp2
  go_returns
  exact ⟨rfl, K2.out⟩

theorem fst_ct {id : Int} {L M X Y : List Wn} {r : Wn} (h : Fst id L X r Y) (e : M.map Wn.ct = L.map Wn.ct) : ∃ X' r' Y', Fst id M X' r' Y' ∧ X'.map Wn.ct = X.map Wn.ct ∧ r'.ct = r.ct ∧ Y'.map Wn.ct = Y.map Wn.ct := by
  rw [h.eq, List.map_append, List.map_cons] at e
  obtain ⟨X', T, rfl, h1, h2⟩ := List.map_eq_append_iff.1 e
  obtain ⟨r', Y', rfl, h3, h4⟩ := List.map_eq_cons_iff.1 h2
  refine ⟨X', r', Y', ⟨rfl, ?_, fun v hv => ?_⟩, h1, h3, h4⟩
  · have := congrArg Wc.i h3; rw [← h.at']; exact this
  · have hm : v.ct ∈ X.map Wn.ct := by rw [← h1]; exact List.mem_map_of_mem hv
    obtain ⟨u, hu, hue⟩ := List.mem_map.1 hm
    have := h.no u hu
    have e1 : u.i = v.i := congrArg Wc.i hue
    rw [← e1]
    exact this

end Go.Proofs.Ytoipcnpemmajaaa

namespace Go.Proofs.Ytoipcnpemmajaaa
open Go.RowKit
set_option linter.unusedVariables false

set_option maxHeartbeats 400000 in
theorem eqRect7_same (x y ww hh : Int) (w : World) :
    Calls Try.prog 89 #[.agg #[.int .i64 x, .int .i64 y, .int .i64 ww, .int .i64 hh], .agg #[.int .i64 x, .int .i64 y, .int .i64 ww, .int .i64 hh]] w fun e w' => e = .returned (.bool true) ∧ Below w.heap.size w w' := by
  go_enter Try.func89, Try.ntmps89
  go_wp2
  go_returns
  exact ⟨rfl, by go_grown⟩

set_option maxRecDepth 100000 in
set_option maxHeartbeats 800000 in
theorem eqW_same (lo hi lo2 hi2 : Nat) (i x y p h : Int) (m : Bool) (ao bo : Option Addr) (ca cb : Nat) (D : List Int) (w : World) (ha : Row .i64 w lo hi ao D) (hb : Row .i64 w lo2 hi2 bo D) (h1 : hi ≤ w.heap.size) (h2 : hi2 ≤ w.heap.size) (hl : D.length ≤ 1048576) :
    Calls Try.prog 57 #[.agg #[.int .i64 i, .int .i64 x, .int .i64 y, .int .i64 p, .int .i64 h, .bool m, .slice ao D.length ca], .agg #[.int .i64 i, .int .i64 x, .int .i64 y, .int .i64 p, .int .i64 h, .bool m, .slice bo D.length cb]] w fun e w' => e = .returned (.bool true) ∧ Below w.heap.size w w' := by
  have EQ := hideP (fun w1 (kk : Below w.heap.size w w1) => eqI_same lo hi lo2 hi2 ao bo ca cb D w1 (ha.keep kk h1) (hb.keep kk h2) (by have := kk.size; omega) (by have := kk.size; omega) hl)
  have hii : (i != i) = false := by simp
  have hmm : (m != m) = false := by simp
  clear ha hb
  generalize D.length = n at *
  go_enter Try.func57, Try.ntmps57
  go_wp2_with fail
  refine Calls.mono (eqRect7_same x y p h _) ?_
  rintro e w1 ⟨rfl, k1⟩
  have K1 : Hid (Below w.heap.size w w1) := hideP (Below.trans (by go_grown) (k1.mono (by simp; omega)))
  have X1 : Hid (R7 w1 w.heap.size (.int .i64 i) (.int .i64 x) (.int .i64 y) (.int .i64 p) (.int .i64 h) (.bool m) (.slice ao n ca)) := hideP (R7.keep ⟨by simp, by simp, by simp, by simp, by simp, by simp, by simp, by simp, by simp; omega⟩ k1 (by simp; omega))
  have Y1 : Hid (R7 w1 (w.heap.size + 1) (.int .i64 i) (.int .i64 x) (.int .i64 y) (.int .i64 p) (.int .i64 h) (.bool m) (.slice bo n cb)) := hideP (R7.keep ⟨by simp, by simp, by simp, by simp, by simp, by simp, by simp, by simp, by simp⟩ k1 (by simp))
  clear k1
  obtain ⟨x0, x1, x2, x3, x4, x5, x6, x7, x8⟩ := X1.out
  obtain ⟨y0, y1, y2, y3, y4, y5, y6, y7, y8⟩ := Y1.out
  go_wp2_with fail
  refine Calls.mono (EQ.out w1 K1.out) ?_
  rintro e w2 ⟨rfl, k2⟩
  have K2 : Hid (Below w.heap.size w w2) := hideP (K1.out.trans (k2.mono K1.out.size))
  clear k2
  go_wp2
  go_returns
  exact ⟨rfl, K2.out⟩

theorem ctW_at {X Y : List Wn} {r : Wn} {M : List Wn} (h : M.map Wn.ct = (X ++ r :: Y).map Wn.ct) : ∃ Z W s, M = Z ++ s :: W ∧ Z.length = X.length ∧ s.i = r.i ∧ s.x = r.x ∧ s.y = r.y ∧ s.w = r.w ∧ s.h = r.h ∧ s.m = r.m ∧ s.b.L = r.b.L := by
  have hl : M.length = X.length + Y.length + 1 := by have := congrArg List.length h; simp at this; omega
  have hlt : X.length < M.length := by omega
  have e : M = M.take X.length ++ M[X.length] :: M.drop (X.length + 1) := by simp
  have h2 : (M[X.length]).ct = r.ct := by
    have : (M.map Wn.ct)[X.length]'(by simpa using hlt) = ((X ++ r :: Y).map Wn.ct)[X.length]'(by simp) := by simp only [h]
    simpa using this
  simp only [Wn.ct, Wc.mk.injEq] at h2
  exact ⟨_, _, _, e, by simp; omega, h2⟩

set_option maxRecDepth 100000 in
set_option maxHeartbeats 2000000 in
theorem eqWS_same (lo hi lo2 hi2 : Nat) (so so2 : Option Addr) (sc sc2 : Nat) (L M : List Wn) (w : World) (hE : M.map Wn.ct = L.map Wn.ct) (hL : Ws w lo hi so L) (hM : Ws w lo2 hi2 so2 M) (h1 : hi ≤ w.heap.size) (h2 : hi2 ≤ w.heap.size) (hn : L.length + wzs L ≤ 1048576) :
    Calls Try.prog 30 #[.slice so L.length sc, .slice so2 M.length sc2] w fun e w' => e = .returned (.bool true) ∧ Below w.heap.size w w' := by
  have hlen : M.length = L.length := lenW hE
  rw [hlen]
  have hn' : (L.length : Int) ≤ 1048576 := by omega
  have HE := hideP hE
  have HL := hideP hL
  have HM := hideP hM
  clear hE hL hM hlen
  go_enter Try.func30, Try.ntmps30
  go_wp2
  go_loopw [5] (fun i wr => ∃ X Y : List Wn, X ++ Y = L ∧ i = .int .i64 (X.length : Nat) ∧ Below w.heap.size w wr) (fun i _ => L.length - (intOf i).toNat)
  case atStart => exact ⟨[], L, rfl, rfl, Below.refl _ _⟩
  case round =>
    obtain ⟨X, Y, hXY, rfl, kb⟩ := hrel
    have hlen : X.length + Y.length = L.length := by rw [← hXY]; simp
    have hz := kb.size
    cases Y with
    | cons r Y =>
      have hlt : (X.length : Int) < (L.length : Int) := by simp at hlen; omega
      have hsz : r.b.L.length ≤ wzs L := wzs_mem (v := r) (by rw [← hXY]; simp)
      have h0 := HL.out
      have e0 := HE.out
      rw [← hXY] at h0 e0
      obtain ⟨Z, V, s, hMe, hZ, s0, s1, s2, s3, s4, s5, s6⟩ := ctW_at e0
      have m0 := HM.out
      rw [hMe] at m0
      obtain ⟨g, o, rfl, hg, hc, rD⟩ := Ws.at h0
      obtain ⟨g2, o2, rfl, hg2, hc2, qD⟩ := Ws.at m0
      obtain ⟨a0, a1, a2, a3, a4, a5, a6⟩ := (hc.keep kb (by omega)).seven
      obtain ⟨b0, b1, b2, b3, b4, b5, b6⟩ := (hc2.keep kb (by omega)).seven
      rw [hZ] at b0 b1 b2 b3 b4 b5 b6
      have hgl : g < wr.heap.size := by omega
      have hgl2 : g2 < wr.heap.size := by omega
      have HB := hideP kb
      have HXY := hideP hXY
      obtain ⟨ri, rx, ry, rp, rh, rm, ⟨ao, cap, gb, D⟩⟩ := r
      obtain ⟨si, sx, sy, sp, sh, sm, ⟨ao2, cap2, gb2, D2⟩⟩ := s
      simp only at s0 s1 s2 s3 s4 s5 s6 rD qD a0 a1 a2 a3 a4 a5 a6 b0 b1 b2 b3 b4 b5 b6 hsz
      subst s0 s1 s2 s3 s4 s5 s6
      have EQ := hideP (fun w1 (kk : Kept wr w1) => eqW_same lo hi lo2 hi2 si sx sy sp sh sm ao ao2 cap cap2 D2 w1 (rD.keep (HB.out.trans (Below.mono kk hz)) h1) (qD.keep (HB.out.trans (Below.mono kk hz)) h2) (by have := Below.size kk; omega) (by have := Below.size kk; omega) (by omega))
      clear h0 e0 m0 hc hc2 kb hXY hMe rD qD HL HM HE
      go_wp2
      refine wp_region_kept (by kernel_rfl) (by kernel_rfl) ?_
      repeat (refine kept_step (by rfl) ?_; apply Exists.intro; refine ⟨fun w1 k1 => ?_, fun K hK => ?_⟩; (focus (have hc := Kept.cell k1; go_simp; first | done | rfl | (go_at_call 57; exact kept_call k1 (EQ.out _ k1)))); (go_simp; refine hK _ ?_; clear hK K))
      refine wpQuiet_nil ?_
      intro w6 k6
      replace k6 := Kept.below k6
      have hc6 := Kept.cell k6
      have hf6 := Kept.frozen k6
      have hz6 := k6.size
      try simp only [World.size_alloc] at hz6
      try simp only [World.size_setCell] at hz6
      try simp only [World.size_drew] at hz6
      try (first | have hs6 := sz12 hz6 | have hs6 := sz11 hz6 | have hs6 := sz10 hz6 | have hs6 := sz9 hz6 | have hs6 := sz8 hz6 | have hs6 := sz7 hz6 | have hs6 := sz6 hz6 | have hs6 := sz5 hz6 | have hs6 := sz4 hz6 | have hs6 := sz3 hz6 | have hs6 := sz2 hz6 | have hs6 := sz1 hz6)
      go_wp2
      go_roundw
      case rel => exact ⟨X ++ [⟨si, sx, sy, sp, sh, sm, ⟨ao, cap, gb, D2⟩⟩], Y, midW HXY.out, by simp, HB.out.trans (k6.mono HB.out.size)⟩
      case measure => simp [intOf]; omega
    | nil =>
      have HB := hideP kb
      have hX : X = L := by simpa using hXY
      subst hX
      clear kb hXY
      go_wp2
      go_returns
      exact ⟨rfl, HB.out⟩

/-- Three cells in a box. -/
structure R3 (w : World) (b : Nat) (v0 v1 v2 : Value) : Prop where
  c0 : w.cell? ⟨b, 0, none⟩ = some v0
  c1 : w.cell? ⟨b, 1, none⟩ = some v1
  c2 : w.cell? ⟨b, 2, none⟩ = some v2
  fr : ∀ c, w.frozen? ⟨b, c, none⟩ = false
  lt : b < w.heap.size
theorem R3.keep {w w' : World} {b B : Nat} {v0 v1 v2 : Value} (h : R3 w b v0 v1 v2) (k : Below B w w') (hb : b < B) : R3 w' b v0 v1 v2 :=
  ⟨(k.cell (p := ⟨b, 0, none⟩) hb).trans h.c0, (k.cell (p := ⟨b, 1, none⟩) hb).trans h.c1, (k.cell (p := ⟨b, 2, none⟩) hb).trans h.c2, fun c => (k.frozen (p := ⟨b, c, none⟩) hb).trans (h.fr c), Nat.lt_of_lt_of_le h.lt k.size⟩
theorem R3.far {w w' : World} {b lo hi : Nat} {v0 v1 v2 : Value} (h : R3 w b v0 v1 v2) (f : Far lo hi w w') (hd : b < lo ∨ hi ≤ b) : R3 w' b v0 v1 v2 :=
  ⟨(f.cell b 0 h.lt hd).trans h.c0, (f.cell b 1 h.lt hd).trans h.c1, (f.cell b 2 h.lt hd).trans h.c2, fun c => (f.frozen b c h.lt hd).trans (h.fr c), Nat.lt_of_lt_of_le h.lt f.size⟩
theorem r3_new (w : World) (v0 v1 v2 : Value) (T : TypeId) : R3 (w.alloc (.cells #[v0, v1, v2] T)) w.heap.size v0 v1 v2 := ⟨by simp, by simp, by simp, by simp, by simp⟩

end Go.Proofs.Ytoipcnpemmajaaa
