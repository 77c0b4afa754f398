/- A window asked for by its id: the model's, and the program's. A window asked for by its id, pointed at by the program. -/
import Derived.Test.YtejgcheddloffaaTr11
import Derived.Test.YtejgcheddloffaaTr17
namespace Go.Proofs.Ytejgcheddloffaa
open Go.RowKit Go.Maps
set_option linter.unusedVariables false

/-- The first window of an id stands behind X and ahead of Y. -/
structure Fst (id : Int) (L X : List Wn) (r : Wn) (Y : List Wn) : Prop where
  eq : L = X ++ r :: Y
  at' : r.i = id
  no : ∀ v ∈ X, v.i ≠ id
theorem fst_or (id : Int) (L : List Wn) : (∀ v ∈ L, v.i ≠ id) ∨ ∃ X r Y, Fst id L X r Y := by
  induction L with
  | nil => exact .inl fun v h => by simp at h
  | cons v L ih =>
    by_cases e : v.i = id
    · exact .inr ⟨[], v, L, rfl, e, fun v h => by simp at h⟩
    · rcases ih with ih | ⟨X, r, Y, h⟩
      · refine .inl fun u hu => ?_
        rcases List.mem_cons.1 hu with rfl | hu
        · exact e
        · exact ih u hu
      · refine .inr ⟨v :: X, r, Y, by rw [h.eq]; rfl, h.at', fun u hu => ?_⟩
        rcases List.mem_cons.1 hu with rfl | hu
        · exact e
        · exact h.no u hu
/-- The code of asking for a window. -/
def askW (C : List Wc) (id : Int) : Int := if stF C = 0 then (if (C.map Wc.i).contains id then 0 else 4) else stF C
theorem askW_bad {C : List Wc} {id : Int} (h : ¬ stF C = 0) : askW C id = stF C := by unfold askW; rw [if_neg h]
theorem mapI (L : List Wn) : (L.map Wn.ct).map Wc.i = L.map Wn.i := by simp [Wn.ct]
theorem askW_none {L : List Wn} {id : Int} (h : stF (L.map Wn.ct) = 0) (hn : ∀ v ∈ L, v.i ≠ id) : askW (L.map Wn.ct) id = 4 := by
  unfold askW
  rw [if_pos h, if_neg]
  rw [mapI]
  simp only [List.contains_eq_mem, List.mem_map, decide_eq_true_eq]
  rintro ⟨v, hv, e⟩
  exact hn v hv e
theorem askW_yes {L X Y : List Wn} {r : Wn} {id : Int} (h : stF (L.map Wn.ct) = 0) (hf : Fst id L X r Y) : askW (L.map Wn.ct) id = 0 := by
  unfold askW
  rw [if_pos h, if_pos]
  rw [mapI, hf.eq]
  simp [hf.at']

set_option maxHeartbeats 1000000 in
theorem l7At_none (lo hi : Nat) (so : Option Addr) (sc : Nat) (L : List Wn) (id : Int) (w : World) (hL : Ws w lo hi so L) (hs : hi ≤ w.heap.size) (hn : L.length ≤ 1048576) (h : ∀ v ∈ L, v.i ≠ id) :
    Calls Try.prog 60 #[.slice so L.length sc, .int .i64 id] w fun e w' => e = .returned (.int .i64 (-1)) ∧ w' = w := by
  have hn' : (L.length : Int) ≤ 1048576 := by omega
  have HL := hideP hL
  have HN := hideP h
  clear hL h
  go_enter Try.func60, Try.ntmps60
  go_wp2
  go_loop [5] (fun i => ∃ X Y : List Wn, X ++ Y = L ∧ i = .int .i64 (X.length : Nat)) (fun i => L.length - (intOf i).toNat)
  case atStart => exact ⟨[], L, rfl, rfl⟩
  case round =>
    obtain ⟨X, Y, hXY, rfl⟩ := hrel
    have hlen : X.length + Y.length = L.length := by rw [← hXY]; simp
    cases Y with
    | cons r Y =>
      have hlt : (X.length : Int) < (L.length : Int) := by simp at hlen; omega
      have h0 := HL.out
      rw [← hXY] at h0
      obtain ⟨g, o, rfl, hg, hc, _⟩ := Ws.at h0
      obtain ⟨a0, _⟩ := hc.seven
      have hgl : g < w.heap.size := by omega
      have hne : (r.i == id) = false := by simpa using HN.out r (by rw [← hXY]; simp)
      have HXY := hideP hXY
      clear h0 hc hXY hlen HL HN
      generalize hri : r.i = ri at *
      go_wp2
      go_round
      case rel => exact ⟨X ++ [r], Y, midW HXY.out, by simp⟩
      case measure => simp [intOf]; omega
    | nil =>
      have hX : X = L := by simpa using hXY
      subst hX
      clear hXY HL HN hlen
      go_wp2
      go_returns
      exact ⟨rfl, rfl⟩

set_option maxHeartbeats 1000000 in
theorem l7At_some (lo hi : Nat) (so : Option Addr) (sc : Nat) (L X0 Y0 : List Wn) (r0 : Wn) (id : Int) (w : World) (hL : Ws w lo hi so L) (hs : hi ≤ w.heap.size) (hn : L.length ≤ 1048576) (h : Fst id L X0 r0 Y0) :
    Calls Try.prog 60 #[.slice so L.length sc, .int .i64 id] w fun e w' => e = .returned (.int .i64 (X0.length : Nat)) ∧ w' = w := by
  have hn' : (L.length : Int) ≤ 1048576 := by omega
  have HL := hideP hL
  have HF := hideP h
  have hX0 : (X0.length : Int) < (L.length : Int) := by rw [h.eq]; simp; omega
  clear hL h
  go_enter Try.func60, Try.ntmps60
  go_wp2
  go_loop [5] (fun i => ∃ X Y : List Wn, X ++ Y = X0 ∧ i = .int .i64 (X.length : Nat)) (fun i => L.length - (intOf i).toNat)
  case atStart => exact ⟨[], X0, rfl, rfl⟩
  case round =>
    obtain ⟨X, Y, hXY, rfl⟩ := hrel
    have hlen : X.length + Y.length = X0.length := by rw [← hXY]; simp
    have hlt : (X.length : Int) < (L.length : Int) := by omega
    cases Y with
    | cons r Y =>
      have h0 := HL.out
      rw [HF.out.eq, ← hXY] at h0
      simp only [List.append_assoc, List.cons_append] at h0
      obtain ⟨g, o, rfl, hg, hc, _⟩ := Ws.at h0
      obtain ⟨a0, _⟩ := hc.seven
      have hgl : g < w.heap.size := by omega
      have hne : (r.i == id) = false := by simpa using HF.out.no r (by rw [← hXY]; simp)
      have HXY := hideP hXY
      clear h0 hc hXY HL HF
      generalize hri : r.i = ri at *
      go_wp2
      go_round
      case rel => exact ⟨X ++ [r], Y, midW HXY.out, by simp⟩
      case measure => simp [intOf]; simp at hlen; omega
    | nil =>
      have hX : X = X0 := by simpa using hXY
      subst hX
      have h0 := HL.out
      rw [HF.out.eq] at h0
      obtain ⟨g, o, rfl, hg, hc, _⟩ := Ws.at h0
      obtain ⟨a0, _⟩ := hc.seven
      have hgl : g < w.heap.size := by omega
      have hne : (r0.i == id) = true := by simpa using HF.out.at'
      clear hXY HL HF h0 hc hlen
      generalize hri : r0.i = ri at *
      go_wp2
      go_returns
      exact ⟨rfl, rfl⟩

set_option maxHeartbeats 800000 in
theorem asked_bad (lo hi : Nat) (so : Option Addr) (sc : Nat) (L : List Wn) (id : Int) (w : World) (hL : Ws w lo hi so L) (hs : hi ≤ w.heap.size) (hn : L.length + wzs L ≤ 1048576) (h : ¬ stF (L.map Wn.ct) = 0) :
    Calls Try.prog 33 #[.slice so L.length sc, .int .i64 id] w fun e w' => e = .returned (.tuple #[.int .i64 0, .int .i64 (askW (L.map Wn.ct) id)]) ∧ Below w.heap.size w w' := by
  have SF := l7F_any lo hi so sc L w hL hs hn
  rw [askW_bad h]
  obtain ⟨F, hF⟩ : ∃ F, stF (L.map Wn.ct) = F := ⟨_, rfl⟩
  rw [hF] at SF h ⊢
  have hne : (F != 0) = true := by simpa using h
  have SF' := hideP SF
  clear SF hL hF h
  go_enter Try.func33, Try.ntmps33
  go_wp2_with fail
  refine Calls.mono SF'.out ?_
  rintro e w1 ⟨rfl, k1⟩
  have K1 := hideP k1
  clear k1
  go_wp2
  go_returns
  exact ⟨rfl, K1.out⟩

set_option maxHeartbeats 800000 in
theorem asked_none (lo hi : Nat) (so : Option Addr) (sc : Nat) (L : List Wn) (id : Int) (w : World) (hL : Ws w lo hi so L) (hs : hi ≤ w.heap.size) (hn : L.length + wzs L ≤ 1048576) (h : stF (L.map Wn.ct) = 0) (hno : ∀ v ∈ L, v.i ≠ id) :
    Calls Try.prog 33 #[.slice so L.length sc, .int .i64 id] w fun e w' => e = .returned (.tuple #[.int .i64 0, .int .i64 (askW (L.map Wn.ct) id)]) ∧ Below w.heap.size w w' := by
  have SF := l7F_any lo hi so sc L w hL hs hn
  rw [h] at SF
  rw [askW_none h hno]
  have SF' := hideP SF
  have LA := hideP (fun w1 (kk : Below w.heap.size w w1) => l7At_none lo hi so sc L id w1 (hL.keep kk hs) (by have := kk.size; omega) (by omega) hno)
  clear SF hL hno h
  go_enter Try.func33, Try.ntmps33
  go_wp2_with fail
  refine Calls.mono SF'.out ?_
  rintro e w1 ⟨rfl, k1⟩
  have K1 := hideP k1
  clear k1
  go_wp2_with fail
  refine Calls.mono (LA.out w1 K1.out) ?_
  rintro e w2 ⟨rfl, rfl⟩
  go_wp2
  go_returns
  exact ⟨rfl, K1.out⟩

set_option maxHeartbeats 800000 in
theorem asked_yes (lo hi : Nat) (so : Option Addr) (sc : Nat) (L X0 Y0 : List Wn) (r0 : Wn) (id : Int) (w : World) (hL : Ws w lo hi so L) (hs : hi ≤ w.heap.size) (hn : L.length + wzs L ≤ 1048576) (h : stF (L.map Wn.ct) = 0) (hf : Fst id L X0 r0 Y0) :
    Calls Try.prog 33 #[.slice so L.length sc, .int .i64 id] w fun e w' => e = .returned (.tuple #[.int .i64 (X0.length : Nat), .int .i64 0]) ∧ Below w.heap.size w w' := by
  have SF := l7F_any lo hi so sc L w hL hs hn
  rw [h] at SF
  have SF' := hideP SF
  have LA := hideP (fun w1 (kk : Below w.heap.size w w1) => l7At_some lo hi so sc L X0 Y0 r0 id w1 (hL.keep kk hs) (by have := kk.size; omega) (by omega) hf)
  clear SF hL h hf
  go_enter Try.func33, Try.ntmps33
  go_wp2_with fail
  refine Calls.mono SF'.out ?_
  rintro e w1 ⟨rfl, k1⟩
  have K1 := hideP k1
  clear k1
  go_wp2_with fail
  refine Calls.mono (LA.out w1 K1.out) ?_
  rintro e w2 ⟨rfl, rfl⟩
  go_wp2
  go_returns
  exact ⟨rfl, K1.out⟩
end Go.Proofs.Ytejgcheddloffaa

namespace Go.Proofs.Ytejgcheddloffaa
open Go.RowKit Go.Maps
set_option linter.unusedVariables false

set_option maxHeartbeats 1000000 in
theorem index_none (lo hi : Nat) (ao : Option Addr) (ca : Nat) (I : List Int) (id : Int) (w : World) (hI : Row .i64 w lo hi ao I) (hs : hi ≤ w.heap.size) (hn : I.length ≤ 1048576) (h : ∀ x ∈ I, x ≠ id) :
    Calls Try.prog 71 #[.slice ao I.length ca, .int .i64 id] w fun e w' => e = .returned (.int .i64 (-1)) ∧ w' = w := by
  have hn' : (I.length : Int) ≤ 1048576 := by omega
  have HI := hideP hI
  have HN := hideP h
  clear hI h
  go_enter Try.func71, Try.ntmps71
  go_wp2
  go_loop [8] (fun i => ∃ j : Nat, j ≤ I.length ∧ i = .int .i64 j) (fun i => I.length - (intOf i).toNat)
  case atStart => exact ⟨0, Nat.zero_le _, rfl⟩
  case round =>
    obtain ⟨j, hj, rfl⟩ := hrel
    by_cases hlt : j < I.length
    · have hlt' : (j : Int) < (I.length : Int) := by omega
      rcases HI.out with e | ⟨g, o, rfl, _, hg, hc⟩
      · rw [e] at hlt; simp at hlt
      have a0 := hc j hlt
      have hne : (id == I[j]) = false := by simpa using (HN.out I[j] (List.getElem_mem hlt)).symm
      have hgl : g < w.heap.size := by omega
      clear hc HI HN
      generalize I[j] = x at *
      go_wp2
      go_round
      case rel => exact ⟨j + 1, by omega, by go_num⟩
      case measure => simp [intOf]; omega
    · obtain rfl : j = I.length := by omega
      clear HI HN
      go_wp2
      go_returns
      exact ⟨rfl, rfl⟩

set_option maxHeartbeats 1000000 in
theorem index_some (lo hi : Nat) (ao : Option Addr) (ca : Nat) (I A B : List Int) (id : Int) (w : World) (hI : Row .i64 w lo hi ao I) (hs : hi ≤ w.heap.size) (hn : I.length ≤ 1048576) (he : I = A ++ id :: B) (h : ∀ x ∈ A, x ≠ id) :
    Calls Try.prog 71 #[.slice ao I.length ca, .int .i64 id] w fun e w' => e = .returned (.int .i64 (A.length : Nat)) ∧ w' = w := by
  have hn' : (I.length : Int) ≤ 1048576 := by omega
  have HI := hideP hI
  have HN := hideP h
  have HE := hideP he
  have hAl : A.length < I.length := by rw [he]; simp
  clear hI h he
  go_enter Try.func71, Try.ntmps71
  go_wp2
  go_loop [8] (fun i => ∃ j : Nat, j ≤ A.length ∧ i = .int .i64 j) (fun i => I.length - (intOf i).toNat)
  case atStart => exact ⟨0, Nat.zero_le _, rfl⟩
  case round =>
    obtain ⟨j, hj, rfl⟩ := hrel
    have hlt : j < I.length := by omega
    have hlt' : (j : Int) < (I.length : Int) := by omega
    rcases HI.out with e | ⟨g, o, rfl, _, hg, hc⟩
    · rw [e] at hlt; simp at hlt
    have a0 := hc j hlt
    have hgl : g < w.heap.size := by omega
    by_cases hjA : j < A.length
    · have hx : I[j] = A[j] := by simp only [HE.out]; exact List.getElem_append_left hjA
      have hne : (id == I[j]) = false := by rw [hx]; simpa using (HN.out A[j] (List.getElem_mem hjA)).symm
      clear hc HI HN HE hx
      generalize I[j] = x at *
      go_wp2
      go_round
      case rel => exact ⟨j + 1, by omega, by go_num⟩
      case measure => simp [intOf]; omega
    · obtain rfl : j = A.length := by omega
      have hx : I[A.length] = id := by simp [HE.out]
      rw [hx] at a0
      have hne : (id == id) = true := by simp
      clear hc HI HN HE hx
      go_wp2
      go_returns
      exact ⟨rfl, rfl⟩

set_option maxHeartbeats 800000 in
theorem place_bad (lo hi : Nat) (so : Option Addr) (sc : Nat) (L : List Wn) (id : Int) (w : World) (hL : Ws w lo hi so L) (hs : hi ≤ w.heap.size) (hn : L.length + wzs L ≤ 1048576) (h : ¬ stF (L.map Wn.ct) = 0) :
    Calls Try.prog 56 #[.slice so L.length sc, .int .i64 id] w fun e w' => e = .returned (.tuple #[.int .i64 0, .int .i64 (askW (L.map Wn.ct) id)]) ∧ Below w.heap.size w w' := by
  have SF := iStack_any lo hi so sc L w hL hs hn
  rw [askW_bad h]
  obtain ⟨F, hF⟩ : ∃ F, stF (L.map Wn.ct) = F := ⟨_, rfl⟩
  rw [hF] at SF h ⊢
  have hne : (F != 0) = true := by simpa using h
  have SF' := hideP SF
  clear SF hL hF h
  go_enter Try.func56, Try.ntmps56
  go_wp2_with fail
  refine Calls.mono SF'.out ?_
  rintro e w1 ⟨rfl, k1⟩
  have K1 := hideP k1
  clear k1
  go_wp2
  go_returns
  exact ⟨rfl, K1.out⟩

set_option maxHeartbeats 800000 in
theorem place_none (lo hi : Nat) (so : Option Addr) (sc : Nat) (L : List Wn) (id : Int) (w : World) (hL : Ws w lo hi so L) (hs : hi ≤ w.heap.size) (hn : L.length + wzs L ≤ 1048576) (h : stF (L.map Wn.ct) = 0) (hno : ∀ v ∈ L, v.i ≠ id) :
    Calls Try.prog 56 #[.slice so L.length sc, .int .i64 id] w fun e w' => e = .returned (.tuple #[.int .i64 0, .int .i64 (askW (L.map Wn.ct) id)]) ∧ Below w.heap.size w w' := by
  have SF := iStack_any lo hi so sc L w hL hs hn
  rw [h] at SF
  rw [askW_none h hno]
  have SF' := hideP SF
  have ID := fun w1 (kk : Below w.heap.size w w1) => idsIn_any lo hi so sc L w1 (hL.keep kk hs) (by have := kk.size; omega) (by omega)
  have hno' : ∀ x ∈ L.map Wn.i, x ≠ id := fun x hx => by obtain ⟨v, hv, rfl⟩ := List.mem_map.1 hx; exact hno v hv
  have hlI : (L.map Wn.i).length ≤ 1048576 := by simp; omega
  obtain ⟨I, hI⟩ : ∃ I, L.map Wn.i = I := ⟨_, rfl⟩
  rw [hI] at ID hno' hlI
  have ID' := hideP ID
  have HN := hideP hno'
  clear SF hL hno h ID hI hno'
  go_enter Try.func56, Try.ntmps56
  go_wp2_with fail
  refine Calls.mono SF'.out ?_
  rintro e w1 ⟨rfl, k1⟩
  have K1 := hideP k1
  clear k1
  go_wp2_with fail
  refine Calls.mono (ID'.out w1 K1.out) ?_
  rintro e w2 ⟨ao, cap, rfl, O2, k2⟩
  have K2 := hideP (K1.out.trans (k2.mono K1.out.size))
  have IX := hideP (index_none w1.heap.size w2.heap.size ao cap I id w2 (OwnR.wrt O2).row (Nat.le_refl _) hlI HN.out)
  clear k2 O2
  go_wp2_with fail
  refine Calls.mono IX.out ?_
  rintro e w3 ⟨rfl, rfl⟩
  go_wp2
  go_returns
  exact ⟨rfl, K2.out⟩

set_option maxHeartbeats 800000 in
theorem place_yes (lo hi : Nat) (so : Option Addr) (sc : Nat) (L X Y : List Wn) (r : Wn) (id : Int) (w : World) (hL : Ws w lo hi so L) (hs : hi ≤ w.heap.size) (hn : L.length + wzs L ≤ 1048576) (h : stF (L.map Wn.ct) = 0) (hf : Fst id L X r Y) :
    Calls Try.prog 56 #[.slice so L.length sc, .int .i64 id] w fun e w' => e = .returned (.tuple #[.int .i64 (X.length : Nat), .int .i64 0]) ∧ Below w.heap.size w w' := by
  have SF := iStack_any lo hi so sc L w hL hs hn
  rw [h] at SF
  have SF' := hideP SF
  have ID := fun w1 (kk : Below w.heap.size w w1) => idsIn_any lo hi so sc L w1 (hL.keep kk hs) (by have := kk.size; omega) (by omega)
  have hIe : L.map Wn.i = X.map Wn.i ++ id :: Y.map Wn.i := by rw [hf.eq]; simp [hf.at']
  have hno' : ∀ x ∈ X.map Wn.i, x ≠ id := fun x hx => by obtain ⟨v, hv, rfl⟩ := List.mem_map.1 hx; exact hf.no v hv
  have hlI : (L.map Wn.i).length ≤ 1048576 := by simp; omega
  have hXl : (X.map Wn.i).length = X.length := by simp
  have hXL : X.length < L.length := by rw [hf.eq]; simp
  obtain ⟨I, hI⟩ : ∃ I, L.map Wn.i = I := ⟨_, rfl⟩
  obtain ⟨A, hA⟩ : ∃ A, X.map Wn.i = A := ⟨_, rfl⟩
  rw [hI] at ID hlI hIe
  rw [hA] at hno' hIe hXl
  have ID' := hideP ID
  have HN := hideP hno'
  have HE := hideP hIe
  have HX := hideP hXl
  clear SF hL h ID hI hno' hIe hf hA hXl
  go_enter Try.func56, Try.ntmps56
  go_wp2_with fail
  refine Calls.mono SF'.out ?_
  rintro e w1 ⟨rfl, k1⟩
  have K1 := hideP k1
  clear k1
  go_wp2_with fail
  refine Calls.mono (ID'.out w1 K1.out) ?_
  rintro e w2 ⟨ao, cap, rfl, O2, k2⟩
  have K2 := hideP (K1.out.trans (k2.mono K1.out.size))
  have IX := index_some w1.heap.size w2.heap.size ao cap I A (Y.map Wn.i) id w2 (OwnR.wrt O2).row (Nat.le_refl _) hlI HE.out HN.out
  rw [HX.out] at IX
  have IX' := hideP IX
  have hX0 : ¬ (X.length : Int) < 0 := by omega
  clear k2 O2 IX
  go_wp2_with fail
  refine Calls.mono IX'.out ?_
  rintro e w3 ⟨rfl, rfl⟩
  go_wp2
  go_returns
  exact ⟨rfl, K2.out⟩

theorem fst_ct {id : Int} {L M X Y : List Wn} {r : Wn} (h : Fst id L X r Y) (e : M.map Wn.ct = L.map Wn.ct) : ∃ X' r' Y', Fst id M X' r' Y' ∧ X'.map Wn.ct = X.map Wn.ct ∧ r'.ct = r.ct ∧ Y'.map Wn.ct = Y.map Wn.ct := by
  rw [h.eq, List.map_append, List.map_cons] at e
  obtain ⟨X', T, rfl, h1, h2⟩ := List.map_eq_append_iff.1 e
  obtain ⟨r', Y', rfl, h3, h4⟩ := List.map_eq_cons_iff.1 h2
  refine ⟨X', r', Y', ⟨rfl, ?_, fun v hv => ?_⟩, h1, h3, h4⟩
  · have := congrArg Wc.i h3; rw [← h.at']; exact this
  · have hm : v.ct ∈ X.map Wn.ct := by rw [← h1]; exact List.mem_map_of_mem hv
    obtain ⟨u, hu, hue⟩ := List.mem_map.1 hm
    have := h.no u hu
    have e1 : u.i = v.i := congrArg Wc.i hue
    rw [← e1]
    exact this

theorem askW_bne {C : List Wc} {id : Int} (h : ¬ stF C = 0) : (askW C id != 0) = true := by rw [askW_bad h]; simpa using h
set_option maxHeartbeats 800000 in
theorem point_bad (lo hi : Nat) (so : Option Addr) (sc : Nat) (L : List Wn) (id : Int) (w : World) (hL : Ws w lo hi so L) (hs : hi ≤ w.heap.size) (hn : L.length + wzs L ≤ 1048576) (h : ¬ stF (L.map Wn.ct) = 0) :
    Calls Try.prog 30 #[.slice so L.length sc, .int .i64 id] w fun e w' => e = .returned (.tuple #[.slice none 0 0, .pointer none, .int .i64 (askW (L.map Wn.ct) id)]) ∧ Below w.heap.size w w' := by
  have SF := place_bad lo hi so sc L id w hL hs hn h
  have hne := askW_bne (id := id) h
  obtain ⟨F, hF⟩ : ∃ F, askW (L.map Wn.ct) id = F := ⟨_, rfl⟩
  rw [hF] at SF hne ⊢
  have SF' := hideP SF
  clear SF hL hF h
  go_enter Try.func30, Try.ntmps30
  go_wp2_with fail
  refine Calls.mono SF'.out ?_
  rintro e w1 ⟨rfl, k1⟩
  have K1 := hideP k1
  clear k1
  go_wp2
  go_returns
  exact ⟨rfl, K1.out⟩

set_option maxHeartbeats 800000 in
theorem point_none (lo hi : Nat) (so : Option Addr) (sc : Nat) (L : List Wn) (id : Int) (w : World) (hL : Ws w lo hi so L) (hs : hi ≤ w.heap.size) (hn : L.length + wzs L ≤ 1048576) (h : stF (L.map Wn.ct) = 0) (hno : ∀ v ∈ L, v.i ≠ id) :
    Calls Try.prog 30 #[.slice so L.length sc, .int .i64 id] w fun e w' => e = .returned (.tuple #[.slice none 0 0, .pointer none, .int .i64 (askW (L.map Wn.ct) id)]) ∧ Below w.heap.size w w' := by
  have SF := place_none lo hi so sc L id w hL hs hn h hno
  rw [askW_none h hno] at SF ⊢
  have SF' := hideP SF
  clear SF hL h hno
  go_enter Try.func30, Try.ntmps30
  go_wp2_with fail
  refine Calls.mono SF'.out ?_
  rintro e w1 ⟨rfl, k1⟩
  have K1 := hideP k1
  clear k1
  go_wp2
  go_returns
  exact ⟨rfl, K1.out⟩

set_option maxRecDepth 100000 in
set_option maxHeartbeats 800000 in
theorem point_yes (lo hi : Nat) (so : Option Addr) (sc : Nat) (L X Y : List Wn) (r : Wn) (id : Int) (w : World) (hL : Ws w lo hi so L) (hs : hi ≤ w.heap.size) (hn : L.length + wzs L ≤ 1048576) (h : stF (L.map Wn.ct) = 0) (hf : Fst id L X r Y) :
    Calls Try.prog 30 #[.slice so L.length sc, .int .i64 id] w fun e w' => ∃ (g c : Nat) (X' Y' : List Wn) (r' : Wn), e = .returned (.tuple #[.slice (some ⟨g, 0, none⟩) L.length c, .pointer (some ⟨g, X.length * 7, none⟩), .int .i64 0]) ∧ X'.map Wn.ct = X.map Wn.ct ∧ r'.ct = r.ct ∧ Y'.map Wn.ct = Y.map Wn.ct ∧ LinV Wn.pals 51 w' w.heap.size (some ⟨g, 0, none⟩) c (X' ++ r' :: Y') ∧ w.heap.size ≤ g ∧ g < w'.heap.size ∧ Below w.heap.size w w' := by
  have SF' := hideP (place_yes lo hi so sc L X Y r id w hL hs hn h hf)
  have PA := hideP (fun w1 (kk : Below w.heap.size w w1) => panes_any lo hi so sc L w1 (hL.keep kk hs) (by have := kk.size; omega) hn)
  have hXL : X.length < L.length := by rw [hf.eq]; simp
  have hXi : (X.length : Int) < (L.length : Int) := by omega
  have HF := hideP hf
  clear hL h hf
  go_enter Try.func30, Try.ntmps30
  go_wp2_with fail
  refine Calls.mono SF'.out ?_
  rintro e w1 ⟨rfl, k1⟩
  have K2 := hideP k1
  clear k1
  go_wp2_with fail
  refine Calls.mono (PA.out w1 K2.out) ?_
  rintro e w4 ⟨s, c, M, rfl, hM, LN, k4⟩
  have K4 := hideP (K2.out.trans (k4.mono K2.out.size))
  obtain ⟨X', r', Y', hf', e1, e2, e3⟩ := fst_ct HF.out hM
  have hMl := lenW hM
  have hspv := LN.own.sp pals7
  have hMe := hf'.eq
  subst hMe
  obtain ⟨g, rfl, g1, g2, _⟩ := SpV.at hspv
  have LN' := hideP (show LinV Wn.pals 51 w4 w.heap.size (some ⟨g, 0, none⟩) c (X' ++ r' :: Y') from ⟨LN.own.le K2.out.size, LN.cis.wide K2.out.size (Nat.le_refl _), LN.ty⟩)
  have E1 := hideP e1
  have E2 := hideP e2
  have E3 := hideP e3
  have hg1 : w.heap.size ≤ g := Nat.le_trans K2.out.size g1
  rw [hMl]
  clear k4 LN hM hf' e1 e2 e3 hspv hMl HF PA SF'
  go_wp2
  refine wp_region_kept (by kernel_rfl) (by kernel_rfl) ?_
  repeat (refine kept_step (by rfl) ?_; apply Exists.intro; refine ⟨fun w1 k1 => ?_, fun K hK => ?_⟩; (focus (have hc := Kept.cell k1; go_simp; first | done | rfl)); (go_simp; refine hK _ ?_; clear hK K))
  refine wpQuiet_nil ?_
  intro w8 k8
  replace k8 := Kept.below k8
  have hc8 := Kept.cell k8
  have hf8 := Kept.frozen k8
  have hz8 := k8.size
  try simp only [World.size_alloc] at hz8
  try simp only [World.size_setCell] at hz8
  try simp only [World.size_drew] at hz8
  try (first | have hs8 := sz12 hz8 | have hs8 := sz11 hz8 | have hs8 := sz10 hz8 | have hs8 := sz9 hz8 | have hs8 := sz8 hz8 | have hs8 := sz7 hz8 | have hs8 := sz6 hz8 | have hs8 := sz5 hz8 | have hs8 := sz4 hz8 | have hs8 := sz3 hz8 | have hs8 := sz2 hz8 | have hs8 := sz1 hz8)
  have K8 := hideP (K4.out.trans (k8.mono K4.out.size))
  have LN8 := hideP (LN'.out.keep k8)
  have n8 := k8.size
  go_wp2
  go_returns
  exact ⟨g, c, X', Y', r', rfl, E1.out, E2.out, E3.out, LN8.out, hg1, by omega, K8.out⟩
end Go.Proofs.Ytejgcheddloffaa
