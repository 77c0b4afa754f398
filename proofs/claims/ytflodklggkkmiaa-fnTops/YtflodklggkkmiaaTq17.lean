/- A window asked for by its id, pointed at by the program. Windows held against each other by the laws' own functions. Windows marked, and held behind it. -/
import Derived.Test.YtflodklggkkmiaaTq16
import Derived.Test.YtflodklggkkmiaaTq7
namespace Go.Proofs.Ytflodklggkkmiaa
open Go.RowKit Go.Maps
set_option linter.unusedVariables false

set_option maxHeartbeats 1000000 in
theorem index_none (lo hi : Nat) (ao : Option Addr) (ca : Nat) (I : List Int) (id : Int) (w : World) (hI : Row .i64 w lo hi ao I) (hs : hi ≤ w.heap.size) (hn : I.length ≤ 1048576) (h : ∀ x ∈ I, x ≠ id) :
    Calls Try.prog 92 #[.slice ao I.length ca, .int .i64 id] w fun e w' => e = .returned (.int .i64 (-1)) ∧ w' = w := by
  have hn' : (I.length : Int) ≤ 1048576 := by omega
  have HI := hideP hI
  have HN := hideP h
  clear hI h
  go_enter Try.func92, Try.ntmps92
  go_wp2
  go_loop [8] (fun i => ∃ j : Nat, j ≤ I.length ∧ i = .int .i64 j) (fun i => I.length - (intOf i).toNat)
  case atStart => exact ⟨0, Nat.zero_le _, rfl⟩
  case round =>
    obtain ⟨j, hj, rfl⟩ := hrel
    by_cases hlt : j < I.length
    · have hlt' : (j : Int) < (I.length : Int) := by omega
      rcases HI.out with e | ⟨g, o, rfl, _, hg, hc⟩
      · rw [e] at hlt; simp at hlt
      have a0 := hc j hlt
      have hne : (id == I[j]) = false := by simpa using (HN.out I[j] (List.getElem_mem hlt)).symm
      have hgl : g < w.heap.size := by omega
      clear hc HI HN
      generalize I[j] = x at *
      go_wp2
      go_round
      case rel => exact ⟨j + 1, by omega, by go_num⟩
      case measure => simp [intOf]; omega
    · obtain rfl : j = I.length := by omega
      clear HI HN
      go_wp2
      go_returns
      exact ⟨rfl, rfl⟩

set_option maxHeartbeats 1000000 in
theorem index_some (lo hi : Nat) (ao : Option Addr) (ca : Nat) (I A B : List Int) (id : Int) (w : World) (hI : Row .i64 w lo hi ao I) (hs : hi ≤ w.heap.size) (hn : I.length ≤ 1048576) (he : I = A ++ id :: B) (h : ∀ x ∈ A, x ≠ id) :
    Calls Try.prog 92 #[.slice ao I.length ca, .int .i64 id] w fun e w' => e = .returned (.int .i64 (A.length : Nat)) ∧ w' = w := by
  have hn' : (I.length : Int) ≤ 1048576 := by omega
  have HI := hideP hI
  have HN := hideP h
  have HE := hideP he
  have hAl : A.length < I.length := by rw [he]; simp
  clear hI h he
  go_enter Try.func92, Try.ntmps92
  go_wp2
  go_loop [8] (fun i => ∃ j : Nat, j ≤ A.length ∧ i = .int .i64 j) (fun i => I.length - (intOf i).toNat)
  case atStart => exact ⟨0, Nat.zero_le _, rfl⟩
  case round =>
    obtain ⟨j, hj, rfl⟩ := hrel
    have hlt : j < I.length := by omega
    have hlt' : (j : Int) < (I.length : Int) := by omega
    rcases HI.out with e | ⟨g, o, rfl, _, hg, hc⟩
    · rw [e] at hlt; simp at hlt
    have a0 := hc j hlt
    have hgl : g < w.heap.size := by omega
    by_cases hjA : j < A.length
    · have hx : I[j] = A[j] := by simp only [HE.out]; exact List.getElem_append_left hjA
      have hne : (id == I[j]) = false := by rw [hx]; simpa using (HN.out A[j] (List.getElem_mem hjA)).symm
      clear hc HI HN HE hx
      generalize I[j] = x at *
      go_wp2
      go_round
      case rel => exact ⟨j + 1, by omega, by go_num⟩
      case measure => simp [intOf]; omega
    · obtain rfl : j = A.length := by omega
      have hx : I[A.length] = id := by simp [HE.out]
      rw [hx] at a0
      have hne : (id == id) = true := by simp
      clear hc HI HN HE hx
      go_wp2
      go_returns
      exact ⟨rfl, rfl⟩

set_option maxHeartbeats 800000 in
theorem place_bad (lo hi : Nat) (so : Option Addr) (sc : Nat) (L : List Wn) (id : Int) (w : World) (hL : Ws w lo hi so L) (hs : hi ≤ w.heap.size) (hn : L.length + wzs L ≤ 1048576) (h : ¬ stF (L.map Wn.ct) = 0) :
    Calls Try.prog 75 #[.slice so L.length sc, .int .i64 id] w fun e w' => e = .returned (.tuple #[.int .i64 0, .int .i64 (askW (L.map Wn.ct) id)]) ∧ Below w.heap.size w w' := by
  have SF := iStack_any lo hi so sc L w hL hs hn
  rw [askW_bad h]
  obtain ⟨F, hF⟩ : ∃ F, stF (L.map Wn.ct) = F := ⟨_, rfl⟩
  rw [hF] at SF h ⊢
  have hne : (F != 0) = true := by simpa using h
  have SF' := hideP SF
  clear SF hL hF h
  go_enter Try.func75, Try.ntmps75
  go_wp2_with fail
  refine Calls.mono SF'.out ?_
  rintro e w1 ⟨rfl, k1⟩
  have K1 := hideP k1
  clear k1
  go_wp2
  go_returns
  exact ⟨rfl, K1.out⟩

set_option maxHeartbeats 800000 in
theorem place_none (lo hi : Nat) (so : Option Addr) (sc : Nat) (L : List Wn) (id : Int) (w : World) (hL : Ws w lo hi so L) (hs : hi ≤ w.heap.size) (hn : L.length + wzs L ≤ 1048576) (h : stF (L.map Wn.ct) = 0) (hno : ∀ v ∈ L, v.i ≠ id) :
    Calls Try.prog 75 #[.slice so L.length sc, .int .i64 id] w fun e w' => e = .returned (.tuple #[.int .i64 0, .int .i64 (askW (L.map Wn.ct) id)]) ∧ Below w.heap.size w w' := by
  have SF := iStack_any lo hi so sc L w hL hs hn
  rw [h] at SF
  rw [askW_none h hno]
  have SF' := hideP SF
  have ID := fun w1 (kk : Below w.heap.size w w1) => idsIn_any lo hi so sc L w1 (hL.keep kk hs) (by have := kk.size; omega) (by omega)
  have hno' : ∀ x ∈ L.map Wn.i, x ≠ id := fun x hx => by obtain ⟨v, hv, rfl⟩ := List.mem_map.1 hx; exact hno v hv
  have hlI : (L.map Wn.i).length ≤ 1048576 := by simp; omega
  obtain ⟨I, hI⟩ : ∃ I, L.map Wn.i = I := ⟨_, rfl⟩
  rw [hI] at ID hno' hlI
  have ID' := hideP ID
  have HN := hideP hno'
  clear SF hL hno h ID hI hno'
  go_enter Try.func75, Try.ntmps75
  go_wp2_with fail
  refine Calls.mono SF'.out ?_
  rintro e w1 ⟨rfl, k1⟩
  have K1 := hideP k1
  clear k1
  go_wp2_with fail
  refine Calls.mono (ID'.out w1 K1.out) ?_
  rintro e w2 ⟨ao, cap, rfl, O2, k2⟩
  have K2 := hideP (K1.out.trans (k2.mono K1.out.size))
  have IX := hideP (index_none w1.heap.size w2.heap.size ao cap I id w2 (OwnR.wrt O2).row (Nat.le_refl _) hlI HN.out)
  clear k2 O2
  go_wp2_with fail
  refine Calls.mono IX.out ?_
  rintro e w3 ⟨rfl, rfl⟩
  go_wp2
  go_returns
  exact ⟨rfl, K2.out⟩

set_option maxHeartbeats 800000 in
theorem place_yes (lo hi : Nat) (so : Option Addr) (sc : Nat) (L X Y : List Wn) (r : Wn) (id : Int) (w : World) (hL : Ws w lo hi so L) (hs : hi ≤ w.heap.size) (hn : L.length + wzs L ≤ 1048576) (h : stF (L.map Wn.ct) = 0) (hf : Fst id L X r Y) :
    Calls Try.prog 75 #[.slice so L.length sc, .int .i64 id] w fun e w' => e = .returned (.tuple #[.int .i64 (X.length : Nat), .int .i64 0]) ∧ Below w.heap.size w w' := by
  have SF := iStack_any lo hi so sc L w hL hs hn
  rw [h] at SF
  have SF' := hideP SF
  have ID := fun w1 (kk : Below w.heap.size w w1) => idsIn_any lo hi so sc L w1 (hL.keep kk hs) (by have := kk.size; omega) (by omega)
  have hIe : L.map Wn.i = X.map Wn.i ++ id :: Y.map Wn.i := by rw [hf.eq]; simp [hf.at']
  have hno' : ∀ x ∈ X.map Wn.i, x ≠ id := fun x hx => by obtain ⟨v, hv, rfl⟩ := List.mem_map.1 hx; exact hf.no v hv
  have hlI : (L.map Wn.i).length ≤ 1048576 := by simp; omega
  have hXl : (X.map Wn.i).length = X.length := by simp
  have hXL : X.length < L.length := by rw [hf.eq]; simp
  obtain ⟨I, hI⟩ : ∃ I, L.map Wn.i = I := ⟨_, rfl⟩
  obtain ⟨A, hA⟩ : ∃ A, X.map Wn.i = A := ⟨_, rfl⟩
  rw [hI] at ID hlI hIe
  rw [hA] at hno' hIe hXl
  have ID' := hideP ID
  have HN := hideP hno'
  have HE := hideP hIe
  have HX := hideP hXl
  clear SF hL h ID hI hno' hIe hf hA hXl
  go_enter Try.func75, Try.ntmps75
  go_wp2_with fail
  refine Calls.mono SF'.out ?_
  rintro e w1 ⟨rfl, k1⟩
  have K1 := hideP k1
  clear k1
  go_wp2_with fail
  refine Calls.mono (ID'.out w1 K1.out) ?_
  rintro e w2 ⟨ao, cap, rfl, O2, k2⟩
  have K2 := hideP (K1.out.trans (k2.mono K1.out.size))
  have IX := index_some w1.heap.size w2.heap.size ao cap I A (Y.map Wn.i) id w2 (OwnR.wrt O2).row (Nat.le_refl _) hlI HE.out HN.out
  rw [HX.out] at IX
  have IX' := hideP IX
  have hX0 : ¬ (X.length : Int) < 0 := by omega
  clear k2 O2 IX
  go_wp2_with fail
  refine Calls.mono IX'.out ?_
  rintro e w3 ⟨rfl, rfl⟩
  go_wp2
  go_returns
  exact ⟨rfl, K2.out⟩

theorem fst_ct {id : Int} {L M X Y : List Wn} {r : Wn} (h : Fst id L X r Y) (e : M.map Wn.ct = L.map Wn.ct) : ∃ X' r' Y', Fst id M X' r' Y' ∧ X'.map Wn.ct = X.map Wn.ct ∧ r'.ct = r.ct ∧ Y'.map Wn.ct = Y.map Wn.ct := by
  rw [h.eq, List.map_append, List.map_cons] at e
  obtain ⟨X', T, rfl, h1, h2⟩ := List.map_eq_append_iff.1 e
  obtain ⟨r', Y', rfl, h3, h4⟩ := List.map_eq_cons_iff.1 h2
  refine ⟨X', r', Y', ⟨rfl, ?_, fun v hv => ?_⟩, h1, h3, h4⟩
  · have := congrArg Wc.i h3; rw [← h.at']; exact this
  · have hm : v.ct ∈ X.map Wn.ct := by rw [← h1]; exact List.mem_map_of_mem hv
    obtain ⟨u, hu, hue⟩ := List.mem_map.1 hm
    have := h.no u hu
    have e1 : u.i = v.i := congrArg Wc.i hue
    rw [← e1]
    exact this

theorem askW_bne {C : List Wc} {id : Int} (h : ¬ stF C = 0) : (askW C id != 0) = true := by rw [askW_bad h]; simpa using h
set_option maxHeartbeats 800000 in
theorem point_bad (lo hi : Nat) (so : Option Addr) (sc : Nat) (L : List Wn) (id : Int) (w : World) (hL : Ws w lo hi so L) (hs : hi ≤ w.heap.size) (hn : L.length + wzs L ≤ 1048576) (h : ¬ stF (L.map Wn.ct) = 0) :
    Calls Try.prog 43 #[.slice so L.length sc, .int .i64 id] w fun e w' => e = .returned (.tuple #[.slice none 0 0, .pointer none, .int .i64 (askW (L.map Wn.ct) id)]) ∧ Below w.heap.size w w' := by
  have SF := place_bad lo hi so sc L id w hL hs hn h
  have hne := askW_bne (id := id) h
  obtain ⟨F, hF⟩ : ∃ F, askW (L.map Wn.ct) id = F := ⟨_, rfl⟩
  rw [hF] at SF hne ⊢
  have SF' := hideP SF
  clear SF hL hF h
  go_enter Try.func43, Try.ntmps43
  go_wp2_with fail
  refine Calls.mono SF'.out ?_
  rintro e w1 ⟨rfl, k1⟩
  have K1 := hideP k1
  clear k1
  go_wp2
  go_returns
  exact ⟨rfl, K1.out⟩

set_option maxHeartbeats 800000 in
theorem point_none (lo hi : Nat) (so : Option Addr) (sc : Nat) (L : List Wn) (id : Int) (w : World) (hL : Ws w lo hi so L) (hs : hi ≤ w.heap.size) (hn : L.length + wzs L ≤ 1048576) (h : stF (L.map Wn.ct) = 0) (hno : ∀ v ∈ L, v.i ≠ id) :
    Calls Try.prog 43 #[.slice so L.length sc, .int .i64 id] w fun e w' => e = .returned (.tuple #[.slice none 0 0, .pointer none, .int .i64 (askW (L.map Wn.ct) id)]) ∧ Below w.heap.size w w' := by
  have SF := place_none lo hi so sc L id w hL hs hn h hno
  rw [askW_none h hno] at SF ⊢
  have SF' := hideP SF
  clear SF hL h hno
  go_enter Try.func43, Try.ntmps43
  go_wp2_with fail
  refine Calls.mono SF'.out ?_
  rintro e w1 ⟨rfl, k1⟩
  have K1 := hideP k1
  clear k1
  go_wp2
  go_returns
  exact ⟨rfl, K1.out⟩

set_option maxRecDepth 100000 in
set_option maxHeartbeats 800000 in
theorem point_yes (lo hi : Nat) (so : Option Addr) (sc : Nat) (L X Y : List Wn) (r : Wn) (id : Int) (w : World) (hL : Ws w lo hi so L) (hs : hi ≤ w.heap.size) (hn : L.length + wzs L ≤ 1048576) (h : stF (L.map Wn.ct) = 0) (hf : Fst id L X r Y) :
    Calls Try.prog 43 #[.slice so L.length sc, .int .i64 id] w fun e w' => ∃ (g c : Nat) (X' Y' : List Wn) (r' : Wn), e = .returned (.tuple #[.slice (some ⟨g, 0, none⟩) L.length c, .pointer (some ⟨g, X.length * 7, none⟩), .int .i64 0]) ∧ X'.map Wn.ct = X.map Wn.ct ∧ r'.ct = r.ct ∧ Y'.map Wn.ct = Y.map Wn.ct ∧ LinV Wn.pals 60 w' w.heap.size (some ⟨g, 0, none⟩) c (X' ++ r' :: Y') ∧ w.heap.size ≤ g ∧ g < w'.heap.size ∧ Below w.heap.size w w' := by
  have SF' := hideP (place_yes lo hi so sc L X Y r id w hL hs hn h hf)
  have PA := hideP (fun w1 (kk : Below w.heap.size w w1) => panes_any lo hi so sc L w1 (hL.keep kk hs) (by have := kk.size; omega) hn)
  have hXL : X.length < L.length := by rw [hf.eq]; simp
  have hXi : (X.length : Int) < (L.length : Int) := by omega
  have HF := hideP hf
  clear hL h hf
  go_enter Try.func43, Try.ntmps43
  go_wp2_with fail
  refine Calls.mono SF'.out ?_
  rintro e w1 ⟨rfl, k1⟩
  have K2 := hideP k1
  clear k1
  go_wp2_with fail
  refine Calls.mono (PA.out w1 K2.out) ?_
  rintro e w4 ⟨s, c, M, rfl, hM, LN, k4⟩
  have K4 := hideP (K2.out.trans (k4.mono K2.out.size))
  obtain ⟨X', r', Y', hf', e1, e2, e3⟩ := fst_ct HF.out hM
  have hMl := lenW hM
  have hspv := LN.own.sp pals7
  have hMe := hf'.eq
  subst hMe
  obtain ⟨g, rfl, g1, g2, _⟩ := SpV.at hspv
  have LN' := hideP (show LinV Wn.pals 60 w4 w.heap.size (some ⟨g, 0, none⟩) c (X' ++ r' :: Y') from ⟨LN.own.le K2.out.size, LN.cis.wide K2.out.size (Nat.le_refl _), LN.ty⟩)
  have E1 := hideP e1
  have E2 := hideP e2
  have E3 := hideP e3
  have hg1 : w.heap.size ≤ g := Nat.le_trans K2.out.size g1
  rw [hMl]
  clear k4 LN hM hf' e1 e2 e3 hspv hMl HF PA SF'
  go_wp2
  refine wp_region_kept (by kernel_rfl) (by kernel_rfl) ?_
  repeat (refine kept_step (by rfl) ?_; apply Exists.intro; refine ⟨fun w1 k1 => ?_, fun K hK => ?_⟩; (focus (have hc := Kept.cell k1; go_simp; first | done | rfl)); (go_simp; refine hK _ ?_; clear hK K))
  refine wpQuiet_nil ?_
  intro w8 k8
  replace k8 := Kept.below k8
  have hc8 := Kept.cell k8
  have hf8 := Kept.frozen k8
  have hz8 := k8.size
  try simp only [World.size_alloc] at hz8
  try simp only [World.size_setCell] at hz8
  try simp only [World.size_drew] at hz8
  try (first | have hs8 := sz12 hz8 | have hs8 := sz11 hz8 | have hs8 := sz10 hz8 | have hs8 := sz9 hz8 | have hs8 := sz8 hz8 | have hs8 := sz7 hz8 | have hs8 := sz6 hz8 | have hs8 := sz5 hz8 | have hs8 := sz4 hz8 | have hs8 := sz3 hz8 | have hs8 := sz2 hz8 | have hs8 := sz1 hz8)
  have K8 := hideP (K4.out.trans (k8.mono K4.out.size))
  have LN8 := hideP (LN'.out.keep k8)
  have n8 := k8.size
  go_wp2
  go_returns
  exact ⟨g, c, X', Y', r', rfl, E1.out, E2.out, E3.out, LN8.out, hg1, by omega, K8.out⟩
end Go.Proofs.Ytflodklggkkmiaa

namespace Go.Proofs.Ytflodklggkkmiaa
open Go.RowKit
set_option linter.unusedVariables false

theorem ctW_at {X Y : List Wn} {r : Wn} {M : List Wn} (h : M.map Wn.ct = (X ++ r :: Y).map Wn.ct) : ∃ Z W s, M = Z ++ s :: W ∧ Z.length = X.length ∧ s.i = r.i ∧ s.x = r.x ∧ s.y = r.y ∧ s.w = r.w ∧ s.h = r.h ∧ s.m = r.m ∧ s.b.L = r.b.L := by
  have hl : M.length = X.length + Y.length + 1 := by have := congrArg List.length h; simp at this; omega
  have hlt : X.length < M.length := by omega
  have e : M = M.take X.length ++ M[X.length] :: M.drop (X.length + 1) := by simp
  have h2 : (M[X.length]).ct = r.ct := by
    have : (M.map Wn.ct)[X.length]'(by simpa using hlt) = ((X ++ r :: Y).map Wn.ct)[X.length]'(by simp) := by simp only [h]
    simpa using this
  simp only [Wn.ct, Wc.mk.injEq] at h2
  exact ⟨_, _, _, e, by simp; omega, h2⟩

/-- Three cells in a box. -/
structure R3 (w : World) (b : Nat) (v0 v1 v2 : Value) : Prop where
  c0 : w.cell? ⟨b, 0, none⟩ = some v0
  c1 : w.cell? ⟨b, 1, none⟩ = some v1
  c2 : w.cell? ⟨b, 2, none⟩ = some v2
  fr : ∀ c, w.frozen? ⟨b, c, none⟩ = false
  lt : b < w.heap.size
theorem R3.keep {w w' : World} {b B : Nat} {v0 v1 v2 : Value} (h : R3 w b v0 v1 v2) (k : Below B w w') (hb : b < B) : R3 w' b v0 v1 v2 :=
  ⟨(k.cell (p := ⟨b, 0, none⟩) hb).trans h.c0, (k.cell (p := ⟨b, 1, none⟩) hb).trans h.c1, (k.cell (p := ⟨b, 2, none⟩) hb).trans h.c2, fun c => (k.frozen (p := ⟨b, c, none⟩) hb).trans (h.fr c), Nat.lt_of_lt_of_le h.lt k.size⟩
theorem R3.far {w w' : World} {b lo hi : Nat} {v0 v1 v2 : Value} (h : R3 w b v0 v1 v2) (f : Far lo hi w w') (hd : b < lo ∨ hi ≤ b) : R3 w' b v0 v1 v2 :=
  ⟨(f.cell b 0 h.lt hd).trans h.c0, (f.cell b 1 h.lt hd).trans h.c1, (f.cell b 2 h.lt hd).trans h.c2, fun c => (f.frozen b c h.lt hd).trans (h.fr c), Nat.lt_of_lt_of_le h.lt f.size⟩
theorem r3_new (w : World) (v0 v1 v2 : Value) (T : TypeId) : R3 (w.alloc (.cells #[v0, v1, v2] T)) w.heap.size v0 v1 v2 := ⟨by simp, by simp, by simp, by simp, by simp⟩

end Go.Proofs.Ytflodklggkkmiaa

namespace Go.Proofs.Ytflodklggkkmiaa
open Go.RowKit
set_option linter.unusedVariables false

def markC (k : Int) (b : Ci) : Ci := ⟨b.ao, b.cap, b.g, rowOf (mkI k) b.L.length⟩
theorem markC_len (k : Int) (b : Ci) : (markC k b).L.length = b.L.length := rowOf_len _ _
/-- What the sixth cell is marked with. -/
def third (k : Int) : Bool := k % 3 == 0
def mk1W (k : Int) (v : Wn) : Wn := ⟨k, k + 1, k + 1 + 1, k + 1 + 1 + 1, k + 1 + 1 + 1 + 1, third (k + 1 + 1 + 1 + 1 + 1), markC (k + 1 + 1 + 1 + 1 + 1 + 1) v.b⟩
def mkW : Int → List Wn → List Wn
  | _, [] => []
  | k, v :: L => mk1W k v :: mkW (k + 6 + v.b.L.length) L
theorem mkW_len (k : Int) (L : List Wn) : (mkW k L).length = L.length := by
  induction L generalizing k with
  | nil => rfl
  | cons m L ih => simp only [mkW, List.length_cons, ih]
theorem mkW_app (k : Int) (A B : List Wn) : mkW k (A ++ B) = mkW k A ++ mkW (k + 6 * A.length + wzs A) B := by
  induction A generalizing k with
  | nil => simp [mkW, wzs_nil]
  | cons m A ih =>
    simp only [List.cons_append, mkW, ih, List.length_cons, wzs_cons, List.cons.injEq, true_and]
    congr 2
    push_cast
    omega
theorem mkW_one (k : Int) (v : Wn) : mkW k [v] = [mk1W k v] := rfl

/-- One of the cells of one window written anew. -/
theorem Wq.put {V : Wn → List Value} {w : World} {lo hi g : Nat} {X Y : List Wn} {r s : Wn} {q : Nat} {u z : Value} (h : Wq V w lo hi (some ⟨g, 0, none⟩) (X ++ r :: Y)) (hq : q < 7) (hz : (V r)[q]? = some z) (hu : (V s)[q]? = some u) (ho : ∀ j, j < 7 → j ≠ q → (V s)[j]? = (V r)[j]?) (hb : s.b = r.b) :
    Wq V (w.setCell ⟨g, X.length * 7 + q, none⟩ u) lo hi (some ⟨g, 0, none⟩) (X ++ s :: Y) := by
  have e : (X ++ s :: Y).map Wn.b = (X ++ r :: Y).map Wn.b := by simp [hb]
  refine ⟨h.le, by simpa using h.hs, ?_, h.sp.put hq hz hu ho, by rw [e]; exact h.ne⟩
  rw [e]
  exact ⟨fun c m => Ci.on_set (h.cis.each c m) _ _ fun hn => (h.ne g rfl c m hn).symm, h.cis.inn, h.cis.apart⟩
theorem Wq.cells {V : Wn → List Value} {w : World} {lo hi : Nat} {so : Option Addr} {X Y : List Wn} {r : Wn} (h : Wq V w lo hi so (X ++ r :: Y)) : ∃ g, so = some ⟨g, 0, none⟩ ∧ lo ≤ g ∧ g < hi ∧ Cl V w g (X.length * 7) r ∧ ∀ c, w.frozen? ⟨g, c, none⟩ = false := h.sp.at

theorem Wq.six {w : World} {lo hi g : Nat} {X Y : List Wn} {r : Wn} (h : Wq Wn.vals w lo hi (some ⟨g, 0, none⟩) (X ++ r :: Y)) (i x y p q : Int) (m : Bool) :
    Wq Wn.vals ((((((w.setCell ⟨g, X.length * 7, none⟩ (.int .i64 i)).setCell ⟨g, X.length * 7 + 1, none⟩ (.int .i64 x)).setCell ⟨g, X.length * 7 + 1 + 1, none⟩ (.int .i64 y)).setCell ⟨g, X.length * 7 + 1 + 2, none⟩ (.int .i64 p)).setCell ⟨g, X.length * 7 + 1 + 3, none⟩ (.int .i64 q)).setCell ⟨g, X.length * 7 + 5, none⟩ (.bool m)) lo hi (some ⟨g, 0, none⟩) (X ++ ⟨i, x, y, p, q, m, r.b⟩ :: Y) := by
  have h1 := h.put (q := 0) (s := ⟨i, r.x, r.y, r.w, r.h, r.m, r.b⟩) (u := .int .i64 i) (by omega) rfl rfl (fun j hj hq => by match j, hj, hq with | 1, _, _ | 2, _, _ | 3, _, _ | 4, _, _ | 5, _, _ | 6, _, _ => rfl) rfl
  have h2 := h1.put (q := 1) (s := ⟨i, x, r.y, r.w, r.h, r.m, r.b⟩) (u := .int .i64 x) (by omega) rfl rfl (fun j hj hq => by match j, hj, hq with | 0, _, _ | 2, _, _ | 3, _, _ | 4, _, _ | 5, _, _ | 6, _, _ => rfl) rfl
  have h3 := h2.put (q := 2) (s := ⟨i, x, y, r.w, r.h, r.m, r.b⟩) (u := .int .i64 y) (by omega) rfl rfl (fun j hj hq => by match j, hj, hq with | 0, _, _ | 1, _, _ | 3, _, _ | 4, _, _ | 5, _, _ | 6, _, _ => rfl) rfl
  have h4 := h3.put (q := 3) (s := ⟨i, x, y, p, r.h, r.m, r.b⟩) (u := .int .i64 p) (by omega) rfl rfl (fun j hj hq => by match j, hj, hq with | 0, _, _ | 1, _, _ | 2, _, _ | 4, _, _ | 5, _, _ | 6, _, _ => rfl) rfl
  have h5 := h4.put (q := 4) (s := ⟨i, x, y, p, q, r.m, r.b⟩) (u := .int .i64 q) (by omega) rfl rfl (fun j hj hq => by match j, hj, hq with | 0, _, _ | 1, _, _ | 2, _, _ | 3, _, _ | 5, _, _ | 6, _, _ => rfl) rfl
  exact h5.put (q := 5) (s := ⟨i, x, y, p, q, m, r.b⟩) (u := .bool m) (by omega) rfl rfl (fun j hj hq => by match j, hj, hq with | 0, _, _ | 1, _, _ | 2, _, _ | 3, _, _ | 4, _, _ | 6, _, _ => rfl) rfl
theorem far_six {w : World} {lo hi g o : Nat} (h : lo ≤ g ∧ g < hi) (v0 v1 v2 v3 v4 v5 : Value) (a b c d e f : Nat) : Far lo hi w ((((((w.setCell ⟨g, a, none⟩ v0).setCell ⟨g, b, none⟩ v1).setCell ⟨g, c, none⟩ v2).setCell ⟨g, d, none⟩ v3).setCell ⟨g, e, none⟩ v4).setCell ⟨g, f, none⟩ v5) :=
  (((((Far.of_set7 h).trans (Far.of_set7 h)).trans (Far.of_set7 h)).trans (Far.of_set7 h)).trans (Far.of_set7 h)).trans (Far.of_set7 h)

theorem kalW (w : World) (o : Obj) : Below w.heap.size w (w.alloc o) := (Below.refl _ _).alloc (Nat.le_refl _) o

end Go.Proofs.Ytflodklggkkmiaa
