/- Answers with stacks; panes that are worked on; windows mapped. -/
import Derived.Test.YtflodklggkkmiaaTq17
namespace Go.Proofs.Ytflodklggkkmiaa
open Go.RowKit Go.Maps
set_option linter.unusedVariables false

/-- An answer of a stack's function. -/
def SAns (z v : Int) (P : List Wc) (n : Nat) (w : World) (e : Ending) (w' : World) : Prop :=
  ∃ (s : Option Addr) (c : Nat) (M : List Wn), e = .returned (.agg #[.int .i64 z, .int .i64 v, .slice s n c]) ∧ M.map Wn.ct = P ∧ M.length = n ∧ Wq Wn.vals w' w.heap.size w'.heap.size s M ∧ Below w.heap.size w w'
theorem wq_none {V : Wn → List Value} {w w' : World} (k : Below w.heap.size w w') : Wq V w' w.heap.size w'.heap.size none [] := ⟨k.size, Nat.le_refl _, Cis.nil _ _ _, .inl rfl, fun g h => by cases h⟩
theorem sans_bad {z v : Int} {w w' : World} (k : Below w.heap.size w w') : SAns z v [] 0 w (.returned (.agg #[.int .i64 z, .int .i64 v, .slice none 0 0])) w' := ⟨none, 0, [], rfl, rfl, rfl, wq_none k, k⟩

/-- Panes that are worked on. -/
structure Pan (w : World) (lo hi : Nat) (so : Option Addr) (L : List Wn) : Prop where
  q : Wq Wn.pals w lo hi so L
  ty : ∀ b ∈ L.map Wn.b, b.ty w
section
variable {w w' : World} {lo hi lo' hi' B base g : Nat} {so s : Option Addr} {c : Nat} {L X Y : List Wn} {r r' : Wn}
theorem LinV.pan (h : LinV Wn.pals 60 w base so c L) (hb : base ≤ w.heap.size) : Pan w base w.heap.size so L := ⟨h.wq pals7 paneNe hb, h.ty⟩
theorem Pan.keep (h : Pan w lo hi so L) (k : Below w.heap.size w w') : Pan w' lo hi so L := ⟨h.q.keep k h.q.hs, fun b m => Ci.ty_keep (h.ty b m) k⟩
theorem Pan.wide (h : Pan w lo hi so L) (h1 : lo' ≤ lo) (h2 : hi ≤ hi') (h3 : hi' ≤ w.heap.size) : Pan w lo' hi' so L := ⟨h.q.wide h1 h2 h3, h.ty⟩
theorem Pan.put {q : Nat} {u z : Value} (h : Pan w lo hi (some ⟨g, 0, none⟩) (X ++ r :: Y)) (hq : q < 7) (hz : (Wn.pals r)[q]? = some z) (hu : (Wn.pals r')[q]? = some u) (ho : ∀ j, j < 7 → j ≠ q → (Wn.pals r')[j]? = (Wn.pals r)[j]?) (hb : r'.b = r.b) :
    Pan (w.setCell ⟨g, X.length * 7 + q, none⟩ u) lo hi (some ⟨g, 0, none⟩) (X ++ r' :: Y) := by
  refine ⟨h.q.put hq hz hu ho hb, fun b m => ?_⟩
  have e : (X ++ r' :: Y).map Wn.b = (X ++ r :: Y).map Wn.b := by simp [hb]
  rw [e] at m
  exact Ci.ty_set (h.ty b m) _ _ fun hn => (h.q.ne g rfl b m hn).symm
/-- .. handed on as a stack. -/
theorem Pan.done (h : Pan w lo hi so L) (k : Below w.heap.size w w') (O : OwnV Wn.vals 38 w' w.heap.size s c L) : Wq Wn.vals w' lo w'.heap.size s L :=
  ⟨by have := h.q.le; have := h.q.hs; have := k.size; omega, Nat.le_refl _, (h.q.cis.keep k h.q.hs).wide (Nat.le_refl _) (Nat.le_trans h.q.hs k.size), (O.sp vals7).wide (by have := h.q.le; have := h.q.hs; omega) (Nat.le_refl _), fun g hg b m e e2 => O.other winNe (Ci.ty_keep (h.ty b m) k) e (by rw [e2, hg]; rfl)⟩
end

/-- The first one of an id turned. -/
def modW (id : Int) (f : Wc → Wc) : List Wc → List Wc
  | [] => []
  | c :: C => if c.i = id then f c :: C else c :: modW id f C
theorem modW_len (id : Int) (f : Wc → Wc) (C : List Wc) : (modW id f C).length = C.length := by
  induction C with
  | nil => rfl
  | cons c C ih => unfold modW; split <;> simp [ih]
theorem modW_at {id : Int} {f : Wc → Wc} {L X Y : List Wn} {r : Wn} (h : Fst id L X r Y) : modW id f (L.map Wn.ct) = X.map Wn.ct ++ f r.ct :: Y.map Wn.ct := by
  rw [h.eq]
  have hno := h.no
  have hat := h.at'
  clear h
  induction X with
  | nil => simp only [List.nil_append, List.map_cons, List.map_nil, modW]; rw [if_pos (by exact hat)]
  | cons v X ih =>
    simp only [List.cons_append, List.map_cons, modW]
    rw [if_neg (by exact hno v (by simp)), ih fun u hu => hno u (by simp [hu])]
def mapC (on : Bool) (c : Wc) : Wc := ⟨c.i, c.x, c.y, c.w, c.h, on, c.L⟩
def mapP (C : List Wc) (id : Int) (on : Bool) : List Wc := if askW C id = 0 then modW id (mapC on) C else []
theorem mapP_yes {L X Y : List Wn} {r : Wn} {id : Int} {on : Bool} (h : stF (L.map Wn.ct) = 0) (hf : Fst id L X r Y) : mapP (L.map Wn.ct) id on = X.map Wn.ct ++ mapC on r.ct :: Y.map Wn.ct := by
  unfold mapP; rw [if_pos (askW_yes h hf), modW_at hf]
theorem mapP_no {C : List Wc} {id : Int} {on : Bool} (h : askW C id ≠ 0) : mapP C id on = [] := by unfold mapP; rw [if_neg h]
theorem askW_ne {L : List Wn} {id : Int} (h : ¬ stF (L.map Wn.ct) = 0 ∨ ∀ v ∈ L, v.i ≠ id) : askW (L.map Wn.ct) id ≠ 0 := by
  by_cases h0 : stF (L.map Wn.ct) = 0
  · rcases h with h | h
    · exact absurd h0 h
    · rw [askW_none h0 h]; decide
  · rw [askW_bad h0]; exact h0
/-- How many cells a content has. -/
def cz : List Wc → Nat
  | [] => 0
  | c :: C => c.L.length + cz C
theorem cz_wzs (L : List Wn) : cz (L.map Wn.ct) = wzs L := by
  induction L with
  | nil => rfl
  | cons v L ih => simp only [List.map_cons, cz, wzs, ih]; rfl
theorem cz_mod {id : Int} {f : Wc → Wc} (hf : ∀ c, (f c).L = c.L) (C : List Wc) : cz (modW id f C) = cz C := by
  induction C with
  | nil => rfl
  | cons c C ih =>
    unfold modW
    split
    · simp only [cz, hf]
    · simp only [cz, ih]
theorem small_of {L : List Wn} {P : List Wc} (h : P.length + cz P ≤ 1048576) : ∀ N : List Wn, N.map Wn.ct = P → N.length + wzs N ≤ 1048576 := fun N e => by
  rw [← cz_wzs, e, ← List.length_map (f := Wn.ct), e]; exact h
theorem small_map {L : List Wn} (id : Int) (on : Bool) (h : L.length + wzs L ≤ 1048576) : ∀ N : List Wn, N.map Wn.ct = mapP (L.map Wn.ct) id on → N.length + wzs N ≤ 1048576 :=
  small_of (L := L) (by
    unfold mapP
    split
    · rw [modW_len, cz_mod (f := mapC on) (fun c => rfl), cz_wzs, List.length_map]; exact h
    · simp [cz])

/-- Whatever is wrong with a stack, or an id, both ask it in one way. -/
theorem asked_no (lo hi : Nat) (so : Option Addr) (sc : Nat) (L : List Wn) (id : Int) (w : World) (hL : Ws w lo hi so L) (hs : hi ≤ w.heap.size) (hn : L.length + wzs L ≤ 1048576) (h : ¬ stF (L.map Wn.ct) = 0 ∨ ∀ v ∈ L, v.i ≠ id) :
    Calls Try.prog 46 #[.slice so L.length sc, .int .i64 id] w fun e w' => e = .returned (.tuple #[.int .i64 0, .int .i64 (askW (L.map Wn.ct) id)]) ∧ Below w.heap.size w w' := by
  by_cases h0 : stF (L.map Wn.ct) = 0
  · exact asked_none lo hi so sc L id w hL hs hn h0 (h.resolve_left (fun h => h h0))
  · exact asked_bad lo hi so sc L id w hL hs hn h0

theorem point_no (lo hi : Nat) (so : Option Addr) (sc : Nat) (L : List Wn) (id : Int) (w : World) (hL : Ws w lo hi so L) (hs : hi ≤ w.heap.size) (hn : L.length + wzs L ≤ 1048576) (h : ¬ stF (L.map Wn.ct) = 0 ∨ ∀ v ∈ L, v.i ≠ id) :
    Calls Try.prog 43 #[.slice so L.length sc, .int .i64 id] w fun e w' => e = .returned (.tuple #[.slice none 0 0, .pointer none, .int .i64 (askW (L.map Wn.ct) id)]) ∧ Below w.heap.size w w' := by
  by_cases h0 : stF (L.map Wn.ct) = 0
  · exact point_none lo hi so sc L id w hL hs hn h0 (h.resolve_left (fun h => h h0))
  · exact point_bad lo hi so sc L id w hL hs hn h0

set_option maxHeartbeats 400000 in
theorem l7Bad_any (z : Int) (w : World) : Calls Try.prog 47 #[.int .i64 z] w fun e w' => e = .returned (.agg #[.int .i64 z, .int .i64 0, .slice none 0 0]) ∧ Below w.heap.size w w' := by
  go_enter Try.func47, Try.ntmps47
  go_wp2
  refine bodyPost_ret (v := .agg #[.int .i64 z, .int .i64 0, .slice none 0 0]) (by simp [results, Try.results47, go_sem, *]) rfl ⟨rfl, ?_⟩
  repeat' (first | (with_reducible exact Below.refl _ _) | (with_reducible refine Below.setCell ?_ ?_ _) | (with_reducible refine Below.alloc ?_ ?_ _) | go_size)

set_option maxRecDepth 100000 in
set_option maxHeartbeats 1000000 in
theorem sMap_any (so : Option Addr) (sc : Nat) (L : List Wn) (id : Int) (on : Bool) (w : World) (hL : Ws w 0 w.heap.size so L) (hn : L.length + wzs L ≤ 1048576) :
    Calls Try.prog 27 #[.slice so L.length sc, .int .i64 id, .bool on] w (SAns (askW (L.map Wn.ct) id) 0 (mapP (L.map Wn.ct) id on) (mapP (L.map Wn.ct) id on).length w) := by
  by_cases hbad : ¬ stF (L.map Wn.ct) = 0 ∨ ∀ v ∈ L, v.i ≠ id
  · have AN := fun w1 (kk : Below w.heap.size w w1) => asked_no 0 w.heap.size so sc L id w1 (hL.keep kk (Nat.le_refl _)) kk.size hn hbad
    have hne := askW_ne hbad
    rw [mapP_no hne]
    obtain ⟨F, hF⟩ : ∃ F, askW (L.map Wn.ct) id = F := ⟨_, rfl⟩
    rw [hF] at AN hne ⊢
    have hne' : (F != 0) = true := by simpa using hne
    have AN' := hideP AN
    clear AN hL hbad hF hne
    go_enter Try.func27, Try.ntmps27
    go_wp2_with fail
    refine Calls.mono (AN'.out _ (by go_grown)) ?_
    rintro e w1 ⟨rfl, k1⟩
    have K1 : Hid (Below w.heap.size w w1) := hideP (Below.trans (by go_grown) (k1.mono (by simp)))
    have X1 : R3 w1 w.heap.size (.int .i64 0) (.int .i64 0) (.slice none 0 0) := R3.keep ⟨by simp, by simp, by simp, by simp, by simp⟩ k1 (by simp)
    clear k1
    go_wp2_with fail
    refine Calls.mono (l7Bad_any F w1) ?_
    rintro e w2 ⟨rfl, k2⟩
    have K2 := hideP (K1.out.trans (k2.mono K1.out.size))
    obtain ⟨x0, x1, x2, x3, x4⟩ := X1.keep k2 X1.lt
    clear k2 X1
    go_wp2
    have K3 := (((K2.out.setCell (p := ⟨w.heap.size, 0, none⟩) (Nat.le_refl _) (.int .i64 F)).setCell (p := ⟨w.heap.size, 1, none⟩) (Nat.le_refl _) (.int .i64 0)).setCell (p := ⟨w.heap.size, 2, none⟩) (Nat.le_refl _) (.slice none 0 0))
    exact bodyPost_ret (v := .agg #[.int .i64 F, .int .i64 0, .slice none 0 0]) (by simp [results, Try.results27, go_sem, *]) rfl (sans_bad K3)
  · obtain ⟨h0, X, r, Y, hf⟩ : stF (L.map Wn.ct) = 0 ∧ ∃ X r Y, Fst id L X r Y := by
      have h1 : stF (L.map Wn.ct) = 0 := Classical.byContradiction fun h => hbad (.inl h)
      exact ⟨h1, (fst_or id L).resolve_left fun h => hbad (.inr h)⟩
    have AY := hideP (fun w1 (kk : Below w.heap.size w w1) => asked_yes 0 w.heap.size so sc L X Y r id w1 (hL.keep kk (Nat.le_refl _)) kk.size hn h0 hf)
    have CP := hideP (fun w1 (kk : Below w.heap.size w w1) => l7Copy_any 0 w.heap.size so sc L w1 (hL.keep kk (Nat.le_refl _)) kk.size hn)
    rw [askW_yes h0 hf, mapP_yes h0 hf]
    have hXl : (X.length : Int) < (L.length : Int) := by rw [hf.eq]; simp; omega
    have hn' : (L.length : Int) ≤ 1048576 := by omega
    have HF := hideP hf
    clear hL hbad h0 hf
    go_enter Try.func27, Try.ntmps27
    go_wp2_with fail
    refine Calls.mono (AY.out _ (by go_grown)) ?_
    rintro e w1 ⟨rfl, k1⟩
    have K1 : Hid (Below w.heap.size w w1) := hideP (Below.trans (by go_grown) (k1.mono (by simp)))
    have X1 : R3 w1 w.heap.size (.int .i64 0) (.int .i64 0) (.slice none 0 0) := R3.keep ⟨by simp, by simp, by simp, by simp, by simp⟩ k1 (by simp)
    have n1 := X1.lt
    clear k1
    go_wp2_with fail
    refine Calls.mono (CP.out w1 K1.out) ?_
    rintro e w2 ⟨s, c, M, rfl, hM, LN, k2⟩
    have K2 := hideP (K1.out.trans (k2.mono K1.out.size))
    have X2 := X1.keep k2 X1.lt
    obtain ⟨X', r', Y', hf', e1, e2, e3⟩ := fst_ct HF.out hM
    have hMl := lenW hM
    have hXX := lenW e1
    have QW := LN.wq vals7 winNe k2.size
    have hMe := hf'.eq
    subst hMe
    obtain ⟨g, rfl, g1, g2, hc, hfr⟩ := QW.cells
    have PT := QW.put (q := 5) (s := ⟨r'.i, r'.x, r'.y, r'.w, r'.h, on, r'.b⟩) (u := .bool on) (by omega) rfl rfl (fun j hj hq => by match j, hj, hq with | 0, _, _ | 1, _, _ | 2, _, _ | 3, _, _ | 4, _, _ | 6, _, _ => rfl) rfl
    rw [hXX] at hc PT
    rw [hMl]
    have a5 := hc.seven.2.2.2.2.2.1
    have HPT := hideP PT
    have hlen : Hid ((X' ++ (⟨r'.i, r'.x, r'.y, r'.w, r'.h, on, r'.b⟩ : Wn) :: Y').length = L.length) := hideP (by rw [← hMl]; simp)
    have HCT : Hid ((X' ++ (⟨r'.i, r'.x, r'.y, r'.w, r'.h, on, r'.b⟩ : Wn) :: Y').map Wn.ct = X.map Wn.ct ++ mapC on r.ct :: Y.map Wn.ct) := hideP (by rw [List.map_append, List.map_cons, e1, e3, ← e2]; rfl)
    have HPL : Hid ((X.map Wn.ct ++ mapC on r.ct :: Y.map Wn.ct).length = L.length) := hideP (by rw [HF.out.eq]; simp)
    have hk2 := k2.size
    clear k2 LN hM hf' e1 e2 e3 QW hc PT CP AY HF X1
    obtain ⟨x0, x1, x2, x3, x4⟩ := X2
    go_wp2
    have K3 := (((K2.out.setCell (p := ⟨g, X.length * 7 + 5, none⟩) (Nat.le_trans K1.out.size g1) (.bool on)).setCell (p := ⟨w.heap.size, 0, none⟩) (Nat.le_refl _) (.int .i64 0)).setCell (p := ⟨w.heap.size, 1, none⟩) (Nat.le_refl _) (.int .i64 0)).setCell (p := ⟨w.heap.size, 2, none⟩) (Nat.le_refl _) (.slice (some ⟨g, 0, none⟩) L.length c)
    have Q3 := (((HPT.out.set ⟨w.heap.size, 0, none⟩ (.int .i64 0) n1).set ⟨w.heap.size, 1, none⟩ (.int .i64 0) n1).set ⟨w.heap.size, 2, none⟩ (.slice (some ⟨g, 0, none⟩) L.length c) n1).wide K1.out.size (Nat.le_refl _) (by simp)
    have hg0 : ¬ w.heap.size = g := by omega
    have hg0' : ¬ g = w.heap.size := by omega
    refine bodyPost_ret (v := .agg #[.int .i64 0, .int .i64 0, .slice (some ⟨g, 0, none⟩) L.length c]) (by simp [results, Try.results27, go_sem, *]) rfl ⟨some ⟨g, 0, none⟩, c, _, by rw [HPL.out], HCT.out, by rw [HPL.out]; exact hlen.out, ?_, K3⟩
    simpa using Q3

set_option maxRecDepth 100000 in
set_option maxHeartbeats 1000000 in
theorem iMap_any (so : Option Addr) (sc : Nat) (L : List Wn) (id : Int) (on : Bool) (w : World) (hL : Ws w 0 w.heap.size so L) (hn : L.length + wzs L ≤ 1048576) :
    Calls Try.prog 24 #[.slice so L.length sc, .int .i64 id, .bool on] w (SAns (askW (L.map Wn.ct) id) 0 (mapP (L.map Wn.ct) id on) (mapP (L.map Wn.ct) id on).length w) := by
  by_cases hbad : ¬ stF (L.map Wn.ct) = 0 ∨ ∀ v ∈ L, v.i ≠ id
  · have AN := fun w1 (kk : Below w.heap.size w w1) => point_no 0 w.heap.size so sc L id w1 (hL.keep kk (Nat.le_refl _)) kk.size hn hbad
    have hne := askW_ne hbad
    rw [mapP_no hne]
    obtain ⟨F, hF⟩ : ∃ F, askW (L.map Wn.ct) id = F := ⟨_, rfl⟩
    rw [hF] at AN hne ⊢
    have hne' : (F != 0) = true := by simpa using hne
    have AN' := hideP AN
    clear AN hL hbad hF hne
    go_enter Try.func24, Try.ntmps24
    go_wp2_with fail
    refine Calls.mono (AN'.out _ (by go_grown)) ?_
    rintro e w1 ⟨rfl, k1⟩
    have K1 : Hid (Below w.heap.size w w1) := hideP (Below.trans (by go_grown) (k1.mono (by simp)))
    have X1 : R3 w1 w.heap.size (.int .i64 0) (.int .i64 0) (.slice none 0 0) := R3.keep ⟨by simp, by simp, by simp, by simp, by simp⟩ k1 (by simp)
    clear k1
    obtain ⟨x0, x1, x2, x3, x4⟩ := X1
    go_wp2
    have K3 := (((K1.out.setCell (p := ⟨w.heap.size, 0, none⟩) (Nat.le_refl _) (.int .i64 F)).setCell (p := ⟨w.heap.size, 1, none⟩) (Nat.le_refl _) (.int .i64 0)).setCell (p := ⟨w.heap.size, 2, none⟩) (Nat.le_refl _) (.slice none 0 0))
    exact bodyPost_ret (v := .agg #[.int .i64 F, .int .i64 0, .slice none 0 0]) (by simp [results, Try.results24, go_sem, *]) rfl (sans_bad K3)
  · obtain ⟨h0, X, r, Y, hf⟩ : stF (L.map Wn.ct) = 0 ∧ ∃ X r Y, Fst id L X r Y := by
      have h1 : stF (L.map Wn.ct) = 0 := Classical.byContradiction fun h => hbad (.inl h)
      exact ⟨h1, (fst_or id L).resolve_left fun h => hbad (.inr h)⟩
    have AY := hideP (fun w1 (kk : Below w.heap.size w w1) => point_yes 0 w.heap.size so sc L X Y r id w1 (hL.keep kk (Nat.le_refl _)) kk.size hn h0 hf)
    rw [askW_yes h0 hf, mapP_yes h0 hf]
    have hXl : (X.length : Int) < (L.length : Int) := by rw [hf.eq]; simp; omega
    have hn' : (L.length : Int) ≤ 1048576 := by omega
    have HF := hideP hf
    clear hL hbad h0 hf
    go_enter Try.func24, Try.ntmps24
    go_wp2_with fail
    refine Calls.mono (AY.out _ (by go_grown)) ?_
    rintro e w1 ⟨g, c, X', Y', r', rfl, e1, e2, e3, LN, g1, g2, k1⟩
    have K1 : Hid (Below w.heap.size w w1) := hideP (Below.trans (by go_grown) (k1.mono (by simp)))
    have X1 : R3 w1 w.heap.size (.int .i64 0) (.int .i64 0) (.slice none 0 0) := R3.keep ⟨by simp, by simp, by simp, by simp, by simp⟩ k1 (by simp)
    have n1 := k1.size
    simp only [World.size_alloc] at g1 n1
    have PN : Pan w1 (w.heap.size + 1) w1.heap.size (some ⟨g, 0, none⟩) (X' ++ r' :: Y') := by have := LN.pan k1.size; simpa using this
    have hXX := lenW e1
    have hYY := lenW e3
    obtain ⟨_, hg0, _, _, hc, hfr⟩ := PN.q.cells
    cases hg0
    have PT := PN.put (q := 5) (r' := ⟨r'.i, r'.x, r'.y, r'.w, r'.h, on, r'.b⟩) (u := .bool on) (by omega) rfl rfl (fun j hj hq => by match j, hj, hq with | 0, _, _ | 1, _, _ | 2, _, _ | 3, _, _ | 4, _, _ | 6, _, _ => rfl) rfl
    have hlen : (X' ++ (⟨r'.i, r'.x, r'.y, r'.w, r'.h, on, r'.b⟩ : Wn) :: Y').length = L.length := by rw [HF.out.eq]; simp [hXX, hYY]
    have SO := stackOf_any (w.heap.size + 1) w1.heap.size (some ⟨g, 0, none⟩) c (X' ++ (⟨r'.i, r'.x, r'.y, r'.w, r'.h, on, r'.b⟩ : Wn) :: Y') (w1.setCell ⟨g, X'.length * 7 + 5, none⟩ (.bool on)) PT.q.sp (by simp) (by omega)
    rw [hlen] at SO
    rw [hXX] at hc PT SO
    have a5 := hc.pane.2.2.2.2.2.1
    have HPT := hideP PT
    have HSO := hideP SO
    have HCT : Hid ((X' ++ (⟨r'.i, r'.x, r'.y, r'.w, r'.h, on, r'.b⟩ : Wn) :: Y').map Wn.ct = X.map Wn.ct ++ mapC on r.ct :: Y.map Wn.ct) := hideP (by rw [List.map_append, List.map_cons, e1, e3, ← e2]; rfl)
    have HPL : Hid ((X.map Wn.ct ++ mapC on r.ct :: Y.map Wn.ct).length = L.length) := hideP (by rw [HF.out.eq]; simp)
    have HLEN := hideP hlen
    have K2 : Hid (Below w.heap.size w (w1.setCell ⟨g, X.length * 7 + 5, none⟩ (.bool on))) := hideP (K1.out.setCell (p := ⟨g, X.length * 7 + 5, none⟩) (by show w.heap.size ≤ g; omega) (.bool on))
    have X2 := hideP (X1.far (Far.of_set7 (w := w1) (g := g) (o := X.length * 7 + 5) (v := .bool on) (lo := g) (hi := g + 1) ⟨Nat.le_refl _, Nat.lt_succ_self _⟩) (by omega))
    clear k1 LN e1 e2 e3 PN hc PT SO hlen HF AY X1
    go_wp2_with fail
    generalize w1.setCell ⟨g, X.length * 7 + 5, none⟩ (.bool on) = w2 at *
    refine Calls.mono HSO.out ?_
    rintro e w3 ⟨s3, c3, rfl, O3, k3⟩
    have Q3 := hideP (HPT.out.done k3 O3)
    have K3 := hideP (K2.out.trans (k3.mono K2.out.size))
    obtain ⟨x0, x1, x2, x3, x4⟩ := X2.out.keep k3 X2.out.lt
    clear k3 O3 HSO HPT a5 X2
    go_wp2
    have K4 := ((K3.out.setCell (p := ⟨w.heap.size, 0, none⟩) (Nat.le_refl _) (.int .i64 0)).setCell (p := ⟨w.heap.size, 1, none⟩) (Nat.le_refl _) (.int .i64 0)).setCell (p := ⟨w.heap.size, 2, none⟩) (Nat.le_refl _) (.slice s3 L.length c3)
    have Q4 := (((Q3.out.set ⟨w.heap.size, 0, none⟩ (.int .i64 0) (Nat.lt_succ_self _)).set ⟨w.heap.size, 1, none⟩ (.int .i64 0) (Nat.lt_succ_self _)).set ⟨w.heap.size, 2, none⟩ (.slice s3 L.length c3) (Nat.lt_succ_self _)).wide (Nat.le_succ _) (Nat.le_refl _) (by simp)
    refine bodyPost_ret (v := .agg #[.int .i64 0, .int .i64 0, .slice s3 L.length c3]) (by simp [results, Try.results24, go_sem, *]) rfl ⟨s3, c3, _, by rw [HPL.out], HCT.out, by rw [HPL.out]; exact HLEN.out, ?_, K4⟩
    simpa using Q4
end Go.Proofs.Ytflodklggkkmiaa
