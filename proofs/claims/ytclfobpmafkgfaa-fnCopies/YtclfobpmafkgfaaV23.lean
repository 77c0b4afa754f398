/- Answers with stacks; panes that are worked on; windows mapped. A point of a window asked for by its id: by the program and by the specification. Windows moved. -/
import Derived.Test.YtclfobpmafkgfaaV21
import Derived.Test.YtclfobpmafkgfaaV22
import Derived.Test.YtclfobpmafkgfaaV20
namespace Go.Proofs.Ytclfobpmafkgfaa
open Go.RowKit Go.Maps
set_option linter.unusedVariables false

/-- An answer of a stack's function. -/
def SAns (z v : Int) (P : List Wc) (n : Nat) (w : World) (e : Ending) (w' : World) : Prop :=
  ∃ (s : Option Addr) (c : Nat) (M : List Wn), e = .returned (.agg #[.int .i64 z, .int .i64 v, .slice s n c]) ∧ M.map Wn.ct = P ∧ M.length = n ∧ Wq Wn.vals w' w.heap.size w'.heap.size s M ∧ Below w.heap.size w w'
theorem wq_none {V : Wn → List Value} {w w' : World} (k : Below w.heap.size w w') : Wq V w' w.heap.size w'.heap.size none [] := ⟨k.size, Nat.le_refl _, Cis.nil _ _ _, .inl rfl, fun g h => by cases h⟩
theorem sans_bad {z v : Int} {w w' : World} (k : Below w.heap.size w w') : SAns z v [] 0 w (.returned (.agg #[.int .i64 z, .int .i64 v, .slice none 0 0])) w' := ⟨none, 0, [], rfl, rfl, rfl, wq_none k, k⟩

/-- Panes that are worked on. -/
structure Pan (w : World) (lo hi : Nat) (so : Option Addr) (L : List Wn) : Prop where
  q : Wq Wn.pals w lo hi so L
  ty : ∀ b ∈ L.map Wn.b, b.ty w
section
variable {w w' : World} {lo hi lo' hi' B base g : Nat} {so s : Option Addr} {c : Nat} {L X Y : List Wn} {r r' : Wn}
theorem LinV.pan (h : LinV Wn.pals 109 w base so c L) (hb : base ≤ w.heap.size) : Pan w base w.heap.size so L := ⟨h.wq pals7 paneNe hb, h.ty⟩
theorem Pan.keep (h : Pan w lo hi so L) (k : Below w.heap.size w w') : Pan w' lo hi so L := ⟨h.q.keep k h.q.hs, fun b m => Ci.ty_keep (h.ty b m) k⟩
theorem Pan.wide (h : Pan w lo hi so L) (h1 : lo' ≤ lo) (h2 : hi ≤ hi') (h3 : hi' ≤ w.heap.size) : Pan w lo' hi' so L := ⟨h.q.wide h1 h2 h3, h.ty⟩
theorem Pan.put {q : Nat} {u z : Value} (h : Pan w lo hi (some ⟨g, 0, none⟩) (X ++ r :: Y)) (hq : q < 7) (hz : (Wn.pals r)[q]? = some z) (hu : (Wn.pals r')[q]? = some u) (ho : ∀ j, j < 7 → j ≠ q → (Wn.pals r')[j]? = (Wn.pals r)[j]?) (hb : r'.b = r.b) :
    Pan (w.setCell ⟨g, X.length * 7 + q, none⟩ u) lo hi (some ⟨g, 0, none⟩) (X ++ r' :: Y) := by
  refine ⟨h.q.put hq hz hu ho hb, fun b m => ?_⟩
  have e : (X ++ r' :: Y).map Wn.b = (X ++ r :: Y).map Wn.b := by simp [hb]
  rw [e] at m
  exact Ci.ty_set (h.ty b m) _ _ fun hn => (h.q.ne g rfl b m hn).symm
/-- .. handed on as a stack. -/
theorem Pan.done (h : Pan w lo hi so L) (k : Below w.heap.size w w') (O : OwnV Wn.vals 39 w' w.heap.size s c L) : Wq Wn.vals w' lo w'.heap.size s L :=
  ⟨by have := h.q.le; have := h.q.hs; have := k.size; omega, Nat.le_refl _, (h.q.cis.keep k h.q.hs).wide (Nat.le_refl _) (Nat.le_trans h.q.hs k.size), (O.sp vals7).wide (by have := h.q.le; have := h.q.hs; omega) (Nat.le_refl _), fun g hg b m e e2 => O.other winNe (Ci.ty_keep (h.ty b m) k) e (by rw [e2, hg]; rfl)⟩
end

/-- The first one of an id turned. -/
def modW (id : Int) (f : Wc → Wc) : List Wc → List Wc
  | [] => []
  | c :: C => if c.i = id then f c :: C else c :: modW id f C
theorem modW_len (id : Int) (f : Wc → Wc) (C : List Wc) : (modW id f C).length = C.length := by
  induction C with
  | nil => rfl
  | cons c C ih => unfold modW; split <;> simp [ih]
theorem modW_at {id : Int} {f : Wc → Wc} {L X Y : List Wn} {r : Wn} (h : Fst id L X r Y) : modW id f (L.map Wn.ct) = X.map Wn.ct ++ f r.ct :: Y.map Wn.ct := by
  rw [h.eq]
  have hno := h.no
  have hat := h.at'
  clear h
  induction X with
  | nil => simp only [List.nil_append, List.map_cons, List.map_nil, modW]; rw [if_pos (by exact hat)]
  | cons v X ih =>
    simp only [List.cons_append, List.map_cons, modW]
    rw [if_neg (by exact hno v (by simp)), ih fun u hu => hno u (by simp [hu])]
def mapC (on : Bool) (c : Wc) : Wc := ⟨c.i, c.x, c.y, c.w, c.h, on, c.L⟩
def mapP (C : List Wc) (id : Int) (on : Bool) : List Wc := if askW C id = 0 then modW id (mapC on) C else []
theorem mapP_yes {L X Y : List Wn} {r : Wn} {id : Int} {on : Bool} (h : stF (L.map Wn.ct) = 0) (hf : Fst id L X r Y) : mapP (L.map Wn.ct) id on = X.map Wn.ct ++ mapC on r.ct :: Y.map Wn.ct := by
  unfold mapP; rw [if_pos (askW_yes h hf), modW_at hf]
theorem mapP_no {C : List Wc} {id : Int} {on : Bool} (h : askW C id ≠ 0) : mapP C id on = [] := by unfold mapP; rw [if_neg h]
theorem askW_ne {L : List Wn} {id : Int} (h : ¬ stF (L.map Wn.ct) = 0 ∨ ∀ v ∈ L, v.i ≠ id) : askW (L.map Wn.ct) id ≠ 0 := by
  by_cases h0 : stF (L.map Wn.ct) = 0
  · rcases h with h | h
    · exact absurd h0 h
    · rw [askW_none h0 h]; decide
  · rw [askW_bad h0]; exact h0
/-- How many cells a content has. -/
def cz : List Wc → Nat
  | [] => 0
  | c :: C => c.L.length + cz C
theorem cz_wzs (L : List Wn) : cz (L.map Wn.ct) = wzs L := by
  induction L with
  | nil => rfl
  | cons v L ih => simp only [List.map_cons, cz, wzs, ih]; rfl
theorem cz_mod {id : Int} {f : Wc → Wc} (hf : ∀ c, (f c).L = c.L) (C : List Wc) : cz (modW id f C) = cz C := by
  induction C with
  | nil => rfl
  | cons c C ih =>
    unfold modW
    split
    · simp only [cz, hf]
    · simp only [cz, ih]
theorem small_of {L : List Wn} {P : List Wc} (h : P.length + cz P ≤ 1048576) : ∀ N : List Wn, N.map Wn.ct = P → N.length + wzs N ≤ 1048576 := fun N e => by
  rw [← cz_wzs, e, ← List.length_map (f := Wn.ct), e]; exact h
theorem small_map {L : List Wn} (id : Int) (on : Bool) (h : L.length + wzs L ≤ 1048576) : ∀ N : List Wn, N.map Wn.ct = mapP (L.map Wn.ct) id on → N.length + wzs N ≤ 1048576 :=
  small_of (L := L) (by
    unfold mapP
    split
    · rw [modW_len, cz_mod (f := mapC on) (fun c => rfl), cz_wzs, List.length_map]; exact h
    · simp [cz])
/-- Whatever is wrong with a stack, or an id, both ask it in one way. -/
theorem asked_no (lo hi : Nat) (so : Option Addr) (sc : Nat) (L : List Wn) (id : Int) (w : World) (hL : Ws w lo hi so L) (hs : hi ≤ w.heap.size) (hn : L.length + wzs L ≤ 1048576) (h : ¬ stF (L.map Wn.ct) = 0 ∨ ∀ v ∈ L, v.i ≠ id) :
    Calls Try.prog 47 #[.slice so L.length sc, .int .i64 id] w fun e w' => e = .returned (.tuple #[.int .i64 0, .int .i64 (askW (L.map Wn.ct) id)]) ∧ Below w.heap.size w w' := by
  by_cases h0 : stF (L.map Wn.ct) = 0
  · exact asked_none lo hi so sc L id w hL hs hn h0 (h.resolve_left (fun h => h h0))
  · exact asked_bad lo hi so sc L id w hL hs hn h0
theorem point_no (lo hi : Nat) (so : Option Addr) (sc : Nat) (L : List Wn) (id : Int) (w : World) (hL : Ws w lo hi so L) (hs : hi ≤ w.heap.size) (hn : L.length + wzs L ≤ 1048576) (h : ¬ stF (L.map Wn.ct) = 0 ∨ ∀ v ∈ L, v.i ≠ id) :
    Calls Try.prog 72 #[.slice so L.length sc, .int .i64 id] w fun e w' => e = .returned (.tuple #[.slice none 0 0, .pointer none, .int .i64 (askW (L.map Wn.ct) id)]) ∧ Below w.heap.size w w' := by
  by_cases h0 : stF (L.map Wn.ct) = 0
  · exact point_none lo hi so sc L id w hL hs hn h0 (h.resolve_left (fun h => h h0))
  · exact point_bad lo hi so sc L id w hL hs hn h0

set_option maxHeartbeats 400000 in
theorem l7Bad_any (z : Int) (w : World) : Calls Try.prog 52 #[.int .i64 z] w fun e w' => e = .returned (.agg #[.int .i64 z, .int .i64 0, .slice none 0 0]) ∧ Below w.heap.size w w' := by
  go_enter Try.func52, Try.ntmps52
  go_wp2
  refine bodyPost_ret (v := .agg #[.int .i64 z, .int .i64 0, .slice none 0 0]) (by simp [results, Try.results52, go_sem, *]) rfl ⟨rfl, ?_⟩
  repeat' (first | (with_reducible exact Below.refl _ _) | (with_reducible refine Below.setCell ?_ ?_ _) | (with_reducible refine Below.alloc ?_ ?_ _) | go_size)

end Go.Proofs.Ytclfobpmafkgfaa

namespace Go.Proofs.Ytclfobpmafkgfaa
open Go.RowKit Go.Maps
set_option linter.unusedVariables false

def pickW (id : Int) (C : List Wc) : Option Wc := C.find? fun c => c.i == id
theorem pick_fst {id : Int} {L X Y : List Wn} {r : Wn} (h : Fst id L X r Y) : pickW id (L.map Wn.ct) = some r.ct := by
  unfold pickW
  rw [h.eq, List.map_append, List.map_cons, List.find?_append, List.find?_eq_none.2, List.find?_cons_of_pos]
  · rfl
  · show (r.i == id) = true
    simpa using h.at'
  · intro c hc
    obtain ⟨v, hv, rfl⟩ := List.mem_map.1 hc
    show ¬ (v.i == id) = true
    simpa using h.no v hv
def ptZ (C : List Wc) (id a b : Int) : Int := if askW C id = 0 then (match pickW id C with | some c => celZ c a b | none => 0) else askW C id
def ptV (C : List Wc) (id a b : Int) : Int := if askW C id = 0 then (match pickW id C with | some c => celV c a b | none => 0) else 0
theorem pt_no {C : List Wc} {id a b : Int} (h : askW C id ≠ 0) : ptZ C id a b = askW C id ∧ ptV C id a b = 0 := by unfold ptZ ptV; rw [if_neg h, if_neg h]; exact ⟨rfl, rfl⟩
theorem pt_yes {L X Y : List Wn} {r : Wn} {id a b : Int} (h0 : askW (L.map Wn.ct) id = 0) (h : Fst id L X r Y) : ptZ (L.map Wn.ct) id a b = celZ r.ct a b ∧ ptV (L.map Wn.ct) id a b = celV r.ct a b := by unfold ptZ ptV; rw [if_pos h0, if_pos h0, pick_fst h]; exact ⟨rfl, rfl⟩
theorem place_no (lo hi : Nat) (so : Option Addr) (sc : Nat) (L : List Wn) (id : Int) (w : World) (hL : Ws w lo hi so L) (hs : hi ≤ w.heap.size) (hn : L.length + wzs L ≤ 1048576) (h : ¬ stF (L.map Wn.ct) = 0 ∨ ∀ v ∈ L, v.i ≠ id) :
    Calls Try.prog 46 #[.slice so L.length sc, .int .i64 id] w fun e w' => e = .returned (.tuple #[.int .i64 0, .int .i64 (askW (L.map Wn.ct) id)]) ∧ Below w.heap.size w w' := by
  by_cases h0 : stF (L.map Wn.ct) = 0
  · exact place_none lo hi so sc L id w hL hs hn h0 (h.resolve_left (fun h => h h0))
  · exact place_bad lo hi so sc L id w hL hs hn h0

set_option maxRecDepth 100000 in
set_option maxHeartbeats 1000000 in
theorem sPoint_any (lo hi : Nat) (so : Option Addr) (sc : Nat) (L : List Wn) (id a b : Int) (w : World) (hL : Ws w lo hi so L) (hs : hi ≤ w.heap.size) (hn : L.length + wzs L ≤ 1048576) :
    Calls Try.prog 15 #[.slice so L.length sc, .int .i64 id, .int .i64 a, .int .i64 b] w fun e w' => e = .returned (.agg #[.int .i64 (ptZ (L.map Wn.ct) id a b), .int .i64 (ptV (L.map Wn.ct) id a b)]) ∧ Below w.heap.size w w' := by
  by_cases hbad : ¬ stF (L.map Wn.ct) = 0 ∨ ∀ v ∈ L, v.i ≠ id
  · have AN := fun w1 (kk : Below w.heap.size w w1) => asked_no lo hi so sc L id w1 (hL.keep kk hs) (Nat.le_trans hs kk.size) hn hbad
    have hne := askW_ne hbad
    obtain ⟨e1, e2⟩ := pt_no (a := a) (b := b) hne
    rw [e1, e2]
    obtain ⟨F, hF⟩ : ∃ F, askW (L.map Wn.ct) id = F := ⟨_, rfl⟩
    rw [hF] at AN hne ⊢
    have hne' : (F != 0) = true := by simpa using hne
    have AN' := hideP AN
    clear AN hL hbad hF hne e1 e2
    go_enter Try.func15, Try.ntmps15
    go_wp2_with fail
    refine Calls.mono (AN'.out _ (by go_grown)) ?_
    rintro e w1 ⟨rfl, k1⟩
    have K1 : Hid (Below w.heap.size w w1) := hideP (Below.trans (by go_grown) (k1.mono (by simp)))
    have X1 : Rb w1 w.heap.size (.int .i64 0) (.int .i64 0) := Rb.keep ⟨by simp, by simp, by simp, by simp, by simp⟩ k1 (by simp)
    obtain ⟨x0, x1, x2, x3, x4⟩ := X1
    clear k1 AN'
    go_wp2
    exact bodyPost_ret (v := .agg #[.int .i64 F, .int .i64 0]) (by simp [results, Try.results15, go_sem, *]) rfl ⟨rfl, (K1.out.setCell (p := ⟨w.heap.size, 0, none⟩) (Nat.le_refl _) (.int .i64 F)).setCell (p := ⟨w.heap.size, 1, none⟩) (Nat.le_refl _) (.int .i64 0)⟩
  · obtain ⟨h0, X, r, Y, hf⟩ : stF (L.map Wn.ct) = 0 ∧ ∃ X r Y, Fst id L X r Y := by
      have h1 : stF (L.map Wn.ct) = 0 := Classical.byContradiction fun h => hbad (.inl h)
      exact ⟨h1, (fst_or id L).resolve_left fun h => hbad (.inr h)⟩
    have AY := hideP (fun w1 (kk : Below w.heap.size w w1) => asked_yes lo hi so sc L X Y r id w1 (hL.keep kk hs) (Nat.le_trans hs kk.size) hn h0 hf)
    obtain ⟨e1, e2⟩ := pt_yes (a := a) (b := b) (askW_yes h0 hf) hf
    rw [e1, e2]
    have hXl : (X.length : Int) < (L.length : Int) := by rw [hf.eq]; simp; omega
    have hn' : (L.length : Int) ≤ 1048576 := by omega
    have hLe := hL
    rw [hf.eq] at hLe
    obtain ⟨g, o, rfl, hg, hc, hR⟩ := Ws.at hLe
    have hrl : r.b.L.length ≤ 1048576 := by have := wzs_mem (v := r) (L := L) (by rw [hf.eq]; simp); omega
    obtain ⟨ri, rx, ry, rp, rh, rm, ⟨ao, ca, gb, D⟩⟩ := r
    simp only [Wn.ct] at hrl hR ⊢
    have CE := fun w1 (kk : Below w.heap.size w w1) => sCell_any lo hi ri rx ry rp rh rm ao ca D a b w1 (hR.keep kk hs) (Nat.le_trans hs kk.size) hrl
    obtain ⟨Z, hZ⟩ : ∃ Z, celZ ⟨ri, rx, ry, rp, rh, rm, D⟩ a b = Z := ⟨_, rfl⟩
    obtain ⟨V, hV⟩ : ∃ V, celV ⟨ri, rx, ry, rp, rh, rm, D⟩ a b = V := ⟨_, rfl⟩
    rw [hZ, hV] at CE ⊢
    have CE' := hideP CE
    have HC := hideP hc
    have hg0 : g < w.heap.size := by omega
    clear hL hbad h0 hf hLe hc hR CE hZ hV e1 e2
    go_enter Try.func15, Try.ntmps15
    go_wp2_with fail
    refine Calls.mono (AY.out _ (by go_grown)) ?_
    rintro e w1 ⟨rfl, k1⟩
    have K1 : Hid (Below w.heap.size w w1) := hideP (Below.trans (by go_grown) (k1.mono (by simp)))
    have X1 : Rb w1 w.heap.size (.int .i64 0) (.int .i64 0) := Rb.keep ⟨by simp, by simp, by simp, by simp, by simp⟩ k1 (by simp)
    obtain ⟨a0, a1, a2, a3, a4, a5, a6⟩ := (HC.out.keep K1.out hg0).seven
    have hg1 : g < w1.heap.size := by have := K1.out.size; omega
    simp only at a0 a1 a2 a3 a4 a5 a6
    clear k1 AY HC
    go_wp2_with fail
    refine Calls.mono (CE'.out w1 K1.out) ?_
    rintro e w2 ⟨rfl, k2⟩
    have K2 := hideP (K1.out.trans (k2.mono K1.out.size))
    obtain ⟨x0, x1, x2, x3, x4⟩ := X1.keep k2 X1.lt
    clear k2 X1 a0 a1 a2 a3 a4 a5 a6
    go_wp2
    exact bodyPost_ret (v := .agg #[.int .i64 Z, .int .i64 V]) (by simp [results, Try.results15, go_sem, *]) rfl ⟨rfl, (K2.out.setCell (p := ⟨w.heap.size, 0, none⟩) (Nat.le_refl _) (.int .i64 Z)).setCell (p := ⟨w.heap.size, 1, none⟩) (Nat.le_refl _) (.int .i64 V)⟩

set_option maxRecDepth 100000 in
set_option maxHeartbeats 1000000 in
theorem iPoint_any (lo hi : Nat) (so : Option Addr) (sc : Nat) (L : List Wn) (id a b : Int) (w : World) (hL : Ws w lo hi so L) (hs : hi ≤ w.heap.size) (hn : L.length + wzs L ≤ 1048576) :
    Calls Try.prog 13 #[.slice so L.length sc, .int .i64 id, .int .i64 a, .int .i64 b] w fun e w' => e = .returned (.agg #[.int .i64 (ptZ (L.map Wn.ct) id a b), .int .i64 (ptV (L.map Wn.ct) id a b)]) ∧ Below w.heap.size w w' := by
  by_cases hbad : ¬ stF (L.map Wn.ct) = 0 ∨ ∀ v ∈ L, v.i ≠ id
  · have AN := fun w1 (kk : Below w.heap.size w w1) => place_no lo hi so sc L id w1 (hL.keep kk hs) (Nat.le_trans hs kk.size) hn hbad
    have hne := askW_ne hbad
    obtain ⟨e1, e2⟩ := pt_no (a := a) (b := b) hne
    rw [e1, e2]
    obtain ⟨F, hF⟩ : ∃ F, askW (L.map Wn.ct) id = F := ⟨_, rfl⟩
    rw [hF] at AN hne ⊢
    have hne' : (F != 0) = true := by simpa using hne
    have AN' := hideP AN
    clear AN hL hbad hF hne e1 e2
    go_enter Try.func13, Try.ntmps13
    go_wp2_with fail
    refine Calls.mono (AN'.out _ (by go_grown)) ?_
    rintro e w1 ⟨rfl, k1⟩
    have K1 : Hid (Below w.heap.size w w1) := hideP (Below.trans (by go_grown) (k1.mono (by simp)))
    have X1 : Rb w1 w.heap.size (.int .i64 0) (.int .i64 0) := Rb.keep ⟨by simp, by simp, by simp, by simp, by simp⟩ k1 (by simp)
    obtain ⟨x0, x1, x2, x3, x4⟩ := X1
    clear k1 AN'
    go_wp2
    exact bodyPost_ret (v := .agg #[.int .i64 F, .int .i64 0]) (by simp [results, Try.results13, go_sem, *]) rfl ⟨rfl, (K1.out.setCell (p := ⟨w.heap.size, 0, none⟩) (Nat.le_refl _) (.int .i64 F)).setCell (p := ⟨w.heap.size, 1, none⟩) (Nat.le_refl _) (.int .i64 0)⟩
  · obtain ⟨h0, X, r, Y, hf⟩ : stF (L.map Wn.ct) = 0 ∧ ∃ X r Y, Fst id L X r Y := by
      have h1 : stF (L.map Wn.ct) = 0 := Classical.byContradiction fun h => hbad (.inl h)
      exact ⟨h1, (fst_or id L).resolve_left fun h => hbad (.inr h)⟩
    have AY := hideP (fun w1 (kk : Below w.heap.size w w1) => place_yes lo hi so sc L X Y r id w1 (hL.keep kk hs) (Nat.le_trans hs kk.size) hn h0 hf)
    obtain ⟨e1, e2⟩ := pt_yes (a := a) (b := b) (askW_yes h0 hf) hf
    rw [e1, e2]
    have hXl : (X.length : Int) < (L.length : Int) := by rw [hf.eq]; simp; omega
    have hn' : (L.length : Int) ≤ 1048576 := by omega
    have hLe := hL
    rw [hf.eq] at hLe
    obtain ⟨g, o, rfl, hg, hc, hR⟩ := Ws.at hLe
    have hrl : r.b.L.length ≤ 1048576 := by have := wzs_mem (v := r) (L := L) (by rw [hf.eq]; simp); omega
    obtain ⟨ri, rx, ry, rp, rh, rm, ⟨ao, ca, gb, D⟩⟩ := r
    simp only [Wn.ct] at hrl hR ⊢
    have CE := fun w1 (kk : Below w.heap.size w w1) => iCell_any lo hi ri rx ry rp rh rm ao ca D a b w1 (hR.keep kk hs) (Nat.le_trans hs kk.size) hrl
    obtain ⟨Z, hZ⟩ : ∃ Z, celZ ⟨ri, rx, ry, rp, rh, rm, D⟩ a b = Z := ⟨_, rfl⟩
    obtain ⟨V, hV⟩ : ∃ V, celV ⟨ri, rx, ry, rp, rh, rm, D⟩ a b = V := ⟨_, rfl⟩
    rw [hZ, hV] at CE ⊢
    have CE' := hideP CE
    have HC := hideP hc
    have hg0 : g < w.heap.size := by omega
    clear hL hbad h0 hf hLe hc hR CE hZ hV e1 e2
    go_enter Try.func13, Try.ntmps13
    go_wp2_with fail
    refine Calls.mono (AY.out _ (by go_grown)) ?_
    rintro e w1 ⟨rfl, k1⟩
    have K1 : Hid (Below w.heap.size w w1) := hideP (Below.trans (by go_grown) (k1.mono (by simp)))
    have X1 : Rb w1 w.heap.size (.int .i64 0) (.int .i64 0) := Rb.keep ⟨by simp, by simp, by simp, by simp, by simp⟩ k1 (by simp)
    obtain ⟨a0, a1, a2, a3, a4, a5, a6⟩ := (HC.out.keep K1.out hg0).seven
    have hg1 : g < w1.heap.size := by have := K1.out.size; omega
    simp only at a0 a1 a2 a3 a4 a5 a6
    clear k1 AY HC
    go_wp2_with fail
    refine Calls.mono (CE'.out w1 K1.out) ?_
    rintro e w2 ⟨rfl, k2⟩
    have K2 := hideP (K1.out.trans (k2.mono K1.out.size))
    obtain ⟨x0, x1, x2, x3, x4⟩ := X1.keep k2 X1.lt
    clear k2 X1 a0 a1 a2 a3 a4 a5 a6
    go_wp2
    exact bodyPost_ret (v := .agg #[.int .i64 Z, .int .i64 V]) (by simp [results, Try.results13, go_sem, *]) rfl ⟨rfl, (K2.out.setCell (p := ⟨w.heap.size, 0, none⟩) (Nat.le_refl _) (.int .i64 Z)).setCell (p := ⟨w.heap.size, 1, none⟩) (Nat.le_refl _) (.int .i64 V)⟩
end Go.Proofs.Ytclfobpmafkgfaa

namespace Go.Proofs.Ytclfobpmafkgfaa
open Go.RowKit Go.Maps
set_option linter.unusedVariables false

/-- Where a rectangle may begin. -/
def nearB (x y : Int) : Bool := decide (-20 ≤ x ∧ x ≤ 20 ∧ -20 ≤ y ∧ y ≤ 20)
def moveC (x y : Int) (c : Wc) : Wc := ⟨c.i, x, y, c.w, c.h, c.m, c.L⟩
def moveZ (C : List Wc) (id x y : Int) : Int := if askW C id = 0 then (if nearB x y then 0 else 3) else askW C id
def moveP (C : List Wc) (id x y : Int) : List Wc := if moveZ C id x y = 0 then modW id (moveC x y) C else []
theorem moveZ_bad {C : List Wc} {id x y : Int} (h : askW C id ≠ 0) : moveZ C id x y = askW C id := by unfold moveZ; rw [if_neg h]
theorem moveP_bad {C : List Wc} {id x y : Int} (h : askW C id ≠ 0) : moveP C id x y = [] := by unfold moveP; rw [moveZ_bad h, if_neg h]
theorem moveZ_far {C : List Wc} {id x y : Int} (h : askW C id = 0) (hn : nearB x y = false) : moveZ C id x y = 3 := by unfold moveZ; rw [if_pos h, hn]; rfl
theorem moveP_far {C : List Wc} {id x y : Int} (h : askW C id = 0) (hn : nearB x y = false) : moveP C id x y = [] := by unfold moveP; rw [moveZ_far h hn, if_neg (by decide)]
theorem moveZ_yes {C : List Wc} {id x y : Int} (h : askW C id = 0) (hn : nearB x y = true) : moveZ C id x y = 0 := by unfold moveZ; rw [if_pos h, hn]; rfl
theorem moveP_yes {L X Y : List Wn} {r : Wn} {id x y : Int} (h : stF (L.map Wn.ct) = 0) (hf : Fst id L X r Y) (hn : nearB x y = true) : moveP (L.map Wn.ct) id x y = X.map Wn.ct ++ moveC x y r.ct :: Y.map Wn.ct := by
  unfold moveP; rw [moveZ_yes (askW_yes h hf) hn, if_pos rfl, modW_at hf]
theorem near_yes {x y : Int} (h : nearB x y = true) : -20 ≤ x ∧ x ≤ 20 ∧ -20 ≤ y ∧ y ≤ 20 := by unfold nearB at h; simpa using h
theorem near_no {x y : Int} (h : nearB x y = false) : x < -20 ∨ 20 < x ∨ y < -20 ∨ 20 < y := by unfold nearB at h; simp at h; omega
theorem small_move {L : List Wn} (id x y : Int) (h : L.length + wzs L ≤ 1048576) : ∀ N : List Wn, N.map Wn.ct = moveP (L.map Wn.ct) id x y → N.length + wzs N ≤ 1048576 :=
  small_of (L := L) (by
    unfold moveP
    split
    · rw [modW_len, cz_mod (f := moveC x y) (fun c => rfl), cz_wzs, List.length_map]; exact h
    · simp [cz])

end Go.Proofs.Ytclfobpmafkgfaa
