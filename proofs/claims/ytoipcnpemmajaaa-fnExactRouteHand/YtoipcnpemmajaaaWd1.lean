/- Answers with stacks; panes that are worked on; windows mapped. -/
import Derived.Test.YtoipcnpemmajaaaWc4
import Derived.Test.YtoipcnpemmajaaaWi4
namespace Go.Proofs.Ytoipcnpemmajaaa
open Go.RowKit Go.Maps
set_option linter.unusedVariables false

/-- An answer of a stack's function. -/
def SAns (z v : Int) (P : List Wc) (n : Nat) (w : World) (e : Ending) (w' : World) : Prop :=
  ∃ (s : Option Addr) (c : Nat) (M : List Wn), e = .returned (.agg #[.int .i64 z, .int .i64 v, .slice s n c]) ∧ M.map Wn.ct = P ∧ M.length = n ∧ Wq Wn.vals w' w.heap.size w'.heap.size s M ∧ Below w.heap.size w w'
theorem wq_none {V : Wn → List Value} {w w' : World} (k : Below w.heap.size w w') : Wq V w' w.heap.size w'.heap.size none [] := ⟨k.size, Nat.le_refl _, Cis.nil _ _ _, .inl rfl, fun g h => by cases h⟩
theorem sans_bad {z v : Int} {w w' : World} (k : Below w.heap.size w w') : SAns z v [] 0 w (.returned (.agg #[.int .i64 z, .int .i64 v, .slice none 0 0])) w' := ⟨none, 0, [], rfl, rfl, rfl, wq_none k, k⟩

/-- The first one of an id turned. -/
def modW (id : Int) (f : Wc → Wc) : List Wc → List Wc
  | [] => []
  | c :: C => if c.i = id then f c :: C else c :: modW id f C
theorem modW_len (id : Int) (f : Wc → Wc) (C : List Wc) : (modW id f C).length = C.length := by
  induction C with
  | nil => rfl
  | cons c C ih => unfold modW; split <;> simp [ih]
theorem modW_at {id : Int} {f : Wc → Wc} {L X Y : List Wn} {r : Wn} (h : Fst id L X r Y) : modW id f (L.map Wn.ct) = X.map Wn.ct ++ f r.ct :: Y.map Wn.ct := by
  rw [h.eq]
  have hno := h.no
  have hat := h.at'
  clear h
  induction X with
  | nil => simp only [List.nil_append, List.map_cons, List.map_nil, modW]; rw [if_pos (by exact hat)]
  | cons v X ih =>
    simp only [List.cons_append, List.map_cons, modW]
    rw [if_neg (by exact hno v (by simp)), ih fun u hu => hno u (by simp [hu])]
def mapC (on : Bool) (c : Wc) : Wc := ⟨c.i, c.x, c.y, c.w, c.h, on, c.L⟩
def mapP (C : List Wc) (id : Int) (on : Bool) : List Wc := if askW C id = 0 then modW id (mapC on) C else []
theorem mapP_yes {L X Y : List Wn} {r : Wn} {id : Int} {on : Bool} (h : stF (L.map Wn.ct) = 0) (hf : Fst id L X r Y) : mapP (L.map Wn.ct) id on = X.map Wn.ct ++ mapC on r.ct :: Y.map Wn.ct := by
  unfold mapP; rw [if_pos (askW_yes h hf), modW_at hf]
theorem mapP_no {C : List Wc} {id : Int} {on : Bool} (h : askW C id ≠ 0) : mapP C id on = [] := by unfold mapP; rw [if_neg h]
theorem askW_ne {L : List Wn} {id : Int} (h : ¬ stF (L.map Wn.ct) = 0 ∨ ∀ v ∈ L, v.i ≠ id) : askW (L.map Wn.ct) id ≠ 0 := by
  by_cases h0 : stF (L.map Wn.ct) = 0
  · rcases h with h | h
    · exact absurd h0 h
    · rw [askW_none h0 h]; decide
  · rw [askW_bad h0]; exact h0
/-- How many cells a content has. -/
def cz : List Wc → Nat
  | [] => 0
  | c :: C => c.L.length + cz C
theorem cz_wzs (L : List Wn) : cz (L.map Wn.ct) = wzs L := by
  induction L with
  | nil => rfl
  | cons v L ih => simp only [List.map_cons, cz, wzs, ih]; rfl
theorem cz_mod {id : Int} {f : Wc → Wc} (hf : ∀ c, (f c).L = c.L) (C : List Wc) : cz (modW id f C) = cz C := by
  induction C with
  | nil => rfl
  | cons c C ih =>
    unfold modW
    split
    · simp only [cz, hf]
    · simp only [cz, ih]
theorem small_of {L : List Wn} {P : List Wc} (h : P.length + cz P ≤ 1048576) : ∀ N : List Wn, N.map Wn.ct = P → N.length + wzs N ≤ 1048576 := fun N e => by
  rw [← cz_wzs, e, ← List.length_map (f := Wn.ct), e]; exact h
theorem small_map {L : List Wn} (id : Int) (on : Bool) (h : L.length + wzs L ≤ 1048576) : ∀ N : List Wn, N.map Wn.ct = mapP (L.map Wn.ct) id on → N.length + wzs N ≤ 1048576 :=
  small_of (L := L) (by
    unfold mapP
    split
    · rw [modW_len, cz_mod (f := mapC on) (fun c => rfl), cz_wzs, List.length_map]; exact h
    · simp [cz])

set_option maxHeartbeats 400000 in
theorem l7Bad_any (z : Int) (w : World) : Calls Try.prog 109 #[.int .i64 z] w fun e w' => e = .returned (.agg #[.int .i64 z, .int .i64 0, .slice none 0 0]) ∧ Below w.heap.size w w' := by
  go_enter Try.func109, Try.ntmps109
  go_wp2
  refine bodyPost_ret (v := .agg #[.int .i64 z, .int .i64 0, .slice none 0 0]) (by simp [results, Try.results109, go_sem, *]) rfl ⟨rfl, ?_⟩
  repeat' (first | (with_reducible exact Below.refl _ _) | (with_reducible refine Below.setCell ?_ ?_ _) | (with_reducible refine Below.alloc ?_ ?_ _) | go_size)

end Go.Proofs.Ytoipcnpemmajaaa
