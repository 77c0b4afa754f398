/- Windows marked, and held behind it. Answers with stacks; panes that are worked on; windows mapped. -/
import Derived.Test.YtmmjannkfmiohaaTs15
namespace Go.Proofs.Ytmmjannkfmiohaa
open Go.RowKit
set_option linter.unusedVariables false

def markC (k : Int) (b : Ci) : Ci := ⟨b.ao, b.cap, b.g, rowOf (mkI k) b.L.length⟩
theorem markC_len (k : Int) (b : Ci) : (markC k b).L.length = b.L.length := rowOf_len _ _
/-- What the sixth cell is marked with. -/
def third (k : Int) : Bool := k % 3 == 0
def mk1W (k : Int) (v : Wn) : Wn := ⟨k, k + 1, k + 1 + 1, k + 1 + 1 + 1, k + 1 + 1 + 1 + 1, third (k + 1 + 1 + 1 + 1 + 1), markC (k + 1 + 1 + 1 + 1 + 1 + 1) v.b⟩
def mkW : Int → List Wn → List Wn
  | _, [] => []
  | k, v :: L => mk1W k v :: mkW (k + 6 + v.b.L.length) L
theorem mkW_len (k : Int) (L : List Wn) : (mkW k L).length = L.length := by
  induction L generalizing k with
  | nil => rfl
  | cons m L ih => simp only [mkW, List.length_cons, ih]
theorem mkW_app (k : Int) (A B : List Wn) : mkW k (A ++ B) = mkW k A ++ mkW (k + 6 * A.length + wzs A) B := by
  induction A generalizing k with
  | nil => simp [mkW, wzs_nil]
  | cons m A ih =>
    simp only [List.cons_append, mkW, ih, List.length_cons, wzs_cons, List.cons.injEq, true_and]
    congr 2
    push_cast
    omega
theorem mkW_one (k : Int) (v : Wn) : mkW k [v] = [mk1W k v] := rfl

/-- One of the cells of one window written anew. -/
theorem Wq.put {V : Wn → List Value} {w : World} {lo hi g : Nat} {X Y : List Wn} {r s : Wn} {q : Nat} {u z : Value} (h : Wq V w lo hi (some ⟨g, 0, none⟩) (X ++ r :: Y)) (hq : q < 7) (hz : (V r)[q]? = some z) (hu : (V s)[q]? = some u) (ho : ∀ j, j < 7 → j ≠ q → (V s)[j]? = (V r)[j]?) (hb : s.b = r.b) :
    Wq V (w.setCell ⟨g, X.length * 7 + q, none⟩ u) lo hi (some ⟨g, 0, none⟩) (X ++ s :: Y) := by
  have e : (X ++ s :: Y).map Wn.b = (X ++ r :: Y).map Wn.b := by simp [hb]
  refine ⟨h.le, by simpa using h.hs, ?_, h.sp.put hq hz hu ho, by rw [e]; exact h.ne⟩
  rw [e]
  exact ⟨fun c m => Ci.on_set (h.cis.each c m) _ _ fun hn => (h.ne g rfl c m hn).symm, h.cis.inn, h.cis.apart⟩
theorem Wq.cells {V : Wn → List Value} {w : World} {lo hi : Nat} {so : Option Addr} {X Y : List Wn} {r : Wn} (h : Wq V w lo hi so (X ++ r :: Y)) : ∃ g, so = some ⟨g, 0, none⟩ ∧ lo ≤ g ∧ g < hi ∧ Cl V w g (X.length * 7) r ∧ ∀ c, w.frozen? ⟨g, c, none⟩ = false := h.sp.at

theorem Wq.six {w : World} {lo hi g : Nat} {X Y : List Wn} {r : Wn} (h : Wq Wn.vals w lo hi (some ⟨g, 0, none⟩) (X ++ r :: Y)) (i x y p q : Int) (m : Bool) :
    Wq Wn.vals ((((((w.setCell ⟨g, X.length * 7, none⟩ (.int .i64 i)).setCell ⟨g, X.length * 7 + 1, none⟩ (.int .i64 x)).setCell ⟨g, X.length * 7 + 1 + 1, none⟩ (.int .i64 y)).setCell ⟨g, X.length * 7 + 1 + 2, none⟩ (.int .i64 p)).setCell ⟨g, X.length * 7 + 1 + 3, none⟩ (.int .i64 q)).setCell ⟨g, X.length * 7 + 5, none⟩ (.bool m)) lo hi (some ⟨g, 0, none⟩) (X ++ ⟨i, x, y, p, q, m, r.b⟩ :: Y) := by
  have h1 := h.put (q := 0) (s := ⟨i, r.x, r.y, r.w, r.h, r.m, r.b⟩) (u := .int .i64 i) (by omega) rfl rfl (fun j hj hq => by match j, hj, hq with | 1, _, _ | 2, _, _ | 3, _, _ | 4, _, _ | 5, _, _ | 6, _, _ => rfl) rfl
  have h2 := h1.put (q := 1) (s := ⟨i, x, r.y, r.w, r.h, r.m, r.b⟩) (u := .int .i64 x) (by omega) rfl rfl (fun j hj hq => by match j, hj, hq with | 0, _, _ | 2, _, _ | 3, _, _ | 4, _, _ | 5, _, _ | 6, _, _ => rfl) rfl
  have h3 := h2.put (q := 2) (s := ⟨i, x, y, r.w, r.h, r.m, r.b⟩) (u := .int .i64 y) (by omega) rfl rfl (fun j hj hq => by match j, hj, hq with | 0, _, _ | 1, _, _ | 3, _, _ | 4, _, _ | 5, _, _ | 6, _, _ => rfl) rfl
  have h4 := h3.put (q := 3) (s := ⟨i, x, y, p, r.h, r.m, r.b⟩) (u := .int .i64 p) (by omega) rfl rfl (fun j hj hq => by match j, hj, hq with | 0, _, _ | 1, _, _ | 2, _, _ | 4, _, _ | 5, _, _ | 6, _, _ => rfl) rfl
  have h5 := h4.put (q := 4) (s := ⟨i, x, y, p, q, r.m, r.b⟩) (u := .int .i64 q) (by omega) rfl rfl (fun j hj hq => by match j, hj, hq with | 0, _, _ | 1, _, _ | 2, _, _ | 3, _, _ | 5, _, _ | 6, _, _ => rfl) rfl
  exact h5.put (q := 5) (s := ⟨i, x, y, p, q, m, r.b⟩) (u := .bool m) (by omega) rfl rfl (fun j hj hq => by match j, hj, hq with | 0, _, _ | 1, _, _ | 2, _, _ | 3, _, _ | 4, _, _ | 6, _, _ => rfl) rfl
theorem far_six {w : World} {lo hi g o : Nat} (h : lo ≤ g ∧ g < hi) (v0 v1 v2 v3 v4 v5 : Value) (a b c d e f : Nat) : Far lo hi w ((((((w.setCell ⟨g, a, none⟩ v0).setCell ⟨g, b, none⟩ v1).setCell ⟨g, c, none⟩ v2).setCell ⟨g, d, none⟩ v3).setCell ⟨g, e, none⟩ v4).setCell ⟨g, f, none⟩ v5) :=
  (((((Far.of_set7 h).trans (Far.of_set7 h)).trans (Far.of_set7 h)).trans (Far.of_set7 h)).trans (Far.of_set7 h)).trans (Far.of_set7 h)

theorem kalW (w : World) (o : Obj) : Below w.heap.size w (w.alloc o) := (Below.refl _ _).alloc (Nat.le_refl _) o

end Go.Proofs.Ytmmjannkfmiohaa

namespace Go.Proofs.Ytmmjannkfmiohaa
open Go.RowKit Go.Maps
set_option linter.unusedVariables false

/-- An answer of a stack's function. -/
def SAns (z v : Int) (P : List Wc) (n : Nat) (w : World) (e : Ending) (w' : World) : Prop :=
  ∃ (s : Option Addr) (c : Nat) (M : List Wn), e = .returned (.agg #[.int .i64 z, .int .i64 v, .slice s n c]) ∧ M.map Wn.ct = P ∧ M.length = n ∧ Wq Wn.vals w' w.heap.size w'.heap.size s M ∧ Below w.heap.size w w'
theorem wq_none {V : Wn → List Value} {w w' : World} (k : Below w.heap.size w w') : Wq V w' w.heap.size w'.heap.size none [] := ⟨k.size, Nat.le_refl _, Cis.nil _ _ _, .inl rfl, fun g h => by cases h⟩
theorem sans_bad {z v : Int} {w w' : World} (k : Below w.heap.size w w') : SAns z v [] 0 w (.returned (.agg #[.int .i64 z, .int .i64 v, .slice none 0 0])) w' := ⟨none, 0, [], rfl, rfl, rfl, wq_none k, k⟩

/-- The first one of an id turned. -/
def modW (id : Int) (f : Wc → Wc) : List Wc → List Wc
  | [] => []
  | c :: C => if c.i = id then f c :: C else c :: modW id f C
theorem modW_len (id : Int) (f : Wc → Wc) (C : List Wc) : (modW id f C).length = C.length := by
  induction C with
  | nil => rfl
  | cons c C ih => unfold modW; split <;> simp [ih]
theorem modW_at {id : Int} {f : Wc → Wc} {L X Y : List Wn} {r : Wn} (h : Fst id L X r Y) : modW id f (L.map Wn.ct) = X.map Wn.ct ++ f r.ct :: Y.map Wn.ct := by
  rw [h.eq]
  have hno := h.no
  have hat := h.at'
  clear h
  induction X with
  | nil => simp only [List.nil_append, List.map_cons, List.map_nil, modW]; rw [if_pos (by exact hat)]
  | cons v X ih =>
    simp only [List.cons_append, List.map_cons, modW]
    rw [if_neg (by exact hno v (by simp)), ih fun u hu => hno u (by simp [hu])]
def mapC (on : Bool) (c : Wc) : Wc := ⟨c.i, c.x, c.y, c.w, c.h, on, c.L⟩
def mapP (C : List Wc) (id : Int) (on : Bool) : List Wc := if askW C id = 0 then modW id (mapC on) C else []
theorem mapP_yes {L X Y : List Wn} {r : Wn} {id : Int} {on : Bool} (h : stF (L.map Wn.ct) = 0) (hf : Fst id L X r Y) : mapP (L.map Wn.ct) id on = X.map Wn.ct ++ mapC on r.ct :: Y.map Wn.ct := by
  unfold mapP; rw [if_pos (askW_yes h hf), modW_at hf]
theorem mapP_no {C : List Wc} {id : Int} {on : Bool} (h : askW C id ≠ 0) : mapP C id on = [] := by unfold mapP; rw [if_neg h]
theorem askW_ne {L : List Wn} {id : Int} (h : ¬ stF (L.map Wn.ct) = 0 ∨ ∀ v ∈ L, v.i ≠ id) : askW (L.map Wn.ct) id ≠ 0 := by
  by_cases h0 : stF (L.map Wn.ct) = 0
  · rcases h with h | h
    · exact absurd h0 h
    · rw [askW_none h0 h]; decide
  · rw [askW_bad h0]; exact h0
/-- How many cells a content has. -/
def cz : List Wc → Nat
  | [] => 0
  | c :: C => c.L.length + cz C
theorem cz_wzs (L : List Wn) : cz (L.map Wn.ct) = wzs L := by
  induction L with
  | nil => rfl
  | cons v L ih => simp only [List.map_cons, cz, wzs, ih]; rfl
theorem cz_mod {id : Int} {f : Wc → Wc} (hf : ∀ c, (f c).L = c.L) (C : List Wc) : cz (modW id f C) = cz C := by
  induction C with
  | nil => rfl
  | cons c C ih =>
    unfold modW
    split
    · simp only [cz, hf]
    · simp only [cz, ih]
theorem small_of {L : List Wn} {P : List Wc} (h : P.length + cz P ≤ 1048576) : ∀ N : List Wn, N.map Wn.ct = P → N.length + wzs N ≤ 1048576 := fun N e => by
  rw [← cz_wzs, e, ← List.length_map (f := Wn.ct), e]; exact h
theorem small_map {L : List Wn} (id : Int) (on : Bool) (h : L.length + wzs L ≤ 1048576) : ∀ N : List Wn, N.map Wn.ct = mapP (L.map Wn.ct) id on → N.length + wzs N ≤ 1048576 :=
  small_of (L := L) (by
    unfold mapP
    split
    · rw [modW_len, cz_mod (f := mapC on) (fun c => rfl), cz_wzs, List.length_map]; exact h
    · simp [cz])

set_option maxHeartbeats 400000 in
theorem l7Bad_any (z : Int) (w : World) : Calls Try.prog 77 #[.int .i64 z] w fun e w' => e = .returned (.agg #[.int .i64 z, .int .i64 0, .slice none 0 0]) ∧ Below w.heap.size w w' := by
  go_enter Try.func77, Try.ntmps77
  go_wp2
  refine bodyPost_ret (v := .agg #[.int .i64 z, .int .i64 0, .slice none 0 0]) (by simp [results, Try.results77, go_sem, *]) rfl ⟨rfl, ?_⟩
  repeat' (first | (with_reducible exact Below.refl _ _) | (with_reducible refine Below.setCell ?_ ?_ _) | (with_reducible refine Below.alloc ?_ ?_ _) | go_size)

end Go.Proofs.Ytmmjannkfmiohaa
