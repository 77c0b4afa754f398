/- Windows in memory: the cells of each, lists of them, read and owned; what they say. -/
import Derived.Test.YtmmjannkfmiohaaTs4
import Derived.Test.YtmmjannkfmiohaaTs5
namespace Go.Proofs.Ytmmjannkfmiohaa
open Go.RowKit
set_option linter.unusedVariables false

theorem Try.infoWn : (Try.prog.info? 47).map (fun i => (i.zero, i.size, i.bytes)) = some (some (.agg #[.int .i64 0, .int .i64 0, .int .i64 0, .int .i64 0, .int .i64 0, .bool false, .slice none 0 0]), 7, 72) := by kernel_rfl

theorem midW {α : Type} {X Y L : List α} {r : α} (h : X ++ r :: Y = L) : (X ++ [r]) ++ Y = L := by rw [← h]; simp

/-- Numbers in a block of their own: where they lie, their room, their block, what they are. -/
structure Ci where
  ao : Option Addr
  cap : Nat
  g : Nat
  L : List Int
def Ci.on (w : World) (b : Ci) : Prop := Wrt .i64 w b.g (b.g + 1) b.ao b.L ∧ (b.L ≠ [] → b.ao = some ⟨b.g, 0, none⟩)
theorem Ci.on_nil (w : World) (b : Ci) (h : b.L = []) : b.on w := ⟨.inl h, fun h' => absurd h h'⟩
theorem Ci.on_keep {w w' : World} {b : Ci} {B : Nat} (h : b.on w) (k : Below B w w') (hb : b.L ≠ [] → b.g < B) : b.on w' := by
  by_cases e : b.L = []
  · exact Ci.on_nil _ _ e
  · exact ⟨h.1.keep k (by have := hb e; omega), h.2⟩
theorem Ci.on_far {w w' : World} {b : Ci} {lo hi : Nat} (h : b.on w) (f : Far lo hi w w') (hb : b.L ≠ [] → (b.g < lo ∨ hi ≤ b.g) ∧ b.g < w.heap.size) : b.on w' := by
  by_cases e : b.L = []
  · exact Ci.on_nil _ _ e
  · have := hb e
    exact ⟨h.1.far f (by omega) (by omega), h.2⟩
theorem Ci.lt {w : World} {b : Ci} (h : b.on w) (hn : b.L ≠ []) : b.g < w.heap.size := by
  rcases h.1 with e | ⟨g, o, ha, h1, h2, hc, _⟩
  · exact absurd e hn
  · have h0 := hc 0 (List.length_pos_iff.2 hn)
    have := World.block_lt_of_cell? w _ h0
    have e : g = b.g := by omega
    rw [← e]; exact this
theorem Ci.row {w : World} {b : Ci} (h : b.on w) : ∃ lo hi, Row .i64 w lo hi b.ao b.L ∧ hi ≤ w.heap.size := by
  by_cases e : b.L = []
  · exact ⟨0, 0, .inl e, Nat.zero_le _⟩
  · exact ⟨_, _, h.1.row, Ci.lt h e⟩
theorem Ci.on_set {w : World} {b : Ci} (h : b.on w) (p : Addr) (v : Value) (hp : b.L ≠ [] → p.block ≠ b.g) : b.on (w.setCell p v) :=
  Ci.on_far h ((Far.refl p.block (p.block + 1) w).setCell (p := p) (Nat.le_refl _) (Nat.lt_succ_self _) v) fun e => by have := hp e; have := Ci.lt h e; omega

/-- What a block's cells are of. -/
def Ty (w : World) (g : Nat) (T : TypeId) : Prop := ∃ cs fr, w.heap[g]? = some (.cells cs T fr)
theorem Ty.keep {w w' : World} {g B : Nat} {T : TypeId} (h : Ty w g T) (k : Below B w w') (hb : g < B) : Ty w' g T := by
  obtain ⟨cs, fr, h⟩ := h
  exact ⟨cs, fr, (k.block g hb).trans h⟩
theorem Ty.lt {w : World} {g : Nat} {T : TypeId} (h : Ty w g T) : g < w.heap.size := by
  obtain ⟨cs, fr, h⟩ := h
  exact (Array.getElem?_eq_some_iff.1 h).1
theorem Ty.ne {w : World} {g g' : Nat} {T T' : TypeId} (h : Ty w g T) (h' : Ty w g' T') (hT : T ≠ T') : g ≠ g' := by
  rintro rfl
  obtain ⟨cs, fr, h⟩ := h
  obtain ⟨cs', fr', h'⟩ := h'
  rw [h] at h'
  simp only [Option.some.injEq, Obj.cells.injEq] at h'
  exact hT h'.2.1
def Ci.ty (w : World) (b : Ci) : Prop := b.L ≠ [] → Ty w b.g 2
theorem Ci.of_own {w : World} {base : Nat} {ao : Option Addr} {cap : Nat} {L : List Int} (h : OwnR .i64 2 w base ao cap L) : ∃ g, Ci.on w ⟨ao, cap, g, L⟩ ∧ Ci.ty w ⟨ao, cap, g, L⟩ ∧ (L ≠ [] → base ≤ g ∧ g < w.heap.size) := by
  by_cases hn : L = []
  · exact ⟨0, Ci.on_nil _ _ hn, fun e => absurd hn e, fun e => absurd hn e⟩
  · have hpos : 0 < L.length := List.length_pos_iff.2 hn
    rcases h.2 with ⟨_, h0⟩ | ⟨g, cap', cur, hv, hb, hc, _⟩
    · omega
    cases hv
    have hlt := (Array.getElem?_eq_some_iff.1 hc).1
    refine ⟨g, ⟨.inr ⟨g, 0, rfl, Nat.le_refl _, Nat.lt_succ_self _, fun i hi => ?_, fun c => World.ownsRow.frozenAt h c⟩, fun _ => rfl⟩, fun _ => ⟨_, _, hc⟩, fun _ => ⟨hb, hlt⟩⟩
    simp only at hi ⊢
    rw [Nat.zero_add, World.ownsRow.cellAt h i (by omega)]
    simp [hi]

/-- Lists of numbers, each in a block of its own. -/
structure Cis (w : World) (lo hi : Nat) (bs : List Ci) : Prop where
  each : ∀ b ∈ bs, b.on w
  inn : ∀ b ∈ bs, b.L ≠ [] → lo ≤ b.g ∧ b.g < hi
  apart : bs.Pairwise (fun a b => a.L ≠ [] → b.L ≠ [] → a.g ≠ b.g)
theorem Cis.nil (w : World) (lo hi : Nat) : Cis w lo hi [] := ⟨fun b h => by simp at h, fun b h => by simp at h, List.Pairwise.nil⟩
theorem Cis.keep {w w' : World} {lo hi B : Nat} {bs : List Ci} (h : Cis w lo hi bs) (k : Below B w w') (hb : hi ≤ B) : Cis w' lo hi bs :=
  ⟨fun b m => Ci.on_keep (h.each b m) k (fun e => by have := (h.inn b m e).2; omega), h.inn, h.apart⟩
theorem Cis.far {w w' : World} {lo hi lo' hi' : Nat} {bs : List Ci} (h : Cis w lo hi bs) (f : Far lo' hi' w w') (hd : hi ≤ lo' ∨ hi' ≤ lo) : Cis w' lo hi bs :=
  ⟨fun b m => Ci.on_far (h.each b m) f (fun e => by have := h.inn b m e; have := Ci.lt (h.each b m) e; omega), h.inn, h.apart⟩
theorem Cis.wide {w : World} {lo hi lo' hi' : Nat} {bs : List Ci} (h : Cis w lo hi bs) (h1 : lo' ≤ lo) (h2 : hi ≤ hi') : Cis w lo' hi' bs :=
  ⟨h.each, fun b m e => by have := h.inn b m e; omega, h.apart⟩
theorem Cis.snoc {w : World} {lo hi hi' : Nat} {bs : List Ci} {b : Ci} (h : Cis w lo hi bs) (hb : b.on w) (hi1 : b.L ≠ [] → hi ≤ b.g ∧ lo ≤ b.g ∧ b.g < hi') (hh : hi ≤ hi') : Cis w lo hi' (bs ++ [b]) := by
  refine ⟨fun c m => ?_, fun c m e => ?_, ?_⟩
  · rcases List.mem_append.1 m with m | m
    · exact h.each c m
    · obtain rfl : c = b := by simpa using m
      exact hb
  · rcases List.mem_append.1 m with m | m
    · have := h.inn c m e; omega
    · obtain rfl : c = b := by simpa using m
      have := hi1 e; omega
  · rw [List.pairwise_append]
    refine ⟨h.apart, List.pairwise_singleton _ _, fun c m d m' e1 e2 => ?_⟩
    obtain rfl : d = b := by simpa using m'
    have := h.inn c m e1
    have := hi1 e2
    omega
theorem Cis.sub {w : World} {lo hi : Nat} {bs cs : List Ci} (h : Cis w lo hi bs) (hs : cs.Sublist bs) : Cis w lo hi cs :=
  ⟨fun b m => h.each b (hs.subset m), fun b m => h.inn b (hs.subset m), h.apart.sublist hs⟩
theorem Cis.perm {w : World} {lo hi : Nat} {bs cs : List Ci} (h : Cis w lo hi bs) (hs : bs.Perm cs) : Cis w lo hi cs :=
  ⟨fun b m => h.each b (hs.symm.subset m), fun b m => h.inn b (hs.symm.subset m), h.apart.perm hs (fun {a b} hab e1 e2 => (hab e2 e1).symm)⟩
theorem Cis.row {w : World} {lo hi : Nat} {bs : List Ci} (h : Cis w lo hi bs) {b : Ci} (hb : b ∈ bs) : Row .i64 w lo hi b.ao b.L := by
  by_cases e : b.L = []
  · exact .inl e
  · have := h.inn b hb e
    exact (h.each b hb).1.row.wide (by omega) (by omega)
theorem Cis.mark {w w' : World} {lo hi : Nat} {X Y : List Ci} {b : Ci} {L' : List Int} (h : Cis w lo hi (X ++ b :: Y)) (hn : b.L ≠ []) (f : Far b.g (b.g + 1) w w') (hw : Wrt .i64 w' b.g (b.g + 1) b.ao L') : Cis w' lo hi (X ++ ⟨b.ao, b.cap, b.g, L'⟩ :: Y) := by
  have hb := h.each b (by simp)
  have hap := h.apart
  rw [List.pairwise_append, List.pairwise_cons] at hap
  obtain ⟨a1, ⟨a2, a3⟩, a4⟩ := hap
  have other : ∀ c, c ∈ X ++ b :: Y → (c.L ≠ [] → c.g ≠ b.g) → c.on w' := fun c m hc =>
    Ci.on_far (h.each c m) f (fun e => by have := hc e; have := Ci.lt (h.each c m) e; omega)
  have hX : ∀ c ∈ X, c.L ≠ [] → c.g ≠ b.g := fun c m e => a4 c m b (by simp) e hn
  have hY : ∀ c ∈ Y, c.L ≠ [] → c.g ≠ b.g := fun c m e => (a2 c m hn e).symm
  refine ⟨fun c m => ?_, fun c m e => ?_, ?_⟩
  · rcases List.mem_append.1 m with m | m
    · exact other c (by simp [m]) (hX c m)
    · rcases List.mem_cons.1 m with rfl | m
      · exact ⟨hw, fun _ => hb.2 hn⟩
      · exact other c (by simp [m]) (hY c m)
  · rcases List.mem_append.1 m with m | m
    · exact h.inn c (by simp [m]) e
    · rcases List.mem_cons.1 m with rfl | m
      · exact h.inn b (by simp) hn
      · exact h.inn c (by simp [m]) e
  · rw [List.pairwise_append, List.pairwise_cons]
    refine ⟨a1, ⟨fun c m _ e => a2 c m hn e, a3⟩, fun c m d m' e1 e2 => ?_⟩
    rcases List.mem_cons.1 m' with rfl | m'
    · exact hX c m e1
    · exact a4 c m d (by simp [m']) e1 e2

/-- What a window says. -/
structure Wc where
  i : Int
  x : Int
  y : Int
  w : Int
  h : Int
  m : Bool
  L : List Int
/-- A window in memory. -/
structure Wn where
  i : Int
  x : Int
  y : Int
  w : Int
  h : Int
  m : Bool
  b : Ci
def Wn.ct (v : Wn) : Wc := ⟨v.i, v.x, v.y, v.w, v.h, v.m, v.b.L⟩
/-- Its cells as a window, and as the program works on it. -/
def Wn.vals (v : Wn) : List Value := [.int .i64 v.i, .int .i64 v.x, .int .i64 v.y, .int .i64 v.w, .int .i64 v.h, .bool v.m, .slice v.b.ao v.b.L.length v.b.cap]
def Wn.pals (v : Wn) : List Value := [.int .i64 v.x, .int .i64 v.y, .int .i64 v.w, .int .i64 v.h, .int .i64 v.i, .bool v.m, .slice v.b.ao v.b.L.length v.b.cap]
theorem vals7 (v : Wn) : (Wn.vals v).length = 7 := rfl
theorem pals7 (v : Wn) : (Wn.pals v).length = 7 := rfl

/-- How many cells all windows have. -/
def wzs : List Wn → Nat
  | [] => 0
  | v :: L => v.b.L.length + wzs L
theorem wzs_nil : wzs [] = 0 := rfl
theorem wzs_cons (v : Wn) (L : List Wn) : wzs (v :: L) = v.b.L.length + wzs L := rfl
theorem wzs_app (A B : List Wn) : wzs (A ++ B) = wzs A + wzs B := by
  induction A with
  | nil => simp [wzs]
  | cons v A ih => simp only [List.cons_append, wzs, ih]; omega
theorem wzs_one (v : Wn) : wzs [v] = v.b.L.length := by simp [wzs]
theorem wzs_mem {v : Wn} {L : List Wn} (h : v ∈ L) : v.b.L.length ≤ wzs L := by
  induction L with
  | nil => simp at h
  | cons u L ih =>
    rcases List.mem_cons.1 h with rfl | h
    · simp [wzs]
    · have := ih h; simp [wzs]; omega
theorem wzs_ct {L M : List Wn} (h : L.map Wn.ct = M.map Wn.ct) : wzs L = wzs M := by
  induction L generalizing M with
  | nil => cases M with
    | nil => rfl
    | cons r M => simp at h
  | cons r L ih => cases M with
    | nil => simp at h
    | cons s M =>
      simp only [List.map_cons, List.cons.injEq] at h
      obtain ⟨e, h⟩ := h
      simp only [Wn.ct, Wc.mk.injEq] at e
      rw [wzs_cons, wzs_cons, ih h, e.2.2.2.2.2.2]
theorem lenW {L M : List Wn} (h : L.map Wn.ct = M.map Wn.ct) : L.length = M.length := by have := congrArg List.length h; simpa using this

/-- Seven cells that hold a window, laid as V says. -/
def Cl (V : Wn → List Value) (w : World) (g o : Nat) (v : Wn) : Prop := ∀ j, j < 7 → w.cell? ⟨g, o + j, none⟩ = (V v)[j]?
section
variable {V : Wn → List Value} {w w' : World} {g o lo hi lo' hi' B : Nat} {v : Wn} {so : Option Addr} {L : List Wn}
theorem Cl.keep (h : Cl V w g o v) (k : Below B w w') (hb : g < B) : Cl V w' g o v := fun j hj => (k.cell (p := ⟨g, o + j, none⟩) hb).trans (h j hj)
theorem Cl.far (h : Cl V w g o v) (f : Far lo hi w w') (hb : g < w.heap.size) (hd : g < lo ∨ hi ≤ g) : Cl V w' g o v := fun j hj => (f.cell g (o + j) hb hd).trans (h j hj)
theorem Cl.seven (h : Cl Wn.vals w g o v) : w.cell? ⟨g, o, none⟩ = some (.int .i64 v.i) ∧ w.cell? ⟨g, o + 1, none⟩ = some (.int .i64 v.x) ∧ w.cell? ⟨g, o + 2, none⟩ = some (.int .i64 v.y) ∧ w.cell? ⟨g, o + 3, none⟩ = some (.int .i64 v.w) ∧ w.cell? ⟨g, o + 4, none⟩ = some (.int .i64 v.h) ∧ w.cell? ⟨g, o + 5, none⟩ = some (.bool v.m) ∧ w.cell? ⟨g, o + 6, none⟩ = some (.slice v.b.ao v.b.L.length v.b.cap) :=
  ⟨h 0 (by omega), h 1 (by omega), h 2 (by omega), h 3 (by omega), h 4 (by omega), h 5 (by omega), h 6 (by omega)⟩
theorem Cl.pane (h : Cl Wn.pals w g o v) : w.cell? ⟨g, o, none⟩ = some (.int .i64 v.x) ∧ w.cell? ⟨g, o + 1, none⟩ = some (.int .i64 v.y) ∧ w.cell? ⟨g, o + 2, none⟩ = some (.int .i64 v.w) ∧ w.cell? ⟨g, o + 3, none⟩ = some (.int .i64 v.h) ∧ w.cell? ⟨g, o + 4, none⟩ = some (.int .i64 v.i) ∧ w.cell? ⟨g, o + 5, none⟩ = some (.bool v.m) ∧ w.cell? ⟨g, o + 6, none⟩ = some (.slice v.b.ao v.b.L.length v.b.cap) :=
  ⟨h 0 (by omega), h 1 (by omega), h 2 (by omega), h 3 (by omega), h 4 (by omega), h 5 (by omega), h 6 (by omega)⟩
theorem Cl.mkW (c : w.cell? ⟨g, o, none⟩ = some (.int .i64 v.i) ∧ w.cell? ⟨g, o + 1, none⟩ = some (.int .i64 v.x) ∧ w.cell? ⟨g, o + 2, none⟩ = some (.int .i64 v.y) ∧ w.cell? ⟨g, o + 3, none⟩ = some (.int .i64 v.w) ∧ w.cell? ⟨g, o + 4, none⟩ = some (.int .i64 v.h) ∧ w.cell? ⟨g, o + 5, none⟩ = some (.bool v.m) ∧ w.cell? ⟨g, o + 6, none⟩ = some (.slice v.b.ao v.b.L.length v.b.cap)) : Cl Wn.vals w g o v := by
  obtain ⟨c0, c1, c2, c3, c4, c5, c6⟩ := c
  intro j hj
  match j, hj with
  | 0, _ => exact c0
  | 1, _ => exact c1
  | 2, _ => exact c2
  | 3, _ => exact c3
  | 4, _ => exact c4
  | 5, _ => exact c5
  | 6, _ => exact c6
theorem Cl.mkP (c : w.cell? ⟨g, o, none⟩ = some (.int .i64 v.x) ∧ w.cell? ⟨g, o + 1, none⟩ = some (.int .i64 v.y) ∧ w.cell? ⟨g, o + 2, none⟩ = some (.int .i64 v.w) ∧ w.cell? ⟨g, o + 3, none⟩ = some (.int .i64 v.h) ∧ w.cell? ⟨g, o + 4, none⟩ = some (.int .i64 v.i) ∧ w.cell? ⟨g, o + 5, none⟩ = some (.bool v.m) ∧ w.cell? ⟨g, o + 6, none⟩ = some (.slice v.b.ao v.b.L.length v.b.cap)) : Cl Wn.pals w g o v := by
  obtain ⟨c0, c1, c2, c3, c4, c5, c6⟩ := c
  intro j hj
  match j, hj with
  | 0, _ => exact c0
  | 1, _ => exact c1
  | 2, _ => exact c2
  | 3, _ => exact c3
  | 4, _ => exact c4
  | 5, _ => exact c5
  | 6, _ => exact c6

/-- A slice of windows, read. -/
def Ws (w : World) (lo hi : Nat) (so : Option Addr) (L : List Wn) : Prop :=
  L = [] ∨ ∃ g o, so = some ⟨g, o, none⟩ ∧ lo ≤ g ∧ g < hi ∧ ∀ i (h : i < L.length), Cl Wn.vals w g (o + i * 7) L[i] ∧ Row .i64 w lo hi L[i].b.ao L[i].b.L
theorem Ws.nil (w : World) (lo hi : Nat) (so : Option Addr) : Ws w lo hi so [] := .inl rfl
theorem Ws.keep (h : Ws w lo hi so L) (k : Below B w w') (hb : hi ≤ B) : Ws w' lo hi so L := by
  rcases h with h | ⟨g, o, ha, g1, g2, hc⟩
  · exact .inl h
  · exact .inr ⟨g, o, ha, g1, g2, fun i hi => ⟨(hc i hi).1.keep k (by omega), Row.keep (hc i hi).2 k hb⟩⟩
theorem Ws.wide (h : Ws w lo hi so L) (h1 : lo' ≤ lo) (h2 : hi ≤ hi') : Ws w lo' hi' so L := by
  rcases h with h | ⟨g, o, ha, g1, g2, hc⟩
  · exact .inl h
  · exact .inr ⟨g, o, ha, by omega, by omega, fun i hi => ⟨(hc i hi).1, Row.wide (hc i hi).2 h1 h2⟩⟩
theorem Ws.far (h : Ws w lo hi so L) (f : Far lo' hi' w w') (hd : hi ≤ lo' ∨ hi' ≤ lo) (hs : hi ≤ w.heap.size) : Ws w' lo hi so L := by
  rcases h with h | ⟨g, o, ha, g1, g2, hc⟩
  · exact .inl h
  · exact .inr ⟨g, o, ha, g1, g2, fun i hi => ⟨(hc i hi).1.far f (by omega) (by omega), Row.far (hc i hi).2 f hd hs⟩⟩
theorem Ws.at {X Y : List Wn} {r : Wn} (h : Ws w lo hi so (X ++ r :: Y)) : ∃ g o, so = some ⟨g, o, none⟩ ∧ g < hi ∧ Cl Wn.vals w g (o + X.length * 7) r ∧ Row .i64 w lo hi r.b.ao r.b.L := by
  rcases h with h | ⟨g, o, ha, g1, g2, hc⟩
  · simp at h
  · have h := hc X.length (by simp)
    simp only [List.getElem_append_right (Nat.le_refl _), Nat.sub_self, List.getElem_cons_zero] at h
    exact ⟨g, o, ha, g2, h.1, h.2⟩

/-- A slice of windows whose cells may be written. -/
def SpV (V : Wn → List Value) (w : World) (lo hi : Nat) (so : Option Addr) (L : List Wn) : Prop :=
  L = [] ∨ ∃ g, so = some ⟨g, 0, none⟩ ∧ lo ≤ g ∧ g < hi ∧ (∀ i (h : i < L.length), Cl V w g (i * 7) L[i]) ∧ ∀ c, w.frozen? ⟨g, c, none⟩ = false
theorem SpV.keep (h : SpV V w lo hi so L) (k : Below B w w') (hb : hi ≤ B) : SpV V w' lo hi so L := by
  rcases h with h | ⟨g, ha, g1, g2, hc, hf⟩
  · exact .inl h
  · exact .inr ⟨g, ha, g1, g2, fun i hi => (hc i hi).keep k (by omega), fun c => (k.frozen (p := ⟨g, c, none⟩) (by show g < B; omega)).trans (hf c)⟩
theorem SpV.far (h : SpV V w lo hi so L) (f : Far lo' hi' w w') (hd : hi ≤ lo' ∨ hi' ≤ lo) (hs : hi ≤ w.heap.size) : SpV V w' lo hi so L := by
  rcases h with h | ⟨g, ha, g1, g2, hc, hf⟩
  · exact .inl h
  · exact .inr ⟨g, ha, g1, g2, fun i hi => (hc i hi).far f (by omega) (by omega), fun c => (f.frozen g c (by omega) (by omega)).trans (hf c)⟩
theorem SpV.wide (h : SpV V w lo hi so L) (h1 : lo' ≤ lo) (h2 : hi ≤ hi') : SpV V w lo' hi' so L := by
  rcases h with h | ⟨g, ha, g1, g2, hc, hf⟩
  · exact .inl h
  · exact .inr ⟨g, ha, by omega, by omega, hc, hf⟩
theorem SpV.at {X Y : List Wn} {r : Wn} (h : SpV V w lo hi so (X ++ r :: Y)) : ∃ g, so = some ⟨g, 0, none⟩ ∧ lo ≤ g ∧ g < hi ∧ Cl V w g (X.length * 7) r ∧ ∀ c, w.frozen? ⟨g, c, none⟩ = false := by
  rcases h with h | ⟨g, ha, g1, g2, hc, hf⟩
  · simp at h
  · have := hc X.length (by simp)
    simp only [List.getElem_append_right (Nat.le_refl _), Nat.sub_self, List.getElem_cons_zero] at this
    exact ⟨g, ha, g1, g2, this, hf⟩
theorem SpV.vals {L' : List Wn} (h : SpV V w lo hi so L) (e : L.map V = L'.map V) : SpV V w lo hi so L' := by
  have hl : L.length = L'.length := by simpa using congrArg List.length e
  rcases h with rfl | ⟨g, ha, g1, g2, hc, hf⟩
  · exact .inl (List.length_eq_zero_iff.1 hl.symm)
  · refine .inr ⟨g, ha, g1, g2, fun i hi => ?_, hf⟩
    have h1 : i < L.length := by omega
    have h2 : (L.map V)[i]? = (L'.map V)[i]? := by rw [e]
    simp only [List.getElem?_map, List.getElem?_eq_getElem h1, List.getElem?_eq_getElem hi, Option.map_some, Option.some.injEq] at h2
    intro j hj
    rw [← h2]
    exact hc i h1 j hj
/-- One element written anew: of its seven cells one. -/
theorem SpV.put {X Y : List Wn} {r s : Wn} {q : Nat} {u z : Value} (h : SpV V w lo hi (some ⟨g, 0, none⟩) (X ++ r :: Y)) (hq : q < 7) (hz : (V r)[q]? = some z) (hu : (V s)[q]? = some u) (ho : ∀ j, j < 7 → j ≠ q → (V s)[j]? = (V r)[j]?) : SpV V (w.setCell ⟨g, X.length * 7 + q, none⟩ u) lo hi (some ⟨g, 0, none⟩) (X ++ s :: Y) := by
  rcases h with h | ⟨g', ha, g1, g2, hc, hf⟩
  · simp at h
  · cases ha
    refine .inr ⟨g, rfl, g1, g2, fun i hi => ?_, fun c => by simpa using hf c⟩
    have hi' : i < (X ++ r :: Y).length := by simpa using hi
    have h0 := hc i hi'
    by_cases e : i = X.length
    · subst e
      simp only [List.getElem_append_right (Nat.le_refl _), Nat.sub_self, List.getElem_cons_zero] at h0 ⊢
      intro j hj
      by_cases ej : j = q
      · subst ej
        rw [hu]
        have h00 := h0 j hj
        rw [hz] at h00
        exact cell_set_same h00
      · rw [cell_set_other (by omega), h0 j hj, ho j hj ej]
    · have e2 : (X ++ s :: Y)[i] = (X ++ r :: Y)[i] := by
        by_cases hx : i < X.length
        · rw [List.getElem_append_left hx, List.getElem_append_left hx]
        · obtain ⟨j, rfl⟩ : ∃ j, i = X.length + (j + 1) := ⟨i - X.length - 1, by omega⟩
          simp
      rw [e2]
      intro j hj
      rw [cell_set_other (by omega)]
      exact h0 j hj
end

/-- A list of windows, all in memory of its own. -/
structure Wq (V : Wn → List Value) (w : World) (lo hi : Nat) (so : Option Addr) (L : List Wn) : Prop where
  le : lo ≤ hi
  hs : hi ≤ w.heap.size
  cis : Cis w lo hi (L.map Wn.b)
  sp : SpV V w lo hi so L
  ne : ∀ g, so = some ⟨g, 0, none⟩ → ∀ b ∈ L.map Wn.b, b.L ≠ [] → b.g ≠ g
section
variable {V : Wn → List Value} {w w' : World} {lo hi lo' hi' B base : Nat} {so : Option Addr} {L : List Wn}
theorem Wq.keep (h : Wq V w lo hi so L) (k : Below B w w') (hb : hi ≤ B) : Wq V w' lo hi so L := ⟨h.le, Nat.le_trans h.hs k.size, h.cis.keep k hb, h.sp.keep k hb, h.ne⟩
theorem Wq.far (h : Wq V w lo hi so L) (f : Far lo' hi' w w') (hd : hi ≤ lo' ∨ hi' ≤ lo) : Wq V w' lo hi so L := ⟨h.le, Nat.le_trans h.hs f.size, h.cis.far f hd, h.sp.far f hd h.hs, h.ne⟩
theorem Wq.wide (h : Wq V w lo hi so L) (h1 : lo' ≤ lo) (h2 : hi ≤ hi') (h3 : hi' ≤ w.heap.size) : Wq V w lo' hi' so L := ⟨by have := h.le; omega, h3, h.cis.wide h1 h2, h.sp.wide h1 h2, h.ne⟩
theorem Wq.nil (w : World) (so : Option Addr) : Wq V w w.heap.size w.heap.size so [] := ⟨Nat.le_refl _, Nat.le_refl _, Cis.nil _ _ _, .inl rfl, fun g _ b hb => by simp at hb⟩
theorem Wq.set (h : Wq V w lo hi so L) (p : Addr) (v : Value) (hp : p.block < lo) : Wq V (w.setCell p v) lo hi so L :=
  h.far ((Far.refl p.block (p.block + 1) w).setCell (p := p) (Nat.le_refl _) (Nat.lt_succ_self _) v) (.inr hp)
theorem Wq.ws (h : Wq Wn.vals w lo hi so L) : Ws w lo hi so L := by
  rcases h.sp with e | ⟨g, ha, g1, g2, hc, hf⟩
  · exact .inl e
  · exact .inr ⟨g, 0, ha, g1, g2, fun i hi => ⟨by rw [Nat.zero_add]; exact hc i hi, h.cis.row (List.mem_map_of_mem (List.getElem_mem _))⟩⟩

/-- What all cells of a row hold. -/
def vcs (V : Wn → List Value) (L : List Wn) : List Value := L.flatMap V
theorem vcs_app (L M : List Wn) : vcs V (L ++ M) = vcs V L ++ vcs V M := by simp [vcs]
theorem vcs_len (hV : ∀ v, (V v).length = 7) (L : List Wn) : (vcs V L).length = L.length * 7 := by
  induction L with
  | nil => rfl
  | cons m L ih => simp only [vcs, List.flatMap_cons, List.length_append, List.length_cons, hV] at ih ⊢; omega
theorem vcs_at (hV : ∀ v, (V v).length = 7) (L : List Wn) (i : Nat) (hi : i < L.length) (j : Nat) (hj : j < 7) : (vcs V L)[i * 7 + j]? = (V L[i])[j]? := by
  have e : L = L.take i ++ L[i] :: L.drop (i + 1) := by simp
  have h : vcs V L = vcs V (L.take i) ++ (V L[i] ++ vcs V (L.drop (i + 1))) := by
    have h1 : vcs V L = vcs V (L.take i ++ L[i] :: L.drop (i + 1)) := by rw [← e]
    rw [h1, vcs_app]; rfl
  rw [h, List.getElem?_append_right (by rw [vcs_len hV]; simp; omega), vcs_len hV, List.length_take, Nat.min_eq_left (by omega), Nat.add_sub_cancel_left, List.getElem?_append_left (by rw [hV]; omega)]

/-- The slice owns its row. -/
def OwnV (V : Wn → List Value) (T : TypeId) (w : World) (base : Nat) (so : Option Addr) (sc : Nat) (L : List Wn) : Prop := w.ownsRow base T 7 (.slice so L.length sc) L.length (vcs V L)
theorem OwnV.nil (T : TypeId) (w : World) (base : Nat) : OwnV V T w base none 0 [] := World.ownsRow_nil w base _ 7
theorem OwnV.lit (T : TypeId) (w : World) (base : Nat) (hb : base ≤ w.heap.size) : OwnV V T (w.alloc (.cells #[] T)) base (some ⟨w.heap.size, 0, none⟩) 0 [] :=
  ⟨rfl, .inr ⟨w.heap.size, 0, #[], rfl, hb, heap_alloc_new w _, Nat.le_refl _, Nat.zero_le _, rfl, rfl⟩⟩
variable {T : TypeId} {sc : Nat}
theorem OwnV.alloc (h : OwnV V T w base so sc L) (o : Obj) : OwnV V T (w.alloc o) base so sc L := World.ownsRow.alloc h o
theorem OwnV.le {base' : Nat} (h : OwnV V T w base so sc L) (hb : base' ≤ base) : OwnV V T w base' so sc L := Joins.ownsRow_le h hb
theorem OwnV.keep (h : OwnV V T w base so sc L) (kk : Below w.heap.size w w') : OwnV V T w' base so sc L :=
  World.ownsRow.kept h (row := none) ⟨kk.os, kk.tape, kk.output, kk.size, fun b hb _ => kk.block b hb⟩ (by cases hv : Value.ownBlock (.slice so L.length sc) <;> simp)
theorem OwnV.set (h : OwnV V T w base so sc L) (p : Addr) (v : Value) (hp : p.block < base) : OwnV V T (w.setCell p v) base so sc L := by
  have hg : w.grownBy (w.setCell p v) (some p.block) := ⟨rfl, rfl, rfl, by simp, fun b _ hb => Below.heap_setCell w p v b (fun e => hb (by rw [e]))⟩
  refine World.ownsRow.kept h hg ?_
  cases hv : Value.ownBlock (.slice so L.length sc) with
  | none => exact .inl rfl
  | some b =>
    refine .inr fun e => ?_
    injection e with e
    have := (World.ownsRow.lt h b hv).1
    omega
theorem OwnV.sp (hV : ∀ v, (V v).length = 7) (h : OwnV V T w base so sc L) : SpV V w base w.heap.size so L := by
  by_cases hn : L = []
  · exact .inl hn
  · have hpos : 0 < L.length := List.length_pos_iff.2 hn
    obtain ⟨g, cap', hv, hb, hlt⟩ := World.ownsRow.form h hpos
    cases hv
    refine .inr ⟨g, rfl, hb, hlt, fun i hi j hj => ?_, fun c => World.ownsRow.frozenAt h c⟩
    rw [World.ownsRow.cellAt h (i * 7 + j) (by omega), vcs_at hV L i hi j hj]
theorem OwnV.ty (h : OwnV V T w base so sc L) {g : Nat} (hg : Value.ownBlock (.slice so L.length sc) = some g) : Ty w g T := by
  rcases h.2 with ⟨hv, _⟩ | ⟨g', cap', cur, hv, _, hc, _⟩
  · rw [hv] at hg; simp [Value.ownBlock] at hg
  · rw [hv] at hg
    simp only [Value.ownBlock, Option.some.injEq] at hg
    subst hg
    exact ⟨_, _, hc⟩
/-- What a slice that grows touches is no row of numbers. -/
theorem OwnV.other (hT : T ≠ 2) (h : OwnV V T w base so sc L) {b : Ci} (hb : b.ty w) (hn : b.L ≠ []) : some b.g ≠ Value.ownBlock (.slice so L.length sc) := fun e =>
  (hb hn).ne (h.ty e.symm) (Ne.symm hT) rfl
theorem Cis.grown {cs : List Ci} (hT : T ≠ 2) (h : Cis w lo hi cs) (ht : ∀ b ∈ cs, b.ty w) (o : OwnV V T w base so sc L) (hg : w.grownBy w' (Value.ownBlock (.slice so L.length sc))) : Cis w' lo hi cs ∧ ∀ b ∈ cs, b.ty w' := by
  refine ⟨⟨fun b m => ?_, h.inn, h.apart⟩, fun b m e => ?_⟩
  · by_cases e : b.L = []
    · exact Ci.on_nil _ _ e
    · have hb := h.each b m
      have hblk := hg.block b.g (Ci.lt hb e) (o.other hT (ht b m) e)
      refine ⟨?_, hb.2⟩
      rcases hb.1 with e' | ⟨g, oo, ha, h1, h2, hc, hf⟩
      · exact .inl e'
      · have hg' : g = b.g := by omega
        rw [← hg'] at hblk
        exact .inr ⟨g, oo, ha, h1, h2, fun i hi => (World.cell?_of_block (w := w) (a := ⟨g, oo + i, none⟩) hblk).trans (hc i hi), fun c => (World.frozen?_of_block (w := w) (a := ⟨g, c, none⟩) hblk).trans (hf c)⟩
  · obtain ⟨cs, fr, hh⟩ := ht b m e
    exact ⟨cs, fr, (hg.block b.g (Ci.lt (h.each b m) e) (o.other hT (ht b m) e)).trans hh⟩

/-- A list of windows that is built: its row, and the numbers of each. -/
structure LinV (V : Wn → List Value) (T : TypeId) (w : World) (base : Nat) (so : Option Addr) (sc : Nat) (L : List Wn) : Prop where
  own : OwnV V T w base so sc L
  cis : Cis w base w.heap.size (L.map Wn.b)
  ty : ∀ b ∈ L.map Wn.b, b.ty w
theorem LinV.nil (T : TypeId) (w : World) (base : Nat) : LinV V T w base none 0 [] := ⟨OwnV.nil _ _ _, Cis.nil _ _ _, fun b hb => by simp at hb⟩
theorem LinV.lit (T : TypeId) (w : World) (base : Nat) (hb : base ≤ w.heap.size) : LinV V T (w.alloc (.cells #[] T)) base (some ⟨w.heap.size, 0, none⟩) 0 [] := ⟨OwnV.lit _ _ _ hb, Cis.nil _ _ _, fun b hb => by simp at hb⟩
theorem Ci.ty_keep {b : Ci} (h : b.ty w) (k : Below w.heap.size w w') : b.ty w' := fun e => (h e).keep k (h e).lt
theorem Ci.ty_set {b : Ci} (h : b.ty w) (p : Addr) (v : Value) (hp : b.L ≠ [] → p.block ≠ b.g) : b.ty (w.setCell p v) := fun e => by
  obtain ⟨cs, fr, hh⟩ := h e
  exact ⟨cs, fr, (Below.heap_setCell w p v b.g (fun e2 => hp e e2.symm)).trans hh⟩
theorem LinV.keep (h : LinV V T w base so sc L) (k : Below w.heap.size w w') : LinV V T w' base so sc L :=
  ⟨h.own.keep k, (h.cis.keep k (Nat.le_refl _)).wide (Nat.le_refl _) k.size, fun b m => Ci.ty_keep (h.ty b m) k⟩
theorem LinV.set (h : LinV V T w base so sc L) (p : Addr) (v : Value) (hp : p.block < base) : LinV V T (w.setCell p v) base so sc L :=
  ⟨h.own.set p v hp, by
    have := h.cis.far ((Far.refl p.block (p.block + 1) w).setCell (p := p) (Nat.le_refl _) (Nat.lt_succ_self _) v) (.inr hp)
    simpa using this, fun b m => Ci.ty_set (h.ty b m) p v fun e => by have := h.cis.inn b m e; omega⟩
theorem LinV.wq (hV : ∀ v, (V v).length = 7) (hT : T ≠ 2) (h : LinV V T w base so sc L) (hb : base ≤ w.heap.size) : Wq V w base w.heap.size so L :=
  ⟨hb, Nat.le_refl _, h.cis, h.own.sp hV, fun g hg b m e => fun e2 => h.own.other hT (h.ty b m) e (by rw [e2, hg]; rfl)⟩
/-- New numbers. -/
structure NewC (w w' : World) (D : List Int) (b : Ci) : Prop where
  le : b.L = D
  on : b.on w'
  ty : b.ty w'
  inn : b.L ≠ [] → w.heap.size ≤ b.g ∧ b.g < w'.heap.size
theorem NewC.keep {w1 : World} {D : List Int} {b : Ci} (h : NewC w w1 D b) (k : Below w1.heap.size w1 w') : NewC w w' D b :=
  ⟨h.le, Ci.on_keep h.on k (fun e => (h.inn e).2), Ci.ty_keep h.ty k, fun e => ⟨(h.inn e).1, Nat.lt_of_lt_of_le (h.inn e).2 k.size⟩⟩
theorem NewC.of_own {ao : Option Addr} {cap : Nat} {D : List Int} (h : OwnR .i64 2 w' w.heap.size ao cap D) : ∃ g, NewC w w' D ⟨ao, cap, g, D⟩ := by
  obtain ⟨g, h1, h2, h3⟩ := Ci.of_own h
  exact ⟨g, rfl, h1, h2, h3⟩
/-- .. one window's numbers more there. -/
theorem LinV.more {w1 w2 : World} {D : List Int} {v : Wn} (h : LinV V T w base so sc L) (hk : Below w.heap.size w w1) (hb : base ≤ w.heap.size) (N : NewC w1 w2 D v.b) (hk2 : Below w1.heap.size w1 w2) : OwnV V T w2 base so sc L ∧ Cis w2 base w2.heap.size ((L ++ [v]).map Wn.b) ∧ ∀ b ∈ (L ++ [v]).map Wn.b, b.ty w2 := by
  have h1 := (h.keep hk).keep hk2
  have n1 := hk.size
  refine ⟨h1.own, ?_, fun b m => ?_⟩
  · rw [List.map_append]
    exact ((h.keep hk).cis.keep hk2 (Nat.le_refl _)).snoc (b := v.b) N.on (fun e => by have := N.inn e; omega) hk2.size
  · rw [List.map_append, List.mem_append] at m
    rcases m with m | m
    · exact h1.ty b m
    · obtain rfl : b = v.b := by simpa using m
      exact N.ty
theorem LinV.pushed {so' : Option Addr} {sc' : Nat} {v : Wn} (hT : T ≠ 2) (o : OwnV V T w base so sc L) (hC : Cis w base w.heap.size ((L ++ [v]).map Wn.b)) (ht : ∀ b ∈ (L ++ [v]).map Wn.b, b.ty w) (o' : OwnV V T w' base so' sc' (L ++ [v])) (hg : w.grownBy w' (Value.ownBlock (.slice so L.length sc))) : LinV V T w' base so' sc' (L ++ [v]) :=
  ⟨o', (hC.grown hT ht o hg).1.wide (Nat.le_refl _) hg.size, (hC.grown hT ht o hg).2⟩
end

/-- One window more. -/
theorem wp_appV {V : Wn → List Value} {T S : TypeId} {zv : Value} {w : World} {o : Oper} {a : Act} {K : Act → World → Prop} {Q : Exit → Act → World → Prop}
    (hV : ∀ v, (V v).length = 7) (hone : ∀ v, ∀ u ∈ V v, u.oneCell' = true) (hu : Try.prog.underlying S = some (.slice T)) (hinf : (Try.prog.info? T).map (fun i => (i.zero, i.size, i.bytes)) = some (some zv, 7, 72)) (hz : zv.cells.size = 7)
    (s x : Operand) (ho : o.op = .call { callee := .builtin .append, args := #[s, x], argTypes := #[S, S] })
    (base : Nat) (so : Option Addr) (sc : Nat) (L : List Wn) (hs : a.eval s = .slice so L.length sc) (hown : OwnV V T w base so sc L)
    (g cb : Nat) (v : Wn) (hx : a.eval x = .slice (some ⟨g, 0, none⟩) 1 cb) (hc : Cl V w g 0 v) (hn : L.length ≤ 1048577) (hbase : base ≤ w.heap.size)
    (h : ∀ so' sc' w', OwnV V T w' base so' sc' (L ++ [v]) → w.grownBy w' (Value.ownBlock (.slice so L.length sc)) → Below base w w' → K (a.put o.dst (.slice so' (L.length + 1) sc')) w') : o.wp Try.prog a w K Q := by
  obtain ⟨i0, hi0, hz0, hz1, hz2⟩ := info_parts hinf
  refine wp_append_own w s x S ho base T i0 zv 7 72 hu hi0 hz0 hz1 hz2 hz (by decide) _ L.length (vcs V L) hs hown ⟨g, 0, none⟩ 1 cb (V v) hx (by rw [hV]) (fun j u hj => ?_) (hone v) (by unfold maxLen; omega) ?_ hbase fun v' w' ho' hg' _ => ?_
  · rw [add_none]
    have hj' : j < 7 := by have := (List.getElem?_eq_some_iff.1 hj).1; rw [hV] at this; exact this
    rw [← hj]
    exact hc j hj'
  · omega
  · have ho2 : w'.ownsRow base T 7 v' (L ++ [v]).length (vcs V (L ++ [v])) := by
      rw [vcs_app, List.length_append]
      simpa [vcs] using ho'
    have hbel : Below base w w' := (Below.refl base w).grown hg' hbase fun q hq => (World.ownsRow.lt hown q hq).1
    obtain ⟨g', cap', hv, _, _⟩ := World.ownsRow.form ho2 (by simp)
    subst hv
    have hh := h (some ⟨g', 0, none⟩) cap' w' ho2 hg' hbel
    simpa using hh
theorem wpList_appV {V : Wn → List Value} {T S : TypeId} {zv : Value} {w : World} {ops : Array Oper} {rest : List Oper} {o : Oper} {a : Act} {Q : Exit → Act → World → Prop}
    (hV : ∀ v, (V v).length = 7) (hone : ∀ v, ∀ u ∈ V v, u.oneCell' = true) (hu : Try.prog.underlying S = some (.slice T)) (hinf : (Try.prog.info? T).map (fun i => (i.zero, i.size, i.bytes)) = some (some zv, 7, 72)) (hz : zv.cells.size = 7)
    (hg : o.guard = none) (s x : Operand) (ho : o.op = .call { callee := .builtin .append, args := #[s, x], argTypes := #[S, S] })
    (base : Nat) (so : Option Addr) (sc : Nat) (L : List Wn) (hs : a.eval s = .slice so L.length sc) (hown : OwnV V T w base so sc L)
    (g cb : Nat) (v : Wn) (hx : a.eval x = .slice (some ⟨g, 0, none⟩) 1 cb) (hc : Cl V w g 0 v) (hn : L.length ≤ 1048577) (hbase : base ≤ w.heap.size)
    (h : ∀ so' sc' w', OwnV V T w' base so' sc' (L ++ [v]) → w.grownBy w' (Value.ownBlock (.slice so L.length sc)) → Below base w w' → wpList Try.prog ops Q rest (a.put o.dst (.slice so' (L.length + 1) sc')) w') : wpList Try.prog ops Q (o :: rest) a w :=
  wpList_plain hg fun _ hK => wp_appV hV hone hu hinf hz s x ho base so sc L hs hown g cb v hx hc hn hbase fun so' sc' w' h1 h2 h3 => hK _ _ (h so' sc' w' h1 h2 h3)
end Go.Proofs.Ytmmjannkfmiohaa
