/- Messages: lists of them in memory, read and owned; what they say. -/
import Derived.Test.YtngmiimendlleaaV9
import Derived.Test.YtngmiimendlleaaV11
namespace Go.Proofs.Ytngmiimendlleaa
open Go.RowKit
set_option linter.unusedVariables false

theorem Try.infoM : (Try.prog.info? 52).map (fun i => (i.zero, i.size, i.bytes)) = some (some (.agg #[.int .i64 0, .slice none 0 0]), 2, 32) := by kernel_rfl

theorem mid_in {α : Type} {X Y L : List α} {r : α} (h : X ++ r :: Y = L) : (X ++ [r]) ++ Y = L := by rw [← h]; simp

/-- A message: its kind, its body. -/
structure Mg where
  k : Int
  b : Bd
def Mg.ct (m : Mg) : Int × List Int := (m.k, m.b.L)
/-- The bytes of all bodies. -/
def mzs (L : List Mg) : Nat := totB (L.map Mg.b)
theorem mzs_nil : mzs [] = 0 := rfl
theorem mzs_app (A B : List Mg) : mzs (A ++ B) = mzs A + mzs B := by simp [mzs, totB_app]
theorem mzs_one (m : Mg) : mzs [m] = m.b.L.length := by simp [mzs, totB_one]
theorem mzs_cons (m : Mg) (B : List Mg) : mzs (m :: B) = m.b.L.length + mzs B := by simp [mzs, totB, tot]
theorem mzs_mem {m : Mg} {L : List Mg} (h : m ∈ L) : m.b.L.length ≤ mzs L := totB_mem (List.mem_map_of_mem h)
theorem mzs_ct {L M : List Mg} (h : L.map Mg.ct = M.map Mg.ct) : mzs L = mzs M := by
  induction L generalizing M with
  | nil => cases M with
    | nil => rfl
    | cons r M => simp at h
  | cons r L ih => cases M with
    | nil => simp at h
    | cons s M =>
      simp only [List.map_cons, List.cons.injEq] at h
      obtain ⟨e, h⟩ := h
      simp only [Mg.ct, Prod.mk.injEq] at e
      rw [mzs_cons, mzs_cons, ih h, e.2]
theorem len_ct {L M : List Mg} (h : L.map Mg.ct = M.map Mg.ct) : L.length = M.length := by have := congrArg List.length h; simpa using this

/-- Its two cells. -/
structure Mg.cells (w : World) (g o : Nat) (m : Mg) : Prop where
  c0 : w.cell? ⟨g, o, none⟩ = some (.int .i64 m.k)
  c1 : w.cell? ⟨g, o + 1, none⟩ = some (.slice m.b.ao m.b.L.length m.b.cap)
theorem Mg.cells.keep {w w' : World} {g o B : Nat} {m : Mg} (h : m.cells w g o) (k : Below B w w') (hb : g < B) : m.cells w' g o :=
  ⟨(k.cell (p := ⟨g, o, none⟩) hb).trans h.c0, (k.cell (p := ⟨g, o + 1, none⟩) hb).trans h.c1⟩
theorem Mg.cells.far {w w' : World} {g o lo hi : Nat} {m : Mg} (h : m.cells w g o) (f : Far lo hi w w') (hb : g < w.heap.size) (hd : g < lo ∨ hi ≤ g) : m.cells w' g o :=
  ⟨(f.cell g o hb hd).trans h.c0, (f.cell g (o + 1) hb hd).trans h.c1⟩
theorem Mg.cells.lt {w : World} {g o : Nat} {m : Mg} (h : m.cells w g o) : g < w.heap.size := World.block_lt_of_cell? w _ h.c0
/-- Its body, read. -/
def Mg.on (w : World) (lo hi : Nat) (m : Mg) : Prop := Row .u8 w lo hi m.b.ao m.b.L
/-- A slice of messages, read. -/
def Ms (w : World) (lo hi : Nat) (so : Option Addr) (L : List Mg) : Prop :=
  L = [] ∨ ∃ g o, so = some ⟨g, o, none⟩ ∧ lo ≤ g ∧ g < hi ∧ ∀ i (h : i < L.length), L[i].cells w g (o + i * 2) ∧ L[i].on w lo hi
theorem Ms.nil (w : World) (lo hi : Nat) (so : Option Addr) : Ms w lo hi so [] := .inl rfl
theorem Ms.keep {w w' : World} {lo hi B : Nat} {so : Option Addr} {L : List Mg} (h : Ms w lo hi so L) (k : Below B w w') (hb : hi ≤ B) : Ms w' lo hi so L := by
  rcases h with h | ⟨g, o, ha, g1, g2, hc⟩
  · exact .inl h
  · exact .inr ⟨g, o, ha, g1, g2, fun i hi => ⟨(hc i hi).1.keep k (by omega), Row.keep (hc i hi).2 k hb⟩⟩
theorem Ms.wide {w : World} {lo hi lo' hi' : Nat} {so : Option Addr} {L : List Mg} (h : Ms w lo hi so L) (h1 : lo' ≤ lo) (h2 : hi ≤ hi') : Ms w lo' hi' so L := by
  rcases h with h | ⟨g, o, ha, g1, g2, hc⟩
  · exact .inl h
  · exact .inr ⟨g, o, ha, by omega, by omega, fun i hi => ⟨(hc i hi).1, Row.wide (hc i hi).2 h1 h2⟩⟩
theorem Ms.at {w : World} {lo hi : Nat} {so : Option Addr} {X Y : List Mg} {r : Mg} (h : Ms w lo hi so (X ++ r :: Y)) : ∃ g o, so = some ⟨g, o, none⟩ ∧ g < hi ∧ r.cells w g (o + X.length * 2) ∧ r.on w lo hi := by
  rcases h with h | ⟨g, o, ha, g1, g2, hc⟩
  · simp at h
  · have h := hc X.length (by simp)
    simp only [List.getElem_append_right (Nat.le_refl _), Nat.sub_self, List.getElem_cons_zero] at h
    exact ⟨g, o, ha, g2, h.1, h.2⟩
theorem Ms.take {w : World} {lo hi : Nat} {so : Option Addr} {L : List Mg} (h : Ms w lo hi so L) (n : Nat) : Ms w lo hi so (L.take n) := by
  rcases h with h | ⟨g, o, ha, g1, g2, hc⟩
  · exact .inl (by rw [h]; simp)
  · exact .inr ⟨g, o, ha, g1, g2, fun i hi => by simp only [List.getElem_take]; exact hc i (by simp at hi; omega)⟩
theorem Ms.drop {w : World} {lo hi g o cap : Nat} {L : List Mg} (h : Ms w lo hi (some ⟨g, o, none⟩) L) (n : Nat) (hc : L.length ≤ cap) : Ms w lo hi (some ⟨g, if cap = n then o else o + n * 2, none⟩) (L.drop n) := by
  by_cases hn : L.length ≤ n
  · exact .inl (by simp [hn])
  rcases h with h | ⟨g', o', ha, g1, g2, hc'⟩
  · exact .inl (by rw [h]; simp)
  · cases ha
    refine .inr ⟨g, o + n * 2, by rw [if_neg (by omega)], g1, g2, fun i hi => ?_⟩
    simp only [List.getElem_drop]
    have := hc' (n + i) (by simp at hi; omega)
    rwa [show o + n * 2 + i * 2 = o + (n + i) * 2 by omega]

/-- A slice of messages whose cells may be written. -/
def SpM (w : World) (lo hi : Nat) (so : Option Addr) (L : List Mg) : Prop :=
  L = [] ∨ ∃ g, so = some ⟨g, 0, none⟩ ∧ lo ≤ g ∧ g < hi ∧ (∀ i (h : i < L.length), L[i].cells w g (i * 2)) ∧ ∀ c, w.frozen? ⟨g, c, none⟩ = false
theorem SpM.keep {w w' : World} {lo hi B : Nat} {so : Option Addr} {L : List Mg} (h : SpM w lo hi so L) (k : Below B w w') (hb : hi ≤ B) : SpM w' lo hi so L := by
  rcases h with h | ⟨g, ha, g1, g2, hc, hf⟩
  · exact .inl h
  · exact .inr ⟨g, ha, g1, g2, fun i hi => (hc i hi).keep k (by omega), fun c => (k.frozen (p := ⟨g, c, none⟩) (by show g < B; omega)).trans (hf c)⟩
theorem SpM.far {w w' : World} {lo hi lo' hi' : Nat} {so : Option Addr} {L : List Mg} (h : SpM w lo hi so L) (f : Far lo' hi' w w') (hd : hi ≤ lo' ∨ hi' ≤ lo) (hs : hi ≤ w.heap.size) : SpM w' lo hi so L := by
  rcases h with h | ⟨g, ha, g1, g2, hc, hf⟩
  · exact .inl h
  · exact .inr ⟨g, ha, g1, g2, fun i hi => (hc i hi).far f (by omega) (by omega), fun c => (f.frozen g c (by omega) (by omega)).trans (hf c)⟩
theorem SpM.wide {w : World} {lo hi lo' hi' : Nat} {so : Option Addr} {L : List Mg} (h : SpM w lo hi so L) (h1 : lo' ≤ lo) (h2 : hi ≤ hi') : SpM w lo' hi' so L := by
  rcases h with h | ⟨g, ha, g1, g2, hc, hf⟩
  · exact .inl h
  · exact .inr ⟨g, ha, by omega, by omega, hc, hf⟩
/-- The cells of messages are no body. -/
theorem SpM.ne {w : World} {g : Nat} {m : Mg} {b : Bd} (h : m.cells w g 0) (hb : b.on w) (hn : b.L ≠ []) : g ≠ b.g := fun e => by
  obtain ⟨x, hx⟩ := b.cell0 hb hn
  have h0 := h.c0
  rw [e, hx] at h0
  simp at h0
theorem SpM.ne' {w : World} {g : Nat} {L : List Mg} {b : Bd} (h : ∀ i (h : i < L.length), L[i].cells w g (i * 2)) (hL : L ≠ []) (hb : b.on w) (hn : b.L ≠ []) : g ≠ b.g := by
  have h0 := h 0 (List.length_pos_iff.2 hL)
  rw [Nat.zero_mul] at h0
  exact SpM.ne h0 hb hn
theorem SpM.far1 {w w' : World} {lo hi : Nat} {so : Option Addr} {L : List Mg} {b : Bd} (h : SpM w lo hi so L) (hb : b.on w) (hn : b.L ≠ []) (f : Far b.g (b.g + 1) w w') (hs : hi ≤ w.heap.size) : SpM w' lo hi so L := by
  by_cases e : L = []
  · exact .inl e
  rcases h with h | ⟨g, ha, g1, g2, hc, hf⟩
  · exact .inl h
  · have hne := SpM.ne' hc e hb hn
    exact .inr ⟨g, ha, g1, g2, fun i hi => (hc i hi).far f (by omega) (by omega), fun c => (f.frozen g c (by omega) (by omega)).trans (hf c)⟩

/-- Two slices of messages, all in memory of their own. -/
structure QM (w : World) (lo hi : Nat) (s1 : Option Addr) (L1 : List Mg) (s2 : Option Addr) (L2 : List Mg) : Prop where
  le : lo ≤ hi
  hs : hi ≤ w.heap.size
  bods : Bods w lo hi ((L1 ++ L2).map Mg.b)
  sp1 : SpM w lo hi s1 L1
  sp2 : SpM w lo hi s2 L2
  ne : L1 ≠ [] → L2 ≠ [] → s1 ≠ s2
theorem QM.keep {w w' : World} {lo hi B : Nat} {s1 s2 : Option Addr} {L1 L2 : List Mg} (h : QM w lo hi s1 L1 s2 L2) (k : Below B w w') (hb : hi ≤ B) : QM w' lo hi s1 L1 s2 L2 :=
  ⟨h.le, Nat.le_trans h.hs k.size, h.bods.keep k hb, h.sp1.keep k hb, h.sp2.keep k hb, h.ne⟩
theorem QM.far {w w' : World} {lo hi lo' hi' : Nat} {s1 s2 : Option Addr} {L1 L2 : List Mg} (h : QM w lo hi s1 L1 s2 L2) (f : Far lo' hi' w w') (hd : hi ≤ lo' ∨ hi' ≤ lo) : QM w' lo hi s1 L1 s2 L2 :=
  ⟨h.le, Nat.le_trans h.hs f.size, h.bods.far f hd, h.sp1.far f hd h.hs, h.sp2.far f hd h.hs, h.ne⟩
theorem QM.wide {w : World} {lo hi lo' hi' : Nat} {s1 s2 : Option Addr} {L1 L2 : List Mg} (h : QM w lo hi s1 L1 s2 L2) (h1 : lo' ≤ lo) (h2 : hi ≤ hi') (h3 : hi' ≤ w.heap.size) : QM w lo' hi' s1 L1 s2 L2 :=
  ⟨by have := h.le; omega, h3, h.bods.wide h1 h2, h.sp1.wide h1 h2, h.sp2.wide h1 h2, h.ne⟩
theorem Bods.row {w : World} {lo hi : Nat} {bs : List Bd} (h : Bods w lo hi bs) {b : Bd} (hb : b ∈ bs) : Row .u8 w lo hi b.ao b.L := by
  by_cases e : b.L = []
  · exact .inl e
  · have := h.inn b hb e
    exact (h.each b hb).1.row.wide (by omega) (by omega)
theorem ms_of {w : World} {lo hi : Nat} {so : Option Addr} {L : List Mg} (h : SpM w lo hi so L) (hb : ∀ m ∈ L, Row .u8 w lo hi m.b.ao m.b.L) : Ms w lo hi so L := by
  rcases h with h | ⟨g, ha, g1, g2, hc, hf⟩
  · exact .inl h
  · exact .inr ⟨g, 0, ha, g1, g2, fun i hi => ⟨by rw [Nat.zero_add]; exact hc i hi, hb _ (List.getElem_mem _)⟩⟩
theorem QM.ms1 {w : World} {lo hi : Nat} {s1 s2 : Option Addr} {L1 L2 : List Mg} (h : QM w lo hi s1 L1 s2 L2) : Ms w lo hi s1 L1 := ms_of h.sp1 fun m hm => h.bods.row (by simp; exact .inl ⟨m, hm, rfl⟩)
theorem QM.ms2 {w : World} {lo hi : Nat} {s1 s2 : Option Addr} {L1 L2 : List Mg} (h : QM w lo hi s1 L1 s2 L2) : Ms w lo hi s2 L2 := ms_of h.sp2 fun m hm => h.bods.row (by simp; exact .inr ⟨m, hm, rfl⟩)
theorem QM.nil (w : World) (s1 s2 : Option Addr) : QM w w.heap.size w.heap.size s1 [] s2 [] := ⟨Nat.le_refl _, Nat.le_refl _, Bods.nil _ _ _, .inl rfl, .inl rfl, fun h => absurd rfl h⟩
theorem QM.single {w : World} {lo hi : Nat} {so s1 : Option Addr} {L : List Mg} (h1 : lo ≤ hi) (h2 : hi ≤ w.heap.size) (hB : Bods w lo hi (L.map Mg.b)) (hS : SpM w lo hi so L) : QM w lo hi s1 [] so L := ⟨h1, h2, by simpa using hB, .inl rfl, hS, fun h => absurd rfl h⟩

/-- Faults of one and of all. -/
def mF (t : Int × List Int) : Int := if t.1 < 1 ∨ 7 < t.1 then 3 else if 30 < t.2.length then 2 else 0
def msF : List (Int × List Int) → Int
  | [] => 0
  | t :: C => if mF t = 0 then msF C else mF t
def qF (C : List (Int × List Int)) : Int := if 10 < C.length then 2 else msF C
theorem msF_pre {X Y : List (Int × List Int)} (h : msF X = 0) : msF (X ++ Y) = msF Y := by
  induction X with
  | nil => rfl
  | cons t X ih =>
    simp only [List.cons_append, msF] at h ⊢
    by_cases e : mF t = 0
    · rw [if_pos e] at h ⊢; exact ih h
    · rw [if_neg e] at h; exact absurd h e
theorem msF_snoc {X : List (Int × List Int)} {t : Int × List Int} (h : msF X = 0) (ht : mF t = 0) : msF (X ++ [t]) = 0 := by rw [msF_pre h, msF, if_pos ht]; rfl
theorem msF_bad {X Y : List (Int × List Int)} {t : Int × List Int} (h : msF X = 0) (ht : mF t ≠ 0) : msF (X ++ t :: Y) = mF t := by rw [msF_pre h, msF, if_neg ht]
theorem qF_few {C : List (Int × List Int)} (h : ¬ 10 < C.length) : qF C = msF C := by unfold qF; rw [if_neg h]
theorem qF_many {C : List (Int × List Int)} (h : 10 < C.length) : qF C = 2 := by unfold qF; rw [if_pos h]
theorem msF_mem {C : List (Int × List Int)} (h : msF C = 0) : ∀ t ∈ C, mF t = 0 := by
  induction C with
  | nil => intro t m; simp at m
  | cons s C ih =>
    intro t m
    rw [msF] at h
    by_cases e : mF s = 0
    · rw [if_pos e] at h
      rcases List.mem_cons.1 m with rfl | m
      · exact e
      · exact ih h t m
    · rw [if_neg e] at h; exact absurd h e
theorem msF_all {C : List (Int × List Int)} (h : ∀ t ∈ C, mF t = 0) : msF C = 0 := by
  induction C with
  | nil => rfl
  | cons s C ih => rw [msF, if_pos (h s (by simp))]; exact ih fun t m => h t (by simp [m])
theorem mF_len {t : Int × List Int} (h : mF t = 0) : t.2.length ≤ 30 ∧ 1 ≤ t.1 ∧ t.1 ≤ 7 := by
  unfold mF at h
  split at h
  · simp at h
  · split at h
    · simp at h
    · omega
end Go.Proofs.Ytngmiimendlleaa
