/- Lists of requests: in memory, and what they are joined to. -/
import Derived.Test.YtgjbjafodkiilaaTj13
namespace Go.Proofs.Ytgjbjafodkiilaa
open Go.RowKit
set_option linter.unusedVariables false

/-- A request that lies in memory: its number, where its lists lie, and what they hold. -/
structure Rq where
  k : Int
  ao : Option Addr
  ca : Nat
  A : List Int
  bo : Option Addr
  cb : Nat
  D : List Int
/-- What it says. -/
def Rq.ct (r : Rq) : Int × List Int × List Int := (r.k, r.A, r.D)
def Rq.sz (r : Rq) : Nat := r.A.length + r.D.length
def szs : List Rq → Nat
  | [] => 0
  | r :: L => r.sz + szs L
theorem szs_app (L M : List Rq) : szs (L ++ M) = szs L + szs M := by
  induction L with
  | nil => simp [szs]
  | cons r L ih => simp only [List.cons_append, szs, ih]; omega
theorem szs_mem {r : Rq} {L : List Rq} (h : r ∈ L) : r.sz ≤ szs L := by
  induction L with
  | nil => simp at h
  | cons s L ih =>
    simp only [szs]
    rcases List.mem_cons.1 h with rfl | h
    · omega
    · have := ih h; omega
theorem szs_ct {L M : List Rq} (h : L.map Rq.ct = M.map Rq.ct) : szs L = szs M := by
  induction L generalizing M with
  | nil => cases M with
    | nil => rfl
    | cons r M => simp at h
  | cons r L ih => cases M with
    | nil => simp at h
    | cons s M =>
      simp only [List.map_cons, List.cons.injEq] at h
      obtain ⟨e, h⟩ := h
      simp only [Rq.ct, Prod.mk.injEq] at e
      simp only [szs, Rq.sz, ih h, e.2.1, e.2.2]

/-- Its three cells. -/
def Rq.cells (w : World) (b o : Nat) (r : Rq) : Prop := IsReq w b o r.k (.slice r.ao r.A.length r.ca) (.slice r.bo r.D.length r.cb)
/-- Its lists, read. -/
structure Rq.on (w : World) (lo hi : Nat) (r : Rq) : Prop where
  a : Row .i64 w lo hi r.ao r.A
  d : Row .u8 w lo hi r.bo r.D
theorem Rq.on.keep {w w' : World} {lo hi B : Nat} {r : Rq} (h : r.on w lo hi) (k : Below B w w') (hb : hi ≤ B) : r.on w' lo hi := ⟨h.a.keep k hb, h.d.keep k hb⟩
theorem Rq.on.wide {w : World} {lo hi lo' hi' : Nat} {r : Rq} (h : r.on w lo hi) (h1 : lo' ≤ lo) (h2 : hi ≤ hi') : r.on w lo' hi' := ⟨h.a.wide h1 h2, h.d.wide h1 h2⟩
/-- A slice of requests, read. -/
def Rqs (w : World) (lo hi : Nat) (so : Option Addr) (L : List Rq) : Prop :=
  L = [] ∨ ∃ g o, so = some ⟨g, o, none⟩ ∧ lo ≤ g ∧ g < hi ∧ ∀ i (h : i < L.length), L[i].cells w g (o + i * 3) ∧ L[i].on w lo hi
theorem Rqs.keep {w w' : World} {lo hi B : Nat} {so : Option Addr} {L : List Rq} (h : Rqs w lo hi so L) (k : Below B w w') (hb : hi ≤ B) : Rqs w' lo hi so L := by
  rcases h with h | ⟨g, o, ha, g1, g2, hc⟩
  · exact .inl h
  · exact .inr ⟨g, o, ha, g1, g2, fun i hi => ⟨IsReq.keep (hc i hi).1 k (by omega), (hc i hi).2.keep k hb⟩⟩
theorem Rqs.at {w : World} {lo hi : Nat} {so : Option Addr} {X Y : List Rq} {r : Rq} (h : Rqs w lo hi so (X ++ r :: Y)) : ∃ g o, so = some ⟨g, o, none⟩ ∧ g < hi ∧ r.cells w g (o + X.length * 3) ∧ r.on w lo hi := by
  rcases h with h | ⟨g, o, ha, g1, g2, hc⟩
  · simp at h
  · have h := hc X.length (by simp)
    simp only [List.getElem_append_right (Nat.le_refl _), Nat.sub_self, List.getElem_cons_zero] at h
    exact ⟨g, o, ha, g2, h.1, h.2⟩

/-- Requests whose lists lie in blocks of their own, one behind the other, and writable. -/
def Sp (w : World) : Nat → Nat → List Rq → Prop
  | lo, hi, [] => lo ≤ hi ∧ hi ≤ w.heap.size
  | lo, hi, r :: M => ∃ mid m2, Req w lo mid m2 r.ao r.bo r.A r.D ∧ Sp w m2 hi M
theorem Sp.le {w : World} {lo hi : Nat} {M : List Rq} (h : Sp w lo hi M) : lo ≤ hi ∧ hi ≤ w.heap.size := by
  induction M generalizing lo with
  | nil => exact h
  | cons r M ih =>
    obtain ⟨mid, m2, R, h⟩ := h
    have := ih h
    have := R.lm
    have := R.mh
    omega
theorem Sp.keep {w w' : World} {lo hi B : Nat} {M : List Rq} (h : Sp w lo hi M) (k : Below B w w') (hb : hi ≤ B) : Sp w' lo hi M := by
  induction M generalizing lo with
  | nil => exact ⟨h.1, Nat.le_trans h.2 k.size⟩
  | cons r M ih =>
    obtain ⟨mid, m2, R, h⟩ := h
    exact ⟨mid, m2, R.keep k (Nat.le_trans (Sp.le h).1 hb), ih h⟩
theorem Sp.far {w w' : World} {lo hi lo' hi' : Nat} {M : List Rq} (h : Sp w lo hi M) (f : Far lo' hi' w w') (hd : hi' ≤ lo) : Sp w' lo hi M := by
  induction M generalizing lo with
  | nil => exact ⟨h.1, Nat.le_trans h.2 f.size⟩
  | cons r M ih =>
    obtain ⟨mid, m2, R, h⟩ := h
    exact ⟨mid, m2, R.far f (.inr hd), ih h (by have := R.lm; have := R.mh; omega)⟩
theorem Sp.snoc {w : World} {lo hi mid hi2 : Nat} {M : List Rq} {r : Rq} (h : Sp w lo hi M) (R : Req w hi mid hi2 r.ao r.bo r.A r.D) : Sp w lo hi2 (M ++ [r]) := by
  induction M generalizing lo with
  | nil => exact ⟨mid, hi2, ⟨Nat.le_trans h.1 R.lm, R.mh, R.hs, R.args.wide h.1 (Nat.le_refl _), R.data⟩, Nat.le_refl _, R.hs⟩
  | cons s M ih =>
    obtain ⟨mid, m2, R', h⟩ := h
    exact ⟨mid, m2, R', ih h⟩
theorem Sp.on {w : World} {lo hi : Nat} {M : List Rq} (h : Sp w lo hi M) : ∀ i (hi' : i < M.length), M[i].on w lo hi := by
  induction M generalizing lo with
  | nil => intro i hi; simp at hi
  | cons r M ih =>
    obtain ⟨mid, m2, R, h⟩ := h
    have hl := (Sp.le h).1
    have h1 := R.lm
    have h2 := R.mh
    intro i hi'
    cases i with
    | zero => exact ⟨R.args.row.wide (Nat.le_refl _) (by omega), R.data.row.wide h1 hl⟩
    | succ i => exact (ih h i (by simpa using hi')).wide (by omega) (Nat.le_refl _)

/-- A slice of requests that was made anew: the block of their cells, behind it their lists. -/
structure OwnQ (w : World) (g hi : Nat) (M : List Rq) : Prop where
  cells : ∀ i (h : i < M.length), M[i].cells w g (i * 3)
  free : ∀ c, w.frozen? ⟨g, c, none⟩ = false
  sp : Sp w (g + 1) hi M
theorem OwnQ.keep {w w' : World} {g hi B : Nat} {M : List Rq} (h : OwnQ w g hi M) (k : Below B w w') (hb : hi ≤ B) : OwnQ w' g hi M :=
  ⟨fun i hi' => IsReq.keep (h.cells i hi') k (by have := h.sp.le; omega), fun c => (k.frozen (p := ⟨g, c, none⟩) (by show g < B; have := h.sp.le; omega)).trans (h.free c), h.sp.keep k hb⟩
theorem OwnQ.rqs {w : World} {g hi : Nat} {M : List Rq} (h : OwnQ w g hi M) : Rqs w g hi (some ⟨g, 0, none⟩) M :=
  .inr ⟨g, 0, rfl, Nat.le_refl _, by have := h.sp.le; omega, fun i hi' => ⟨by rw [Nat.zero_add]; exact h.cells i hi', (h.sp.on i hi').wide (by omega) (Nat.le_refl _)⟩⟩

/-- The fault and the bytes of what one says. -/
def tF (t : Int × List Int × List Int) : Int := rF t.1 t.2.1 t.2.2.length
def tP (t : Int × List Int × List Int) : List Int := pkL t.1 t.2.1 t.2.2
/-- The first fault of all. -/
def jF : List (Int × List Int × List Int) → Int
  | [] => 0
  | t :: C => if tF t = 0 then jF C else tF t
/-- All bytes. -/
def jL : List (Int × List Int × List Int) → List Int
  | [] => []
  | t :: C => tP t ++ jL C
def jC (C : List (Int × List Int × List Int)) : Int := if 10 < C.length then 2 else jF C
def jB (C : List (Int × List Int × List Int)) : List Int := if jC C = 0 then jL C else []
theorem jF_pre {X Y : List (Int × List Int × List Int)} (h : jF X = 0) : jF (X ++ Y) = jF Y := by
  induction X with
  | nil => rfl
  | cons t X ih =>
    simp only [List.cons_append, jF] at h ⊢
    by_cases e : tF t = 0
    · rw [if_pos e] at h ⊢; exact ih h
    · rw [if_neg e] at h; exact absurd h e
theorem jL_app (X Y : List (Int × List Int × List Int)) : jL (X ++ Y) = jL X ++ jL Y := by
  induction X with
  | nil => rfl
  | cons t X ih => simp only [List.cons_append, jL, ih, List.append_assoc]
theorem jL_len (C : List (Int × List Int × List Int)) : (jL C).length ≤ 33 * C.length := by
  induction C with
  | nil => simp [jL]
  | cons t C ih =>
    have := pkL_len t.1 t.2.1 t.2.2
    simp only [jL, List.length_append, List.length_cons, tP]
    omega
theorem jC_many {C : List (Int × List Int × List Int)} (h : 10 < C.length) : jC C = 2 ∧ jB C = [] := by
  have e : jC C = 2 := by unfold jC; rw [if_pos h]
  exact ⟨e, by unfold jB; rw [e]; rfl⟩
theorem jC_few {C : List (Int × List Int × List Int)} (h : ¬ 10 < C.length) : jC C = jF C := by unfold jC; rw [if_neg h]
theorem jC_fault {X Y : List (Int × List Int × List Int)} {t : Int × List Int × List Int} (hl : ¬ 10 < (X ++ t :: Y).length) (h : jF X = 0) (ht : tF t ≠ 0) : jC (X ++ t :: Y) = tF t ∧ jB (X ++ t :: Y) = [] := by
  have e : jC (X ++ t :: Y) = tF t := by rw [jC_few hl, jF_pre h, jF, if_neg ht]
  exact ⟨e, by unfold jB; rw [e, if_neg ht]⟩
theorem jC_all {C : List (Int × List Int × List Int)} (hl : ¬ 10 < C.length) (h : jF C = 0) : jC C = 0 ∧ jB C = jL C := by
  have e : jC C = 0 := by rw [jC_few hl, h]
  exact ⟨e, by unfold jB; rw [e]; rfl⟩
theorem jB_len (C : List (Int × List Int × List Int)) : (jB C).length ≤ 330 := by
  unfold jB
  by_cases h : jC C = 0
  · rw [if_pos h]
    by_cases hl : 10 < C.length
    · rw [(jC_many hl).1] at h; simp at h
    · have := jL_len C; omega
  · rw [if_neg h]; simp
end Go.Proofs.Ytgjbjafodkiilaa
