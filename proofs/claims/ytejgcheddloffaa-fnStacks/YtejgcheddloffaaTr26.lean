/- The points of a rectangle, row by row; the iterator that tells them. A stack from its topmost window on: the iterator that tells it. -/
import Derived.Test.YtejgcheddloffaaTr24
import Derived.Test.YtejgcheddloffaaTr25
import Derived.RangeFuncNested
import Derived.RangeFuncBound
import Derived.RangeFuncCalls
import Derived.RangeFuncLeaves
import Derived.Shelf.Abstract
import Derived.Shelf.RegionOpen
import Derived.OwnWalkIn
import Derived.TacticsInMore
import Derived.LoopNIn
import Derived.LoopIn
import Derived.WalkMore
namespace Go.Proofs.Ytejgcheddloffaa
open Go.RowKit Go.Shelf
set_option linter.unusedVariables false
attribute [local go_sem] Oper.semAt_some

def rowPts (x y : Int) (n : Nat) : List (Int × Int) := (List.range n).map fun (i : Nat) => (x + i, y)
def rowsPts (x y : Int) (n m : Nat) : List (Int × Int) := (List.range m).flatMap fun (j : Nat) => rowPts x (y + j) n
theorem rowPts_len (x y : Int) (n : Nat) : (rowPts x y n).length = n := by simp [rowPts]
theorem rowPts_succ (x y : Int) (n : Nat) : rowPts x y (n + 1) = rowPts x y n ++ [(x + n, y)] := by simp [rowPts, List.range_succ]
theorem rowsPts_succ (x y : Int) (n m : Nat) : rowsPts x y n (m + 1) = rowsPts x y n m ++ rowPts x (y + m) n := by simp [rowsPts, List.range_succ]
theorem rowsPts_len (x y : Int) (n m : Nat) : (rowsPts x y n m).length = m * n := by
  induction m with
  | zero => simp [rowsPts]
  | succ m ih => rw [rowsPts_succ, List.length_append, ih, rowPts_len, Nat.succ_mul]
def ptsOf (r : Rc) : List (Int × Int) := rowsPts r.x r.y r.w.toNat r.h.toNat

theorem rowPts_pre (x y : Int) {i n : Nat} (h : i ≤ n) : rowPts x y i <+: rowPts x y n := by
  induction n with
  | zero => obtain rfl : i = 0 := by omega
            exact List.prefix_refl _
  | succ n ih =>
    by_cases e : i = n + 1
    · subst e; exact List.prefix_refl _
    · rw [rowPts_succ]; exact (ih (by omega)).trans (List.prefix_append _ _)
theorem rowsPts_pre (x y : Int) {n j m : Nat} (h : j ≤ m) : rowsPts x y n j <+: rowsPts x y n m := by
  induction m with
  | zero => obtain rfl : j = 0 := by omega
            exact List.prefix_refl _
  | succ m ih =>
    by_cases e : j = m + 1
    · subst e; exact List.prefix_refl _
    · rw [rowsPts_succ]; exact (ih (by omega)).trans (List.prefix_append _ _)
theorem pts_pre (x y : Int) {n i j m : Nat} (hj : j < m) (hi : i ≤ n) : rowsPts x y n j ++ rowPts x (y + j) i <+: rowsPts x y n m := by
  refine List.IsPrefix.trans ?_ (rowsPts_pre x y (show j + 1 ≤ m by omega))
  rw [rowsPts_succ]
  exact (List.prefix_append_right_inj _).2 (rowPts_pre _ _ hi)

theorem pts_len (x y : Int) {n i j m : Nat} (hj : j < m) (hi : i < n) : (rowsPts x y n j ++ rowPts x (y + j) i).length < m * n := by
  rw [List.length_append, rowsPts_len, rowPts_len]
  have h1 : (j + 1) * n ≤ m * n := Nat.mul_le_mul_right n hj
  rw [Nat.succ_mul] at h1
  omega

theorem wpIn_scope_wide {P : Program} {n : Nat} {c : Code} {Q : Exit → Act → World → Prop} {a : Act} {w : World} (h : c.wpIn Fence.wide n P (Exit.noGoto Q) a w) : (Code.scope c).wpIn Fence.wide n P Q a w :=
  wpIn_wide.2 (wp_scope_straight ((wpIn_wide (n := n)).1 h))

theorem abide_below {J : List (Int × Int) → World → Prop} {B : Nat} {pre : List (Int × Int)} {W W' : World} (hJ : AbidesFrom B J) (h : J pre W) (k : Below W.heap.size W W') : J pre W' :=
  hJ pre W W' none h ⟨k.os, k.tape, k.output, k.size, fun i hi _ => k.block i hi⟩ (fun r e => by cases e)

def encP (p : Int × Int) : Array Value := #[.int .i64 p.1, .int .i64 p.2]

end Go.Proofs.Ytejgcheddloffaa

namespace Go.Proofs.Ytejgcheddloffaa
open Go.RowKit Go.Shelf Go.Maps
set_option linter.unusedVariables false
attribute [local go_sem] Oper.semAt_some

def encW (x : Nat × Wn) : Array Value := #[.int .i64 (x.1 : Int), .agg #[.int .i64 x.2.i, .int .i64 x.2.x, .int .i64 x.2.y, .int .i64 x.2.w, .int .i64 x.2.h, .bool x.2.m, .slice x.2.b.ao x.2.b.L.length x.2.b.cap]]
/-- From the last one on, each with its place. -/
def dz (o : Nat) : List Wn → List (Nat × Wn)
  | [] => []
  | r :: B => dz (o + 1) B ++ [(o, r)]
theorem dz_len (o : Nat) (B : List Wn) : (dz o B).length = B.length := by
  induction B generalizing o with
  | nil => rfl
  | cons r B ih => simp [dz, ih]
theorem dz_mem {o : Nat} {B : List Wn} {x : Nat × Wn} (h : x ∈ dz o B) : x.2 ∈ B := by
  induction B generalizing o with
  | nil => simp [dz] at h
  | cons r B ih =>
    simp only [dz, List.mem_append, List.mem_singleton] at h
    rcases h with h | rfl
    · exact List.mem_cons_of_mem _ (ih h)
    · simp
theorem mem_dz {o : Nat} {B : List Wn} {v : Wn} (h : v ∈ B) : ∃ k, (k, v) ∈ dz o B := by
  induction B generalizing o with
  | nil => simp at h
  | cons r B ih =>
    rcases List.mem_cons.1 h with rfl | h
    · exact ⟨o, by simp [dz]⟩
    · obtain ⟨k, hk⟩ := ih (o := o + 1) h
      exact ⟨k, by simp [dz, hk]⟩

def Same (N0 : Nat) (A B : World) : Prop := ∀ b, b < N0 → B.heap[b]? = A.heap[b]?
theorem abide_w {J : List (Nat × Wn) → World → Prop} {B : Nat} {pre : List (Nat × Wn)} {W W' : World} (hJ : AbidesFrom B J) (h : J pre W) (k : Below W.heap.size W W') : J pre W' :=
  hJ pre W W' none h ⟨k.os, k.tape, k.output, k.size, fun i hi _ => k.block i hi⟩ (fun r e => by cases e)

end Go.Proofs.Ytejgcheddloffaa
