/- The points of a rectangle, row by row; the iterator that tells them. A stack from its topmost window on: the iterator that tells it. -/
import Derived.Test.YtoipcnpemmajaaaTh18
import Derived.Test.YtoipcnpemmajaaaTh21
import Derived.RangeFuncNested
import Derived.RangeFuncBound
import Derived.RangeFuncCalls
import Derived.RangeFuncLeaves
import Derived.Shelf.Abstract
import Derived.Shelf.RegionOpen
import Derived.OwnWalkIn
import Derived.TacticsInMore
import Derived.LoopNIn
import Derived.LoopIn
import Derived.WalkMore
import Derived.Test.YtoipcnpemmajaaaTh20
namespace Go.Proofs.Ytoipcnpemmajaaa
open Go.RowKit Go.Shelf
set_option linter.unusedVariables false
attribute [local go_sem] Oper.semAt_some

def rowPts (x y : Int) (n : Nat) : List (Int × Int) := (List.range n).map fun (i : Nat) => (x + i, y)
def rowsPts (x y : Int) (n m : Nat) : List (Int × Int) := (List.range m).flatMap fun (j : Nat) => rowPts x (y + j) n
theorem rowPts_len (x y : Int) (n : Nat) : (rowPts x y n).length = n := by simp [rowPts]
theorem rowPts_succ (x y : Int) (n : Nat) : rowPts x y (n + 1) = rowPts x y n ++ [(x + n, y)] := by simp [rowPts, List.range_succ]
theorem rowsPts_succ (x y : Int) (n m : Nat) : rowsPts x y n (m + 1) = rowsPts x y n m ++ rowPts x (y + m) n := by simp [rowsPts, List.range_succ]
theorem rowsPts_len (x y : Int) (n m : Nat) : (rowsPts x y n m).length = m * n := by
  induction m with
  | zero => simp [rowsPts]
  | succ m ih => rw [rowsPts_succ, List.length_append, ih, rowPts_len, Nat.succ_mul]
def ptsOf (r : Rc) : List (Int × Int) := rowsPts r.x r.y r.w.toNat r.h.toNat

theorem rowPts_pre (x y : Int) {i n : Nat} (h : i ≤ n) : rowPts x y i <+: rowPts x y n := by
  induction n with
  | zero => obtain rfl : i = 0 := by omega
            exact List.prefix_refl _
  | succ n ih =>
    by_cases e : i = n + 1
    · subst e; exact List.prefix_refl _
    · rw [rowPts_succ]; exact (ih (by omega)).trans (List.prefix_append _ _)
theorem rowsPts_pre (x y : Int) {n j m : Nat} (h : j ≤ m) : rowsPts x y n j <+: rowsPts x y n m := by
  induction m with
  | zero => obtain rfl : j = 0 := by omega
            exact List.prefix_refl _
  | succ m ih =>
    by_cases e : j = m + 1
    · subst e; exact List.prefix_refl _
    · rw [rowsPts_succ]; exact (ih (by omega)).trans (List.prefix_append _ _)
theorem pts_pre (x y : Int) {n i j m : Nat} (hj : j < m) (hi : i ≤ n) : rowsPts x y n j ++ rowPts x (y + j) i <+: rowsPts x y n m := by
  refine List.IsPrefix.trans ?_ (rowsPts_pre x y (show j + 1 ≤ m by omega))
  rw [rowsPts_succ]
  exact (List.prefix_append_right_inj _).2 (rowPts_pre _ _ hi)

theorem pts_len (x y : Int) {n i j m : Nat} (hj : j < m) (hi : i < n) : (rowsPts x y n j ++ rowPts x (y + j) i).length < m * n := by
  rw [List.length_append, rowsPts_len, rowPts_len]
  have h1 : (j + 1) * n ≤ m * n := Nat.mul_le_mul_right n hj
  rw [Nat.succ_mul] at h1
  omega

theorem wpIn_scope_wide {P : Program} {n : Nat} {c : Code} {Q : Exit → Act → World → Prop} {a : Act} {w : World} (h : c.wpIn Fence.wide n P (Exit.noGoto Q) a w) : (Code.scope c).wpIn Fence.wide n P Q a w :=
  wpIn_wide.2 (wp_scope_straight ((wpIn_wide (n := n)).1 h))

theorem abide_below {J : List (Int × Int) → World → Prop} {B : Nat} {pre : List (Int × Int)} {W W' : World} (hJ : AbidesFrom B J) (h : J pre W) (k : Below W.heap.size W W') : J pre W' :=
  hJ pre W W' none h ⟨k.os, k.tape, k.output, k.size, fun i hi _ => k.block i hi⟩ (fun r e => by cases e)

def encP (p : Int × Int) : Array Value := #[.int .i64 p.1, .int .i64 p.2]

end Go.Proofs.Ytoipcnpemmajaaa

namespace Go.Proofs.Ytoipcnpemmajaaa
open Go.RowKit Go.Shelf Go.Maps
set_option linter.unusedVariables false
attribute [local go_sem] Oper.semAt_some

def encW (x : Nat × Wn) : Array Value := #[.int .i64 (x.1 : Int), .agg #[.int .i64 x.2.i, .int .i64 x.2.x, .int .i64 x.2.y, .int .i64 x.2.w, .int .i64 x.2.h, .bool x.2.m, .slice x.2.b.ao x.2.b.L.length x.2.b.cap]]
/-- From the last one on, each with its place. -/
def dz (o : Nat) : List Wn → List (Nat × Wn)
  | [] => []
  | r :: B => dz (o + 1) B ++ [(o, r)]
theorem dz_len (o : Nat) (B : List Wn) : (dz o B).length = B.length := by
  induction B generalizing o with
  | nil => rfl
  | cons r B ih => simp [dz, ih]
theorem dz_mem {o : Nat} {B : List Wn} {x : Nat × Wn} (h : x ∈ dz o B) : x.2 ∈ B := by
  induction B generalizing o with
  | nil => simp [dz] at h
  | cons r B ih =>
    simp only [dz, List.mem_append, List.mem_singleton] at h
    rcases h with h | rfl
    · exact List.mem_cons_of_mem _ (ih h)
    · simp
theorem mem_dz {o : Nat} {B : List Wn} {v : Wn} (h : v ∈ B) : ∃ k, (k, v) ∈ dz o B := by
  induction B generalizing o with
  | nil => simp at h
  | cons r B ih =>
    rcases List.mem_cons.1 h with rfl | h
    · exact ⟨o, by simp [dz]⟩
    · obtain ⟨k, hk⟩ := ih (o := o + 1) h
      exact ⟨k, by simp [dz, hk]⟩

def Same (N0 : Nat) (A B : World) : Prop := ∀ b, b < N0 → B.heap[b]? = A.heap[b]?
theorem abide_w {J : List (Nat × Wn) → World → Prop} {B : Nat} {pre : List (Nat × Wn)} {W W' : World} (hJ : AbidesFrom B J) (h : J pre W) (k : Below W.heap.size W W') : J pre W' :=
  hJ pre W W' none h ⟨k.os, k.tape, k.output, k.size, fun i hi _ => k.block i hi⟩ (fun r e => by cases e)

set_option maxRecDepth 100000 in
set_option maxHeartbeats 4000000 in
theorem back_in (n l Bx N0 lo hi : Nat) (so : Option Addr) (sc : Nat) (L : List Wn) (J Jx : List (Nat × Wn) → World → Prop) (W : World) (hn : L.length ≤ 1048576)
    (hY : ∀ pre x W1, J pre W1 → pre.length < L.length → YieldAt Fence.wide (n - 1) Try.prog l (encW x) W1 fun e W' =>
      (e = .returned (.bool true) ∧ J (pre ++ [x]) W' ∧ Same N0 W1 W') ∨ (e = .returned (.bool false) ∧ Jx (pre ++ [x]) W'))
    (hJ : AbidesFrom W.heap.size J) (hN : N0 ≤ W.heap.size) (hx : Bx < N0) (hB : W.cell? ⟨Bx, 0, none⟩ = some (.slice so L.length sc)) (hL : Ws W lo hi so L) (hh : hi ≤ N0) (h0 : J [] W) :
    CallsIn Fence.wide n Try.prog 81 #[.func (.yield l) #[] #[], .pointer (some ⟨Bx, 0, none⟩)] W fun e W' => (∃ v, e = .returned v) ∧
      ((∃ ys, ys = dz 0 L ∧ J ys W') ∨ (∃ pre, (∃ A r B, L = A ++ r :: B ∧ pre = dz A.length (r :: B)) ∧ Jx pre W')) := by
  have hn' : (L.length : Int) ≤ 1048576 := by omega
  have HY := hideP hY
  have HJ := hideP hJ
  have HB := hideP hB
  have HL := hideP hL
  have H0 := hideP h0
  clear hY hJ hL h0
  refine callsIn_of_wp Try.func81 rfl trivial ?_ rfl
  simp only [Try.ntmps81, List.size_toArray, List.length_cons, List.length_nil, Nat.reduceAdd, Nat.reduceSub, Array.replicate_succ, Array.replicate_zero, List.push_toArray, List.append_toArray, List.nil_append, List.cons_append]
  gi_wp2
  gi_loopw [3] (fun i wr => ∃ A B : List Wn, A ++ B = L ∧ i = .int .i64 ((A.length : Int) - 1) ∧ J (dz A.length B) wr ∧ Same N0 W wr) (fun i _ => (intOf i + 1).toNat)
  case atStart => exact ⟨L, [], by simp, rfl, H0.out, fun _ _ => rfl⟩
  case round =>
    obtain ⟨A, B, hAB, rfl, hJs, hsm⟩ := hrel
    have hlen : A.length + B.length = L.length := by rw [← hAB]; simp
    have HJs := hideP hJs
    have HS := hideP hsm
    clear hJs hsm
    rcases List.eq_nil_or_concat A with hA | ⟨A', r, hA⟩
    · subst hA
      have hB0 : B = L := by simpa using hAB
      subst hB0
      gi_wp2
      go_end0
      exact ⟨⟨_, rfl⟩, .inl ⟨_, rfl, HJs.out⟩⟩
    · rw [List.concat_eq_append] at hA
      subst hA
      have hAl : (((A' ++ [r]).length : Nat) : Int) - 1 = (A'.length : Nat) := by simp
      rw [hAl]
      have hlt : (A'.length : Int) < (L.length : Int) := by simp at hlen; omega
      have h0 := HL.out
      have hAB' : L = A' ++ r :: B := by rw [← hAB]; simp
      rw [hAB'] at h0
      obtain ⟨g, o, rfl, hg, hc, _⟩ := Ws.at h0
      have hcell : ∀ b c, b < N0 → wr.cell? ⟨b, c, none⟩ = W.cell? ⟨b, c, none⟩ := fun b c hb => by simp only [World.cell?, HS.out b hb]
      have b0 : wr.cell? ⟨Bx, 0, none⟩ = some (.slice (some ⟨g, o, none⟩) L.length sc) := (hcell Bx 0 hx).trans HB.out
      have hcw : Cl Wn.vals wr g (o + A'.length * 7) r := fun j hj => (hcell g _ (by omega)).trans (hc j hj)
      obtain ⟨a0, a1, a2, a3, a4, a5, a6⟩ := hcw.seven
      have hgl : g < wr.heap.size := World.block_lt_of_cell? wr _ a0
      have hBl : Bx < wr.heap.size := World.block_lt_of_cell? wr _ b0
      have HAB := hideP hAB'
      have hJr : J (dz (A'.length + 1) B) wr := by have := HJs.out; simpa using this
      obtain ⟨fn, tmps, assign, body, hy, hR⟩ := HY.out (dz (A'.length + 1) B) (A'.length, r) wr hJr (by rw [dz_len]; simp at hlen; omega)
      simp only [encW] at hy
      clear h0 hc hAB hAB' hcell hcw hAl
      gi_wp2
      refine ⟨(by intro h; cases h), hR.mono ?_⟩
      rintro e w4 (⟨rfl, hJ4, hk4⟩ | ⟨rfl, hJx4⟩)
      · have HJ4 := hideP hJ4
        have HK4 : Hid (Same N0 W w4) := hideP (fun b hb => (hk4 b hb).trans (HS.out b hb))
        clear hJ4 hk4 hR hy b0 a0 a1 a2 a3 a4 a5 a6 HS hJr
        gi_wp2
        go_roundw
        case rel => exact ⟨A', r :: B, HAB.out.symm, by go_num, HJ4.out, HK4.out⟩
        case measure => simp [intOf]
      · have HX4 := hideP hJx4
        clear hJx4 hR hy b0 a0 a1 a2 a3 a4 a5 a6 HS hJr
        gi_wp2
        go_returns
        exact ⟨⟨_, rfl⟩, .inr ⟨_, ⟨A', r, B, HAB.out, rfl⟩, HX4.out⟩⟩

theorem back_stops (n Bx N0 lo hi : Nat) (so : Option Addr) (sc : Nat) (L : List Wn) (w : World) (hn : L.length ≤ 1048576) (hN : N0 ≤ w.heap.size) (hx : Bx < N0) (hB : w.cell? ⟨Bx, 0, none⟩ = some (.slice so L.length sc)) (hL : Ws w lo hi so L) (hh : hi ≤ N0) :
    SeqStopsK Fence.wide n Try.prog 81 #[.pointer (some ⟨Bx, 0, none⟩)] encW (Same N0) (fun xs => xs = dz 0 L) (fun pre => ∃ A r B, L = A ++ r :: B ∧ pre = dz A.length (r :: B)) L.length w := fun l J Jx W hW hJ _ hY h0 =>
  back_in n l Bx N0 lo hi so sc L J Jx W hn (fun pre x W1 h1 h2 => hY pre x W1 h1 h2) hJ (Nat.le_trans hN hW.size) hx ((hW.cell (p := ⟨Bx, 0, none⟩) (by show Bx < _; omega)).trans hB) (hL.keep hW (by omega)) hh h0

set_option maxHeartbeats 400000 in
theorem back_any (so : Option Addr) (n sc : Nat) (w : World) :
    Calls Try.prog 50 #[.slice so n sc] w fun e w' => e = .returned (.func (.func 81) #[] #[.pointer (some ⟨w.heap.size, 0, none⟩)]) ∧ w' = w.alloc (.cells #[.slice so n sc] 26) := by
  go_enter Try.func50, Try.ntmps50
  go_wp2
  go_returns
  exact ⟨rfl, rfl⟩
end Go.Proofs.Ytoipcnpemmajaaa
