/- The points of a rectangle, row by row; the iterator that tells them. Marks among the deferred calls: what a range over a function leaves there, and how a frame goes out over them. -/
import Derived.Test.YtmmjannkfmiohaaTs33
import Derived.Test.YtmmjannkfmiohaaTs24
import Derived.RangeFuncNested
import Derived.RangeFuncBound
import Derived.RangeFuncCalls
import Derived.RangeFuncLeaves
import Derived.Shelf.Abstract
import Derived.Shelf.RegionOpen
import Derived.OwnWalkIn
import Derived.TacticsInMore
import Derived.LoopNIn
import Derived.LoopIn
import Derived.WalkMore
import Derived.Test.YtmmjannkfmiohaaTs4
import Derived.Test.YtmmjannkfmiohaaTs9
namespace Go.Proofs.Ytmmjannkfmiohaa
open Go.RowKit Go.Shelf
set_option linter.unusedVariables false
attribute [local go_sem] Oper.semAt_some

def rowPts (x y : Int) (n : Nat) : List (Int × Int) := (List.range n).map fun (i : Nat) => (x + i, y)
def rowsPts (x y : Int) (n m : Nat) : List (Int × Int) := (List.range m).flatMap fun (j : Nat) => rowPts x (y + j) n
theorem rowPts_len (x y : Int) (n : Nat) : (rowPts x y n).length = n := by simp [rowPts]
theorem rowPts_succ (x y : Int) (n : Nat) : rowPts x y (n + 1) = rowPts x y n ++ [(x + n, y)] := by simp [rowPts, List.range_succ]
theorem rowsPts_succ (x y : Int) (n m : Nat) : rowsPts x y n (m + 1) = rowsPts x y n m ++ rowPts x (y + m) n := by simp [rowsPts, List.range_succ]
theorem rowsPts_len (x y : Int) (n m : Nat) : (rowsPts x y n m).length = m * n := by
  induction m with
  | zero => simp [rowsPts]
  | succ m ih => rw [rowsPts_succ, List.length_append, ih, rowPts_len, Nat.succ_mul]
def ptsOf (r : Rc) : List (Int × Int) := rowsPts r.x r.y r.w.toNat r.h.toNat

theorem rowPts_pre (x y : Int) {i n : Nat} (h : i ≤ n) : rowPts x y i <+: rowPts x y n := by
  induction n with
  | zero => obtain rfl : i = 0 := by omega
            exact List.prefix_refl _
  | succ n ih =>
    by_cases e : i = n + 1
    · subst e; exact List.prefix_refl _
    · rw [rowPts_succ]; exact (ih (by omega)).trans (List.prefix_append _ _)
theorem rowsPts_pre (x y : Int) {n j m : Nat} (h : j ≤ m) : rowsPts x y n j <+: rowsPts x y n m := by
  induction m with
  | zero => obtain rfl : j = 0 := by omega
            exact List.prefix_refl _
  | succ m ih =>
    by_cases e : j = m + 1
    · subst e; exact List.prefix_refl _
    · rw [rowsPts_succ]; exact (ih (by omega)).trans (List.prefix_append _ _)
theorem pts_pre (x y : Int) {n i j m : Nat} (hj : j < m) (hi : i ≤ n) : rowsPts x y n j ++ rowPts x (y + j) i <+: rowsPts x y n m := by
  refine List.IsPrefix.trans ?_ (rowsPts_pre x y (show j + 1 ≤ m by omega))
  rw [rowsPts_succ]
  exact (List.prefix_append_right_inj _).2 (rowPts_pre _ _ hi)

theorem pts_len (x y : Int) {n i j m : Nat} (hj : j < m) (hi : i < n) : (rowsPts x y n j ++ rowPts x (y + j) i).length < m * n := by
  rw [List.length_append, rowsPts_len, rowPts_len]
  have h1 : (j + 1) * n ≤ m * n := Nat.mul_le_mul_right n hj
  rw [Nat.succ_mul] at h1
  omega

theorem wpIn_scope_wide {P : Program} {n : Nat} {c : Code} {Q : Exit → Act → World → Prop} {a : Act} {w : World} (h : c.wpIn Fence.wide n P (Exit.noGoto Q) a w) : (Code.scope c).wpIn Fence.wide n P Q a w :=
  wpIn_wide.2 (wp_scope_straight ((wpIn_wide (n := n)).1 h))

theorem abide_below {J : List (Int × Int) → World → Prop} {B : Nat} {pre : List (Int × Int)} {W W' : World} (hJ : AbidesFrom B J) (h : J pre W) (k : Below W.heap.size W W') : J pre W' :=
  hJ pre W W' none h ⟨k.os, k.tape, k.output, k.size, fun i hi _ => k.block i hi⟩ (fun r e => by cases e)

def encP (p : Int × Int) : Array Value := #[.int .i64 p.1, .int .i64 p.2]

set_option maxHeartbeats 400000 in
theorem ptsOf_any (x y ww hh : Int) (w : World) :
    Calls Try.prog 27 #[.agg #[.int .i64 x, .int .i64 y, .int .i64 ww, .int .i64 hh]] w fun e w' => e = .returned (.func (.func 48) #[] #[.pointer (some ⟨w.heap.size, 0, none⟩)]) ∧ w' = w.alloc (.cells #[.int .i64 x, .int .i64 y, .int .i64 ww, .int .i64 hh] 45) := by
  go_enter Try.func27, Try.ntmps27
  go_wp2
  go_returns
  exact ⟨rfl, rfl⟩

set_option maxRecDepth 100000 in
set_option maxHeartbeats 4000000 in
theorem pts1_in (n l Br : Nat) (r : Rc) (hf : rfB r.x r.y r.w r.h = false) (J Jx : List (Int × Int) → World → Prop) (W : World)
    (hY : ∀ pre x W1, J pre W1 → pre.length < r.h.toNat * r.w.toNat → pre ++ [x] <+: ptsOf r → YieldAt Fence.wide (n - 1) Try.prog l #[.int .i64 x.1, .int .i64 x.2] W1 fun e W' =>
      (e = .returned (.bool true) ∧ J (pre ++ [x]) W' ∧ W'.heap[Br]? = W1.heap[Br]?) ∨ (e = .returned (.bool false) ∧ Jx (pre ++ [x]) W'))
    (hJ : AbidesFrom W.heap.size J) (hB : W.heap[Br]? = some (.cells #[.int .i64 r.x, .int .i64 r.y, .int .i64 r.w, .int .i64 r.h] 45 (0, 0))) (h0 : J [] W) :
    CallsIn Fence.wide n Try.prog 48 #[.func (.yield l) #[] #[], .pointer (some ⟨Br, 0, none⟩)] W fun e W' => (∃ v, e = .returned v) ∧
      ((∃ ys, ys = ptsOf r ∧ J ys W') ∨ (∃ pre, pre <+: ptsOf r ∧ Jx pre W')) := by
  have Hf := hideP hf
  obtain ⟨⟨h1, h2⟩, ⟨h3, h4⟩, ⟨h5, h6⟩, h7, h8⟩ := rfB_no hf
  clear hf
  have HY := hideP hY
  have HJ := hideP hJ
  have HB := hideP hB
  have H0 := hideP h0
  have c0 : W.cell? ⟨Br, 0, none⟩ = some (.int .i64 r.x) := by rw [cell_of_row W Br 0 _ _ _ hB]; rfl
  have c1 : W.cell? ⟨Br, 1, none⟩ = some (.int .i64 r.y) := by rw [cell_of_row W Br 1 _ _ _ hB]; rfl
  have c2 : W.cell? ⟨Br, 2, none⟩ = some (.int .i64 r.w) := by rw [cell_of_row W Br 2 _ _ _ hB]; rfl
  have c3 : W.cell? ⟨Br, 3, none⟩ = some (.int .i64 r.h) := by rw [cell_of_row W Br 3 _ _ _ hB]; rfl
  clear hY hJ hB h0
  refine callsIn_of_wp Try.func48 rfl trivial ?_ rfl
  simp only [Try.ntmps48, List.size_toArray, List.length_cons, List.length_nil, Nat.reduceAdd, Nat.reduceSub, Array.replicate_succ, Array.replicate_zero, List.push_toArray, List.append_toArray, List.nil_append, List.cons_append]
  refine wpIn_scope_wide ?_
  gi_wp2
  refine wpIn_label ?_
  gi_wp2
  gi_loopw [3] (fun i wr => ∃ j : Nat, j ≤ r.h.toNat ∧ i = .int .i64 (r.y + j) ∧ J (rowsPts r.x r.y r.w.toNat j) wr ∧ wr.heap[Br]? = W.heap[Br]?) (fun i _ => (r.y + r.h - intOf i).toNat)
  case atStart => exact ⟨0, Nat.zero_le _, by simp, H0.out, rfl⟩
  case round =>
    obtain ⟨j, hj, rfl, hJs, hbx⟩ := hrel
    have HJs := hideP hJs
    have HBx := hideP (hbx.trans HB.out)
    clear hJs hbx c0 c1 c2 c3
    have c0 : wr.cell? ⟨Br, 0, none⟩ = some (.int .i64 r.x) := by rw [cell_of_row wr Br 0 _ _ _ HBx.out]; rfl
    have c1 : wr.cell? ⟨Br, 1, none⟩ = some (.int .i64 r.y) := by rw [cell_of_row wr Br 1 _ _ _ HBx.out]; rfl
    have c2 : wr.cell? ⟨Br, 2, none⟩ = some (.int .i64 r.w) := by rw [cell_of_row wr Br 2 _ _ _ HBx.out]; rfl
    have c3 : wr.cell? ⟨Br, 3, none⟩ = some (.int .i64 r.h) := by rw [cell_of_row wr Br 3 _ _ _ HBx.out]; rfl
    have hBr : Br < wr.heap.size := (Array.getElem?_eq_some_iff.1 HBx.out).1
    by_cases hlt : j < r.h.toNat
    · have hlt' : r.y + (j : Int) < r.y + r.h := by omega
      gi_wp2_with (refine ⟨trivial, (by intro h; cases h), ?_⟩; refine (callsIn_wide.2 (le_any _ _ _ _ _ Hf.out)).mono ?_; rintro e w1 ⟨rfl, k1⟩; have hc1 := Kept.cell k1)
      have HJ1 := hideP (abide_below HJ.out HJs.out k1)
      have HB1 := hideP ((k1.block Br hBr).trans HBx.out)
      clear k1 hc1 c0 c1 c2 c3 HJs HBx hBr
      gi_loopw [4] (fun x wr => ∃ i : Nat, i ≤ r.w.toNat ∧ x = .int .i64 (r.x + i) ∧ J (rowsPts r.x r.y r.w.toNat j ++ rowPts r.x (r.y + j) i) wr ∧ wr.heap[Br]? = w1.heap[Br]?) (fun x _ => (r.x + r.w - intOf x).toNat)
      case atStart => exact ⟨0, Nat.zero_le _, by simp, by simpa [rowPts] using HJ1.out, rfl⟩
      case round =>
        obtain ⟨i, hi, rfl, hJs, hbx⟩ := hrel
        have HJs := hideP hJs
        have HBx := hideP (hbx.trans HB1.out)
        clear hJs hbx
        have c0 : wr.cell? ⟨Br, 0, none⟩ = some (.int .i64 r.x) := by rw [cell_of_row wr Br 0 _ _ _ HBx.out]; rfl
        have c1 : wr.cell? ⟨Br, 1, none⟩ = some (.int .i64 r.y) := by rw [cell_of_row wr Br 1 _ _ _ HBx.out]; rfl
        have c2 : wr.cell? ⟨Br, 2, none⟩ = some (.int .i64 r.w) := by rw [cell_of_row wr Br 2 _ _ _ HBx.out]; rfl
        have c3 : wr.cell? ⟨Br, 3, none⟩ = some (.int .i64 r.h) := by rw [cell_of_row wr Br 3 _ _ _ HBx.out]; rfl
        have hBr : Br < wr.heap.size := (Array.getElem?_eq_some_iff.1 HBx.out).1
        by_cases hlt2 : i < r.w.toNat
        · have hlt2' : r.x + (i : Int) < r.x + r.w := by omega
          gi_wp2_with (refine ⟨trivial, (by intro h; cases h), ?_⟩; refine (callsIn_wide.2 (re_any _ _ _ _ _ Hf.out)).mono ?_; rintro e w3 ⟨rfl, k3⟩; obtain ⟨fn, tmps, assign, body, hy, hR⟩ := HY.out _ (r.x + (i : Int), r.y + (j : Int)) w3 (abide_below HJ.out HJs.out k3) (pts_len _ _ hlt hlt2) (by rw [List.append_assoc, ← rowPts_succ]; exact pts_pre _ _ hlt hlt2); dsimp only at hy)
          refine ⟨(by intro h; cases h), hR.mono ?_⟩
          have HB3 := hideP ((k3.block Br hBr).trans HBx.out)
          rintro e w4 (⟨rfl, hJ4, hk4⟩ | ⟨rfl, hJx4⟩)
          · have HJ4 := hideP hJ4
            have HK4 := hideP (hk4.trans (HB3.out.trans HB1.out.symm))
            clear hJ4 hk4 hR hy k3 c0 c1 c2 c3
            gi_wp2
            go_roundw
            case rel => exact ⟨i + 1, by omega, by go_num, by rw [rowPts_succ, ← List.append_assoc]; exact HJ4.out, HK4.out⟩
            case measure => simp [intOf]; omega
          · have HX4 := hideP hJx4
            clear hJx4 hR hy k3 c0 c1 c2 c3
            gi_wp2
            rw [Exit.noGoto_normal]
            go_end0
            exact ⟨⟨_, rfl⟩, .inr ⟨_, by rw [List.append_assoc, ← rowPts_succ]; exact pts_pre _ _ hlt hlt2, HX4.out⟩⟩
        · obtain rfl : i = r.w.toNat := by omega
          have hge : ¬ r.x + (r.w.toNat : Int) < r.x + r.w := by omega
          gi_wp2_with (refine ⟨trivial, (by intro h; cases h), ?_⟩; refine (callsIn_wide.2 (re_any _ _ _ _ _ Hf.out)).mono ?_; rintro e w3 ⟨rfl, k3⟩)
          have HJ3 := hideP (abide_below HJ.out HJs.out k3)
          have HB3 := hideP (((k3.block Br hBr).trans HBx.out).trans HB.out.symm)
          go_roundw
          case rel => exact ⟨j + 1, by omega, by go_num, by rw [rowsPts_succ]; exact HJ3.out, HB3.out⟩
          case measure => simp [intOf]; omega
    · obtain rfl : j = r.h.toNat := by omega
      have hge : ¬ r.y + (r.h.toNat : Int) < r.y + r.h := by omega
      gi_wp2_with (refine ⟨trivial, (by intro h; cases h), ?_⟩; refine (callsIn_wide.2 (le_any _ _ _ _ _ Hf.out)).mono ?_; rintro e w1 ⟨rfl, k1⟩)
      have HJ1 := hideP (abide_below HJ.out HJs.out k1)
      rw [Exit.noGoto_normal]
      go_end0
      exact ⟨⟨_, rfl⟩, .inl ⟨_, rfl, HJ1.out⟩⟩

theorem pts_stops (n Br : Nat) (r : Rc) (hf : rfB r.x r.y r.w r.h = false) (w : World) (hlt : Br < w.heap.size) (hB : w.heap[Br]? = some (.cells #[.int .i64 r.x, .int .i64 r.y, .int .i64 r.w, .int .i64 r.h] 45 (0, 0))) :
    SeqStopsK Fence.wide n Try.prog 48 #[.pointer (some ⟨Br, 0, none⟩)] encP (fun A B => B.heap[Br]? = A.heap[Br]?) (fun xs => xs = ptsOf r) (fun pre => pre <+: ptsOf r) (r.h.toNat * r.w.toNat) w := fun l J Jx W hW hJ _ hY h0 =>
  pts1_in n l Br r hf J Jx W (fun pre x W1 h1 h2 _ => hY pre x W1 h1 h2) hJ ((hW.block Br hlt).trans hB) h0

end Go.Proofs.Ytmmjannkfmiohaa

namespace Go.Proofs.Ytmmjannkfmiohaa
open Go.RowKit Go.Shelf
set_option linter.unusedVariables false

def marks (Ds : List Nat) : List Deferred := Ds.map fun D => { target := .collected D, args := #[] }

/-- Ds are blocks from lo on that hold marks; none twice. -/
structure Mks (w : World) (lo : Nat) (Ds : List Nat) : Prop where
  at_ : ∀ D ∈ Ds, lo ≤ D ∧ D < w.heap.size ∧ w.heap[D]? = some (.deferred (some []))
  once : Ds.Nodup

theorem Mks.nil (w : World) (lo : Nat) : Mks w lo [] := ⟨fun D h => (by cases h), List.nodup_nil⟩
theorem Mks.cons {w : World} {lo D : Nat} {Ds : List Nat} (h : Mks w lo Ds) (hD : w.heap[D]? = some (.deferred (some []))) (hlo : lo ≤ D) (hn : ∀ E ∈ Ds, E < D) : Mks w lo (D :: Ds) := by
  refine ⟨fun E hE => ?_, List.nodup_cons.2 ⟨fun hm => Nat.lt_irrefl _ (hn D hm), h.once⟩⟩
  rcases List.mem_cons.1 hE with rfl | hE
  · exact ⟨hlo, (Array.getElem?_eq_some_iff.1 hD).1, hD⟩
  · exact h.at_ E hE
theorem Mks.turn {w w' : World} {lo b : Nat} {Ds : List Nat} (h : Mks w lo Ds) (t : Turn b w w') (hb : b < lo) : Mks w' lo Ds :=
  ⟨fun D hD => by obtain ⟨h1, h2, h3⟩ := h.at_ D hD; exact ⟨h1, Nat.lt_of_lt_of_le h2 t.size, (t.block D h2 (by omega)).trans h3⟩, h.once⟩

/-- A frame on its way out over marks alone. -/
theorem leave_marks {F : Fence} {n : Nat} {P : Program} {fn : Func} {tmps : Array Value} {R : Ending → World → Prop} (lo : Nat) (Ds : List Nat) : ∀ (w : World), Mks w lo Ds → lo ≤ w.heap.size →
    (∀ w', Below lo w w' → LeavesInM F n P fn tmps R [] .returning w') → LeavesInM F n P fn tmps R (marks Ds) .returning w := by
  induction Ds with
  | nil => intro w _ _ h; exact h w (Below.refl _ _)
  | cons D Ds ih =>
    intro w hM hlo h
    obtain ⟨h1, h2, h3⟩ := hM.at_ D (by simp)
    have hb : Below lo w (w.putObj D (.deferred none)) := ⟨rfl, rfl, rfl, by simp, fun k hk => World.putObj_heap_other (by omega)⟩
    refine ⟨by simp, .inl ⟨D, w.putObj D (.deferred none), rfl, run_takeDeferred h3, ih _ ⟨fun E hE => ?_, (List.nodup_cons.1 hM.once).2⟩ (by simpa using hlo) fun w' k => h w' (hb.trans k)⟩⟩
    obtain ⟨g1, g2, g3⟩ := hM.at_ E (by simp [hE])
    have hne : E ≠ D := fun e => (List.nodup_cons.1 hM.once).1 (e ▸ hE)
    exact ⟨g1, by simpa using g2, (World.putObj_heap_other hne).trans g3⟩

/-- Which points the iterator tells. -/
theorem mem_rowPts {x y p q : Int} {n : Nat} : (p, q) ∈ rowPts x y n ↔ x ≤ p ∧ p < x + n ∧ q = y := by
  unfold rowPts
  simp only [List.mem_map, List.mem_range, Prod.mk.injEq]
  constructor
  · rintro ⟨i, hi, rfl, rfl⟩; omega
  · rintro ⟨h1, h2, rfl⟩; exact ⟨(p - x).toNat, by omega, by omega, rfl⟩
theorem mem_rowsPts {x y p q : Int} {n m : Nat} : (p, q) ∈ rowsPts x y n m ↔ x ≤ p ∧ p < x + n ∧ y ≤ q ∧ q < y + m := by
  unfold rowsPts
  simp only [List.mem_flatMap, List.mem_range, mem_rowPts]
  constructor
  · rintro ⟨j, hj, h1, h2, rfl⟩; omega
  · rintro ⟨h1, h2, h3, h4⟩; exact ⟨(q - y).toNat, by omega, h1, h2, by omega⟩
theorem mem_pts {r : Rc} (hf : rfB r.x r.y r.w r.h = false) (p q : Int) : (p, q) ∈ ptsOf r ↔ inB r.x r.y r.w r.h p q = true := by
  obtain ⟨_, _, h3, h4⟩ := rfB_no hf
  unfold ptsOf inB
  rw [mem_rowsPts, decide_eq_true_iff]
  omega

end Go.Proofs.Ytmmjannkfmiohaa
