/- A body copied by the program, whatever it has. -/
import Derived.Test.YtngmiimendlleaaV16
import Derived.Test.YtngmiimendlleaaV19
import Derived.Laws.IdiomCopy
namespace Go.Proofs.Ytngmiimendlleaa
open Go.RowKit
set_option linter.unusedVariables false
attribute [local go_sem] growUpon growAt

/-- A new body. -/
structure NewB (w w' : World) (D : List Int) (b : Bd) : Prop where
  le : b.L = D
  on : b.on w'
  inn : b.L ≠ [] → w.heap.size ≤ b.g ∧ b.g < w'.heap.size
theorem NewB.keep {w w1 w' : World} {D : List Int} {b : Bd} (h : NewB w w1 D b) (k : Below w1.heap.size w1 w') : NewB w w' D b :=
  ⟨h.le, Bd.on_keep h.on k (fun e => (h.inn e).2), fun e => ⟨(h.inn e).1, Nat.lt_of_lt_of_le (h.inn e).2 k.size⟩⟩
theorem NewB.of_own {w w' : World} {ao : Option Addr} {cap : Nat} {D : List Int} (h : OwnR .u8 5 w' w.heap.size ao cap D) : ∃ g, NewB w w' D ⟨ao, cap, g, D⟩ := by
  obtain ⟨g, h1, h2⟩ := Bd.of_own h
  exact ⟨g, rfl, h1, h2⟩

set_option maxHeartbeats 1000000 in
theorem copy_none (ao : Option Addr) (ca : Nat) (w : World) :
    Calls Try.prog 41 #[.slice ao 0 ca] w fun e w' => e = .returned (.slice (some ⟨w.heap.size, 0, none⟩) 0 0) ∧ Below w.heap.size w w' := by
  obtain ⟨i0, hi0, hz0, hz1, hz2⟩ := info_parts Try.infoB
  have hsz : (Try.prog.info? 5).map (·.size) = some 1 := by rw [hi0]; simp [hz1]
  go_enter Try.func41, Try.ntmps41
  go_wp2_with (first | (at_make; refine wpList_make_full _ rfl _ _ 50 rfl w.heap.size 5 i0 (.int .u8 0) 1 Try.underlying50 hi0 hz0 hz1 .i64 .i64 _ _ 0 rfl rfl rfl rfl (by rw [hz2]; omega) (by unfold maxLen; omega) (Nat.le_refl _) ?_; intro w1 hown1 hgrow1; refine Hid.out ?_) | go_in)
  have K1 : Hid (Below w.heap.size w w1) := hideP ((Below.refl _ w).grown hgrow1 (Nat.le_refl _) (by simp))
  clear hown1 hgrow1
  refine hideP ?_
  have hrun := fun ty => run_copy_none (P := Try.prog) w1 50 50 ty 5 (some ⟨w.heap.size, 0, none⟩) ao 0 0 0 ca Try.underlying50 hsz rfl
  go_wp2
  go_returns
  exact ⟨rfl, K1.out⟩

theorem copyB_any (lo hi : Nat) (ao : Option Addr) (ca : Nat) (D : List Int) (w : World) (hR : Row .u8 w lo hi ao D) (hs : hi ≤ w.heap.size) (hl : D.length ≤ 1048576) :
    Calls Try.prog 41 #[.slice ao D.length ca] w fun e w' => ∃ b : Bd, e = .returned (.slice b.ao D.length b.cap) ∧ NewB w w' D b ∧ Below w.heap.size w w' := by
  by_cases hne : D = []
  · subst hne
    exact (copy_none ao ca w).mono fun e w' ⟨he, hb⟩ => ⟨⟨some ⟨w.heap.size, 0, none⟩, 0, 0, []⟩, he, ⟨rfl, Bd.on_nil _ _ rfl, fun h => absurd rfl h⟩, hb⟩
  · exact (copy_any lo hi ao ca D w hR hs hl hne).mono fun e w' ⟨he, ho, hb⟩ => by
      obtain ⟨g, hg⟩ := NewB.of_own ho
      exact ⟨_, he, hg, hb⟩

set_option maxRecDepth 100000 in
set_option maxHeartbeats 1000000 in
theorem copyM_any (lo hi : Nat) (k : Int) (ao : Option Addr) (ca : Nat) (D : List Int) (w : World) (hR : Row .u8 w lo hi ao D) (hs : hi ≤ w.heap.size) (hl : D.length ≤ 1048576) :
    Calls Try.prog 33 #[.agg #[.int .i64 k, .slice ao D.length ca]] w fun e w' => ∃ b : Bd, e = .returned (.agg #[.int .i64 k, .slice b.ao D.length b.cap]) ∧ NewB w w' D b ∧ Below w.heap.size w w' := by
  have CP := hideP (fun w1 (kk : Below w.heap.size w w1) => copyB_any lo hi ao ca D w1 (hR.keep kk hs) (by have := kk.size; omega) hl)
  clear hR
  go_enter Try.func33, Try.ntmps33
  go_wp2
  generalize hW : (w.alloc (.cells #[.int .i64 k, .slice ao D.length ca] 52)).alloc (.cells #[.int .i64 0, .slice none 0 0] 52) = W at *
  have kW : Hid (Below w.heap.size w W) := hideP (by rw [← hW]; exact ((Below.refl _ _).alloc (Nat.le_refl _) _).alloc (by simp) _)
  have X0 : Hid (Rb W w.heap.size (.int .i64 k) (.slice ao D.length ca)) := hideP (by rw [← hW]; exact ⟨by simp, by simp, by simp, by simp, by simp; omega⟩)
  have Y0 : Hid (Rb W (w.heap.size + 1) (.int .i64 0) (.slice none 0 0)) := hideP (by rw [← hW]; exact ⟨by simp, by simp, by simp, by simp, by simp⟩)
  have nW : W.heap.size = w.heap.size + 1 + 1 := by rw [← hW]; simp
  clear hW
  obtain ⟨p0, p1, p2, p3, p4⟩ := X0.out
  refine wp_region_made 4 (by kernel_rfl) (by kernel_rfl) ?_
  simp only [List.take_succ_cons, List.take_zero, List.drop_succ_cons, List.drop_zero]
  repeat (refine grow_step (by rfl) ?_; apply Exists.intro; refine ⟨fun w1 k1 => ?_, fun K hK => ?_⟩; (focus (have hc := Kept.cell k1; go_simp; first | done | rfl)); (go_simp; refine hK _ ?_; clear hK K))
  refine grow_nil ?_
  intro o1 ho1
  cases ho1
  refine ⟨by rfl, fun w1 k1 => ?_⟩
  have kk1 := Kept.below k1
  refine made_call (by go_simp; first | done | rfl) ((CP.out w1 (kW.out.trans (kk1.mono (by omega)))).mono ?_)
  rintro e w2 ⟨b, rfl, N2, k2⟩
  refine ⟨_, rfl, k2, fun w3 k3 => ?_⟩
  have kk3 := Kept.below k3
  have N3 := hideP (N2.keep kk3)
  have KW3 : Hid (Below W.heap.size W w3) := hideP (kk1.trans ((k2.trans (kk3.mono k2.size)).mono kk1.size))
  have K3 := hideP (kW.out.trans (KW3.out.mono (by omega)))
  have n1 := kk1.size
  have Y3 := Y0.out.keep KW3.out (by omega)
  clear k1 kk1 k2 N2 k3 kk3 p0 p1 p2 p3 p4
  obtain ⟨q0, q1, q2, q3, q4⟩ := Y3
  go_simp
  go_wp2
  refine bodyPost_ret (v := .agg #[.int .i64 k, .slice b.ao D.length b.cap]) (by simp [results, Try.results33, go_sem, *]) rfl ⟨b, rfl, ⟨N3.out.le, ?_, fun e => ?_⟩, ?_⟩
  · repeat (refine Bd.on_set ?_ _ _ (fun e => by have := (N3.out.inn e).1; dsimp only; omega))
    exact N3.out.on
  · have := N3.out.inn e
    simp only [World.size_setCell]
    omega
  · repeat' (first | exact K3.out | (with_reducible refine Below.setCell ?_ ?_ _) | go_size)
end Go.Proofs.Ytngmiimendlleaa
