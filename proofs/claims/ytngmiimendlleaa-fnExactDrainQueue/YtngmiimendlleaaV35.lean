/- The program's drain: any line. -/
import Derived.Test.YtngmiimendlleaaV33
import Derived.Test.YtngmiimendlleaaV34
namespace Go.Proofs.Ytngmiimendlleaa
open Go.RowKit
set_option linter.unusedVariables false
attribute [local go_sem] growUpon growAt
attribute [local go_sem high] run_min_mnQ smg_from_some smg_upto_some smg_from_none smg_upto_none

theorem copy_zero (w : World) (ty : TypeId) (s a : Option Addr) (c d : Nat) : (Builtin.copy_ #[26, 26] ty #[.slice s 0 c, .slice a 0 d]).run Try.prog w = .ok (goInt 0) w := by
  obtain ⟨i0, hi0, hz0, hz1, hz2⟩ := info_parts Try.infoM
  have hl : ∀ (x : Addr), (loadCells x 0).run Try.prog w = .ok #[] w := fun x => by simpa using run_loadCells_list (P := Try.prog) w x [] (by simp)
  cases s <;> cases a <;> simp [Builtin.copy_, run_underlying Try.underlying26, Builtin.lenOf, Builtin.firstCells, sizeOf, typeInfo, hi0, hl, storeCells]
theorem clear_zero (w : World) (ty : TypeId) (s : Option Addr) (c : Nat) : (Builtin.clear_ #[26] ty #[.slice s 0 c]).run Try.prog w = .ok (.tuple #[]) w := by
  cases s <;> simp [Builtin.clear_, run_underlying Try.underlying26]

set_option maxRecDepth 100000 in
set_option maxHeartbeats 2000000 in
theorem drain_nil (b base : Nat) (s : Option Addr) (v : Bool) (n : Int) (w : World) (hs : s = none ∨ ∃ g, s = some ⟨g, 0, none⟩ ∧ g < w.heap.size) (hR : Rb w b (.slice s 0 0) (.bool v)) (hb : base ≤ b) (hn : mnQ n 0 = 0) :
    Calls Try.prog 21 #[.pointer (some ⟨b, 0, none⟩), .int .i64 n] w fun e w' => ∃ s1 c1 s2 c2, e = .returned (.slice s1 0 c1) ∧ Rb w' b (.slice s2 0 c2) (.bool v) ∧ Below base w w' := by
  have hlt := hR.lt
  have HR := hideP hR
  rcases hs with rfl | ⟨g, rfl, hg⟩
  · have hcp := copy_zero
    have hcl := clear_zero
    obtain ⟨p0, p1, p2, p3, p4⟩ := hR
    go_enter Try.func21, Try.ntmps21
    go_wp2_with fail
    refine Calls.mono (cloneM_none w) ?_
    rintro e w1 ⟨rfl, rfl⟩
    go_wp2_with fail
    refine wp_region_kept_tail 10 (by kernel_rfl) (by kernel_rfl) ?_
    simp only [List.take_succ_cons, List.take_zero, List.drop_succ_cons, List.drop_zero]
    repeat (refine kept_step (by rfl) ?_; apply Exists.intro; refine ⟨fun w1 k1 => ?_, fun K hK => ?_⟩; (focus (have hc := Kept.cell k1; go_simp; first | done | rfl)); (go_simp; refine hK _ ?_; clear hK K))
    refine wpQuiet_nil ?_
    intro w2 k2
    have kk2 := Kept.below k2
    have R2 := hideP (HR.out.keep kk2 hlt)
    have K2 := hideP kk2
    clear k2 kk2 p0 p1 p2 p3 p4
    obtain ⟨p0, p1, p2, p3, p4⟩ := R2.out
    go_wp2_with fail
    go_returns
    exact ⟨none, 0, none, 0, rfl, R2.out.set0 _, (K2.out.mono (by omega)).setCell (p := ⟨b, 0, none⟩) hb _⟩
  · have hcp := copy_zero
    have hcl := clear_zero
    have CL := cloneM_some g 0 [] w (fun i hi => by simp at hi) hg (by simp)
    obtain ⟨p0, p1, p2, p3, p4⟩ := hR
    go_enter Try.func21, Try.ntmps21
    go_wp2_with fail
    clear p0 p1 p2 p3 p4
    refine Calls.mono CL ?_
    rintro e w1 ⟨s1, c1, rfl, S1, k1⟩
    have R1 := hideP (HR.out.keep k1 hlt)
    have K1 := hideP k1
    have n1 := k1.size
    clear S1 k1 HR CL
    obtain ⟨p0, p1, p2, p3, p4⟩ := R1.out
    go_wp2_with fail
    refine wp_region_kept_tail 10 (by kernel_rfl) (by kernel_rfl) ?_
    simp only [List.take_succ_cons, List.take_zero, List.drop_succ_cons, List.drop_zero]
    repeat (refine kept_step (by rfl) ?_; apply Exists.intro; refine ⟨fun w1 k1 => ?_, fun K hK => ?_⟩; (focus (have hc := Kept.cell k1; go_simp; first | done | rfl)); (go_simp; refine hK _ ?_; clear hK K))
    refine wpQuiet_nil ?_
    intro w2 k2
    have kk2 := Kept.below k2
    have R2 := hideP (R1.out.keep kk2 p4)
    have K2 := hideP (K1.out.trans (kk2.mono n1))
    clear k2 kk2 p0 p1 p2 p3 p4 R1 K1
    obtain ⟨p0, p1, p2, p3, p4⟩ := R2.out
    go_wp2_with fail
    go_returns
    exact ⟨s1, c1, some ⟨g, 0, none⟩, 0, rfl, R2.out.set0 _, (K2.out.mono (by omega)).setCell (p := ⟨b, 0, none⟩) hb _⟩

/-- Two lists of messages, at once. -/
theorem Bods.join {w : World} {lo mid hi : Nat} {A B : List Bd} (h : Bods w lo mid A) (k : Bods w mid hi B) (h1 : lo ≤ mid) (h2 : mid ≤ hi) : Bods w lo hi (A ++ B) :=
  ⟨fun b m => (List.mem_append.1 m).elim (h.each b) (k.each b), fun b m e => (List.mem_append.1 m).elim (fun m => by have := h.inn b m e; omega) (fun m => by have := k.inn b m e; omega),
    List.pairwise_append.2 ⟨h.apart, k.apart, fun a ha b hb ea eb => by have := h.inn a ha ea; have := k.inn b hb eb; omega⟩⟩
theorem SpM.apart {w : World} {lo mid hi : Nat} {s1 s2 : Option Addr} {L1 L2 : List Mg} (h : SpM w lo mid s1 L1) (k : SpM w mid hi s2 L2) : L1 ≠ [] → L2 ≠ [] → s1 ≠ s2 := fun a b e => by
  rcases h with h | ⟨g, rfl, _, h2, _⟩
  · exact a h
  · rcases k with k | ⟨g', e', h3, _⟩
    · exact b k
    · rw [e'] at e; cases e; omega

theorem drain_any (b base : Nat) (s : Option Addr) (c : Nat) (M : List Mg) (v : Bool) (n : Int) (k m : Nat) (w : World) (hR : Rb w b (.slice s M.length c) (.bool v)) (hL : Lin w base s c M) (hb : base ≤ b) (hbs : base ≤ w.heap.size) (hM : M.length ≤ 1000) (hm : M.length = k + m) (hn : mnQ n (M.length : Int) = (k : Int)) :
    Calls Try.prog 21 #[.pointer (some ⟨b, 0, none⟩), .int .i64 n] w fun e w' => ∃ s1 c1 s2 c2, e = .returned (.slice s1 k c1) ∧ Rb w' b (.slice s2 m c2) (.bool v) ∧ QM w' base w'.heap.size s1 (M.take k) s2 (M.drop k) ∧ Below base w w' := by
  by_cases hne : M = []
  · subst hne
    have hc := hL.own.z rfl
    subst hc
    obtain rfl : k = 0 := by simp at hm; omega
    obtain rfl : m = 0 := by simp at hm; omega
    have hs : s = none ∨ ∃ g, s = some ⟨g, 0, none⟩ ∧ g < w.heap.size := by
      rcases hL.own.row.2 with ⟨hv, _⟩ | ⟨g, cap, cur, hv, h1, h2, _⟩
      · cases hv; exact .inl rfl
      · cases hv; exact .inr ⟨g, rfl, (Array.getElem?_eq_some_iff.1 h2).1⟩
    exact (drain_nil b base s v n w hs hR hb hn).mono fun e w' ⟨s1, c1, s2, c2, he, hR', hb'⟩ => ⟨s1, c1, s2, c2, he, hR', ⟨by have := hb'.size; omega, Nat.le_refl _, by simpa using Bods.nil _ _ _, .inl rfl, .inl rfl, fun h => absurd rfl h⟩, hb'⟩
  · obtain ⟨g, cap', hv, _, _⟩ := World.ownsRow.form hL.own.row (List.length_pos_iff.2 hne)
    cases hv
    have hg : g < w.heap.size := (World.ownsRow.lt hL.own.row g rfl).2
    refine (drain_some b base g c M v n k w hR hL.own.row hL.bods hb hne hM m hm hn).mono fun e w' ⟨s1, c1, he, hR', S1, S2, B', hb'⟩ => ⟨s1, c1, _, c, he, hR', ⟨by have := hb'.size; omega, Nat.le_refl _, ?_, S1.wide (by omega) (Nat.le_refl _), S2.wide (Nat.le_refl _) hb'.size, fun a b e => (SpM.apart S2 S1) b a e.symm⟩, hb'⟩
    rw [List.take_append_drop]
    exact B'.wide (Nat.le_refl _) hb'.size
end Go.Proofs.Ytngmiimendlleaa
