/- NextId: both, and the law's walk. A window made: where there is none, by the program. Regions in open order: one of two that come up; what leaves no value. A window made: by the program. -/
import Derived.Test.YtmmjannkfmiohaaTs19
import Derived.Test.YtmmjannkfmiohaaTs4
import Derived.Test.YtmmjannkfmiohaaTs10
namespace Go.Proofs.Ytmmjannkfmiohaa
open Go.RowKit Go.Maps
set_option linter.unusedVariables false
attribute [local go_sem high] fI0 fI1

theorem nxC_no {L : List Int} {s : Int} (h : ¬ askF L s = 0) : nxC L s = askF L s := by unfold nxC; rw [if_neg h]
theorem nxV_no {L : List Int} {s : Int} (h : ¬ askF L s = 0) : nxV L s = 0 := by unfold nxV; rw [if_neg h]
theorem nxC_yes {L : List Int} {s : Int} (h : askF L s = 0) : nxC L s = if nxt L s = -1 then 7 else 0 := by unfold nxC; rw [if_pos h]
theorem nxV_yes {L : List Int} {s : Int} (h : askF L s = 0) : nxV L s = if nxt L s = -1 then 0 else nxt L s := by unfold nxV; rw [if_pos h]

end Go.Proofs.Ytmmjannkfmiohaa

namespace Go.Proofs.Ytmmjannkfmiohaa
open Go.RowKit Go.Maps
set_option linter.unusedVariables false

theorem nxt_neg {L : List Int} {s : Int} (hs : 0 ≤ s) (e : nxt L s < 0) : nxt L s = -1 := by
  unfold nxt at e ⊢
  repeat' split at e
  all_goals first | omega | (simp_all; done)

end Go.Proofs.Ytmmjannkfmiohaa

namespace Go.Proofs.Ytmmjannkfmiohaa
open Go.RowKit
set_option linter.unusedVariables false

section
variable {P : Program} {md : Region.Mode} {ops : Array Oper} {Q : Exit → Act → World → Prop} {S : World → Prop}
theorem held_two {i j : Nat} {oi oj : Oper} {fuel : Nat} {listed : Array Bool} {a : Act} {w : World} (hi : ops[i]? = some oi) (hj : ops[j]? = some oj) (hr : Region.ready md ops listed = [i, j]) (hw : Region.wanted oi (yielded ops a.tmps) = true) (hw' : Region.wanted oj (yielded ops a.tmps) = true)
    (h : oi.wp P a w (fun a' w' => S w' ∧ wpAnyH P md ops Q S fuel (listed.setIfInBounds i true) a' w') Q) (h' : oj.wp P a w (fun a' w' => S w' ∧ wpAnyH P md ops Q S fuel (listed.setIfInBounds j true) a' w') Q) : wpAnyH P md ops Q S (fuel + 1) listed a w :=
  wpAnyH_all hr (by simp) (fun k hk => by
    unfold wpOp
    simp only [List.mem_cons, List.not_mem_nil, or_false] at hk
    rcases hk with rfl | rfl
    · simp only [hi]; rw [if_pos hw]; exact .inl h
    · simp only [hj]; rw [if_pos hw']; exact .inl h')
end

theorem wp_of_skip {P : Program} {Q : Exit → Act → World → Prop} {o : Oper} {a : Act} {w w' : World} {K : Act → World → Prop} (h : (execOp a.eval o).run P w = .ok .skip w') (hk : K (a.put o.dst undef) w') : o.wp P a w K Q := by
  unfold Oper.wp
  rw [h]
  exact hk
end Go.Proofs.Ytmmjannkfmiohaa

namespace Go.Proofs.Ytmmjannkfmiohaa
open Go.RowKit Go.Maps
set_option linter.unusedVariables false

theorem wp_of_callsM {P : Program} {o : Oper} {a : Act} {w : World} {K : Act → World → Prop} {Q : Exit → Act → World → Prop} {f : FuncId} {args : Array Value} (h : (execOp a.eval o).run P w = .ok (.enter f args) w)
    (hc : Calls P f args w fun e w'' => ∃ v, e = .returned v ∧ K (a.put o.dst v) w'') : o.wp P a w K Q := by
  unfold Oper.wp
  rw [h]
  simp only [Oper.upon]
  exact hc.mono fun e w'' ⟨v, he, hk⟩ => by rw [he]; exact hk
theorem zeros_ownI {w : World} {base g n : Nat} (h : w.ownsRow base 2 1 (.slice (some ⟨g, 0, none⟩) n n) n (madeCells (Value.int .i64 0).cells (n * 1)).toList) : OwnR .i64 2 w base (some ⟨g, 0, none⟩) n (List.replicate n 0) := by
  have e : (madeCells (Value.int .i64 0).cells (n * 1)).toList = (List.replicate n 0).map (Value.int .i64) := by
    apply List.ext_getElem
    · simp [madeCells, Value.cells]
    · intro i h1 h2
      have hm : i % 1 = 0 := Nat.mod_one i
      simp [madeCells, Value.cells, hm]
  unfold OwnR
  rw [e] at h
  simpa using h
section
variable {V : Wn → List Value} {w w' : World} {lo lo' hi base : Nat} {so s : Option Addr} {bs : List Ci} {b : Ci} {L M : List Wn} {v : Wn} {c sc : Nat} {T : TypeId}
/-- Numbers that lie ahead of all others. -/
theorem Cis.early (h : Cis w lo hi bs) (hb : b.on w) (hi1 : b.L ≠ [] → lo' ≤ b.g ∧ b.g < lo) (hl : lo' ≤ lo) (hh : lo ≤ hi) : Cis w lo' hi (bs ++ [b]) := by
  refine ⟨fun c m => ?_, fun c m e => ?_, ?_⟩
  · rcases List.mem_append.1 m with m | m
    · exact h.each c m
    · obtain rfl : c = b := by simpa using m
      exact hb
  · rcases List.mem_append.1 m with m | m
    · have := h.inn c m e; omega
    · obtain rfl : c = b := by simpa using m
      have := hi1 e; omega
  · rw [List.pairwise_append]
    refine ⟨h.apart, List.pairwise_singleton _ _, fun c m d m' e1 e2 => ?_⟩
    obtain rfl : d = b := by simpa using m'
    have := h.inn c m e1
    have := hi1 e2
    omega
/-- One window more, its numbers made ahead of the row. -/
theorem LinV.plus (hV : ∀ v, (V v).length = 7) (hT : T ≠ 2) (h : LinV V T w base so sc L) (hb : base ≤ w.heap.size) (hon : v.b.on w) (hin : v.b.L ≠ [] → lo' ≤ v.b.g ∧ v.b.g < base) (hl : lo' ≤ base)
    (o' : OwnV V T w' base s c (L ++ [v])) (hg : w.grownBy w' (Value.ownBlock (.slice so L.length sc))) (k : Below base w w') : Wq V w' lo' w'.heap.size s (L ++ [v]) := by
  obtain ⟨g1, g2⟩ := h.cis.grown hT h.ty h.own hg
  have hz := k.size
  refine ⟨by omega, Nat.le_refl _, ?_, (o'.sp hV).wide hl (Nat.le_refl _), fun g e b m hn => ?_⟩
  · rw [List.map_append]
    exact (g1.wide (Nat.le_refl _) hz).early (Ci.on_keep hon k fun e => (hin e).2) hin hl (by omega)
  · rw [List.map_append, List.mem_append] at m
    rcases m with m | m
    · exact fun e2 => o'.other hT (g2 b m) hn (by rw [e2, e]; rfl)
    · obtain rfl : b = v.b := by simpa using m
      rcases o'.sp hV with h0 | ⟨g', ha, h3, _⟩
      · simp at h0
      · rw [e] at ha; cases ha; have := hin hn; omega
/-- Panes handed on as a stack. -/
theorem Wq.doneM (h : Wq Wn.pals w lo hi so L) (k : Below w.heap.size w w') (O : OwnV Wn.vals 47 w' w.heap.size s c L) : Wq Wn.vals w' lo w'.heap.size s L :=
  ⟨by have := h.le; have := h.hs; have := k.size; omega, Nat.le_refl _, (h.cis.keep k h.hs).wide (Nat.le_refl _) (Nat.le_trans h.hs k.size), (O.sp vals7).wide (by have := h.le; have := h.hs; omega) (Nat.le_refl _), fun g hg b m e e2 => by
    have h1 := h.cis.inn b m e
    have h2 := h.hs
    rcases O.sp vals7 with h0 | ⟨g', ha, h3, _⟩
    · rw [h0] at m; simp at m
    · rw [hg] at ha; cases ha; omega⟩
end
theorem mk_ok {C : List Wc} {s x y p h : Int} (e : mkZ C s x y p h = 0) : askS C s = 0 ∧ wrB x y p h = false ∧ ¬ nxt (C.map Wc.i) s < 0 := by
  unfold mkZ at e
  by_cases h1 : askS C s = 0
  · rw [if_pos h1] at e
    cases h2 : wrB x y p h
    · rw [h2] at e
      by_cases h3 : nxt (C.map Wc.i) s < 0
      · rw [if_pos h3] at e; simp at e
      · exact ⟨h1, rfl, h3⟩
    · rw [h2] at e; simp at e
  · rw [if_neg h1] at e; exact absurd e h1
theorem mkV_yes {C : List Wc} {s x y p h : Int} (e : mkZ C s x y p h = 0) : mkV C s x y p h = nxt (C.map Wc.i) s := by unfold mkV; rw [if_pos e]
theorem mkP_yes {C : List Wc} {s x y p h : Int} (e : mkZ C s x y p h = 0) : mkP C s x y p h = C ++ [⟨nxt (C.map Wc.i) s, x, y, p, h, false, List.replicate (p * h).toNat 0⟩] := by unfold mkP; rw [if_pos e]

end Go.Proofs.Ytmmjannkfmiohaa
