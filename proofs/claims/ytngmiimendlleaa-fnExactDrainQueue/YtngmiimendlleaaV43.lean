/- QueueFault: the law's walk. -/
import Derived.Test.YtngmiimendlleaaV29
namespace Go.Proofs.Ytngmiimendlleaa
open Go.RowKit
set_option linter.unusedVariables false

/-- What a copy of a queue is, where it was told. -/
def CopyQ (w : World) (L : List Mg) (b : Bool) (w2 : World) (v : Value) : Prop := ∃ (s : Option Addr) (M : List Mg), v = .agg #[.slice s L.length L.length, .bool b] ∧ M.length = L.length ∧ mzs M = mzs L ∧ M.map Mg.ct = L.map Mg.ct ∧ QM w2 w.heap.size w2.heap.size none [] s M

theorem toQ_copy (lo hi : Nat) (so : Option Addr) (sc : Nat) (L : List Mg) (v : Bool) (w : World) (hL : Ms w lo hi so L) (hs : hi ≤ w.heap.size) (hn : L.length + mzs L ≤ 1048576) :
    Calls Try.prog 6 #[.agg #[.slice so L.length sc, .bool v]] w fun e w' => ∃ u, e = .returned u ∧ CopyQ w L v w' u ∧ Below w.heap.size w w' :=
  (toQ_any lo hi so sc L v w hL hs hn).mono fun e w' ⟨s, M, he, hc, hq, hb⟩ => ⟨_, he, ⟨s, M, by rw [len_ct hc], len_ct hc, mzs_ct hc, hc, hq⟩, hb⟩

theorem copyQ_made (lo hi : Nat) (so : Option Addr) (sc : Nat) (L : List Mg) (v : Bool) (w : World) (hL : Ms w lo hi so L) (hs : hi ≤ w.heap.size) (hn : L.length + mzs L ≤ 1048576) :
    Calls Try.prog 6 #[.agg #[.slice so L.length sc, .bool v]] w fun e w2 => ∃ u, e = .returned u ∧ Below w.heap.size w w2 ∧ CopyQ w L v w2 u :=
  (toQ_copy lo hi so sc L v w hL hs hn).mono fun e w' ⟨u, he, hc, hb⟩ => ⟨u, he, hb, hc⟩

def SaidYes (w2 : World) (v : Value) : Prop := v = .bool true

theorem true_made {P : Program} {f : FuncId} {args : Array Value} {w : World} (h : Calls P f args w fun e w' => e = .returned (.bool true) ∧ Below w.heap.size w w') :
    Calls P f args w fun e w2 => ∃ v, e = .returned v ∧ Below w.heap.size w w2 ∧ SaidYes w2 v := h.mono fun e w2 ⟨he, hb⟩ => ⟨_, he, hb, rfl⟩

theorem eqQ_n (n lo hi lo2 hi2 : Nat) (so so2 : Option Addr) (sc sc2 : Nat) (L M : List Mg) (v : Bool) (w : World) (h1 : L.length = n) (h2 : M.length = n) (hE : M.map Mg.ct = L.map Mg.ct) (hL : Ms w lo hi so L) (hM : Ms w lo2 hi2 so2 M) (h3 : hi ≤ w.heap.size) (h4 : hi2 ≤ w.heap.size) (hn : n + mzs L ≤ 1048576) :
    Calls Try.prog 9 #[.agg #[.slice so n sc, .bool v], .agg #[.slice so2 n sc2, .bool v]] w fun e w' => e = .returned (.bool true) ∧ Below w.heap.size w w' := by
  have h := eqQ_same lo hi lo2 hi2 so so2 sc sc2 L M v w hE hL hM h3 h4 (by omega)
  rw [h1, h2] at h
  exact h

theorem iQF_n (n lo hi : Nat) (so : Option Addr) (sc : Nat) (C : List (Int × List Int)) (M : List Mg) (v : Bool) (w : World) (h1 : M.length = n) (hc : M.map Mg.ct = C) (hL : Ms w lo hi so M) (hs : hi ≤ w.heap.size) (hn : n + mzs M ≤ 1048576) :
    Calls Try.prog 19 #[.agg #[.slice so n sc, .bool v]] w fun e w' => e = .returned (.int .i64 (qF C)) ∧ Below w.heap.size w w' := by
  have h := iQF_any lo hi so sc M v w hL hs (by omega)
  rw [h1, hc] at h
  exact h

theorem kalM (w : World) (o : Obj) : Below w.heap.size w (w.alloc o) := (Below.refl _ _).alloc (Nat.le_refl _) o

end Go.Proofs.Ytngmiimendlleaa
