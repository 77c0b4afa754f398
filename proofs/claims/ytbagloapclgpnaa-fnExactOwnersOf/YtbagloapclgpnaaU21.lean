/- A map from points to places. IdsFault and NextId, the program's and the model's. -/
import Derived.Test.YtbagloapclgpnaaU20
import Derived.Maps.OwnSet
import Derived.Maps.OwnIn
import Derived.DeepKeys4
namespace Go.Proofs.Ytbagloapclgpnaa
open Go.RowKit Go.Maps
set_option linter.unusedVariables false

theorem Try.laidP : laidOutB Try.prog = true := by kernel_rfl
theorem Try.rowPt : (94 : TypeId) < Try.prog.types.size := of_decide_eq_true (by kernel_rfl)
theorem Try.widePt : (match Try.prog.underlying 94 with | some (.array _ _) | some (.struct _) => true | _ => false) = true := by rw [Try.underlying94]
set_option maxRecDepth 100000 in
theorem Try.keyPt : Keyed Try.prog 94 := Keyed.of_law (deep_law_laid Try.laidP (m := 2) (by omega) Try.rowPt (by kernel_rfl) Try.widePt)
theorem Try.sizeTy : ∃ n, Try.prog.types.size + 1 = n + 2 := ⟨Try.prog.types.size - 1, by have : 0 < Try.prog.types.size := of_decide_eq_true (by kernel_rfl); omega⟩
theorem Try.cellsPt : Try.prog.cellsOf 94 = 2 := by kernel_rfl
theorem Try.cells64 : Try.prog.cellsOf 2 = 1 := by kernel_rfl

theorem key_pt (x y : Int) (hx : (Lit.int .i64 x).wf = true) (hy : (Lit.int .i64 y).wf = true) : ∃ kl, keyOf Try.prog 94 (.agg #[.int .i64 x, .int .i64 y]) = some kl := by
  obtain ⟨n, hn⟩ := Try.sizeTy
  have hk : Try.prog.keyType 94 = true := by kernel_rfl
  have hf : (Value.agg #[.int .i64 x, .int .i64 y]).formed Try.prog 94 = true := by simp [Value.formed, Try.underlying94, Try.cellsPt]
  have h2 : Try.prog.keyLits (n + 2) 94 [.int .i64 x, .int .i64 y] = some [.int .i64 x, .int .i64 y] := by
    simp [Program.keyLits, Try.underlying94, Try.underlying2, Try.cellsPt, Try.cells64, hx, hy]
  refine ⟨.string (keyBytes [.int .i64 x, .int .i64 y]), ?_⟩
  unfold keyOf
  rw [Try.underlying94]
  have e : (Value.agg #[.int .i64 x, .int .i64 y]).cells.toList = [.int .i64 x, .int .i64 y] := by rfl
  simp only [hk, hf, Bool.and_self, if_true, e]
  rw [hn, h2]
  rfl

/-- Block b is a map of at most n points; f says which and where they lead. -/
def Omp (w : World) (b n : Nat) (f : Int → Int → Option Int) : Prop :=
  ∃ D : DataW Unit, w.ownsMap Try.prog 94 (plainElem Try.prog 3) b n D ∧ ∀ x y kl, (Lit.int .i64 x).wf = true → (Lit.int .i64 y).wf = true → keyOf Try.prog 94 (.agg #[.int .i64 x, .int .i64 y]) = some kl →
    Maps.has D kl = (f x y).isSome ∧ D.atKey kl (.lit (.int .i64 0)) = .lit (.int .i64 ((f x y).getD 0))

theorem Omp.keep {w w' : World} {b n B : Nat} {f : Int → Int → Option Int} (h : Omp w b n f) (k : Below B w w') (hb : b < B) : Omp w' b n f := by
  obtain ⟨D, ⟨es, clock, hbk, r⟩, hf⟩ := h
  exact ⟨D, ⟨es, clock, (k.block b hb).trans hbk, r⟩, hf⟩
theorem Omp.same {w w' : World} {b n : Nat} {f : Int → Int → Option Int} (h : Omp w b n f) (e : w'.heap[b]? = w.heap[b]?) : Omp w' b n f := by
  obtain ⟨D, ⟨es, clock, hbk, r⟩, hf⟩ := h
  exact ⟨D, ⟨es, clock, e.trans hbk, r⟩, hf⟩
theorem Omp.lt {w : World} {b n : Nat} {f : Int → Int → Option Int} (h : Omp w b n f) : b < w.heap.size := by
  obtain ⟨D, ⟨es, clock, hbk, r⟩, hf⟩ := h
  exact (Array.getElem?_eq_some_iff.1 hbk).1
theorem Omp.as {w : World} {b n : Nat} {f g : Int → Int → Option Int} (h : Omp w b n f) (e : ∀ x y, f x y = g x y) : Omp w b n g := by
  have : f = g := funext fun x => funext fun y => e x y
  rw [← this]; exact h
theorem Omp.mono {w : World} {b n m : Nat} {f : Int → Int → Option Int} (h : Omp w b n f) (hm : n ≤ m) : Omp w b m f := by
  obtain ⟨D, h1, h2⟩ := h
  exact ⟨D, h1.mono hm, h2⟩

def putO (f : Int → Int → Option Int) (x y v : Int) : Int → Int → Option Int := fun p q => if p = x ∧ q = y then some v else f p q

theorem point_inj {x y p q : Int} {kl : Lit} (h : keyOf Try.prog 94 (.agg #[.int .i64 x, .int .i64 y]) = some kl) (h2 : keyOf Try.prog 94 (.agg #[.int .i64 p, .int .i64 q]) = some kl) : p = x ∧ q = y := by
  have e := Try.keyPt.inj h2 h
  injection e with e
  have e2 := congrArg Array.toList e
  simp at e2
  exact e2

/-- One point more. -/
theorem omp_put {w' : World} {b n : Nat} {f : Int → Int → Option Int} {D : DataW Unit} {x y v : Int} {kl : Lit} (hx : (Lit.int .i64 x).wf = true) (hy : (Lit.int .i64 y).wf = true) (hk : keyOf Try.prog 94 (.agg #[.int .i64 x, .int .i64 y]) = some kl) (hm : IsMap D)
    (hf : ∀ x y kl, (Lit.int .i64 x).wf = true → (Lit.int .i64 y).wf = true → keyOf Try.prog 94 (.agg #[.int .i64 x, .int .i64 y]) = some kl → Maps.has D kl = (f x y).isSome ∧ D.atKey kl (.lit (.int .i64 0)) = .lit (.int .i64 ((f x y).getD 0)))
    (ho : w'.ownsMap Try.prog 94 (plainElem Try.prog 3) b (n + 1) (D.put kl (.lit (.int .i64 v)))) : Omp w' b (n + 1) (putO f x y v) := by
  refine ⟨_, ho, fun p q kl2 hp hq hk2 => ?_⟩
  unfold putO
  by_cases e : p = x ∧ q = y
  · obtain ⟨rfl, rfl⟩ := e
    rw [hk] at hk2
    cases hk2
    rw [if_pos ⟨rfl, rfl⟩, has_put_same hm (Try.keyPt.key hk), atKey_put_same hm (Try.keyPt.key hk)]
    exact ⟨rfl, rfl⟩
  · rw [if_neg e]
    have hne : kl2 ≠ kl := fun h => e (point_inj hk (by rw [← h]; exact hk2))
    rw [has_put_other hne, atKey_put_other hne]
    exact hf p q kl2 hp hq hk2

theorem omp_made (w : World) : Omp (w.alloc (.map #[] 0)) w.heap.size 0 (fun _ _ => none) := ⟨.map [], World.ownsMap_made _ _ _ _, fun _ _ _ _ _ _ => ⟨rfl, rfl⟩⟩

theorem Try.zeroO (w : World) : (zeroValue 3).run Try.prog w = .ok (.int .i64 0) w := by kernel_rfl

section
variable {w : World} {ops : Array Oper} {rest : List Oper} {o : Oper} {a : Act} {Q : Exit → Act → World → Prop}
theorem wpListIn_ownPut {F : Fence} {nF : Nat} (hg : o.guard = none) (m x v : Operand) (hop : o.op = Op.mapUpdate 86 m x v) (b n : Nat) (f : Int → Int → Option Int)
    (hm : a.eval m = .map (some b)) (hN : Omp w b n f) (hn : n < maxLen) (p q z : Int) (hx : a.eval x = .agg #[.int .i64 p, .int .i64 q]) (hv : a.eval v = .int .i64 z) (hp : (Lit.int .i64 p).wf = true) (hq : (Lit.int .i64 q).wf = true) (hz : (Lit.int .i64 z).wf = true)
    (hK : ∀ w', Omp w' b (n + 1) (putO f p q z) → w.grownBy w' (some b) → wpListIn F nF Try.prog ops Q rest (a.put o.dst undef) w') : wpListIn F nF Try.prog ops Q (o :: rest) a w := by
  obtain ⟨D, hown, hf⟩ := hN
  obtain ⟨kl, hkl⟩ := key_pt p q hp hq
  refine wpListIn_mapUpdate_in w hg m x v 86 hop 94 3 Try.keyPt Try.underlying86 (plainElem Try.prog 3) b n D hm hown hn _ _ _ hx hv hkl (.lit (.int .i64 z)) [] (plainElem_int Try.underlying3 hz) fun w' h1 h2 => ?_
  exact hK w' (omp_put hp hq hkl hown.isMap hf h1) h2.grown
theorem wpListIn_ownAsk {F : Fence} {nF : Nat} (hg : o.guard = none) (m x : Operand) (hop : o.op = Op.lookup 86 m x true) (b n : Nat) (f : Int → Int → Option Int)
    (hm : a.eval m = .map (some b)) (hN : Omp w b n f) (p q : Int) (hx : a.eval x = .agg #[.int .i64 p, .int .i64 q]) (hp : (Lit.int .i64 p).wf = true) (hq : (Lit.int .i64 q).wf = true)
    (hK : wpListIn F nF Try.prog ops Q rest (a.put o.dst (.tuple #[.int .i64 ((f p q).getD 0), .bool (f p q).isSome])) w) : wpListIn F nF Try.prog ops Q (o :: rest) a w := by
  obtain ⟨D, hown, hf⟩ := hN
  obtain ⟨kl, hkl⟩ := key_pt p q hp hq
  obtain ⟨h1, h2⟩ := hf p q kl hp hq hkl
  refine wpListIn_lookup_own_ok_int w hg m x 86 hop 94 3 .i64 Try.keyPt Try.underlying86 Try.underlying3 (Try.zeroO w) b n D hm hown _ kl hx hkl fun c hc hw => ?_
  rw [h2] at hc
  injection hc with hc
  injection hc with hc1 hc
  rw [h1, ← hc]
  exact hK
end
end Go.Proofs.Ytbagloapclgpnaa

namespace Go.Proofs.Ytbagloapclgpnaa
open Go.RowKit Go.Maps
set_option linter.unusedVariables false
attribute [local go_sem high] fI0 fI1

/-- The program's list of ids where there is a fault, and where there is none. -/
theorem names_no {w : World} {L : List Int} {c : Int} {f : FuncId} {args : Array Value} (h : Calls Try.prog f args w (NamS w L c)) (hc : ¬ c = 0) :
    Calls Try.prog f args w fun e w' => e = .returned (.tuple #[.map none, .int .i64 c]) ∧ Below w.heap.size w w' :=
  h.mono fun e w' h => by
    rcases h with ⟨_, h1, h2⟩ | ⟨h1, _⟩
    · exact ⟨h1, h2⟩
    · exact absurd h1 hc
theorem names_yes {w : World} {L : List Int} {c : Int} {f : FuncId} {args : Array Value} (h : Calls Try.prog f args w (NamS w L c)) (hc : c = 0) :
    Calls Try.prog f args w fun e w' => e = .returned (.tuple #[.map (some w.heap.size), .int .i64 0]) ∧ Below w.heap.size w w' ∧ w.heap.size < w'.heap.size ∧ Nam w' w.heap.size L.length (hasI L) :=
  h.mono fun e w' h => by
    rcases h with ⟨h1, _⟩ | ⟨_, h⟩
    · exact absurd hc h1
    · exact h

set_option maxHeartbeats 400000 in
theorem iIds_any (lo hi : Nat) (ao : Option Addr) (ca : Nat) (L : List Int) (w : World) (ha : Row .i64 w lo hi ao L) (hs : hi ≤ w.heap.size) (hl : L.length ≤ 1048576) :
    Calls Try.prog 95 #[.slice ao L.length ca] w fun e w' => e = .returned (.int .i64 (idsF L)) ∧ Below w.heap.size w w' := by
  have C := iNames_any lo hi ao ca L w ha hs hl
  clear ha
  by_cases h0 : idsF L = 0
  · have C' := hideP (names_yes C h0)
    rw [h0]
    clear C h0
    go_enter Try.func95, Try.ntmps95
    go_wp2_with (first | (go_at_call 111; refine Calls.mono C'.out ?_; rintro e w1 ⟨rfl, k1, l1, n1⟩; have K1 := hideP k1; clear k1 n1))
    go_returns
    exact ⟨rfl, K1.out⟩
  · have C' := hideP (names_no C h0)
    clear C
    generalize idsF L = c at *
    go_enter Try.func95, Try.ntmps95
    go_wp2_with (first | (go_at_call 111; refine Calls.mono C'.out ?_; rintro e w1 ⟨rfl, k1⟩; have K1 := hideP k1; clear k1))
    go_returns
    exact ⟨rfl, K1.out⟩

/-- The code and the value of NextId. -/
def nxC (L : List Int) (s : Int) : Int := if askF L s = 0 then (if nxt L s = -1 then 7 else 0) else askF L s
def nxV (L : List Int) (s : Int) : Int := if askF L s = 0 then (if nxt L s = -1 then 0 else nxt L s) else 0

theorem nxt_1 {L : List Int} {s : Int} (h : hasI L (64 * s + 1) = false) : nxt L s = 64 * s + 1 := by unfold nxt; unfold hasI at h; rw [h]; rfl
theorem nxt_2 {L : List Int} {s : Int} (h1 : hasI L (64 * s + 1) = true) (h : hasI L (64 * s + 2) = false) : nxt L s = 64 * s + 2 := by unfold nxt; unfold hasI at h h1; rw [h1, h]; rfl
theorem nxt_3 {L : List Int} {s : Int} (h1 : hasI L (64 * s + 1) = true) (h2 : hasI L (64 * s + 2) = true) (h : hasI L (64 * s + 3) = false) : nxt L s = 64 * s + 3 := by unfold nxt; unfold hasI at h h1 h2; rw [h1, h2, h]; rfl
theorem nxt_4 {L : List Int} {s : Int} (h1 : hasI L (64 * s + 1) = true) (h2 : hasI L (64 * s + 2) = true) (h : hasI L (64 * s + 3) = true) : nxt L s = -1 := by unfold nxt; unfold hasI at h h1 h2; rw [h1, h2, h]; rfl

end Go.Proofs.Ytbagloapclgpnaa
