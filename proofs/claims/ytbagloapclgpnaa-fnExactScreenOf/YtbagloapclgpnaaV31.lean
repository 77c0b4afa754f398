/- A map from points to places. Lists of rectangles: whether two are the same; faults of lists; marks. Lists of rectangles: faults of lists; marks into a list, and whether they are held. -/
import Derived.Test.YtbagloapclgpnaaV14
import Derived.Maps.OwnSet
import Derived.Maps.OwnIn
import Derived.DeepKeys4
import Derived.Test.YtbagloapclgpnaaV27
import Derived.Test.YtbagloapclgpnaaV2
namespace Go.Proofs.Ytbagloapclgpnaa
open Go.RowKit Go.Maps
set_option linter.unusedVariables false

theorem Try.laidP : laidOutB Try.prog = true := by kernel_rfl
theorem Try.rowPt : (94 : TypeId) < Try.prog.types.size := of_decide_eq_true (by kernel_rfl)
theorem Try.widePt : (match Try.prog.underlying 94 with | some (.array _ _) | some (.struct _) => true | _ => false) = true := by rw [Try.underlying94]
set_option maxRecDepth 100000 in
theorem Try.keyPt : Keyed Try.prog 94 := Keyed.of_law (deep_law_laid Try.laidP (m := 2) (by omega) Try.rowPt (by kernel_rfl) Try.widePt)
theorem Try.sizeTy : ∃ n, Try.prog.types.size + 1 = n + 2 := ⟨Try.prog.types.size - 1, by have : 0 < Try.prog.types.size := of_decide_eq_true (by kernel_rfl); omega⟩
theorem Try.cellsPt : Try.prog.cellsOf 94 = 2 := by kernel_rfl
theorem Try.cells64 : Try.prog.cellsOf 2 = 1 := by kernel_rfl

theorem key_pt (x y : Int) (hx : (Lit.int .i64 x).wf = true) (hy : (Lit.int .i64 y).wf = true) : ∃ kl, keyOf Try.prog 94 (.agg #[.int .i64 x, .int .i64 y]) = some kl := by
  obtain ⟨n, hn⟩ := Try.sizeTy
  have hk : Try.prog.keyType 94 = true := by kernel_rfl
  have hf : (Value.agg #[.int .i64 x, .int .i64 y]).formed Try.prog 94 = true := by simp [Value.formed, Try.underlying94, Try.cellsPt]
  have h2 : Try.prog.keyLits (n + 2) 94 [.int .i64 x, .int .i64 y] = some [.int .i64 x, .int .i64 y] := by
    simp [Program.keyLits, Try.underlying94, Try.underlying2, Try.cellsPt, Try.cells64, hx, hy]
  refine ⟨.string (keyBytes [.int .i64 x, .int .i64 y]), ?_⟩
  unfold keyOf
  rw [Try.underlying94]
  have e : (Value.agg #[.int .i64 x, .int .i64 y]).cells.toList = [.int .i64 x, .int .i64 y] := by rfl
  simp only [hk, hf, Bool.and_self, if_true, e]
  rw [hn, h2]
  rfl

/-- Block b is a map of at most n points; f says which and where they lead. -/
def Omp (w : World) (b n : Nat) (f : Int → Int → Option Int) : Prop :=
  ∃ D : DataW Unit, w.ownsMap Try.prog 94 (plainElem Try.prog 3) b n D ∧ ∀ x y kl, (Lit.int .i64 x).wf = true → (Lit.int .i64 y).wf = true → keyOf Try.prog 94 (.agg #[.int .i64 x, .int .i64 y]) = some kl →
    Maps.has D kl = (f x y).isSome ∧ D.atKey kl (.lit (.int .i64 0)) = .lit (.int .i64 ((f x y).getD 0))

theorem Omp.keep {w w' : World} {b n B : Nat} {f : Int → Int → Option Int} (h : Omp w b n f) (k : Below B w w') (hb : b < B) : Omp w' b n f := by
  obtain ⟨D, ⟨es, clock, hbk, r⟩, hf⟩ := h
  exact ⟨D, ⟨es, clock, (k.block b hb).trans hbk, r⟩, hf⟩
theorem Omp.same {w w' : World} {b n : Nat} {f : Int → Int → Option Int} (h : Omp w b n f) (e : w'.heap[b]? = w.heap[b]?) : Omp w' b n f := by
  obtain ⟨D, ⟨es, clock, hbk, r⟩, hf⟩ := h
  exact ⟨D, ⟨es, clock, e.trans hbk, r⟩, hf⟩
theorem Omp.lt {w : World} {b n : Nat} {f : Int → Int → Option Int} (h : Omp w b n f) : b < w.heap.size := by
  obtain ⟨D, ⟨es, clock, hbk, r⟩, hf⟩ := h
  exact (Array.getElem?_eq_some_iff.1 hbk).1
theorem Omp.as {w : World} {b n : Nat} {f g : Int → Int → Option Int} (h : Omp w b n f) (e : ∀ x y, f x y = g x y) : Omp w b n g := by
  have : f = g := funext fun x => funext fun y => e x y
  rw [← this]; exact h
theorem Omp.mono {w : World} {b n m : Nat} {f : Int → Int → Option Int} (h : Omp w b n f) (hm : n ≤ m) : Omp w b m f := by
  obtain ⟨D, h1, h2⟩ := h
  exact ⟨D, h1.mono hm, h2⟩

def putO (f : Int → Int → Option Int) (x y v : Int) : Int → Int → Option Int := fun p q => if p = x ∧ q = y then some v else f p q

theorem point_inj {x y p q : Int} {kl : Lit} (h : keyOf Try.prog 94 (.agg #[.int .i64 x, .int .i64 y]) = some kl) (h2 : keyOf Try.prog 94 (.agg #[.int .i64 p, .int .i64 q]) = some kl) : p = x ∧ q = y := by
  have e := Try.keyPt.inj h2 h
  injection e with e
  have e2 := congrArg Array.toList e
  simp at e2
  exact e2

/-- One point more. -/
theorem omp_put {w' : World} {b n : Nat} {f : Int → Int → Option Int} {D : DataW Unit} {x y v : Int} {kl : Lit} (hx : (Lit.int .i64 x).wf = true) (hy : (Lit.int .i64 y).wf = true) (hk : keyOf Try.prog 94 (.agg #[.int .i64 x, .int .i64 y]) = some kl) (hm : IsMap D)
    (hf : ∀ x y kl, (Lit.int .i64 x).wf = true → (Lit.int .i64 y).wf = true → keyOf Try.prog 94 (.agg #[.int .i64 x, .int .i64 y]) = some kl → Maps.has D kl = (f x y).isSome ∧ D.atKey kl (.lit (.int .i64 0)) = .lit (.int .i64 ((f x y).getD 0)))
    (ho : w'.ownsMap Try.prog 94 (plainElem Try.prog 3) b (n + 1) (D.put kl (.lit (.int .i64 v)))) : Omp w' b (n + 1) (putO f x y v) := by
  refine ⟨_, ho, fun p q kl2 hp hq hk2 => ?_⟩
  unfold putO
  by_cases e : p = x ∧ q = y
  · obtain ⟨rfl, rfl⟩ := e
    rw [hk] at hk2
    cases hk2
    rw [if_pos ⟨rfl, rfl⟩, has_put_same hm (Try.keyPt.key hk), atKey_put_same hm (Try.keyPt.key hk)]
    exact ⟨rfl, rfl⟩
  · rw [if_neg e]
    have hne : kl2 ≠ kl := fun h => e (point_inj hk (by rw [← h]; exact hk2))
    rw [has_put_other hne, atKey_put_other hne]
    exact hf p q kl2 hp hq hk2

theorem omp_made (w : World) : Omp (w.alloc (.map #[] 0)) w.heap.size 0 (fun _ _ => none) := ⟨.map [], World.ownsMap_made _ _ _ _, fun _ _ _ _ _ _ => ⟨rfl, rfl⟩⟩

theorem Try.zeroO (w : World) : (zeroValue 3).run Try.prog w = .ok (.int .i64 0) w := by kernel_rfl

section
variable {w : World} {ops : Array Oper} {rest : List Oper} {o : Oper} {a : Act} {Q : Exit → Act → World → Prop}
theorem wpListIn_ownPut {F : Fence} {nF : Nat} (hg : o.guard = none) (m x v : Operand) (hop : o.op = Op.mapUpdate 86 m x v) (b n : Nat) (f : Int → Int → Option Int)
    (hm : a.eval m = .map (some b)) (hN : Omp w b n f) (hn : n < maxLen) (p q z : Int) (hx : a.eval x = .agg #[.int .i64 p, .int .i64 q]) (hv : a.eval v = .int .i64 z) (hp : (Lit.int .i64 p).wf = true) (hq : (Lit.int .i64 q).wf = true) (hz : (Lit.int .i64 z).wf = true)
    (hK : ∀ w', Omp w' b (n + 1) (putO f p q z) → w.grownBy w' (some b) → wpListIn F nF Try.prog ops Q rest (a.put o.dst undef) w') : wpListIn F nF Try.prog ops Q (o :: rest) a w := by
  obtain ⟨D, hown, hf⟩ := hN
  obtain ⟨kl, hkl⟩ := key_pt p q hp hq
  refine wpListIn_mapUpdate_in w hg m x v 86 hop 94 3 Try.keyPt Try.underlying86 (plainElem Try.prog 3) b n D hm hown hn _ _ _ hx hv hkl (.lit (.int .i64 z)) [] (plainElem_int Try.underlying3 hz) fun w' h1 h2 => ?_
  exact hK w' (omp_put hp hq hkl hown.isMap hf h1) h2.grown
theorem wpListIn_ownAsk {F : Fence} {nF : Nat} (hg : o.guard = none) (m x : Operand) (hop : o.op = Op.lookup 86 m x true) (b n : Nat) (f : Int → Int → Option Int)
    (hm : a.eval m = .map (some b)) (hN : Omp w b n f) (p q : Int) (hx : a.eval x = .agg #[.int .i64 p, .int .i64 q]) (hp : (Lit.int .i64 p).wf = true) (hq : (Lit.int .i64 q).wf = true)
    (hK : wpListIn F nF Try.prog ops Q rest (a.put o.dst (.tuple #[.int .i64 ((f p q).getD 0), .bool (f p q).isSome])) w) : wpListIn F nF Try.prog ops Q (o :: rest) a w := by
  obtain ⟨D, hown, hf⟩ := hN
  obtain ⟨kl, hkl⟩ := key_pt p q hp hq
  obtain ⟨h1, h2⟩ := hf p q kl hp hq hkl
  refine wpListIn_lookup_own_ok_int w hg m x 86 hop 94 3 .i64 Try.keyPt Try.underlying86 Try.underlying3 (Try.zeroO w) b n D hm hown _ kl hx hkl fun c hc hw => ?_
  rw [h2] at hc
  injection hc with hc
  injection hc with hc1 hc
  rw [h1, ← hc]
  exact hK
end
end Go.Proofs.Ytbagloapclgpnaa

namespace Go.Proofs.Ytbagloapclgpnaa
open Go.RowKit
set_option linter.unusedVariables false

set_option maxHeartbeats 400000 in
theorem eqRect_same (x y ww hh : Int) (w : World) :
    Calls Try.prog 103 #[.agg #[.int .i64 x, .int .i64 y, .int .i64 ww, .int .i64 hh], .agg #[.int .i64 x, .int .i64 y, .int .i64 ww, .int .i64 hh]] w fun e w' => e = .returned (.bool true) ∧ Below w.heap.size w w' := by
  go_enter Try.func103, Try.ntmps103
  go_wp2
  go_returns
  exact ⟨rfl, by go_grown⟩

end Go.Proofs.Ytbagloapclgpnaa

namespace Go.Proofs.Ytbagloapclgpnaa
open Go.RowKit
set_option linter.unusedVariables false

def fltL (L : List Rc) : Bool := L.any Rc.flt
theorem fltL_hit {L : List Rc} {k : Nat} (h : k < L.length) (hf : rfB L[k].x L[k].y L[k].w L[k].h = true) : fltL L = true := by
  unfold fltL
  exact List.any_eq_true.2 ⟨L[k], List.getElem_mem _, hf⟩
theorem fltL_none {L : List Rc} (h : ∀ k (hk : k < L.length), rfB L[k].x L[k].y L[k].w L[k].h = false) : fltL L = false := by
  unfold fltL
  refine List.any_eq_false.2 fun r hr => ?_
  obtain ⟨k, hk, rfl⟩ := List.mem_iff_getElem.1 hr
  simpa [Rc.flt] using h k hk
theorem fltL_at {L : List Rc} (h : fltL L = false) (k : Nat) (hk : k < L.length) : rfB L[k].x L[k].y L[k].w L[k].h = false := by
  have := (List.any_eq_false.1 h) L[k] (List.getElem_mem _)
  simpa [Rc.flt] using this

set_option maxHeartbeats 1000000 in
theorem fo_any (lo hi : Nat) (ao : Option Addr) (ca : Nat) (L : List Rc) (w : World) (ha : Lst w lo hi ao L) (h1 : hi ≤ w.heap.size) (hl : L.length ≤ 1048576) :
    Calls Try.prog 105 #[.slice ao L.length ca] w fun e w' => e = .returned (.int .i64 (rfOf (fltL L))) ∧ Below w.heap.size w w' := by
  have hl' : (L.length : Int) ≤ 1048576 := by omega
  have HA := hideP ha
  clear ha
  go_enter Try.func105, Try.ntmps105
  go_wp2
  go_loopw [8] (fun i wr => ∃ k : Nat, k ≤ L.length ∧ i = .int .i64 k ∧ Below w.heap.size w wr ∧ Hid (∀ j (hj : j < L.length), j < k → rfB L[j].x L[j].y L[j].w L[j].h = false)) (fun i _ => L.length - (intOf i).toNat)
  case atStart => exact ⟨0, Nat.zero_le _, rfl, Below.refl _ _, fun j _ hj => absurd hj (Nat.not_lt_zero _)⟩
  case round =>
    obtain ⟨k, hk, rfl, hbel, HF⟩ := hrel
    have hz := hbel.size
    by_cases hlt : k < L.length
    · have hlt' : (k : Int) < (L.length : Int) := by omega
      have hne : L ≠ [] := fun e => by rw [e] at hlt; simp at hlt
      rcases HA.out with e | ⟨g, o, rfl, _, hg, hc⟩
      · exact absurd e hne
      obtain ⟨a0, a1, a2, a3⟩ := (hc k hlt).keep hbel (by omega)
      have hgl : g < wr.heap.size := by omega
      have HBel := hideP hbel
      have hhit := hideP (fltL_hit hlt)
      have hon := hideP (show ∀ e : rfB L[k].x L[k].y L[k].w L[k].h = false, ∀ j (hj : j < L.length), j < k + 1 → rfB L[j].x L[j].y L[j].w L[j].h = false from fun e j hj hjk => by
        by_cases h : j < k
        · exact HF.out j hj h
        · obtain rfl : j = k := by omega
          exact e)
      clear hc hbel HA HF
      generalize L[k].x = x at *
      generalize L[k].y = y at *
      generalize L[k].w = ww at *
      generalize L[k].h = hh at *
      cases hf : rfB x y ww hh
      · have hon' := hideP (hon.out hf)
        clear hon hhit
        go_wp2_with (first | (go_at_call 99; refine Calls.mono (rf_ok _ _ _ _ _ ?_) ?_; (all_goals try (first | (with_reducible assumption) | omega)); rintro e w1 ⟨rfl, k1⟩; (try replace k1 := kept_join (by assumption) k1); have hc1 := Kept.cell k1; have hf1 := Kept.frozen k1; have hz1 := k1.size; (try simp only [World.size_alloc] at hz1); (try simp only [World.size_setCell] at hz1); (try simp only [World.size_drew] at hz1); (try (first | have hs1 := sz12 hz1 | have hs1 := sz11 hz1 | have hs1 := sz10 hz1 | have hs1 := sz9 hz1 | have hs1 := sz8 hz1 | have hs1 := sz7 hz1 | have hs1 := sz6 hz1 | have hs1 := sz5 hz1 | have hs1 := sz4 hz1 | have hs1 := sz3 hz1 | have hs1 := sz2 hz1 | have hs1 := sz1 hz1))))
        go_roundw
        case rel => exact ⟨k + 1, by omega, by go_num, by refine HBel.out.trans ?_; repeat' (first | (with_reducible exact Below.refl _ _) | (with_reducible refine kept_below ?_ (by assumption) ?_) | (with_reducible refine Below.alloc ?_ ?_ _) | (with_reducible refine Below.drew ?_) | (with_reducible refine Below.setCell ?_ ?_ _) | go_size), hon'.out⟩
        case measure => simp [intOf]; omega
      · have hh' := hideP (hhit.out hf)
        clear hon hhit
        go_wp2_with (first | (go_at_call 99; refine Calls.mono (rf_no _ _ _ _ _ ?_) ?_; (all_goals try (first | (with_reducible assumption) | omega)); rintro e w1 ⟨rfl, k1⟩; (try replace k1 := kept_join (by assumption) k1); have hc1 := Kept.cell k1; have hf1 := Kept.frozen k1; have hz1 := k1.size; (try simp only [World.size_alloc] at hz1); (try simp only [World.size_setCell] at hz1); (try simp only [World.size_drew] at hz1); (try (first | have hs1 := sz12 hz1 | have hs1 := sz11 hz1 | have hs1 := sz10 hz1 | have hs1 := sz9 hz1 | have hs1 := sz8 hz1 | have hs1 := sz7 hz1 | have hs1 := sz6 hz1 | have hs1 := sz5 hz1 | have hs1 := sz4 hz1 | have hs1 := sz3 hz1 | have hs1 := sz2 hz1 | have hs1 := sz1 hz1))))
        go_returns
        refine ⟨by rw [hh'.out]; rfl, HBel.out.trans ?_⟩
        repeat' (first | (with_reducible exact Below.refl _ _) | (with_reducible refine kept_below ?_ (by assumption) ?_) | (with_reducible refine Below.alloc ?_ ?_ _) | (with_reducible refine Below.drew ?_) | (with_reducible refine Below.setCell ?_ ?_ _) | go_size)
    · have hf := hideP (fltL_none fun j hj => HF.out j hj (by omega))
      have HBel := hideP hbel
      clear hbel HF
      go_wp2
      go_returns
      exact ⟨by rw [hf.out]; rfl, HBel.out⟩

end Go.Proofs.Ytbagloapclgpnaa
