/- A set of ids, as a map that a call makes: whether one is there, put, dropped; the program's lists of ids. IdsFault and NextId, the program's and the model's. -/
import Derived.Test.YtmmjannkfmiohaaTs12
import Derived.Maps.OwnSet
namespace Go.Proofs.Ytmmjannkfmiohaa
open Go.RowKit Go.Maps
set_option linter.unusedVariables false

theorem Try.keyI5 : Keyed Try.prog 2 := int_keyed Try.underlying2
theorem Try.zeroU5 (w : World) : (zeroValue 119).run Try.prog w = .ok (.agg #[]) w := by kernel_rfl

theorem fI0 (c v : Int) (w : World) : Sem.run Try.prog (Instr.field 38 (.agg #[.int .i64 c, .int .i64 v]) 0) w = .ok (.int .i64 c) w := by kernel_rfl
theorem fI1 (c v : Int) (w : World) : Sem.run Try.prog (Instr.field 38 (.agg #[.int .i64 c, .int .i64 v]) 1) w = .ok (.int .i64 v) w := by kernel_rfl
attribute [local go_sem high] fI0 fI1

/-- Block b is a set of at most n numbers; f says which. -/
def Nam (w : World) (b n : Nat) (f : Int → Bool) : Prop := ∃ D : DataW Unit, w.ownsMap Try.prog 2 unitElem b n D ∧ ∀ x, Maps.has D (.int .i64 x) = f x

theorem Nam.keep {w w' : World} {b n B : Nat} {f : Int → Bool} (h : Nam w b n f) (k : Below B w w') (hb : b < B) : Nam w' b n f := by
  obtain ⟨D, ⟨es, clock, hbk, r⟩, hf⟩ := h
  exact ⟨D, ⟨es, clock, (k.block b hb).trans hbk, r⟩, hf⟩
theorem Nam.grown {w w' : World} {b n : Nat} {f : Int → Bool} {o : Option Nat} (h : Nam w b n f) (hb : b < w.heap.size) (g : w.grownBy w' o) (ho : o ≠ some b) : Nam w' b n f := by
  obtain ⟨D, ⟨es, clock, hbk, r⟩, hf⟩ := h
  exact ⟨D, ⟨es, clock, (g.block b hb (fun e => ho (by rw [← e]))).trans hbk, r⟩, hf⟩
theorem Nam.lt {w : World} {b n : Nat} {f : Int → Bool} (h : Nam w b n f) : b < w.heap.size := by
  obtain ⟨D, ⟨es, clock, hbk, r⟩, hf⟩ := h
  exact (Array.getElem?_eq_some_iff.1 hbk).1
theorem Nam.as {w : World} {b n : Nat} {f g : Int → Bool} (h : Nam w b n f) (e : ∀ x, f x = g x) : Nam w b n g := by
  obtain ⟨D, h1, h2⟩ := h
  exact ⟨D, h1, fun x => (h2 x).trans (e x)⟩

theorem wf5 {x : Int} (h0 : -100000 ≤ x) (h1 : x ≤ 100000) : (Lit.int .i64 x).wf = true := WalkArith.wf_i64 (by omega)

section
variable {w : World} {ops : Array Oper} {rest : List Oper} {o : Oper} {a : Act} {Q : Exit → Act → World → Prop}

theorem wpList_namHas (hg : o.guard = none) (m x : Operand) (hop : o.op = Op.lookup 110 m x true) (b n : Nat) (f : Int → Bool)
    (hm : a.eval m = .map (some b)) (hN : Nam w b n f) (y : Int) (hx : a.eval x = .int .i64 y) (hy : (Lit.int .i64 y).wf = true)
    (hK : wpList Try.prog ops Q rest (a.put o.dst (.tuple #[.agg #[], .bool (f y)])) w) : wpList Try.prog ops Q (o :: rest) a w := by
  obtain ⟨D, hown, hf⟩ := hN
  refine wpList_lookup_own_unit w hg m x 110 hop 2 119 Try.keyI5 Try.underlying110 (Try.zeroU5 w) b n D hm hown _ _ hx (keyOf_int_mk Try.underlying2 hy) ?_
  rw [hf]
  exact hK

theorem wpList_namPut (hg : o.guard = none) (m x v : Operand) (hop : o.op = Op.mapUpdate 110 m x v) (b n : Nat) (f : Int → Bool)
    (hm : a.eval m = .map (some b)) (hN : Nam w b n f) (hn : n < maxLen) (y : Int) (hx : a.eval x = .int .i64 y) (hv : a.eval v = .agg #[]) (hy : (Lit.int .i64 y).wf = true)
    (hK : ∀ w', Nam w' b (n + 1) (fun z => z == y || f z) → w.grownBy w' (some b) → wpList Try.prog ops Q rest (a.put o.dst undef) w') : wpList Try.prog ops Q (o :: rest) a w := by
  obtain ⟨D, hown, hf⟩ := hN
  refine wpList_mapUpdate_in w hg m x v 110 hop 2 119 Try.keyI5 Try.underlying110 unitElem b n D hm hown hn _ _ _ hx hv (keyOf_int_mk Try.underlying2 hy) (.agg []) [] unitElem_mk fun w' h1 h2 => ?_
  refine hK w' ⟨_, h1, fun z => ?_⟩ h2.grown
  by_cases e : z = y
  · subst e
    rw [has_put_same (k := Lit.int .i64 z) hown.isMap trivial]
    simp
  · rw [has_put_other (fun h => e (by injection h)), hf]
    simp [e]

theorem wpList_namDel (hg : o.guard = none) (m x : Operand) (hop : o.op = Op.call { callee := Callee.builtin Builtin.delete, args := #[m, x], argTypes := #[110, 2] }) (b n : Nat) (f : Int → Bool)
    (hm : a.eval m = .map (some b)) (hN : Nam w b n f) (y : Int) (hx : a.eval x = .int .i64 y) (hy : (Lit.int .i64 y).wf = true)
    (hK : ∀ w', Nam w' b n (fun z => !(z == y) && f z) → w.grownBy w' (some b) → wpList Try.prog ops Q rest (a.put o.dst (.tuple #[])) w') : wpList Try.prog ops Q (o :: rest) a w := by
  obtain ⟨D, hown, hf⟩ := hN
  refine wpList_delete_own w hg m x 110 2 hop 119 Try.keyI5 Try.underlying110 unitElem b n D hm hown _ _ hx (keyOf_int_mk Try.underlying2 hy) fun w' h1 h2 => ?_
  refine hK w' ⟨_, h1, fun z => ?_⟩ h2.grown
  by_cases e : z = y
  · subst e
    rw [has_del_same]
    simp
  · rw [has_del_other (fun h => e (by injection h)), hf]
    simp [e]
end

theorem nam_made (w : World) : Nam (w.alloc (.map #[] 0)) w.heap.size 0 (fun _ => false) := ⟨.map [], World.ownsMap_made _ _ _ _, fun _ => rfl⟩

set_option maxHeartbeats 400000 in
theorem iHas_any (b n : Nat) (f : Int → Bool) (x : Int) (w : World) (hN : Nam w b n f) (hx : (Lit.int .i64 x).wf = true) :
    Calls Try.prog 82 #[.map (some b), .int .i64 x] w fun e w' => e = .returned (.bool (f x)) ∧ Below w.heap.size w w' := by
  have HN := hideP hN
  clear hN
  go_enter Try.func82, Try.ntmps82
  go_wp2_with (first | (at_lookup; refine wpList_namHas rfl _ _ rfl b n f rfl HN.out x rfl hx ?_) | go_in)
  go_returns
  exact ⟨rfl, by go_grown⟩

/-- What the program's list of ids leaves. -/
def NamS (w : World) (L : List Int) (c : Int) (e : Ending) (w' : World) : Prop :=
  (¬ c = 0 ∧ e = .returned (.tuple #[.map none, .int .i64 c]) ∧ Below w.heap.size w w') ∨
  (c = 0 ∧ e = .returned (.tuple #[.map (some w.heap.size), .int .i64 0]) ∧ Below w.heap.size w w' ∧ w.heap.size < w'.heap.size ∧ Nam w' w.heap.size L.length (hasI L))

theorem hasI_nil (x : Int) : hasI [] x = false := rfl
theorem hasI_snoc {L : List Int} {k : Nat} (h : k < L.length) (z : Int) : (z == L[k] || hasI (L.take k) z) = hasI (L.take (k + 1)) z := by
  unfold hasI
  rw [take_snoc h]
  simp only [List.contains_eq_mem, List.mem_append, List.mem_singleton, Bool.decide_or]
  rw [Bool.or_comm]
  rfl

set_option maxHeartbeats 2000000 in
theorem iNames_any (lo hi : Nat) (ao : Option Addr) (ca : Nat) (L : List Int) (w : World) (ha : Row .i64 w lo hi ao L) (hs : hi ≤ w.heap.size) (hl : L.length ≤ 1048576) :
    Calls Try.prog 72 #[.slice ao L.length ca] w (NamS w L (idsF L)) := by
  have hl' : (L.length : Int) ≤ 1048576 := by omega
  have HA := hideP ha
  clear ha
  by_cases hmany : 12 < L.length
  · have hmany' : (12 : Int) < (L.length : Int) := by omega
    rw [idsF_many hmany]
    go_enter Try.func72, Try.ntmps72
    go_wp2
    go_returns
    exact .inl ⟨by decide, rfl, Below.refl _ _⟩
  have hfew' : ¬ (12 : Int) < (L.length : Int) := by omega
  rw [idsF_few (L := L) (by omega)]
  obtain ⟨c, hc⟩ : ∃ c, scan [] L = c := ⟨_, rfl⟩
  rw [hc]
  have HC := hideP hc
  clear hc
  have hmm := @run_makeMap Try.prog
  go_enter Try.func72, Try.ntmps72
  go_wp2
  go_loopw [14] (fun i wr => ∃ k : Nat, k ≤ L.length ∧ i = .int .i64 k ∧ Below w.heap.size w wr ∧ w.heap.size < wr.heap.size ∧ Nam wr w.heap.size k (hasI (L.take k)) ∧ scan (L.take k) (L.drop k) = c) (fun i _ => L.length - (intOf i).toNat)
  case atStart => exact ⟨0, Nat.zero_le _, rfl, by go_grown, by simp, (nam_made w).as (fun x => by simp [hasI]), by rw [← HC.out]; simp⟩
  case round =>
    obtain ⟨k, hk, rfl, hbel, hlw, hnam, hsc⟩ := hrel
    by_cases hlt : k < L.length
    · have hlt' : (k : Int) < (L.length : Int) := by omega
      have hne : L ≠ [] := fun e => by rw [e] at hlt; simp at hlt
      rcases HA.out with e | ⟨g, o, rfl, hlo, hg, hc⟩
      · exact absurd e hne
      have a0 := (hbel.cell (p := ⟨g, o + k, none⟩) (by show g < _; omega)).trans (hc k hlt)
      have N1 := hideP (scan_no hlt)
      have N2 := hideP (scan_twice hlt)
      have N3 := hideP (scan_on hlt)
      have HSN := hideP (hasI_snoc hlt)
      have HSC := hideP hsc
      have HBel := hideP hbel
      have HNam := hideP hnam
      have hgl : g < wr.heap.size := by omega
      clear hc HA hsc hbel hne hnam
      obtain ⟨x, hx⟩ : ∃ x, L[k] = x := ⟨_, rfl⟩
      rw [hx] at a0 N1 N2 N3 HSN
      clear hx
      obtain ⟨T, hT⟩ : ∃ T, L.take k = T := ⟨_, rfl⟩
      rw [hT] at N1 N2 N3 HSC HSN HNam
      clear hT
      cases hok : okId x
      · have e3 := hideP ((N1.out hok).symm.trans HSC.out)
        clear N1 N2 N3 HSN HNam HSC
        go_wp2_with (go_at_call 51; refine Calls.mono (iSlot_no _ _ hok) ?_; rintro e w1 ⟨rfl, k1⟩; have hz1 := k1.size)
        go_returns
        refine .inl ⟨by rw [← e3.out]; decide, by rw [← e3.out]; rfl, ?_⟩
        exact HBel.out.trans (k1.mono HBel.out.size)
      · have hxw : (Lit.int .i64 x).wf = true := by have := okId_iff.1 hok; exact wf5 (by omega) (by omega)
        have N4 : Hid (∀ w1 : World, Below wr.heap.size wr w1 → Nam w1 w.heap.size k (hasI T)) := fun w1 kk => HNam.out.keep kk hlw
        cases hha : hasI T x
        · have HS1 := hideP ((N3.out hok hha).symm.trans HSC.out)
          clear N1 N2 N3 HSC HNam
          go_wp2_with (first | (go_at_call 51; refine Calls.mono (iSlot_yes _ _ hok) ?_; rintro e w1 ⟨rfl, k1⟩; have hz1 := k1.size) | (go_at_call 82; refine Calls.mono (iHas_any _ k (hasI T) x _ (N4.out _ (by assumption)) hxw) ?_; rintro e w2 ⟨rfl, k2⟩; rw [hha]) | (at_mapUpdate; refine wpList_namPut rfl _ _ _ rfl w.heap.size k (hasI T) rfl (N4.out _ (k1.trans (k2.mono hz1))) (by unfold maxLen; omega) x rfl rfl hxw ?_; intro w3 N5 G3))
          go_roundw
          case rel =>
            refine ⟨k + 1, by omega, by go_num, ?_, ?_, N5.as HSN.out, HS1.out⟩
            · exact Below.grown (HBel.out.trans ((k1.trans (k2.mono hz1)).mono HBel.out.size)) G3 (by have := k2.size; omega) (fun j hj => by cases hj; exact Nat.le_refl _)
            · have := k2.size
              have := G3.size
              omega
          case measure => simp [intOf]; omega
        · have e8 := hideP ((N2.out hok hha).symm.trans HSC.out)
          clear N1 N2 N3 HSC HNam HSN
          go_wp2_with (first | (go_at_call 51; refine Calls.mono (iSlot_yes _ _ hok) ?_; rintro e w1 ⟨rfl, k1⟩; have hz1 := k1.size) | (go_at_call 82; refine Calls.mono (iHas_any _ k (hasI T) x _ (N4.out _ (by assumption)) hxw) ?_; rintro e w2 ⟨rfl, k2⟩; rw [hha]))
          go_returns
          refine .inl ⟨by rw [← e8.out]; decide, by rw [← e8.out]; rfl, ?_⟩
          exact HBel.out.trans ((k1.trans (k2.mono hz1)).mono HBel.out.size)
    · obtain rfl : k = L.length := by omega
      have HBel := hideP hbel
      rw [List.take_length] at hnam
      have HNam := hideP hnam
      have e0 := hideP ((scan_done L _ (Nat.le_refl _)).symm.trans hsc)
      clear hbel hnam hsc
      go_wp2
      go_returns
      exact .inr ⟨e0.out.symm, rfl, HBel.out, hlw, HNam.out⟩
end Go.Proofs.Ytmmjannkfmiohaa

namespace Go.Proofs.Ytmmjannkfmiohaa
open Go.RowKit Go.Maps
set_option linter.unusedVariables false
attribute [local go_sem high] fI0 fI1

/-- The program's list of ids where there is a fault, and where there is none. -/
theorem names_no {w : World} {L : List Int} {c : Int} {f : FuncId} {args : Array Value} (h : Calls Try.prog f args w (NamS w L c)) (hc : ¬ c = 0) :
    Calls Try.prog f args w fun e w' => e = .returned (.tuple #[.map none, .int .i64 c]) ∧ Below w.heap.size w w' :=
  h.mono fun e w' h => by
    rcases h with ⟨_, h1, h2⟩ | ⟨h1, _⟩
    · exact ⟨h1, h2⟩
    · exact absurd h1 hc
theorem names_yes {w : World} {L : List Int} {c : Int} {f : FuncId} {args : Array Value} (h : Calls Try.prog f args w (NamS w L c)) (hc : c = 0) :
    Calls Try.prog f args w fun e w' => e = .returned (.tuple #[.map (some w.heap.size), .int .i64 0]) ∧ Below w.heap.size w w' ∧ w.heap.size < w'.heap.size ∧ Nam w' w.heap.size L.length (hasI L) :=
  h.mono fun e w' h => by
    rcases h with ⟨h1, _⟩ | ⟨_, h⟩
    · exact absurd hc h1
    · exact h

set_option maxHeartbeats 400000 in
theorem iIds_any (lo hi : Nat) (ao : Option Addr) (ca : Nat) (L : List Int) (w : World) (ha : Row .i64 w lo hi ao L) (hs : hi ≤ w.heap.size) (hl : L.length ≤ 1048576) :
    Calls Try.prog 59 #[.slice ao L.length ca] w fun e w' => e = .returned (.int .i64 (idsF L)) ∧ Below w.heap.size w w' := by
  have C := iNames_any lo hi ao ca L w ha hs hl
  clear ha
  by_cases h0 : idsF L = 0
  · have C' := hideP (names_yes C h0)
    rw [h0]
    clear C h0
    go_enter Try.func59, Try.ntmps59
    go_wp2_with (first | (go_at_call 72; refine Calls.mono C'.out ?_; rintro e w1 ⟨rfl, k1, l1, n1⟩; have K1 := hideP k1; clear k1 n1))
    go_returns
    exact ⟨rfl, K1.out⟩
  · have C' := hideP (names_no C h0)
    clear C
    generalize idsF L = c at *
    go_enter Try.func59, Try.ntmps59
    go_wp2_with (first | (go_at_call 72; refine Calls.mono C'.out ?_; rintro e w1 ⟨rfl, k1⟩; have K1 := hideP k1; clear k1))
    go_returns
    exact ⟨rfl, K1.out⟩

/-- The code and the value of NextId. -/
def nxC (L : List Int) (s : Int) : Int := if askF L s = 0 then (if nxt L s = -1 then 7 else 0) else askF L s
def nxV (L : List Int) (s : Int) : Int := if askF L s = 0 then (if nxt L s = -1 then 0 else nxt L s) else 0

theorem nxt_1 {L : List Int} {s : Int} (h : hasI L (64 * s + 1) = false) : nxt L s = 64 * s + 1 := by unfold nxt; unfold hasI at h; rw [h]; rfl
theorem nxt_2 {L : List Int} {s : Int} (h1 : hasI L (64 * s + 1) = true) (h : hasI L (64 * s + 2) = false) : nxt L s = 64 * s + 2 := by unfold nxt; unfold hasI at h h1; rw [h1, h]; rfl
theorem nxt_3 {L : List Int} {s : Int} (h1 : hasI L (64 * s + 1) = true) (h2 : hasI L (64 * s + 2) = true) (h : hasI L (64 * s + 3) = false) : nxt L s = 64 * s + 3 := by unfold nxt; unfold hasI at h h1 h2; rw [h1, h2, h]; rfl
theorem nxt_4 {L : List Int} {s : Int} (h1 : hasI L (64 * s + 1) = true) (h2 : hasI L (64 * s + 2) = true) (h : hasI L (64 * s + 3) = true) : nxt L s = -1 := by unfold nxt; unfold hasI at h h1 h2; rw [h1, h2, h]; rfl

end Go.Proofs.Ytmmjannkfmiohaa
