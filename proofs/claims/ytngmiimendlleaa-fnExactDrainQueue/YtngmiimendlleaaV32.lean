/- The program's drain. -/
import Derived.Test.YtngmiimendlleaaV31
namespace Go.Proofs.Ytngmiimendlleaa
open Go.RowKit
set_option linter.unusedVariables false
attribute [local go_sem] growUpon growAt

def mnQ (a b : Int) : Int := if b < a then b else a
theorem mnQ_eq (a b : Int) : (mnQ a b = a ∧ a ≤ b) ∨ (mnQ a b = b ∧ b ≤ a) := by unfold mnQ; split <;> omega
theorem run_min_mnQ {P : Program} {w : World} (ts : Array TypeId) (t : TypeId) (k k' : IntKind) (x y : Int) : (Builtin.min_ ts t #[.int k x, .int k' y]).run P w = .ok (.int k (mnQ x y)) w := run_min_int2 w ts t k k' x y

def oIdx (cap i : Nat) : Nat := if cap = i then 0 else i * 2
theorem smg_from_some (g len cap : Nat) (kl : IntKind) (l : Int) (h0 : 0 ≤ l) (h1 : l ≤ len) (w : World) :
    (Instr.slice 26 (.slice (some ⟨g, 0, none⟩) len cap) (some (.int kl l)) none none).run Try.prog w = .ok (.slice (some ⟨g, oIdx cap l.toNat, none⟩) (len - l.toNat) (cap - l.toNat)) w := by
  rw [smg_from _ len cap kl l h0 h1]
  unfold oFrom oIdx
  by_cases h : cap = l.toNat
  · rw [if_pos h, if_pos h]
  · rw [if_neg h, if_neg h]; simp [add_none]
theorem smg_upto_some (g len cap : Nat) (kh : IntKind) (h : Int) (h0 : 0 ≤ h) (h1 : h ≤ cap) (w : World) :
    (Instr.slice 26 (.slice (some ⟨g, 0, none⟩) len cap) none (some (.int kh h)) none).run Try.prog w = .ok (.slice (some ⟨g, 0, none⟩) h.toNat cap) w :=
  smg_upto _ (fun a ha => by cases ha; exact addr0 g 0) len cap kh h h0 h1 w
theorem smg_from_none (kl : IntKind) (w : World) :
    (Instr.slice 26 (.slice none 0 0) (some (.int kl 0)) none none).run Try.prog w = .ok (.slice none 0 0) w := by
  rw [smg_from _ 0 0 kl 0 (by omega) (by simp)]
  simp [oFrom]
theorem smg_upto_none (kh : IntKind) (w : World) :
    (Instr.slice 26 (.slice none 0 0) none (some (.int kh 0)) none).run Try.prog w = .ok (.slice none 0 0) w := by
  rw [smg_upto _ (fun a ha => by cases ha) 0 0 kh 0 (by omega) (by simp)]
  rfl
theorem grown_setRow (w : World) (g : Nat) (cs : Array Value) : w.grownBy (w.setRow g cs) (some g) := ⟨rfl, rfl, rfl, by simp [World.setRow], fun k _ hk => setRow_other w g k cs (fun e => hk (by rw [e]))⟩
theorem far_setRow (w : World) (g : Nat) (cs : Array Value) : Far g (g + 1) w (w.setRow g cs) := ⟨rfl, rfl, rfl, by simp [World.setRow], fun k _ hk => setRow_other w g k cs (by omega)⟩
theorem Bods.farG {w w' : World} {lo hi g : Nat} {bs : List Bd} (h : Bods w lo hi bs) (f : Far g (g + 1) w w') (hne : ∀ d ∈ bs, d.L ≠ [] → d.g ≠ g) : Bods w' lo hi bs :=
  ⟨fun d hd => Bd.on_far (h.each d hd) f fun e => by have := hne d hd e; have := Bd.lt (h.each d hd) e; omega, h.inn, h.apart⟩
theorem sp_row {w : World} {base g cap : Nat} {L : List Mg} (h : w.ownsRow base 52 2 (.slice (some ⟨g, 0, none⟩) L.length cap) L.length (mcs L)) : SpM w base w.heap.size (some ⟨g, 0, none⟩) L := by
  by_cases hn : L = []
  · exact .inl hn
  · have hlt := World.ownsRow.lt h g rfl
    refine .inr ⟨g, rfl, hlt.1, hlt.2, fun i hi => ?_, fun c => World.ownsRow.frozenAt h c⟩
    have c : ∀ j, j < 2 → w.cell? ⟨g, i * 2 + j, none⟩ = L[i].vals[j]? := fun j hj => by
      rw [World.ownsRow.cellAt h (i * 2 + j) (by omega), mcs_at L i hi j hj]
    exact ⟨c 0 (by omega), c 1 (by omega)⟩

set_option maxRecDepth 100000 in
/-- Many messages joined to a new row. -/
theorem wpList_appMs {w : World} {ops : Array Oper} {rest : List Oper} {o : Oper} {a : Act} {Q : Exit → Act → World → Prop} (hgd : o.guard = none)
    (s x : Operand) (ho : o.op = .call { callee := .builtin .append, args := #[s, x], argTypes := #[26, 26] })
    (base : Nat) (so : Option Addr) (sc : Nat) (hs : a.eval s = .slice so 0 sc) (hown : OwnM w base so sc [])
    (g cb : Nat) (A : List Mg) (hx : a.eval x = .slice (some ⟨g, 0, none⟩) A.length cb) (hc : ∀ i (h : i < A.length), A[i].cells w g (i * 2)) (hn : A.length ≤ 1048577) (hbase : base ≤ w.heap.size)
    (h : ∀ so' sc' w', SpM w' base w'.heap.size so' A → Below base w w' → wpList Try.prog ops Q rest (a.put o.dst (.slice so' A.length sc')) w') : wpList Try.prog ops Q (o :: rest) a w := by
  obtain ⟨i0, hi0, hz0, hz1, hz2⟩ := info_parts Try.infoM
  refine wpList_plain hgd fun _ hK => ?_
  refine wp_append_own w s x 26 ho base 52 i0 (.agg #[.int .i64 0, .slice none 0 0]) 2 32 Try.underlying26 hi0 hz0 hz1 hz2 rfl (by decide) _ 0 [] hs (by simpa [mcs] using hown.row) ⟨g, 0, none⟩ A.length cb (mcs A) hx (mcs_len A) (fun j u hj => ?_) (fun v hv => ?_) (by unfold maxLen; omega) ?_ hbase fun v' w' ho' hg' _ => ?_
  · rw [add_none, Nat.zero_add]
    have hj' : j < A.length * 2 := by have := (List.getElem?_eq_some_iff.1 hj).1; rwa [mcs_len] at this
    have hi : j / 2 < A.length := by omega
    have hm := mcs_at A (j / 2) hi (j % 2) (by omega)
    rw [show j / 2 * 2 + j % 2 = j by omega, hj] at hm
    obtain ⟨c0, c1⟩ := hc (j / 2) hi
    have h2 : j % 2 = 0 ∨ j % 2 = 1 := by omega
    rcases h2 with h2 | h2
    · rw [h2] at hm
      simp [Mg.vals] at hm
      rw [hm, ← c0]
      congr 2; omega
    · rw [h2] at hm
      simp [Mg.vals] at hm
      rw [hm, ← c1]
      congr 2; omega
  · simp only [mcs, List.mem_flatMap, Mg.vals] at hv
    obtain ⟨m, _, hv⟩ := hv
    simp at hv
    rcases hv with rfl | rfl <;> rfl
  · omega
  · have hbel : Below base w w' := (Below.refl base w).grown hg' hbase fun q hq => (World.ownsRow.lt hown.row q hq).1
    rw [Nat.zero_add, List.nil_append] at ho'
    rcases ho'.2 with ⟨hv, hA⟩ | ⟨g', cap', cur, hv, _⟩
    · have : A = [] := List.length_eq_zero_iff.1 hA
      subst this
      subst hv
      exact hK _ _ (h none 0 w' (.inl rfl) hbel)
    · subst hv
      exact hK _ _ (h _ cap' w' (sp_row ho') hbel)

set_option maxRecDepth 100000 in
set_option maxHeartbeats 1000000 in
theorem cloneM_some (g c : Nat) (A : List Mg) (w : World) (hc : ∀ i (h : i < A.length), A[i].cells w g (i * 2)) (hg : g < w.heap.size) (hn : A.length ≤ 1048576) :
    Calls Try.prog 34 #[.slice (some ⟨g, 0, none⟩) A.length c] w fun e w' => ∃ s1 c1, e = .returned (.slice s1 A.length c1) ∧ SpM w' w.heap.size w'.heap.size s1 A ∧ Below w.heap.size w w' := by
  have HC := hideP hc
  have hnil : ∀ w1, (binOp .eql 26 (.slice (some ⟨g, 0, none⟩) A.length c) (.slice none 0 0)).run Try.prog w1 = .ok (.bool false) w1 := fun w1 => Go.Lib.run_eql_slice_nil w1 26 52 _ _ _ _ _ Try.underlying26
  clear hc
  go_enter Try.func34, Try.ntmps34
  go_wp2_with (first | (at_builtin; refine wpList_appMs rfl _ _ rfl w.heap.size (some ⟨w.heap.size, 0, none⟩) 0 rfl (OwnM.lit w w.heap.size (Nat.le_refl _)) g c A rfl (fun i h => (HC.out i h).keep (kal3 w _) hg) (by omega) (by simp) ?_; intro s1 c1 w2 S2 K2; refine Hid.out ?_) | go_in)
  have HS2 := hideP S2
  have HK2 : Hid (Below w.heap.size w w2) := hideP (Below.trans (by go_grown) K2)
  clear S2 K2
  refine hideP ?_
  go_wp2
  go_returns
  exact ⟨s1, c1, rfl, HS2.out, HK2.out⟩
set_option maxRecDepth 100000 in
set_option maxHeartbeats 1000000 in
theorem cloneM_none (w : World) :
    Calls Try.prog 34 #[.slice none 0 0] w fun e w' => e = .returned (.slice none 0 0) ∧ w' = w := by
  have hnil : ∀ w1, (binOp .eql 26 (.slice none 0 0) (.slice none 0 0)).run Try.prog w1 = .ok (.bool true) w1 := fun w1 => Go.Lib.run_eql_slice_nil w1 26 52 _ _ _ _ _ Try.underlying26
  go_enter Try.func34, Try.ntmps34
  go_wp2
  go_returns
  exact ⟨rfl, rfl⟩
end Go.Proofs.Ytngmiimendlleaa
