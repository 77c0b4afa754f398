/- Rows of numbers that a call owns: joined to others, one at a time or many. Lists of ids by the model: whether one is there, their faults, the slot asked behind them. -/
import Derived.Test.YtbagloapclgpnaaW3
import Derived.Test.YtbagloapclgpnaaW1
import Derived.Lib.SmallJoins
import Derived.Test.YtbagloapclgpnaaW4
namespace Go.Proofs.Ytbagloapclgpnaa
open Go.RowKit
set_option linter.unusedVariables false

/-- A row that is joined to another one: nil, or cells somewhere. -/
def SrcN (k : IntKind) (w : World) (bo : Option Addr) (L : List Int) : Prop :=
  (bo = none ∧ L = []) ∨ ∃ a, bo = some a ∧ ∀ i (h : i < L.length), w.cell? (a.add i) = some (.int k L[i])

theorem add_none (g o j : Nat) : (⟨g, o, none⟩ : Addr).add j = ⟨g, o + j, none⟩ := by unfold Addr.add; split <;> simp_all

theorem Row.src {k : IntKind} {w : World} {lo hi : Nat} {ao : Option Addr} {L : List Int} (h : Row k w lo hi ao L) : SrcN k w ao L := by
  rcases h with rfl | ⟨g, o, rfl, _, _, hc⟩
  · cases ao with
    | none => exact .inl ⟨rfl, rfl⟩
    | some a => exact .inr ⟨a, rfl, fun i hi => by simp at hi⟩
  · exact .inr ⟨_, rfl, fun i hi => by rw [add_none]; exact hc i hi⟩
theorem src_one (k : IntKind) (w : World) (x : Int) (T : TypeId) : SrcN k (w.alloc (.cells #[.int k x] T)) (some ⟨w.heap.size, 0, none⟩) [x] :=
  .inr ⟨_, rfl, fun i hi => by
    obtain rfl : i = 0 := by simpa using hi
    rw [add_none, World.cell?_alloc_new]; rfl⟩
theorem run_append_none_any {P : Program} {w : World} (base : Nat) (t ty e : TypeId) (i : TypeInfo) (size c : Nat) (ht : P.underlying t = some (.slice e)) (hi : P.info? e = some i)
    (v : Value) (n : Nat) (xs : List Value) (hown : w.ownsRow base e size v n xs) : (Builtin.append_ #[t, t] ty #[v, .slice none 0 c]).run P w = .ok v w := by
  rcases hown.2 with ⟨rfl, rfl⟩ | ⟨g, cap, cur, rfl, _, _, hnc, _⟩
  · simp [Builtin.append_, run_underlying ht, sizeOf, typeInfo, hi, Builtin.lenOf, Builtin.firstCells]
  · simp [Builtin.append_, run_underlying ht, sizeOf, typeInfo, hi, Builtin.lenOf, Builtin.firstCells, hnc, storeCells]

theorem OwnR.alloc {k : IntKind} {T : TypeId} {w : World} {base : Nat} {ao : Option Addr} {cap : Nat} {L : List Int} (h : OwnR k T w base ao cap L) (o : Obj) : OwnR k T (w.alloc o) base ao cap L := World.ownsRow.alloc h o
theorem OwnR.le {k : IntKind} {T : TypeId} {w : World} {base base' : Nat} {ao : Option Addr} {cap : Nat} {L : List Int} (h : OwnR k T w base ao cap L) (hb : base' ≤ base) : OwnR k T w base' ao cap L := Joins.ownsRow_le h hb
theorem OwnR.nil (k : IntKind) (T : TypeId) (w : World) (base : Nat) : OwnR k T w base none 0 [] := World.ownsRow_nil w base T 1
theorem OwnR.keep {k : IntKind} {T : TypeId} {w w' : World} {base : Nat} {ao : Option Addr} {cap : Nat} {L : List Int} (h : OwnR k T w base ao cap L) (kk : Below w.heap.size w w') : OwnR k T w' base ao cap L :=
  World.ownsRow.kept h (row := none) ⟨kk.os, kk.tape, kk.output, kk.size, fun b hb _ => kk.block b hb⟩ (by cases hv : Value.ownBlock (.slice ao L.length cap) <;> simp)
theorem OwnR.set {k : IntKind} {T : TypeId} {w : World} {base : Nat} {ao : Option Addr} {cap : Nat} {L : List Int} (h : OwnR k T w base ao cap L) (p : Addr) (v : Value) (hp : p.block < base) : OwnR k T (w.setCell p v) base ao cap L := by
  have hg : w.grownBy (w.setCell p v) (some p.block) := ⟨rfl, rfl, rfl, by simp, fun b _ hb => Below.heap_setCell w p v b (fun e => hb (by rw [e]))⟩
  refine World.ownsRow.kept h hg ?_
  cases hv : Value.ownBlock (.slice ao L.length cap) with
  | none => exact .inl rfl
  | some b =>
    refine .inr fun e => ?_
    injection e with e
    have := (World.ownsRow.lt h b hv).1
    omega
theorem OwnR.src {k : IntKind} {T : TypeId} {w : World} {base : Nat} {ao : Option Addr} {cap : Nat} {L : List Int} (h : OwnR k T w base ao cap L) : SrcN k w ao L := h.wrt.row.src
/-- A list that was written out. -/
theorem OwnR.lit (k : IntKind) (T : TypeId) (w : World) (base : Nat) (L : List Int) (cs : Array Value) (hc : cs.toList = L.map (Value.int k)) (hb : base ≤ w.heap.size) (hm : L.length ≤ maxLen) : OwnR k T (w.alloc (.cells cs T)) base (some ⟨w.heap.size, 0, none⟩) L.length L := by
  have hs : cs.size = L.length * 1 := by rw [← Array.length_toList, hc]; simp
  have := World.ownsRow_lit (e := T) (size := 1) w cs L.length hb hm hs
  rw [hc] at this
  exact this

theorem wp_app {k : IntKind} {T S : TypeId} {bytes : Nat} {w : World} {o : Oper} {a : Act} {K : Act → World → Prop} {Q : Exit → Act → World → Prop}
    (hu : Try.prog.underlying S = some (.slice T)) (hinf : (Try.prog.info? T).map (fun i => (i.zero, i.size, i.bytes)) = some (some (.int k 0), 1, bytes)) (hby : bytes ≤ 8)
    (s x : Operand) (ho : o.op = .call { callee := .builtin .append, args := #[s, x], argTypes := #[S, S] })
    (base : Nat) (ao : Option Addr) (cap : Nat) (M : List Int) (hs : a.eval s = .slice ao M.length cap) (hown : OwnR k T w base ao cap M)
    (bo : Option Addr) (cb : Nat) (L : List Int) (hx : a.eval x = .slice bo L.length cb) (hsrc : SrcN k w bo L) (hn : M.length + L.length ≤ 2097152) (hbase : base ≤ w.heap.size)
    (h : ∀ ao' cap' w', OwnR k T w' base ao' cap' (M ++ L) → Below base w w' → K (a.put o.dst (.slice ao' (M ++ L).length cap')) w') : o.wp Try.prog a w K Q := by
  obtain ⟨i0, hi0, hz0, hz1, hz2⟩ := info_parts hinf
  rcases hsrc with ⟨rfl, rfl⟩ | ⟨ad, rfl, hc⟩
  · have hrun := run_append_none_any (P := Try.prog) (w := w) base S o.type T i0 1 cb hu hi0 _ M.length _ hown
    have hr : (execOp a.eval o).run Try.prog w = .ok (.value (.slice ao M.length cap)) w := by
      unfold execOp
      simp only [ho, resolve, invoke, builtin, Sem.run_bind, Sem.run_pure, Result.andThen_ok, List.map_toArray, List.map_cons, List.map_nil, hs, hx, List.length_nil, hrun]
    unfold Oper.wp
    rw [hr]
    have hh := h ao cap w (by rw [List.append_nil]; exact hown) (Below.refl _ _)
    rw [List.append_nil] at hh
    exact hh
  · refine wp_append_own w s x S ho base T i0 (.int k 0) 1 bytes hu hi0 hz0 hz1 hz2 rfl (by decide) _ M.length (M.map (Value.int k)) hs hown ad L.length cb (L.map (Value.int k)) hx (by simp) (fun j u hj => ?_) (ints_oneCell k L) (by unfold maxLen; omega) ?_ hbase fun v' w' ho' hg' _ => ?_
    · obtain ⟨hj', e⟩ := List.getElem?_eq_some_iff.1 hj
      rw [hc j (by simpa using hj'), ← e]
      simp
    · have : (M.length + L.length) * bytes ≤ 2097152 * 8 := Nat.mul_le_mul hn hby
      omega
    · rw [← List.map_append] at ho'
      obtain ⟨ao', cap', rfl, O⟩ := ownR_form ho'
      exact h ao' cap' w' O ((Below.refl base w).grown hg' hbase fun b hb => (World.ownsRow.lt hown b hb).1)

theorem wpList_app {k : IntKind} {T S : TypeId} {bytes : Nat} {w : World} {ops : Array Oper} {rest : List Oper} {o : Oper} {a : Act} {Q : Exit → Act → World → Prop}
    (hu : Try.prog.underlying S = some (.slice T)) (hinf : (Try.prog.info? T).map (fun i => (i.zero, i.size, i.bytes)) = some (some (.int k 0), 1, bytes)) (hby : bytes ≤ 8)
    (hg : o.guard = none) (s x : Operand) (ho : o.op = .call { callee := .builtin .append, args := #[s, x], argTypes := #[S, S] })
    (base : Nat) (ao : Option Addr) (cap : Nat) (M : List Int) (hs : a.eval s = .slice ao M.length cap) (hown : OwnR k T w base ao cap M)
    (bo : Option Addr) (cb : Nat) (L : List Int) (hx : a.eval x = .slice bo L.length cb) (hsrc : SrcN k w bo L) (hn : M.length + L.length ≤ 2097152) (hbase : base ≤ w.heap.size)
    (h : ∀ ao' cap' w', OwnR k T w' base ao' cap' (M ++ L) → Below base w w' → wpList Try.prog ops Q rest (a.put o.dst (.slice ao' (M ++ L).length cap')) w') : wpList Try.prog ops Q (o :: rest) a w :=
  wpList_plain hg fun _ hK => wp_app hu hinf hby s x ho base ao cap M hs hown bo cb L hx hsrc hn hbase fun ao' cap' w' h1 h2 => hK _ _ (h ao' cap' w' h1 h2)

/-- A row joined to nil, in a region whose order is open. -/
theorem made_app_nil {k : IntKind} {T S : TypeId} {bytes : Nat} {w : World} {o : Oper} {a : Act} {K : World → Value → Prop}
    (hu : Try.prog.underlying S = some (.slice T)) (hinf : (Try.prog.info? T).map (fun i => (i.zero, i.size, i.bytes)) = some (some (.int k 0), 1, bytes)) (hby : bytes ≤ 8)
    (s x : Operand) (ho : o.op = .call { callee := .builtin .append, args := #[s, x], argTypes := #[S, S] })
    (hs : a.eval s = .slice none 0 0) (bo : Option Addr) (cb : Nat) (L : List Int) (hx : a.eval x = .slice bo L.length cb) (hsrc : SrcN k w bo L) (hn : L.length ≤ 2097152)
    (h : ∀ ao' cap' w', OwnR k T w' w.heap.size ao' cap' L → Below w.heap.size w w' → K w' (.slice ao' L.length cap')) : madeAt Try.prog o a w K := by
  obtain ⟨i0, hi0, hz0, hz1, hz2⟩ := info_parts hinf
  have hown : OwnR k T w w.heap.size none 0 [] := OwnR.nil _ _ _ _
  unfold madeAt
  rcases hsrc with ⟨rfl, rfl⟩ | ⟨ad, rfl, hc⟩
  · have hrun : (Builtin.append_ #[S, S] o.type #[.slice none 0 0, .slice none 0 cb]).run Try.prog w = .ok (.slice none 0 0) w := run_append_none_any w.heap.size S o.type T i0 1 cb hu hi0 _ 0 [] (World.ownsRow_nil w w.heap.size T 1)
    have hr : (execOp a.eval o).run Try.prog w = .ok (.value (.slice none 0 0)) w := by
      unfold execOp
      simp only [ho, resolve, invoke, builtin, Sem.run_bind, Sem.run_pure, Result.andThen_ok, List.map_toArray, List.map_cons, List.map_nil, hs, hx, List.length_nil, hrun]
    rw [hr]
    exact ⟨Below.refl _ _, h none 0 w hown (Below.refl _ _)⟩
  · obtain ⟨v', w', hr, h2, h3, h4⟩ := run_append_own (P := Try.prog) w w.heap.size S o.type T i0 (.int k 0) 1 bytes hu hi0 hz0 hz1 hz2 rfl (by decide) (.slice none 0 0) 0 [] hown ad L.length cb (L.map (Value.int k)) (by simp) (fun j u hj => by
      obtain ⟨hj', e⟩ := List.getElem?_eq_some_iff.1 hj
      rw [hc j (by simpa using hj'), ← e]
      simp) (ints_oneCell k L) (by unfold maxLen; omega) (by
      have : (0 + L.length) * bytes ≤ 2097152 * 8 := Nat.mul_le_mul (by omega) hby
      omega) (Nat.le_refl _)
    have hr' : (execOp a.eval o).run Try.prog w = .ok (.value v') w' := by
      unfold execOp
      simp only [ho, resolve, invoke, builtin, Sem.run_bind, Sem.run_pure, Result.andThen_ok, List.map_toArray, List.map_cons, List.map_nil, hs, hx, hr]
    rw [hr']
    rw [List.nil_append] at h2
    obtain ⟨ao', cap', rfl, O⟩ := ownR_form h2
    have hb : Below w.heap.size w w' := (Below.refl _ w).grown h3 (Nat.le_refl _) fun b hb => by simp [Value.ownBlock] at hb
    exact ⟨hb, h ao' cap' w' O hb⟩

end Go.Proofs.Ytbagloapclgpnaa

namespace Go.Proofs.Ytbagloapclgpnaa
open Go.RowKit
set_option linter.unusedVariables false

theorem Try.infoI5 : (Try.prog.info? 2).map (fun i => (i.zero, i.size, i.bytes)) = some (some (.int .i64 0), 1, 8) := by kernel_rfl

theorem Row.uptoI {k : IntKind} {w : World} {lo hi g o : Nat} {L : List Int} (h : Row k w lo hi (some ⟨g, o, none⟩) L) (i : Nat) : Row k w lo hi (some ⟨g, o, none⟩) (L.take i) := by
  rcases h with rfl | ⟨g', o', ha, h1, h2, hcl⟩
  · exact .inl (by simp)
  · cases ha
    exact .inr ⟨g, _, rfl, h1, h2, fun j hj => by rw [List.getElem_take]; exact hcl j (by simp at hj; omega)⟩

theorem Try.sizeI5 (w : World) : (sizeOf 2).run Try.prog w = .ok 1 w := by
  obtain ⟨i0, hi0, hz0, hz1, hz2⟩ := info_parts Try.infoI5
  simp [sizeOf, typeInfo, hi0, hz1]

set_option maxRecDepth 100000 in
theorem sl_uptoI (g o len cap : Nat) (kh : IntKind) (h : Int) (h0 : 0 ≤ h) (h1 : h ≤ cap) (w : World) :
    (Instr.slice 26 (.slice (some ⟨g, o, none⟩) len cap) none (some (.int kh h)) none).run Try.prog w = .ok (.slice (some ⟨g, o, none⟩) h.toNat cap) w := by
  rw [run_slice_h w 26 _ len cap Try.underlying26 kh h h0 h1]
  have e : Try.prog.elem 26 = 2 := by kernel_rfl
  rw [e, Try.sizeI5]
  simp only [Result.andThen_ok]
  unfold sliced
  by_cases hc : cap = 0
  · simp [hc]
  · simp [hc, add_none]

theorem has_take_no {L : List Int} {v : Int} {k : Nat} (h : k < L.length) (h1 : (L.take k).contains v = false) (h2 : (L[k] == v) = false) : (L.take (k + 1)).contains v = false := by
  rw [take_snoc h]
  have e : L[k] ≠ v := by simpa using h2
  simp only [List.contains_eq_mem, List.mem_append, List.mem_singleton, decide_eq_false_iff_not] at h1 ⊢
  rintro (h | h)
  · exact h1 h
  · exact e h.symm
theorem has_take_yes {L : List Int} {v : Int} {k : Nat} (h : k < L.length) (h2 : (L[k] == v) = true) : L.contains v = true := by
  have e : L[k] = v := by simpa using h2
  rw [← e]
  simp

set_option maxHeartbeats 1000000 in
theorem sHas_any (lo hi : Nat) (ao : Option Addr) (ca : Nat) (L : List Int) (v : Int) (w : World) (ha : Row .i64 w lo hi ao L) (hl : L.length ≤ 1048576) :
    Calls Try.prog 108 #[.slice ao L.length ca, .int .i64 v] w fun e w' => e = .returned (.bool (hasI L v)) ∧ w' = w := by
  have hl' : (L.length : Int) ≤ 1048576 := by omega
  have HA := hideP ha
  clear ha
  go_enter Try.func108, Try.ntmps108
  go_wp2
  go_loop [5] (fun i => ∃ k : Nat, k ≤ L.length ∧ i = .int .i64 k ∧ (L.take k).contains v = false) (fun i => L.length - (intOf i).toNat)
  case atStart => exact ⟨0, Nat.zero_le _, rfl, by simp⟩
  case round =>
    obtain ⟨k, hk, rfl, hno⟩ := hrel
    by_cases hlt : k < L.length
    · have hlt' : (k : Int) < (L.length : Int) := by omega
      have hne : L ≠ [] := fun e => by rw [e] at hlt; simp at hlt
      rcases HA.out with e | ⟨g, o, rfl, _, hg, hc⟩
      · exact absurd e hne
      have a0 := hc k hlt
      have Y : (L[k] == v) = true → L.contains v = true := has_take_yes hlt
      have N := hideP (fun h => has_take_no hlt hno h)
      clear hc HA hno
      obtain ⟨x, hx⟩ : ∃ x, L[k] = x := ⟨_, rfl⟩
      rw [hx] at a0 Y N
      clear hx
      cases hxe : (x == v)
      · clear Y
        go_wp2
        go_round
        case rel => exact ⟨k + 1, by omega, by go_num, N.out hxe⟩
        case measure => simp [intOf]; omega
      · have Y' : Hid (true = hasI L v) := (Y hxe).symm
        clear N Y
        go_wp2
        go_returns
        exact ⟨congrArg (fun b => Ending.returned (.bool b)) Y'.out, rfl⟩
    · obtain rfl : k = L.length := by omega
      rw [List.take_length] at hno
      have hno' : Hid (false = hasI L v) := hno.symm
      clear hno
      go_wp2
      go_returns
      exact ⟨congrArg (fun b => Ending.returned (.bool b)) hno'.out, rfl⟩

set_option maxHeartbeats 2000000 in
theorem sFault5_any (lo hi : Nat) (ao : Option Addr) (ca : Nat) (L : List Int) (w : World) (ha : Row .i64 w lo hi ao L) (hs : hi ≤ w.heap.size) (hl : L.length ≤ 1048576) (hca : L.length ≤ ca) :
    Calls Try.prog 90 #[.slice ao L.length ca] w fun e w' => e = .returned (.int .i64 (idsF L)) ∧ Below w.heap.size w w' := by
  have hl' : (L.length : Int) ≤ 1048576 := by omega
  have HA := hideP ha
  clear ha
  by_cases hmany : 12 < L.length
  · have hmany' : (12 : Int) < (L.length : Int) := by omega
    have e := hideP (idsF_many hmany).symm
    go_enter Try.func90, Try.ntmps90
    go_wp2
    go_returns
    exact ⟨congrArg (fun x => Ending.returned (.int .i64 x)) e.out, Below.refl _ _⟩
  have hfew' : ¬ (12 : Int) < (L.length : Int) := by omega
  have HF := hideP (idsF_few (L := L) (by omega))
  go_enter Try.func90, Try.ntmps90
  go_wp2
  go_loopw [3] (fun i wr => ∃ k : Nat, k ≤ L.length ∧ i = .int .i64 k ∧ Below w.heap.size w wr ∧ scan (L.take k) (L.drop k) = scan [] L) (fun i _ => L.length - (intOf i).toNat)
  case atStart => exact ⟨0, Nat.zero_le _, rfl, Below.refl _ _, by simp⟩
  case round =>
    obtain ⟨k, hk, rfl, hbel, hsc⟩ := hrel
    have hz := hbel.size
    by_cases hlt : k < L.length
    · have hlt' : (k : Int) < (L.length : Int) := by omega
      have hne : L ≠ [] := fun e => by rw [e] at hlt; simp at hlt
      rcases HA.out with e | ⟨g, o, rfl, hlo, hg, hc⟩
      · exact absurd e hne
      have hR : Row .i64 w lo hi (some ⟨g, o, none⟩) L := .inr ⟨g, o, rfl, hlo, hg, hc⟩
      have HT := hideP ((hR.keep hbel (by omega)).uptoI k)
      have a0 := (hbel.cell (p := ⟨g, o + k, none⟩) (by show g < _; omega)).trans (hc k hlt)
      have N1 := hideP (scan_no hlt)
      have N2 := hideP (scan_twice hlt)
      have N3 := hideP (scan_on hlt)
      have HSC := hideP hsc
      have HBel := hideP hbel
      have hgl : g < wr.heap.size := by omega
      have htk : (L.take k).length = k := by simp; omega
      clear hc HA hsc hbel hR hne
      obtain ⟨x, hx⟩ : ∃ x, L[k] = x := ⟨_, rfl⟩
      rw [hx] at a0 N1 N2 N3
      clear hx
      obtain ⟨T, hT⟩ : ∃ T, L.take k = T := ⟨_, rfl⟩
      rw [hT] at N1 N2 N3 HSC HT htk
      have HTL := hideP htk
      clear hT htk
      cases hok : okId x
      · go_wp2_with (go_at_call 107; refine Calls.mono (sId_any _ _) ?_; rintro e w1 ⟨rfl, rfl⟩; rw [hok])
        go_returns
        exact ⟨congrArg (fun x => Ending.returned (.int .i64 x)) (by rw [HF.out, ← HSC.out, N1.out hok]), HBel.out⟩
      · have hcak : (k : Int) ≤ (ca : Int) := by omega
        have hk0 : (0 : Int) ≤ (k : Int) := by omega
        have SL := sl_uptoI g o L.length ca .i64 k hk0 hcak
        rw [Int.toNat_natCast] at SL
        have CH := hideP (fun w1 (kk : Kept wr w1) => sHas_any lo hi (some ⟨g, o, none⟩) ca T x w1 (HT.out.keep kk (by omega)) (by rw [HTL.out]; omega))
        rw [HTL.out] at CH
        cases hha : hasI T x
        · rw [hha] at CH
          have HS1 := hideP (HSC.out.symm.trans (N3.out hok hha)).symm
          clear HSC N1 N2 N3 HT
          go_wp2_with (go_at_call 107; refine Calls.mono (sId_any _ _) ?_; rintro e w1 ⟨rfl, rfl⟩; rw [hok])
          refine wp_region_kept (by kernel_rfl) (by kernel_rfl) ?_
          repeat (refine kept_step (by rfl) ?_; apply Exists.intro; refine ⟨fun w1 k1 => ?_, fun K hK => ?_⟩; (focus (have hc := Kept.cell k1; go_simp; first | done | rfl | (go_at_call 108; exact kept_call_same k1 (CH.out _ k1)))); (go_simp; refine hK _ ?_; clear hK K))
          refine wpQuiet_nil ?_
          intro w8 k8
          replace k8 := Kept.below k8
          have hc8 := Kept.cell k8
          have hf8 := Kept.frozen k8
          have hz8 := k8.size
          try simp only [World.size_alloc] at hz8
          try simp only [World.size_setCell] at hz8
          try simp only [World.size_drew] at hz8
          try (first | have hs8 := sz12 hz8 | have hs8 := sz11 hz8 | have hs8 := sz10 hz8 | have hs8 := sz9 hz8 | have hs8 := sz8 hz8 | have hs8 := sz7 hz8 | have hs8 := sz6 hz8 | have hs8 := sz5 hz8 | have hs8 := sz4 hz8 | have hs8 := sz3 hz8 | have hs8 := sz2 hz8 | have hs8 := sz1 hz8)
          go_wp2
          go_roundw
          case rel => exact ⟨k + 1, by omega, by go_num, HBel.out.trans (k8.mono HBel.out.size), HS1.out⟩
          case measure => simp [intOf]; omega
        · rw [hha] at CH
          have HS1 := hideP (HSC.out.symm.trans (N2.out hok hha)).symm
          clear HSC N1 N2 N3 HT
          go_wp2_with (go_at_call 107; refine Calls.mono (sId_any _ _) ?_; rintro e w1 ⟨rfl, rfl⟩; rw [hok])
          refine wp_region_kept (by kernel_rfl) (by kernel_rfl) ?_
          repeat (refine kept_step (by rfl) ?_; apply Exists.intro; refine ⟨fun w1 k1 => ?_, fun K hK => ?_⟩; (focus (have hc := Kept.cell k1; go_simp; first | done | rfl | (go_at_call 108; exact kept_call_same k1 (CH.out _ k1)))); (go_simp; refine hK _ ?_; clear hK K))
          refine wpQuiet_nil ?_
          intro w8 k8
          replace k8 := Kept.below k8
          have hc8 := Kept.cell k8
          have hf8 := Kept.frozen k8
          have hz8 := k8.size
          try simp only [World.size_alloc] at hz8
          try simp only [World.size_setCell] at hz8
          try simp only [World.size_drew] at hz8
          try (first | have hs8 := sz12 hz8 | have hs8 := sz11 hz8 | have hs8 := sz10 hz8 | have hs8 := sz9 hz8 | have hs8 := sz8 hz8 | have hs8 := sz7 hz8 | have hs8 := sz6 hz8 | have hs8 := sz5 hz8 | have hs8 := sz4 hz8 | have hs8 := sz3 hz8 | have hs8 := sz2 hz8 | have hs8 := sz1 hz8)
          go_wp2
          go_returns
          exact ⟨congrArg (fun x => Ending.returned (.int .i64 x)) (by rw [HF.out]; exact HS1.out), HBel.out.trans (k8.mono HBel.out.size)⟩
    · obtain rfl : k = L.length := by omega
      have HSC := hideP hsc
      have HBel := hideP hbel
      clear hsc hbel
      go_wp2
      go_returns
      exact ⟨congrArg (fun x => Ending.returned (.int .i64 x)) (by rw [HF.out, ← HSC.out, scan_done L _ (Nat.le_refl _)]), HBel.out⟩

set_option maxHeartbeats 400000 in
theorem sSlot5_any (s : Int) (w : World) :
    Calls Try.prog 117 #[.int .i64 s] w fun e w' => e = .returned (.bool (decide (0 ≤ s ∧ s ≤ 3))) ∧ w' = w := by
  have C := hideP (in5_any s 0 3 w)
  generalize decide (0 ≤ s ∧ s ≤ 3) = b at C
  go_enter Try.func117, Try.ntmps117
  go_wp2_with (go_at_call 75; refine Calls.mono C.out ?_; rintro e w1 ⟨rfl, rfl⟩)
  go_returns
  exact ⟨rfl, rfl⟩

end Go.Proofs.Ytbagloapclgpnaa
