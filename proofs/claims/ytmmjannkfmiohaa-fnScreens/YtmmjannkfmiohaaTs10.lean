/- Regions whose order is open: what only reads is taken first, the rest comes up one at a time. No conditions on the program. Stacks copied: the model's copy, the program's panes, and back. -/
import Derived.Test.YtmmjannkfmiohaaTs9
import Derived.OrdersHeld
namespace Go.Proofs.Ytmmjannkfmiohaa
open Go.RowKit
set_option linter.unusedVariables false

section
variable {P : Program} {md : Region.Mode} {ops : Array Oper} {Q : Exit → Act → World → Prop} {S : World → Prop}

theorem held_take {i : Nat} {oi : Oper} {fuel : Nat} {listed : Array Bool} {a : Act} {w : World} (hi : ops[i]? = some oi)
    (hs : Region.noSelect ops = true) (hf : Region.free md ops listed i = true) (hr : (Region.ready md ops listed).contains i = true)
    (hQ : ∀ c a d v w, Q (.panic c) (Act.put a d v) w → Q (.panic c) a w) (hS : S w) (hw : Region.wanted oi (yielded ops a.tmps) = true)
    (h : ∃ v, (∀ w, S w → (execOp a.eval oi).run P w = .ok (.value v) w) ∧ ∀ K : Act → Prop, (∀ a', wpAnyH P md ops Q S fuel (listed.setIfInBounds i true) a' w → K a') → K (a.put oi.dst v)) : wpAnyH P md ops Q S (fuel + 1) listed a w := by
  obtain ⟨v, hv, hk⟩ := h
  exact wpAnyH_take hi hs hf hr (fun c a w => hQ c a _ _ w) (.inl ⟨hw, hv⟩) hS (hk _ fun _ h => h)

theorem held_one {i : Nat} {oi : Oper} {fuel : Nat} {listed : Array Bool} {a : Act} {w : World} (hi : ops[i]? = some oi) (hr : Region.ready md ops listed = [i]) (hw : Region.wanted oi (yielded ops a.tmps) = true)
    (h : oi.wp P a w (fun a' w' => S w' ∧ wpAnyH P md ops Q S fuel (listed.setIfInBounds i true) a' w') Q) : wpAnyH P md ops Q S (fuel + 1) listed a w :=
  wpAnyH_all hr (by simp) (fun j hj => by
    obtain rfl : j = i := by simpa using hj
    unfold wpOp
    simp only [hi]
    rw [if_pos hw]
    exact .inl h)

theorem wp_of_run {o : Oper} {a : Act} {w w' : World} {v : Value} {K : Act → World → Prop} (h : (execOp a.eval o).run P w = .ok (.value v) w') (hk : K (a.put o.dst v) w') : o.wp P a w K Q := by
  unfold Oper.wp
  rw [h]
  exact hk
end

theorem made_call {P : Program} {o : Oper} {a : Act} {w : World} {K : World → Value → Prop} {f : FuncId} {args : Array Value} (h : (execOp a.eval o).run P w = .ok (.enter f args) w)
    (hc : Calls P f args w fun e w'' => ∃ v, e = .returned v ∧ Below w.heap.size w w'' ∧ K w'' v) : madeAt P o a w K := by
  unfold madeAt
  rw [h]
  exact ⟨rfl, hc⟩

theorem norm_act {P : Program} {md : Region.Mode} {ops : Array Oper} {Q : Exit → Act → World → Prop} {S : World → Prop} {fuel : Nat} {listed : Array Bool} {a : Act} {w : World} (h : ∀ K : Act → Prop, (∀ a', wpAnyH P md ops Q S fuel listed a' w → K a') → K a) : wpAnyH P md ops Q S fuel listed a w := h _ fun _ h => h

end Go.Proofs.Ytmmjannkfmiohaa

namespace Go.Proofs.Ytmmjannkfmiohaa
open Go.RowKit
set_option linter.unusedVariables false
attribute [local go_sem] growUpon growAt

theorem Try.infoI6 : (Try.prog.info? 2).map (fun i => (i.zero, i.size, i.bytes)) = some (some (.int .i64 0), 1, 8) := by kernel_rfl

theorem vals1 (v : Wn) : ∀ u ∈ Wn.vals v, u.oneCell' = true := by
  intro u hu
  simp only [Wn.vals, List.mem_cons, List.not_mem_nil, or_false] at hu
  rcases hu with rfl | rfl | rfl | rfl | rfl | rfl | rfl <;> rfl

theorem pals1 (v : Wn) : ∀ u ∈ Wn.pals v, u.oneCell' = true := by
  intro u hu
  simp only [Wn.pals, List.mem_cons, List.not_mem_nil, or_false] at hu
  rcases hu with rfl | rfl | rfl | rfl | rfl | rfl | rfl <;> rfl

theorem kalC (w : World) (o : Obj) : Below w.heap.size w (w.alloc o) := (Below.refl _ _).alloc (Nat.le_refl _) o

theorem winNe : (47 : TypeId) ≠ 2 := by decide

/-- .. one window's numbers more there. -/
theorem LinV.more2 {V : Wn → List Value} {T : TypeId} {w w3 : World} {base : Nat} {so : Option Addr} {sc : Nat} {L : List Wn} {v : Wn} (h : LinV V T w base so sc L) (k : Below w.heap.size w w3) (hb : base ≤ w.heap.size) (on : v.b.on w3) (ty : v.b.ty w3) (inn : v.b.L ≠ [] → w.heap.size ≤ v.b.g ∧ v.b.g < w3.heap.size) : OwnV V T w3 base so sc L ∧ Cis w3 base w3.heap.size ((L ++ [v]).map Wn.b) ∧ ∀ b ∈ (L ++ [v]).map Wn.b, b.ty w3 := by
  have h1 := h.keep k
  refine ⟨h1.own, ?_, fun b m => ?_⟩
  · rw [List.map_append]
    exact (h.cis.keep k (Nat.le_refl _)).snoc (b := v.b) on (fun e => by have := inn e; omega) k.size
  · rw [List.map_append, List.mem_append] at m
    rcases m with m | m
    · exact h1.ty b m
    · obtain rfl : b = v.b := by simpa using m
      exact ty

set_option maxRecDepth 100000 in
set_option maxHeartbeats 400000 in
theorem sInts_any (lo hi : Nat) (ao : Option Addr) (ca : Nat) (L : List Int) (w : World) (hR : Row .i64 w lo hi ao L) (hs : hi ≤ w.heap.size) (hl : L.length ≤ 2097152) :
    Calls Try.prog 57 #[.slice ao L.length ca] w fun e w' => ∃ b : Ci, e = .returned (.slice b.ao L.length b.cap) ∧ NewC w w' L b ∧ Below w.heap.size w w' := by
  have HR := hideP hR
  clear hR
  go_enter Try.func57, Try.ntmps57
  go_wp2_with (first | (at_builtin; refine wpList_app (k := .i64) (T := 2) (S := 26) (bytes := 8) Try.underlying26 Try.infoI6 (by omega) rfl _ _ rfl w.heap.size (some ⟨w.heap.size, 0, none⟩) 0 [] rfl (OwnR.lit .i64 2 w w.heap.size [] _ rfl (Nat.le_refl _) (by unfold maxLen; simp)) ao ca L rfl (HR.out.keep (B := w.heap.size) ((Below.refl _ _).alloc (Nat.le_refl _) _) hs).src (by simp; omega) (by simp) ?_; intro ao2 cap2 w2 O2 K2; refine Hid.out ?_) | go_in)
  have HO2 : Hid (OwnR .i64 2 w2 w.heap.size ao2 cap2 L) := hideP O2
  have HK2 : Hid (Below w.heap.size w w2) := hideP (Below.trans (by go_grown) K2)
  clear O2 K2
  refine hideP ?_
  go_wp2
  go_returns
  obtain ⟨g, N⟩ := NewC.of_own HO2.out
  exact ⟨⟨ao2, cap2, g, L⟩, rfl, N, HK2.out⟩

set_option maxRecDepth 100000 in
set_option maxHeartbeats 400000 in
theorem clone_some (lo hi : Nat) (a : Addr) (ca : Nat) (L : List Int) (w : World) (hR : Row .i64 w lo hi (some a) L) (hs : hi ≤ w.heap.size) (hl : L.length ≤ 2097152) :
    Calls Try.prog 26 #[.slice (some a) L.length ca] w fun e w' => ∃ b : Ci, e = .returned (.slice b.ao L.length b.cap) ∧ NewC w w' L b ∧ Below w.heap.size w w' := by
  have HR := hideP hR
  clear hR
  have hnil := fun w => Lib.run_eql_slice_nil (P := Try.prog) w 26 2 (some a) L.length ca 0 0 Try.underlying26
  simp only [Option.isNone_some] at hnil
  go_enter Try.func26, Try.ntmps26
  go_wp2_with (first | (at_builtin; refine wpList_app (k := .i64) (T := 2) (S := 26) (bytes := 8) Try.underlying26 Try.infoI6 (by omega) rfl _ _ rfl w.heap.size (some ⟨w.heap.size, 0, none⟩) 0 [] rfl (OwnR.lit .i64 2 w w.heap.size [] _ rfl (Nat.le_refl _) (by unfold maxLen; simp)) (some a) ca L rfl (HR.out.keep (B := w.heap.size) ((Below.refl _ _).alloc (Nat.le_refl _) _) hs).src (by simp; omega) (by simp) ?_; intro ao2 cap2 w2 O2 K2; refine Hid.out ?_) | go_in)
  have HO2 : Hid (OwnR .i64 2 w2 w.heap.size ao2 cap2 L) := hideP O2
  have HK2 : Hid (Below w.heap.size w w2) := hideP (Below.trans (by go_grown) K2)
  clear O2 K2
  refine hideP ?_
  go_wp2
  go_returns
  obtain ⟨g, N⟩ := NewC.of_own HO2.out
  exact ⟨⟨ao2, cap2, g, L⟩, rfl, N, HK2.out⟩
set_option maxRecDepth 100000 in
set_option maxHeartbeats 400000 in
theorem clone_none (ca n : Nat) (w : World) :
    Calls Try.prog 26 #[.slice none n ca] w fun e w' => e = .returned (.slice none 0 0) ∧ Below w.heap.size w w' := by
  have hnil := fun w => Lib.run_eql_slice_nil (P := Try.prog) w 26 2 none n ca 0 0 Try.underlying26
  simp only [Option.isNone_none] at hnil
  go_enter Try.func26, Try.ntmps26
  go_wp2
  go_returns
  exact ⟨rfl, Below.refl _ _⟩
theorem clone_any (lo hi : Nat) (ao : Option Addr) (ca : Nat) (L : List Int) (w : World) (hR : Row .i64 w lo hi ao L) (hs : hi ≤ w.heap.size) (hl : L.length ≤ 2097152) :
    Calls Try.prog 26 #[.slice ao L.length ca] w fun e w' => ∃ b : Ci, e = .returned (.slice b.ao L.length b.cap) ∧ NewC w w' L b ∧ Below w.heap.size w w' := by
  cases ao with
  | some a => exact clone_some lo hi a ca L w hR hs hl
  | none =>
    have hL : L = [] := by
      rcases hR with h | ⟨g, o, h, _⟩
      · exact h
      · cases h
    subst hL
    exact (clone_none ca 0 w).mono fun e w' ⟨he, hb⟩ => ⟨⟨none, 0, 0, []⟩, he, ⟨rfl, Ci.on_nil _ _ rfl, fun h => absurd rfl h, fun h => absurd rfl h⟩, hb⟩

set_option maxRecDepth 100000 in
set_option maxHeartbeats 2000000 in
theorem l7Copy_any (lo hi : Nat) (so : Option Addr) (sc : Nat) (L : List Wn) (w : World) (hL : Ws w lo hi so L) (hs : hi ≤ w.heap.size) (hn : L.length + wzs L ≤ 1048576) :
    Calls Try.prog 80 #[.slice so L.length sc] w fun e w' => ∃ (s : Option Addr) (c : Nat) (M : List Wn), e = .returned (.slice s M.length c) ∧ M.map Wn.ct = L.map Wn.ct ∧ LinV Wn.vals 47 w' w.heap.size s c M ∧ Below w.heap.size w w' := by
  have hn' : (L.length : Int) ≤ 1048576 := by omega
  have HL := hideP hL
  clear hL
  go_enter Try.func80, Try.ntmps80
  go_wp2
  have L0 : Hid (LinV Wn.vals 47 (w.alloc (.cells #[] 47)) w.heap.size (some ⟨w.heap.size, 0, none⟩) 0 []) := hideP (LinV.lit _ _ _ (Nat.le_refl _))
  go_loopw [3, 4] (fun v i wr => ∃ (X Y M : List Wn) (s : Option Addr) (c : Nat), X ++ Y = L ∧ M.map Wn.ct = X.map Wn.ct ∧ i = .int .i64 (X.length : Nat) ∧ v = .slice s M.length c ∧ Below w.heap.size w wr ∧ LinV Wn.vals 47 wr w.heap.size s c M) (fun _ i _ => L.length - (intOf i).toNat)
  case atStart => exact ⟨[], L, [], _, 0, rfl, rfl, rfl, rfl, by go_grown, L0.out⟩
  case round =>
    clear L0
    obtain ⟨X, Y, M, s, c, hXY, hMX, rfl, rfl, kb, LN⟩ := hrel
    have hlen : X.length + Y.length = L.length := by rw [← hXY]; simp
    have HML := hideP (lenW hMX)
    have hMn : M.length ≤ 1048576 := by have := HML.out; omega
    have hz := kb.size
    have HB := hideP kb
    have HN := hideP LN
    have HMX := hideP hMX
    clear kb LN hMX
    cases Y with
    | cons r Y =>
      have hlt : (X.length : Int) < (L.length : Int) := by simp at hlen; omega
      have hsz : r.b.L.length ≤ wzs L := wzs_mem (v := r) (by rw [← hXY]; simp)
      have h0 := HL.out
      rw [← hXY] at h0
      obtain ⟨g, o, rfl, hg, hc, hon⟩ := Ws.at h0
      have hc' := (hc.keep HB.out (by omega)).seven
      have hgl : g < wr.heap.size := by omega
      have HXY := hideP hXY
      have HR := hideP (Row.keep hon HB.out hs)
      clear h0 hc hXY hon HL
      obtain ⟨ri, rx, ry, rp, rh, rm, ⟨ao, cap, gb, D⟩⟩ := r
      simp only at hc' hsz HR
      obtain ⟨a0, a1, a2, a3, a4, a5, a6⟩ := hc'
      go_wp2_with fail
      clear a0 a1 a2 a3 a4 a5 a6
      have ka := kalC wr (.cells #[.int .i64 ri, .int .i64 rx, .int .i64 ry, .int .i64 rp, .int .i64 rh, .bool rm, .slice ao D.length cap] 47)
      have Z1 := hideP (r7_new wr (.int .i64 ri) (.int .i64 rx) (.int .i64 ry) (.int .i64 rp) (.int .i64 rh) (.bool rm) (.slice ao D.length cap) 47)
      have KA := hideP ka
      have HR1 := hideP (HR.out.keep ka (by omega))
      have hz1 := ka.size
      clear ka HR
      generalize wr.alloc (.cells #[.int .i64 ri, .int .i64 rx, .int .i64 ry, .int .i64 rp, .int .i64 rh, .bool rm, .slice ao D.length cap] 47) = w1 at *
      refine Calls.mono (sInts_any lo hi ao cap D w1 HR1.out (by omega) (by omega)) ?_
      rintro e w2 ⟨b, rfl, N2, k2⟩
      have Z2 := Z1.out.keep k2 Z1.out.lt
      have K2 := hideP (KA.out.trans (k2.mono hz1))
      have HN2 := hideP N2
      have hz2 := k2.size
      have hlt1 := Z1.out.lt
      clear k2 Z1 KA N2 HR1
      obtain ⟨z0, z1, z2, z3, z4, z5, z6, z7, z8⟩ := Z2
      have hbl := HN2.out.le
      have on3 := Ci.on_set HN2.out.on ⟨wr.heap.size, 6, none⟩ (.slice b.ao D.length b.cap) (fun e => by have := HN2.out.inn e; dsimp only; omega)
      have ty3 := Ci.ty_set HN2.out.ty ⟨wr.heap.size, 6, none⟩ (.slice b.ao D.length b.cap) (fun e => by have := HN2.out.inn e; dsimp only; omega)
      have k3 : Below wr.heap.size wr (w2.setCell ⟨wr.heap.size, 6, none⟩ (.slice b.ao D.length b.cap)) := K2.out.setCell (p := ⟨wr.heap.size, 6, none⟩) (Nat.le_refl _) _
      have k4 := k3.trans ((kalC (w2.setCell ⟨wr.heap.size, 6, none⟩ (.slice b.ao D.length b.cap)) (.cells #[.int .i64 ri, .int .i64 rx, .int .i64 ry, .int .i64 rp, .int .i64 rh, .bool rm, .slice b.ao D.length b.cap] 47)).mono k3.size)
      obtain ⟨O4, C4, T4⟩ := HN.out.more2 (v := ⟨ri, rx, ry, rp, rh, rm, b⟩) k4 (by omega) (Ci.on_keep on3 (kalC _ _) (fun e => by have := HN2.out.inn e; simp; omega)) (Ci.ty_keep ty3 (kalC _ _)) (fun e => by have := HN2.out.inn e; simp; omega)
      have HO4 := hideP O4
      have HC4 := hideP C4
      have HT4 := hideP T4
      have HK4 := hideP (HB.out.trans (k4.mono hz))
      have CL4 : Hid (Cl Wn.vals ((w2.setCell ⟨wr.heap.size, 6, none⟩ (.slice b.ao D.length b.cap)).alloc (.cells #[.int .i64 ri, .int .i64 rx, .int .i64 ry, .int .i64 rp, .int .i64 rh, .bool rm, .slice b.ao D.length b.cap] 47)) w2.heap.size 0 ⟨ri, rx, ry, rp, rh, rm, b⟩) := hideP (by
        have h := r7_new (w2.setCell ⟨wr.heap.size, 6, none⟩ (.slice b.ao D.length b.cap)) (.int .i64 ri) (.int .i64 rx) (.int .i64 ry) (.int .i64 rp) (.int .i64 rh) (.bool rm) (.slice b.ao D.length b.cap) 47
        rw [World.size_setCell] at h
        exact Cl.mkW ⟨h.c0, h.c1, h.c2, h.c3, h.c4, h.c5, by rw [hbl]; exact h.c6⟩)
      have n4 := k4.size
      have HCT : Hid (Wn.ct ⟨ri, rx, ry, rp, rh, rm, b⟩ = ⟨ri, rx, ry, rp, rh, rm, D⟩) := hideP (by simp [Wn.ct, hbl])
      clear on3 ty3 k3 k4 O4 C4 T4 hbl K2 HN2 HN HB
      go_wp2_with (first | (at_builtin; go_loud (refine wpList_appV (V := Wn.vals) (T := 47) vals7 vals1 Try.underlying24 Try.infoWn rfl rfl _ _ rfl w.heap.size s c M rfl HO4.out w2.heap.size 1 ⟨ri, rx, ry, rp, rh, rm, b⟩ rfl CL4.out (by omega) (by simp; omega) ?_; intro s6 c6 w6 O6 G6 K6; refine Hid.out ?_)) | go_in)
      have LN6 := hideP (LinV.pushed winNe HO4.out HC4.out HT4.out O6 G6)
      have KB6 := hideP (HK4.out.trans K6)
      clear O6 G6 K6 z0 z1 z2 z3 z4 z5 z6 z7 z8 HO4 HC4 HT4 HK4 CL4
      refine hideP ?_
      go_wp2
      go_roundw
      case rel => exact ⟨X ++ [⟨ri, rx, ry, rp, rh, rm, ⟨ao, cap, gb, D⟩⟩], Y, M ++ [⟨ri, rx, ry, rp, rh, rm, b⟩], s6, c6, midW HXY.out, by rw [List.map_append, List.map_append, HMX.out]; simp only [List.map_cons, HCT.out]; rfl, by simp, by simp, KB6.out, LN6.out⟩
      case measure => simp [intOf]; omega
    | nil =>
      have hX : X = L := by simpa using hXY
      subst hX
      clear hXY HL
      go_wp2
      go_returns
      exact ⟨s, c, M, rfl, HMX.out, HN.out, HB.out⟩
end Go.Proofs.Ytmmjannkfmiohaa
