/- TopAt by the program. What a hand does: the mathematics. -/
import Derived.Test.YtoipcnpemmajaaaTh22
import Derived.Test.YtoipcnpemmajaaaTh23
import Derived.Test.YtoipcnpemmajaaaTh17
import Derived.Test.YtoipcnpemmajaaaTh20
namespace Go.Proofs.Ytoipcnpemmajaaa
open Go.RowKit Go.Shelf Go.Maps
set_option linter.unusedVariables false
attribute [local go_sem] Oper.semAt_some

/-- What the program asks of a window. -/
def hitP (p q : Int) (v : Wn) : Bool := v.m && hpB v.x v.y v.w v.h p q
theorem hitP_eq {p q : Int} {v : Wn} (h : rfB v.x v.y v.w v.h = false) : hitP p q v = hitW p q v := by unfold hitP hitW hpB; rw [h]; rfl
theorem keepsFrom_below {B : Nat} {W W' : World} (k : Below W.heap.size W W') : KeepsFrom B W W' := ⟨k.size, fun i o _ hi _ => (k.block i (Array.getElem?_eq_some_iff.1 hi).1).trans hi⟩
theorem keepsFrom_turn {B b : Nat} {W W' : World} (t : Turn b W W') (hb : b < B) : KeepsFrom B W W' := ⟨t.size, fun i o hB hi _ => (t.block i (Array.getElem?_eq_some_iff.1 hi).1 (by omega)).trans hi⟩
theorem dz_last {o : Nat} {r : Wn} {B : List Wn} {pre0 : List (Nat × Wn)} {x : Nat × Wn} (h : pre0 ++ [x] = dz o (r :: B)) : pre0 = dz (o + 1) B ∧ x = (o, r) := by
  simp only [dz] at h
  have := List.append_inj' h rfl
  exact ⟨this.1, by simpa using this.2⟩
theorem top_own (b B : Nat) (w0 : World) (hB : w0.heap.size ≤ B) (hb : b < w0.heap.size) (F : List (Nat × Wn) → Obj → Prop) : OwnFrom B (fun (pre : List (Nat × Wn)) W => ∃ o, F pre o ∧ W.heap[b]? = some o ∧ Turn b w0 W) := fun s A W' row hs hg hr => by
  obtain ⟨o, hf, ho, ht⟩ := hs
  refine ⟨o, hf, (hg.block b (Nat.lt_of_lt_of_le hb ht.size) (fun e => by have := (hr b e.symm).1; omega)).trans ho, ?_⟩
  exact ⟨hg.os.trans ht.os, hg.tape.trans ht.tape, hg.output.trans ht.output, Nat.le_trans ht.size hg.size, fun k hk hb' => (hg.block k (Nat.lt_of_lt_of_le hk ht.size) (fun e => by have := (hr k e.symm).1; omega)).trans (ht.block k hk hb')⟩

set_option maxRecDepth 100000 in
set_option maxHeartbeats 2000000 in
theorem iTop_ok (so : Option Addr) (sc : Nat) (L : List Wn) (p q : Int) (w : World) (hL : Ws w 0 w.heap.size so L) (hn : L.length + wzs L ≤ 1048576) (h : stF (L.map Wn.ct) = 0) :
    Calls Try.prog 21 #[.slice so L.length sc, .int .i64 p, .int .i64 q] w fun e w' => e = .returned (.agg #[.int .i64 (topZ (L.map Wn.ct) p q), .int .i64 (topV (L.map Wn.ct) p q)]) ∧ Below w.heap.size w w' := by
  have SF := fun w1 (kk : Below w.heap.size w w1) => iStack_any 0 w.heap.size so sc L w1 (hL.keep kk (Nat.le_refl _)) kk.size hn
  rw [h] at SF
  have SF' := hideP SF
  have hrf := hideP (st_rect h)
  have HL := hideP hL
  have H0 := hideP h
  have hn' : L.length ≤ 1048576 := by omega
  clear SF hL h
  refine callsIn_wide.1 (callsIn_of_wp_marks (n := 3) Try.func21 rfl trivial ?_ rfl)
  simp only [Try.ntmps21, List.size_toArray, List.length_cons, List.length_nil, Nat.reduceAdd, Nat.reduceSub, Array.replicate_succ, Array.replicate_zero, List.push_toArray, List.append_toArray, List.nil_append, List.cons_append]
  refine wpIn_wide.2 ?_
  go_wp2_with fail
  refine Calls.mono (SF'.out _ (by go_grown)) ?_
  rintro e w1 ⟨rfl, k1⟩
  have n1 := k1.size
  simp only [World.size_alloc] at n1
  have K1 : Hid (Below w.heap.size w w1) := hideP (Below.trans (by go_grown) (k1.mono (by simp; omega)))
  have c4 : w1.cell? ⟨w.heap.size, 0, none⟩ = some (.int .i64 p) := (k1.cell (p := ⟨w.heap.size, 0, none⟩) (by simp; omega)).trans (by simp [go_sem])
  have c5 : w1.cell? ⟨w.heap.size + 1, 0, none⟩ = some (.int .i64 q) := (k1.cell (p := ⟨w.heap.size + 1, 0, none⟩) (by simp)).trans (by simp [go_sem])
  have c6 : w1.heap[w.heap.size + 2]? = some (.cells #[.int .i64 0, .int .i64 0] 43 (0, 0)) := by
    rw [k1.block (w.heap.size + 2) (by simp)]
    have := heap_alloc_new ((w.alloc (.cells #[.int .i64 p] 2)).alloc (.cells #[.int .i64 q] 2)) (.cells #[.int .i64 0, .int .i64 0] 43)
    simpa using this
  have C4 := hideP c4
  have C5 := hideP c5
  have C6 := hideP c6
  clear k1 c4 c5 c6
  go_wp2_with fail
  refine Calls.mono (back_any so L.length sc w1) ?_
  rintro e w2 ⟨rfl, hw2⟩
  subst hw2
  go_wp2
  have ka := kalC w1 (.cells #[.slice so L.length sc] 26)
  have hz2 : (w1.alloc (.cells #[.slice so L.length sc] 26)).heap.size = w1.heap.size + 1 := by simp
  have BX : (w1.alloc (.cells #[.slice so L.length sc] 26)).cell? ⟨w1.heap.size, 0, none⟩ = some (.slice so L.length sc) := by simp
  have HL2 := HL.out.keep (K1.out.trans (ka.mono K1.out.size)) (Nat.le_refl _)
  have D4 := hideP ((ka.cell (p := ⟨w.heap.size, 0, none⟩) (by show w.heap.size < _; omega)).trans C4.out)
  have D5 := hideP ((ka.cell (p := ⟨w.heap.size + 1, 0, none⟩) (by show w.heap.size + 1 < _; omega)).trans C5.out)
  have D6 := hideP ((ka.block (w.heap.size + 2) (by omega)).trans C6.out)
  have K2 := hideP (K1.out.trans (ka.mono K1.out.size))
  clear ka K1 C4 C5 C6 HL SF'
  generalize w1.alloc (.cells #[.slice so L.length sc] 26) = w2 at *
  refine (wpIn_wide (n := 3)).1 ?_
  refine wpIn_rangeFunc_ownH rfl (by omega) (gf := 81) (lb := #[.pointer (some ⟨w1.heap.size, 0, none⟩)]) rfl trivial (enters_of Try.func81 (by kernel_rfl) rfl)
    (back_stops 2 w1.heap.size w2.heap.size 0 w.heap.size so sc L w2 hn' (Nat.le_refl _) (by omega) BX HL2 (by omega)) (fun h k b hb => (k b hb).trans (h b hb)) (fun W l o o' hl _ _ _ b hb => World.putObj_heap_other (by omega)) (Below.refl _ _) (fun _ => rfl)
    (fun pre W => ∃ o, ((∀ x ∈ pre, hitP p q x.2 = false) ∧ o = .cells #[.int .i64 0, .int .i64 0] 43 (0, 0)) ∧ W.heap[w.heap.size + 2]? = some o ∧ Turn (w.heap.size + 2) w2 W)
    (fun c pre W => ∃ o, (c = .ret ∧ ∃ pre0 x, pre = pre0 ++ [x] ∧ hitP p q x.2 = true ∧ (∀ y ∈ pre0, hitP p q y.2 = false) ∧ o = .cells #[.int .i64 0, .int .i64 x.2.i] 43 (0, 0)) ∧ W.heap[w.heap.size + 2]? = some o ∧ Turn (w.heap.size + 2) w2 W)
    (top_own _ _ w2 (Nat.le_refl _) (by omega) (fun pre o => (∀ x ∈ pre, hitP p q x.2 = false) ∧ o = .cells #[.int .i64 0, .int .i64 0] 43 (0, 0)))
    (fun c => top_own _ _ w2 (Nat.le_refl _) (by omega) (fun pre o => c = .ret ∧ ∃ pre0 x, pre = pre0 ++ [x] ∧ hitP p q x.2 = true ∧ (∀ y ∈ pre0, hitP p q y.2 = false) ∧ o = .cells #[.int .i64 0, .int .i64 x.2.i] 43 (0, 0)))
    ⟨_, ⟨by simp, rfl⟩, D6.out, Turn.refl _ _⟩
    (fun x a' W => ∃ b9, a' = { tmps := #[.slice so L.length sc, .int .i64 p, .int .i64 q, undef, .pointer (some ⟨w.heap.size, 0, none⟩), .pointer (some ⟨w.heap.size + 1, 0, none⟩), .pointer (some ⟨w.heap.size + 1 + 1, 0, none⟩), .int .i64 0, undef, .pointer (some ⟨b9, 0, none⟩), .slice so L.length sc, .int .i64 0, .int .i64 0, .bool false, undef, undef, .slice so L.length sc, .func (.func 81) #[] #[.pointer (some ⟨w1.heap.size, 0, none⟩)],
        .int .i64 (x.1 : Int), .agg #[.int .i64 x.2.i, .int .i64 x.2.x, .int .i64 x.2.y, .int .i64 x.2.w, .int .i64 x.2.h, .bool x.2.m, .slice x.2.b.ao x.2.b.L.length x.2.b.cap], undef, undef, undef, undef, undef, undef, undef, undef, undef, undef, undef, undef, undef], defers := [] } ∧ W.heap[b9]? = some (.cells #[.int .i64 x.2.i, .int .i64 x.2.x, .int .i64 x.2.y, .int .i64 x.2.w, .int .i64 x.2.h, .bool x.2.m, .slice x.2.b.ao x.2.b.L.length x.2.b.cap] 81 (0, 0)) ∧ w2.heap.size ≤ b9)
    ?hax ?assign ?body ?done ?stop
  case hax =>
    rintro x a' s X Y row ⟨b9, e1, e2, e3⟩ hg hr
    refine ⟨b9, e1, (hg.block b9 (Array.getElem?_eq_some_iff.1 e2).1 (fun e => ?_)).trans e2, e3⟩
    obtain ⟨_, o, ho, hc⟩ := hr b9 e.symm
    rw [e2] at ho
    cases ho
    cases hc
  case assign =>
    rintro l pre x W K ⟨o, ⟨hno, rfl⟩, hb6, ht⟩ hK
    simp only [encW]
    gi_wp2
    have ka := kalC W (.cells #[.int .i64 x.2.i, .int .i64 x.2.x, .int .i64 x.2.y, .int .i64 x.2.w, .int .i64 x.2.h, .bool x.2.m, .slice x.2.b.ao x.2.b.L.length x.2.b.cap] 81)
    have htz := ht.size
    refine hK _ _ (keepsFrom_below ka) (fun b hb => ka.block b (by omega)) ⟨_, ⟨hno, rfl⟩, (ka.block (w.heap.size + 2) (by omega)).trans hb6, ht.trans (Turn.of_below ka)⟩ ⟨W.heap.size, rfl, heap_alloc_new W _, htz⟩
  case body =>
    rintro l pre ⟨k, v⟩ a' W hl hrec ⟨o, ⟨hno, rfl⟩, hb6, ht⟩ ⟨b9, rfl, hb9, h9⟩ hlen
    obtain ⟨ri, rx, ry, rp, rh, rm, ⟨ao, cap, gb, D⟩⟩ := v
    simp only at hb9 ⊢
    have y0 : W.cell? ⟨b9, 0, none⟩ = some (.int .i64 ri) := by rw [cell_of_row W b9 0 _ _ _ hb9]; rfl
    have y1 : W.cell? ⟨b9, 1, none⟩ = some (.int .i64 rx) := by rw [cell_of_row W b9 1 _ _ _ hb9]; rfl
    have y2 : W.cell? ⟨b9, 2, none⟩ = some (.int .i64 ry) := by rw [cell_of_row W b9 2 _ _ _ hb9]; rfl
    have y3 : W.cell? ⟨b9, 3, none⟩ = some (.int .i64 rp) := by rw [cell_of_row W b9 3 _ _ _ hb9]; rfl
    have y4 : W.cell? ⟨b9, 4, none⟩ = some (.int .i64 rh) := by rw [cell_of_row W b9 4 _ _ _ hb9]; rfl
    have y5 : W.cell? ⟨b9, 5, none⟩ = some (.bool rm) := by rw [cell_of_row W b9 5 _ _ _ hb9]; rfl
    have htz := ht.size
    have hb9l : b9 < W.heap.size := (Array.getElem?_eq_some_iff.1 hb9).1
    have z4 : W.cell? ⟨w.heap.size, 0, none⟩ = some (.int .i64 p) := (ht.cell w.heap.size 0 (by omega) (by omega)).trans D4.out
    have z5 : W.cell? ⟨w.heap.size + 1, 0, none⟩ = some (.int .i64 q) := (ht.cell (w.heap.size + 1) 0 (by omega) (by omega)).trans D5.out
    have HT := hideP ht
    have HNO := hideP hno
    have HB6 := hideP hb6
    have HB9 := hideP hb9
    clear ht hno hb6 hb9
    cases rm
    · gi_wp2_with (refine ⟨trivial, ?_⟩)
      exact ⟨KeepsFrom.refl _ _, fun b hb => rfl, _, ⟨fun x hx => (List.mem_append.1 hx).elim (HNO.out x) (fun h => by obtain rfl := List.mem_singleton.1 h; rfl), rfl⟩, HB6.out, HT.out⟩
    · have HP := hp_any rx ry rp rh p q W
      have r0 : W.cell? ⟨w.heap.size + 2, 0, none⟩ = some (.int .i64 0) := by rw [cell_of_row W (w.heap.size + 2) 0 _ _ _ HB6.out]; rfl
      have r1 : W.cell? ⟨w.heap.size + 2, 1, none⟩ = some (.int .i64 0) := by rw [cell_of_row W (w.heap.size + 2) 1 _ _ _ HB6.out]; rfl
      have q0 : W.frozen? ⟨w.heap.size + 2, 0, none⟩ = false := frozen_of_row W (w.heap.size + 2) 0 _ _ HB6.out
      have q1 : W.frozen? ⟨w.heap.size + 2, 1, none⟩ = false := frozen_of_row W (w.heap.size + 2) 1 _ _ HB6.out
      have hlt2 : w.heap.size + 2 < W.heap.size := by omega
      cases hh : hpB rx ry rp rh p q
      · rw [hh] at HP
        gi_wp2_with (refine ⟨trivial, ?_⟩; refine (CallsIn.inRound l (callsIn_wide.2 HP)).mono ?_; rintro e w3 ⟨rfl, k3⟩)
        exact ⟨keepsFrom_below k3, fun b hb => k3.block b (by omega), _, ⟨fun x hx => (List.mem_append.1 hx).elim (HNO.out x) (fun h => by obtain rfl := List.mem_singleton.1 h; simp [hitP, hh]), rfl⟩, (k3.block _ hlt2).trans HB6.out, HT.out.trans (Turn.of_below k3)⟩
      · rw [hh] at HP
        gi_wp2_with fail
        refine ⟨trivial, ?_⟩
        refine (CallsIn.inRound l (callsIn_wide.2 HP)).mono ?_
        rintro e w3 ⟨rfl, k3⟩
        have y0' := (k3.cell (p := ⟨b9, 0, none⟩) hb9l).trans y0
        have r0' := (k3.cell (p := ⟨w.heap.size + 2, 0, none⟩) hlt2).trans r0
        have r1' := (k3.cell (p := ⟨w.heap.size + 2, 1, none⟩) hlt2).trans r1
        have q0' := (k3.frozen (p := ⟨w.heap.size + 2, 0, none⟩) hlt2).trans q0
        have q1' := (k3.frozen (p := ⟨w.heap.size + 2, 1, none⟩) hlt2).trans q1
        have n3 := k3.size
        have hb9l' : b9 < w3.heap.size := by omega
        have hlt2' : w.heap.size + 2 < w3.heap.size := by omega
        gi_wp2
        have TT : Turn (w.heap.size + 2) W ((w3.setCell ⟨w.heap.size + 2, 0, none⟩ (.int .i64 0)).setCell ⟨w.heap.size + 2, 1, none⟩ (.int .i64 ri)) := ((Turn.of_below k3).trans (Turn.store w3 ⟨w.heap.size + 2, 0, none⟩ _)).trans (Turn.store _ ⟨w.heap.size + 2, 1, none⟩ _)
        have h1 := heap_setCell_same w3 (w.heap.size + 2) 0 _ _ (.int .i64 0) ((k3.block _ hlt2).trans HB6.out)
        have h2 := heap_setCell_same _ (w.heap.size + 2) 1 _ _ (.int .i64 ri) h1
        exact ⟨keepsFrom_turn TT (by omega), _, ⟨rfl, pre, _, rfl, by simp [hitP, hh], HNO.out, rfl⟩, h2, HT.out.trans TT⟩
  case done =>
    rintro D ys W hD rfl ⟨o, ⟨hno, rfl⟩, hb6, ht⟩ hK
    have hall : ∀ v ∈ L, hitW p q v = false := fun v hv => by
      obtain ⟨k, hk⟩ := mem_dz (o := 0) hv
      have := hno _ hk
      rwa [hitP_eq (hrf.out v hv)] at this
    have HE := hideP (top_none H0.out hall)
    have htz := ht.size
    have MK := hideP ((Mks.nil W w2.heap.size).cons hK hD (fun E hE => by cases hE))
    have r0 : W.cell? ⟨w.heap.size + 2, 0, none⟩ = some (.int .i64 0) := by rw [cell_of_row W (w.heap.size + 2) 0 _ _ _ hb6]; rfl
    have r1 : W.cell? ⟨w.heap.size + 2, 1, none⟩ = some (.int .i64 0) := by rw [cell_of_row W (w.heap.size + 2) 1 _ _ _ hb6]; rfl
    have q0 : W.frozen? ⟨w.heap.size + 2, 0, none⟩ = false := frozen_of_row W (w.heap.size + 2) 0 _ _ hb6
    have q1 : W.frozen? ⟨w.heap.size + 2, 1, none⟩ = false := frozen_of_row W (w.heap.size + 2) 1 _ _ hb6
    have hlt2 : w.heap.size + 2 < W.heap.size := by omega
    have HBW := hideP (Turn.below K2.out (by omega) (by omega) ht)
    clear hno hb6 ht hK hall
    go_wp2
    have T0 : Turn (w.heap.size + 2) W ((W.setCell ⟨w.heap.size + 2, 0, none⟩ (.int .i64 4)).setCell ⟨w.heap.size + 2, 1, none⟩ (.int .i64 0)) := (Turn.store W ⟨w.heap.size + 2, 0, none⟩ _).trans (Turn.store _ ⟨w.heap.size + 2, 1, none⟩ _)
    show LeavesInM Fence.wide 3 Try.prog Try.f21 _ _ (marks [D]) .returning _
    refine leave_marks w2.heap.size [D] _ (MK.out.turn T0 (by omega)) (by simp; omega) fun w' k => ?_
    have e0 : w'.cell? ⟨w.heap.size + 2, 0, none⟩ = some (.int .i64 4) := by
      rw [k.cell (p := ⟨w.heap.size + 2, 0, none⟩) (by show w.heap.size + 2 < _; omega), cell_set_other (by omega)]; exact cell_set_same r0
    have e1 : w'.cell? ⟨w.heap.size + 2, 1, none⟩ = some (.int .i64 0) := by
      rw [k.cell (p := ⟨w.heap.size + 2, 1, none⟩) (by show w.heap.size + 2 < _; omega)]; exact cell_set_same ((cell_set_other (by omega)).trans r1)
    refine ⟨.agg #[.int .i64 4, .int .i64 0], ?_, ?_, ?_⟩
    · simp [results, Try.results21, go_sem, e0, e1]
    · rw [HE.out.1, HE.out.2]
    · exact ((HBW.out.setCell (p := ⟨w.heap.size + 2, 0, none⟩) (by show w.heap.size ≤ w.heap.size + 2; omega) _).setCell (p := ⟨w.heap.size + 2, 1, none⟩) (by show w.heap.size ≤ w.heap.size + 2; omega) _).trans (k.mono (by omega))
  case stop =>
    rintro D c pre W hD ⟨A, r, B, hLL, hpre⟩ ⟨o, ⟨rfl, pre0, x, hpp, hyes, hno, rfl⟩, hb6, ht⟩ hK
    rw [hpp] at hpre
    obtain ⟨hp0, rfl⟩ := dz_last hpre
    have htop : Top p q L A r B := ⟨hLL, by rw [← hitP_eq (hrf.out r (by rw [hLL]; simp))]; exact hyes, fun v hv => by
      obtain ⟨k, hk⟩ := mem_dz (o := A.length + 1) hv
      rw [← hp0] at hk
      have := hno _ hk
      rwa [hitP_eq (hrf.out v (by rw [hLL]; simp [hv]))] at this⟩
    have HE := hideP (top_some H0.out htop)
    have htz := ht.size
    have MK := hideP ((Mks.nil W w2.heap.size).cons hK hD (fun E hE => by cases hE))
    have HBW := hideP (Turn.below K2.out (by omega) (by omega) ht)
    simp only at hb6
    have r0 : W.cell? ⟨w.heap.size + 2, 0, none⟩ = some (.int .i64 0) := by rw [cell_of_row W (w.heap.size + 2) 0 _ _ _ hb6]; rfl
    have r1 : W.cell? ⟨w.heap.size + 2, 1, none⟩ = some (.int .i64 r.i) := by rw [cell_of_row W (w.heap.size + 2) 1 _ _ _ hb6]; rfl
    clear hno ht hK hLL htop hpp hpre hyes hb6 hp0
    gi_wp2
    show LeavesInM Fence.wide 3 Try.prog Try.f21 _ _ (marks [D]) .returning _
    refine leave_marks w2.heap.size [D] _ MK.out (by omega) fun w' k => ?_
    have e0 : w'.cell? ⟨w.heap.size + 2, 0, none⟩ = some (.int .i64 0) := (k.cell (p := ⟨w.heap.size + 2, 0, none⟩) (by show w.heap.size + 2 < _; omega)).trans r0
    have e1 : w'.cell? ⟨w.heap.size + 2, 1, none⟩ = some (.int .i64 r.i) := (k.cell (p := ⟨w.heap.size + 2, 1, none⟩) (by show w.heap.size + 2 < _; omega)).trans r1
    refine ⟨.agg #[.int .i64 0, .int .i64 r.i], ?_, ?_, ?_⟩
    · simp [results, Try.results21, go_sem, e0, e1]
    · rw [HE.out.1, HE.out.2]
    · exact HBW.out.trans (k.mono (by omega))

set_option maxHeartbeats 1000000 in
theorem iTop_any (so : Option Addr) (sc : Nat) (L : List Wn) (p q : Int) (w : World) (hL : Ws w 0 w.heap.size so L) (hn : L.length + wzs L ≤ 1048576) :
    Calls Try.prog 21 #[.slice so L.length sc, .int .i64 p, .int .i64 q] w fun e w' => e = .returned (.agg #[.int .i64 (topZ (L.map Wn.ct) p q), .int .i64 (topV (L.map Wn.ct) p q)]) ∧ Below w.heap.size w w' := by
  by_cases h : stF (L.map Wn.ct) = 0
  · exact iTop_ok so sc L p q w hL hn h
  · have SF := fun w1 (kk : Below w.heap.size w w1) => iStack_any 0 w.heap.size so sc L w1 (hL.keep kk (Nat.le_refl _)) kk.size hn
    obtain ⟨e1, e2⟩ := top_bad (p := p) (q := q) h
    rw [e1, e2]
    obtain ⟨F, hF⟩ : ∃ F, stF (L.map Wn.ct) = F := ⟨_, rfl⟩
    rw [hF] at SF h ⊢
    have hne' : (F != 0) = true := by simpa using h
    have AN' := hideP SF
    clear SF hL h hF e1 e2
    go_enter Try.func21, Try.ntmps21
    go_wp2_with fail
    refine Calls.mono (AN'.out _ (by go_grown)) ?_
    rintro e w1 ⟨rfl, k1⟩
    have n1 := k1.size
    simp only [World.size_alloc] at n1
    have K1 : Hid (Below w.heap.size w w1) := hideP (Below.trans (by go_grown) (k1.mono (by simp; omega)))
    have X1 : Rb w1 (w.heap.size + 1 + 1) (.int .i64 0) (.int .i64 0) := Rb.keep ⟨by simp [go_sem], by simp [go_sem], by simp [go_sem], by simp [go_sem], by simp⟩ k1 (by simp)
    obtain ⟨x0, x1, x2, x3, x4⟩ := X1
    clear k1 AN'
    go_wp2
    exact bodyPost_ret (v := .agg #[.int .i64 F, .int .i64 0]) (by simp [results, Try.results21, go_sem, *]) rfl ⟨rfl, (K1.out.setCell (p := ⟨w.heap.size + 1 + 1, 0, none⟩) (by show w.heap.size ≤ w.heap.size + 1 + 1; omega) (.int .i64 F)).setCell (p := ⟨w.heap.size + 1 + 1, 1, none⟩) (by show w.heap.size ≤ w.heap.size + 1 + 1; omega) (.int .i64 0)⟩
end Go.Proofs.Ytoipcnpemmajaaa

namespace Go.Proofs.Ytoipcnpemmajaaa
open Go.RowKit Go.Maps
set_option linter.unusedVariables false

/-- The topmost one that is hit. -/
def topC (p q : Int) : List Wc → Option Wc
  | [] => none
  | c :: C => match topC p q C with
    | some i => some i
    | none => if hitC p q c then some c else none
theorem topC_none {p q : Int} {L : List Wn} (h : ∀ v ∈ L, hitW p q v = false) : topC p q (L.map Wn.ct) = none := by
  induction L with
  | nil => rfl
  | cons v L ih =>
    have h1 : hitC p q v.ct = false := h v (by simp)
    simp only [List.map_cons, topC, ih fun u hu => h u (by simp [hu]), h1]
    rfl
theorem topC_some {p q : Int} {L A B : List Wn} {r : Wn} (h : Top p q L A r B) : topC p q (L.map Wn.ct) = some r.ct := by
  rw [h.eq]
  have hy := h.yes
  have hn := topC_none h.no
  clear h
  induction A with
  | nil =>
    have h1 : hitC p q r.ct = true := hy
    simp only [List.nil_append, List.map_cons, topC, hn, h1, if_true]
  | cons v A ih => simp only [List.cons_append, List.map_cons, topC, ih]

/-- What a hand does. -/
structure Rt where
  z : Int
  tg : Int
  kd : Int
  D : List Int
  tr : Bool
  fo : Int
def rtNo (z : Int) : Rt := ⟨z, 0, 0, [], false, 0⟩
def clickR (o : Option Wc) (a b : Int) : Rt := match o with
  | none => ⟨0, 0, 0, [], false, 0⟩
  | some c => ⟨0, c.i, 5, [c.i, a - c.x, b - c.y], false, c.i⟩
def keyR (f a : Int) : Rt := if f = 0 then ⟨0, 0, 0, [], false, f⟩ else ⟨0, f, 4, [a], false, f⟩
def rtA (C : List Wc) (t : Bool) (f k a b : Int) : Rt :=
  if k = 3 then ⟨0, 0, 0, [], true, f⟩ else if k = 4 then ⟨0, 0, 0, [], false, f⟩ else if t then ⟨0, 0, 0, [], true, f⟩
  else if k = 2 then clickR (if b = 0 then none else topC a b C) a b else keyR f a
def rtR (C : List Wc) (t : Bool) (f k a b : Int) : Rt := if inpF C f = 0 then (if hF k a b = 0 then rtA C t f k a b else rtNo (hF k a b)) else rtNo (inpF C f)
/-- The answer, in memory. -/
def RtA (r : Rt) (W : World) : Ending → World → Prop := fun e w' => ∃ so ca, e = .returned (.agg #[.int .i64 r.z, .int .i64 r.tg, .int .i64 r.kd, .slice so r.D.length ca, .bool r.tr, .int .i64 r.fo]) ∧ OwnR .u8 5 w' W.heap.size so ca r.D ∧ Below W.heap.size W w'

theorem ok_range {x : Int} (h : okId x = true) : 1 ≤ x ∧ x ≤ 255 := by
  obtain ⟨h1, h2⟩ := okId_iff.1 h
  omega
structure TopF (L A B : List Wn) (r : Wn) (a b : Int) : Prop where
  id : 1 ≤ r.i ∧ r.i ≤ 255
  x : 0 ≤ a - r.x ∧ a - r.x ≤ 7
  y : 0 ≤ b - r.y ∧ b - r.y ≤ 5
  fst : Fst r.i L A r B
theorem top_facts {L A B : List Wn} {r : Wn} {a b : Int} (h : stF (L.map Wn.ct) = 0) (ht : Top a b L A r B) : TopF L A B r a b := by
  obtain ⟨h1, h2⟩ := stF_ok h
  obtain ⟨h3, h4⟩ := idsF_ok h1
  rw [mapI] at h3 h4
  have hm : r ∈ L := by rw [ht.eq]; simp
  have hid := h3 r.i (List.mem_map_of_mem hm)
  have hw := wsF_mem h2 r.ct (List.mem_map_of_mem hm)
  obtain ⟨w1, w2, w3, w4, w5⟩ := wrB_no (winF_no hw).1
  have w3' : 1 ≤ r.w ∧ r.w ≤ 8 := w3
  have w4' : 1 ≤ r.h ∧ r.h ≤ 6 := w4
  have hy := ht.yes
  unfold hitW inB at hy
  simp only [Bool.and_eq_true, decide_eq_true_eq] at hy
  refine ⟨ok_range hid, by omega, by omega, ht.eq, rfl, fun v hv e => ?_⟩
  rw [ht.eq, List.map_append, List.map_cons, List.nodup_append] at h4
  exact h4.2.2 v.i (List.mem_map_of_mem hv) r.i (by simp) e
theorem no_zero {L : List Wn} (h : stF (L.map Wn.ct) = 0) : ∀ v ∈ L, v.i ≠ 0 := by
  intro v hv e
  obtain ⟨h3, h4⟩ := idsF_ok (stF_ok h).1
  rw [mapI] at h3
  have := (ok_range (h3 v.i (List.mem_map_of_mem hv))).1
  omega
theorem byte3 {L A B : List Wn} {r : Wn} {a b : Int} (h : TopF L A B r a b) : [r.i, a - r.x, b - r.y].all byB = true := by
  obtain ⟨h1, h2, h3, _⟩ := h
  simp [byB]
  omega
/-- A box of six cells. -/
structure R6 (w : World) (b : Nat) (v0 v1 v2 v3 v4 v5 : Value) : Prop where
  c0 : w.cell? ⟨b, 0, none⟩ = some v0
  c1 : w.cell? ⟨b, 1, none⟩ = some v1
  c2 : w.cell? ⟨b, 2, none⟩ = some v2
  c3 : w.cell? ⟨b, 3, none⟩ = some v3
  c4 : w.cell? ⟨b, 4, none⟩ = some v4
  c5 : w.cell? ⟨b, 5, none⟩ = some v5
  fr : ∀ c, w.frozen? ⟨b, c, none⟩ = false
  lt : b < w.heap.size
theorem R6.keep {w w' : World} {b B : Nat} {v0 v1 v2 v3 v4 v5 : Value} (h : R6 w b v0 v1 v2 v3 v4 v5) (k : Below B w w') (hb : b < B) : R6 w' b v0 v1 v2 v3 v4 v5 :=
  ⟨(k.cell (p := ⟨b, 0, none⟩) hb).trans h.c0, (k.cell (p := ⟨b, 1, none⟩) hb).trans h.c1, (k.cell (p := ⟨b, 2, none⟩) hb).trans h.c2, (k.cell (p := ⟨b, 3, none⟩) hb).trans h.c3, (k.cell (p := ⟨b, 4, none⟩) hb).trans h.c4, (k.cell (p := ⟨b, 5, none⟩) hb).trans h.c5, fun c => (k.frozen (p := ⟨b, c, none⟩) hb).trans (h.fr c), Nat.lt_of_lt_of_le h.lt k.size⟩
theorem R6.far {w w' : World} {b lo hi : Nat} {v0 v1 v2 v3 v4 v5 : Value} (h : R6 w b v0 v1 v2 v3 v4 v5) (f : Far lo hi w w') (hd : b < lo ∨ hi ≤ b) : R6 w' b v0 v1 v2 v3 v4 v5 :=
  ⟨(f.cell b 0 h.lt hd).trans h.c0, (f.cell b 1 h.lt hd).trans h.c1, (f.cell b 2 h.lt hd).trans h.c2, (f.cell b 3 h.lt hd).trans h.c3, (f.cell b 4 h.lt hd).trans h.c4, (f.cell b 5 h.lt hd).trans h.c5, fun c => (f.frozen b c h.lt hd).trans (h.fr c), Nat.lt_of_lt_of_le h.lt f.size⟩
theorem r6_new (w : World) (v0 v1 v2 v3 v4 v5 : Value) (T : TypeId) : R6 (w.alloc (.cells #[v0, v1, v2, v3, v4, v5] T)) w.heap.size v0 v1 v2 v3 v4 v5 := ⟨by simp, by simp, by simp, by simp, by simp, by simp, by simp, by simp⟩
abbrev six (w : World) (b : Nat) (v0 v1 v2 v3 v4 v5 : Value) : World := ((((((w.setCell ⟨b, 0, none⟩ v0).setCell ⟨b, 1, none⟩ v1).setCell ⟨b, 2, none⟩ v2).setCell ⟨b, 3, none⟩ v3).setCell ⟨b, 4, none⟩ v4).setCell ⟨b, 5, none⟩ v5)
theorem six_size (w : World) (b : Nat) (v0 v1 v2 v3 v4 v5 : Value) : (six w b v0 v1 v2 v3 v4 v5).heap.size = w.heap.size := by simp [six]
theorem six_below {lo : Nat} {W w : World} {b : Nat} (v0 v1 v2 v3 v4 v5 : Value) (h : Below lo W w) (hb : lo ≤ b) : Below lo W (six w b v0 v1 v2 v3 v4 v5) :=
  (((((h.setCell (p := ⟨b, 0, none⟩) hb v0).setCell (p := ⟨b, 1, none⟩) hb v1).setCell (p := ⟨b, 2, none⟩) hb v2).setCell (p := ⟨b, 3, none⟩) hb v3).setCell (p := ⟨b, 4, none⟩) hb v4).setCell (p := ⟨b, 5, none⟩) hb v5
theorem six_own {w : World} {base b : Nat} {so : Option Addr} {ca : Nat} {D : List Int} (v0 v1 v2 v3 v4 v5 : Value) (O : OwnR .u8 5 w base so ca D) (hb : b < base) : OwnR .u8 5 (six w b v0 v1 v2 v3 v4 v5) base so ca D :=
  (((((O.set ⟨b, 0, none⟩ v0 hb).set ⟨b, 1, none⟩ v1 hb).set ⟨b, 2, none⟩ v2 hb).set ⟨b, 3, none⟩ v3 hb).set ⟨b, 4, none⟩ v4 hb).set ⟨b, 5, none⟩ v5 hb
theorem rt_six {r : Rt} {W w : World} {b base : Nat} {so : Option Addr} {ca : Nat} (O : OwnR .u8 5 w base so ca r.D) (hb : b < base) (h0 : W.heap.size ≤ b) (k : Below W.heap.size W w) :
    RtA r W (.returned (.agg #[.int .i64 r.z, .int .i64 r.tg, .int .i64 r.kd, .slice so r.D.length ca, .bool r.tr, .int .i64 r.fo])) (six w b (.int .i64 r.z) (.int .i64 r.tg) (.int .i64 r.kd) (.slice so r.D.length ca) (.bool r.tr) (.int .i64 r.fo)) :=
  ⟨so, ca, rfl, (six_own _ _ _ _ _ _ O hb).le (by omega), six_below _ _ _ _ _ _ k h0⟩
end Go.Proofs.Ytoipcnpemmajaaa
