/- A stack from its topmost window on: the iterator that tells it. TopAt by the program. -/
import Derived.Test.YtmmjannkfmiohaaTs34
import Derived.Test.YtmmjannkfmiohaaTs36
namespace Go.Proofs.Ytmmjannkfmiohaa
open Go.RowKit Go.Shelf Go.Maps
set_option linter.unusedVariables false
attribute [local go_sem] Oper.semAt_some

def encW (x : Nat × Wn) : Array Value := #[.int .i64 (x.1 : Int), .agg #[.int .i64 x.2.i, .int .i64 x.2.x, .int .i64 x.2.y, .int .i64 x.2.w, .int .i64 x.2.h, .bool x.2.m, .slice x.2.b.ao x.2.b.L.length x.2.b.cap]]
/-- From the last one on, each with its place. -/
def dz (o : Nat) : List Wn → List (Nat × Wn)
  | [] => []
  | r :: B => dz (o + 1) B ++ [(o, r)]
theorem dz_len (o : Nat) (B : List Wn) : (dz o B).length = B.length := by
  induction B generalizing o with
  | nil => rfl
  | cons r B ih => simp [dz, ih]
theorem dz_mem {o : Nat} {B : List Wn} {x : Nat × Wn} (h : x ∈ dz o B) : x.2 ∈ B := by
  induction B generalizing o with
  | nil => simp [dz] at h
  | cons r B ih =>
    simp only [dz, List.mem_append, List.mem_singleton] at h
    rcases h with h | rfl
    · exact List.mem_cons_of_mem _ (ih h)
    · simp
theorem mem_dz {o : Nat} {B : List Wn} {v : Wn} (h : v ∈ B) : ∃ k, (k, v) ∈ dz o B := by
  induction B generalizing o with
  | nil => simp at h
  | cons r B ih =>
    rcases List.mem_cons.1 h with rfl | h
    · exact ⟨o, by simp [dz]⟩
    · obtain ⟨k, hk⟩ := ih (o := o + 1) h
      exact ⟨k, by simp [dz, hk]⟩

def Same (N0 : Nat) (A B : World) : Prop := ∀ b, b < N0 → B.heap[b]? = A.heap[b]?
theorem abide_w {J : List (Nat × Wn) → World → Prop} {B : Nat} {pre : List (Nat × Wn)} {W W' : World} (hJ : AbidesFrom B J) (h : J pre W) (k : Below W.heap.size W W') : J pre W' :=
  hJ pre W W' none h ⟨k.os, k.tape, k.output, k.size, fun i hi _ => k.block i hi⟩ (fun r e => by cases e)

set_option maxRecDepth 100000 in
set_option maxHeartbeats 4000000 in
theorem back_in (n l Bx N0 lo hi : Nat) (so : Option Addr) (sc : Nat) (L : List Wn) (J Jx : List (Nat × Wn) → World → Prop) (W : World) (hn : L.length ≤ 1048576)
    (hY : ∀ pre x W1, J pre W1 → pre.length < L.length → YieldAt Fence.wide (n - 1) Try.prog l (encW x) W1 fun e W' =>
      (e = .returned (.bool true) ∧ J (pre ++ [x]) W' ∧ Same N0 W1 W') ∨ (e = .returned (.bool false) ∧ Jx (pre ++ [x]) W'))
    (hJ : AbidesFrom W.heap.size J) (hN : N0 ≤ W.heap.size) (hx : Bx < N0) (hB : W.cell? ⟨Bx, 0, none⟩ = some (.slice so L.length sc)) (hL : Ws W lo hi so L) (hh : hi ≤ N0) (h0 : J [] W) :
    CallsIn Fence.wide n Try.prog 62 #[.func (.yield l) #[] #[], .pointer (some ⟨Bx, 0, none⟩)] W fun e W' => (∃ v, e = .returned v) ∧
      ((∃ ys, ys = dz 0 L ∧ J ys W') ∨ (∃ pre, (∃ A r B, L = A ++ r :: B ∧ pre = dz A.length (r :: B)) ∧ Jx pre W')) := by
  have hn' : (L.length : Int) ≤ 1048576 := by omega
  have HY := hideP hY
  have HJ := hideP hJ
  have HB := hideP hB
  have HL := hideP hL
  have H0 := hideP h0
  clear hY hJ hL h0
  refine callsIn_of_wp Try.func62 rfl trivial ?_ rfl
  simp only [Try.ntmps62, List.size_toArray, List.length_cons, List.length_nil, Nat.reduceAdd, Nat.reduceSub, Array.replicate_succ, Array.replicate_zero, List.push_toArray, List.append_toArray, List.nil_append, List.cons_append]
  gi_wp2
  gi_loopw [3] (fun i wr => ∃ A B : List Wn, A ++ B = L ∧ i = .int .i64 ((A.length : Int) - 1) ∧ J (dz A.length B) wr ∧ Same N0 W wr) (fun i _ => (intOf i + 1).toNat)
  case atStart => exact ⟨L, [], by simp, rfl, H0.out, fun _ _ => rfl⟩
  case round =>
    obtain ⟨A, B, hAB, rfl, hJs, hsm⟩ := hrel
    have hlen : A.length + B.length = L.length := by rw [← hAB]; simp
    have HJs := hideP hJs
    have HS := hideP hsm
    clear hJs hsm
    rcases List.eq_nil_or_concat A with hA | ⟨A', r, hA⟩
    · subst hA
      have hB0 : B = L := by simpa using hAB
      subst hB0
      gi_wp2
      go_end0
      exact ⟨⟨_, rfl⟩, .inl ⟨_, rfl, HJs.out⟩⟩
    · rw [List.concat_eq_append] at hA
      subst hA
      have hAl : (((A' ++ [r]).length : Nat) : Int) - 1 = (A'.length : Nat) := by simp
      rw [hAl]
      have hlt : (A'.length : Int) < (L.length : Int) := by simp at hlen; omega
      have h0 := HL.out
      have hAB' : L = A' ++ r :: B := by rw [← hAB]; simp
      rw [hAB'] at h0
      obtain ⟨g, o, rfl, hg, hc, _⟩ := Ws.at h0
      have hcell : ∀ b c, b < N0 → wr.cell? ⟨b, c, none⟩ = W.cell? ⟨b, c, none⟩ := fun b c hb => by simp only [World.cell?, HS.out b hb]
      have b0 : wr.cell? ⟨Bx, 0, none⟩ = some (.slice (some ⟨g, o, none⟩) L.length sc) := (hcell Bx 0 hx).trans HB.out
      have hcw : Cl Wn.vals wr g (o + A'.length * 7) r := fun j hj => (hcell g _ (by omega)).trans (hc j hj)
      obtain ⟨a0, a1, a2, a3, a4, a5, a6⟩ := hcw.seven
      have hgl : g < wr.heap.size := World.block_lt_of_cell? wr _ a0
      have hBl : Bx < wr.heap.size := World.block_lt_of_cell? wr _ b0
      have HAB := hideP hAB'
      have hJr : J (dz (A'.length + 1) B) wr := by have := HJs.out; simpa using this
      obtain ⟨fn, tmps, assign, body, hy, hR⟩ := HY.out (dz (A'.length + 1) B) (A'.length, r) wr hJr (by rw [dz_len]; simp at hlen; omega)
      simp only [encW] at hy
      clear h0 hc hAB hAB' hcell hcw hAl
      gi_wp2
      refine ⟨(by intro h; cases h), hR.mono ?_⟩
      rintro e w4 (⟨rfl, hJ4, hk4⟩ | ⟨rfl, hJx4⟩)
      · have HJ4 := hideP hJ4
        have HK4 : Hid (Same N0 W w4) := hideP (fun b hb => (hk4 b hb).trans (HS.out b hb))
        clear hJ4 hk4 hR hy b0 a0 a1 a2 a3 a4 a5 a6 HS hJr
        gi_wp2
        go_roundw
        case rel => exact ⟨A', r :: B, HAB.out.symm, by go_num, HJ4.out, HK4.out⟩
        case measure => simp [intOf]
      · have HX4 := hideP hJx4
        clear hJx4 hR hy b0 a0 a1 a2 a3 a4 a5 a6 HS hJr
        gi_wp2
        go_returns
        exact ⟨⟨_, rfl⟩, .inr ⟨_, ⟨A', r, B, HAB.out, rfl⟩, HX4.out⟩⟩

theorem back_stops (n Bx N0 lo hi : Nat) (so : Option Addr) (sc : Nat) (L : List Wn) (w : World) (hn : L.length ≤ 1048576) (hN : N0 ≤ w.heap.size) (hx : Bx < N0) (hB : w.cell? ⟨Bx, 0, none⟩ = some (.slice so L.length sc)) (hL : Ws w lo hi so L) (hh : hi ≤ N0) :
    SeqStopsK Fence.wide n Try.prog 62 #[.pointer (some ⟨Bx, 0, none⟩)] encW (Same N0) (fun xs => xs = dz 0 L) (fun pre => ∃ A r B, L = A ++ r :: B ∧ pre = dz A.length (r :: B)) L.length w := fun l J Jx W hW hJ _ hY h0 =>
  back_in n l Bx N0 lo hi so sc L J Jx W hn (fun pre x W1 h1 h2 => hY pre x W1 h1 h2) hJ (Nat.le_trans hN hW.size) hx ((hW.cell (p := ⟨Bx, 0, none⟩) (by show Bx < _; omega)).trans hB) (hL.keep hW (by omega)) hh h0

set_option maxHeartbeats 400000 in
theorem back_any (so : Option Addr) (n sc : Nat) (w : World) :
    Calls Try.prog 42 #[.slice so n sc] w fun e w' => e = .returned (.func (.func 62) #[] #[.pointer (some ⟨w.heap.size, 0, none⟩)]) ∧ w' = w.alloc (.cells #[.slice so n sc] 24) := by
  go_enter Try.func42, Try.ntmps42
  go_wp2
  go_returns
  exact ⟨rfl, rfl⟩
end Go.Proofs.Ytmmjannkfmiohaa

namespace Go.Proofs.Ytmmjannkfmiohaa
open Go.RowKit Go.Shelf Go.Maps
set_option linter.unusedVariables false
attribute [local go_sem] Oper.semAt_some

/-- What the program asks of a window. -/
def hitP (p q : Int) (v : Wn) : Bool := v.m && hpB v.x v.y v.w v.h p q
theorem hitP_eq {p q : Int} {v : Wn} (h : rfB v.x v.y v.w v.h = false) : hitP p q v = hitW p q v := by unfold hitP hitW hpB; rw [h]; rfl
theorem keepsFrom_below {B : Nat} {W W' : World} (k : Below W.heap.size W W') : KeepsFrom B W W' := ⟨k.size, fun i o _ hi _ => (k.block i (Array.getElem?_eq_some_iff.1 hi).1).trans hi⟩
theorem keepsFrom_turn {B b : Nat} {W W' : World} (t : Turn b W W') (hb : b < B) : KeepsFrom B W W' := ⟨t.size, fun i o hB hi _ => (t.block i (Array.getElem?_eq_some_iff.1 hi).1 (by omega)).trans hi⟩
theorem dz_last {o : Nat} {r : Wn} {B : List Wn} {pre0 : List (Nat × Wn)} {x : Nat × Wn} (h : pre0 ++ [x] = dz o (r :: B)) : pre0 = dz (o + 1) B ∧ x = (o, r) := by
  simp only [dz] at h
  have := List.append_inj' h rfl
  exact ⟨this.1, by simpa using this.2⟩
theorem top_own (b B : Nat) (w0 : World) (hB : w0.heap.size ≤ B) (hb : b < w0.heap.size) (F : List (Nat × Wn) → Obj → Prop) : OwnFrom B (fun (pre : List (Nat × Wn)) W => ∃ o, F pre o ∧ W.heap[b]? = some o ∧ Turn b w0 W) := fun s A W' row hs hg hr => by
  obtain ⟨o, hf, ho, ht⟩ := hs
  refine ⟨o, hf, (hg.block b (Nat.lt_of_lt_of_le hb ht.size) (fun e => by have := (hr b e.symm).1; omega)).trans ho, ?_⟩
  exact ⟨hg.os.trans ht.os, hg.tape.trans ht.tape, hg.output.trans ht.output, Nat.le_trans ht.size hg.size, fun k hk hb' => (hg.block k (Nat.lt_of_lt_of_le hk ht.size) (fun e => by have := (hr k e.symm).1; omega)).trans (ht.block k hk hb')⟩

set_option maxRecDepth 100000 in
set_option maxHeartbeats 2000000 in
theorem iTop_ok (so : Option Addr) (sc : Nat) (L : List Wn) (p q : Int) (w : World) (hL : Ws w 0 w.heap.size so L) (hn : L.length + wzs L ≤ 1048576) (h : stF (L.map Wn.ct) = 0) :
    Calls Try.prog 17 #[.slice so L.length sc, .int .i64 p, .int .i64 q] w fun e w' => e = .returned (.agg #[.int .i64 (topZ (L.map Wn.ct) p q), .int .i64 (topV (L.map Wn.ct) p q)]) ∧ Below w.heap.size w w' := by
  have SF := fun w1 (kk : Below w.heap.size w w1) => iStack_any 0 w.heap.size so sc L w1 (hL.keep kk (Nat.le_refl _)) kk.size hn
  rw [h] at SF
  have SF' := hideP SF
  have hrf := hideP (st_rect h)
  have HL := hideP hL
  have H0 := hideP h
  have hn' : L.length ≤ 1048576 := by omega
  clear SF hL h
  refine callsIn_wide.1 (callsIn_of_wp_marks (n := 3) Try.func17 rfl trivial ?_ rfl)
  simp only [Try.ntmps17, List.size_toArray, List.length_cons, List.length_nil, Nat.reduceAdd, Nat.reduceSub, Array.replicate_succ, Array.replicate_zero, List.push_toArray, List.append_toArray, List.nil_append, List.cons_append]
  refine wpIn_wide.2 ?_
  go_wp2_with fail
  refine Calls.mono (SF'.out _ (by go_grown)) ?_
  rintro e w1 ⟨rfl, k1⟩
  have n1 := k1.size
  simp only [World.size_alloc] at n1
  have K1 : Hid (Below w.heap.size w w1) := hideP (Below.trans (by go_grown) (k1.mono (by simp; omega)))
  have c4 : w1.cell? ⟨w.heap.size, 0, none⟩ = some (.int .i64 p) := (k1.cell (p := ⟨w.heap.size, 0, none⟩) (by simp; omega)).trans (by simp [go_sem])
  have c5 : w1.cell? ⟨w.heap.size + 1, 0, none⟩ = some (.int .i64 q) := (k1.cell (p := ⟨w.heap.size + 1, 0, none⟩) (by simp)).trans (by simp [go_sem])
  have c6 : w1.heap[w.heap.size + 2]? = some (.cells #[.int .i64 0, .int .i64 0] 38 (0, 0)) := by
    rw [k1.block (w.heap.size + 2) (by simp)]
    have := heap_alloc_new ((w.alloc (.cells #[.int .i64 p] 2)).alloc (.cells #[.int .i64 q] 2)) (.cells #[.int .i64 0, .int .i64 0] 38)
    simpa using this
  have C4 := hideP c4
  have C5 := hideP c5
  have C6 := hideP c6
  clear k1 c4 c5 c6
  go_wp2_with fail
  refine Calls.mono (back_any so L.length sc w1) ?_
  rintro e w2 ⟨rfl, hw2⟩
  subst hw2
  go_wp2
  have ka := kalC w1 (.cells #[.slice so L.length sc] 24)
  have hz2 : (w1.alloc (.cells #[.slice so L.length sc] 24)).heap.size = w1.heap.size + 1 := by simp
  have BX : (w1.alloc (.cells #[.slice so L.length sc] 24)).cell? ⟨w1.heap.size, 0, none⟩ = some (.slice so L.length sc) := by simp
  have HL2 := HL.out.keep (K1.out.trans (ka.mono K1.out.size)) (Nat.le_refl _)
  have D4 := hideP ((ka.cell (p := ⟨w.heap.size, 0, none⟩) (by show w.heap.size < _; omega)).trans C4.out)
  have D5 := hideP ((ka.cell (p := ⟨w.heap.size + 1, 0, none⟩) (by show w.heap.size + 1 < _; omega)).trans C5.out)
  have D6 := hideP ((ka.block (w.heap.size + 2) (by omega)).trans C6.out)
  have K2 := hideP (K1.out.trans (ka.mono K1.out.size))
  clear ka K1 C4 C5 C6 HL SF'
  generalize w1.alloc (.cells #[.slice so L.length sc] 24) = w2 at *
  refine (wpIn_wide (n := 3)).1 ?_
  refine wpIn_rangeFunc_ownH rfl (by omega) (gf := 62) (lb := #[.pointer (some ⟨w1.heap.size, 0, none⟩)]) rfl trivial (enters_of Try.func62 (by kernel_rfl) rfl)
    (back_stops 2 w1.heap.size w2.heap.size 0 w.heap.size so sc L w2 hn' (Nat.le_refl _) (by omega) BX HL2 (by omega)) (fun h k b hb => (k b hb).trans (h b hb)) (fun W l o o' hl _ _ _ b hb => World.putObj_heap_other (by omega)) (Below.refl _ _) (fun _ => rfl)
    (fun pre W => ∃ o, ((∀ x ∈ pre, hitP p q x.2 = false) ∧ o = .cells #[.int .i64 0, .int .i64 0] 38 (0, 0)) ∧ W.heap[w.heap.size + 2]? = some o ∧ Turn (w.heap.size + 2) w2 W)
    (fun c pre W => ∃ o, (c = .ret ∧ ∃ pre0 x, pre = pre0 ++ [x] ∧ hitP p q x.2 = true ∧ (∀ y ∈ pre0, hitP p q y.2 = false) ∧ o = .cells #[.int .i64 0, .int .i64 x.2.i] 38 (0, 0)) ∧ W.heap[w.heap.size + 2]? = some o ∧ Turn (w.heap.size + 2) w2 W)
    (top_own _ _ w2 (Nat.le_refl _) (by omega) (fun pre o => (∀ x ∈ pre, hitP p q x.2 = false) ∧ o = .cells #[.int .i64 0, .int .i64 0] 38 (0, 0)))
    (fun c => top_own _ _ w2 (Nat.le_refl _) (by omega) (fun pre o => c = .ret ∧ ∃ pre0 x, pre = pre0 ++ [x] ∧ hitP p q x.2 = true ∧ (∀ y ∈ pre0, hitP p q y.2 = false) ∧ o = .cells #[.int .i64 0, .int .i64 x.2.i] 38 (0, 0)))
    ⟨_, ⟨by simp, rfl⟩, D6.out, Turn.refl _ _⟩
    (fun x a' W => ∃ b9, a' = { tmps := #[.slice so L.length sc, .int .i64 p, .int .i64 q, undef, .pointer (some ⟨w.heap.size, 0, none⟩), .pointer (some ⟨w.heap.size + 1, 0, none⟩), .pointer (some ⟨w.heap.size + 1 + 1, 0, none⟩), .int .i64 0, undef, .pointer (some ⟨b9, 0, none⟩), .slice so L.length sc, .int .i64 0, .int .i64 0, .bool false, undef, undef, .slice so L.length sc, .func (.func 62) #[] #[.pointer (some ⟨w1.heap.size, 0, none⟩)],
        .int .i64 (x.1 : Int), .agg #[.int .i64 x.2.i, .int .i64 x.2.x, .int .i64 x.2.y, .int .i64 x.2.w, .int .i64 x.2.h, .bool x.2.m, .slice x.2.b.ao x.2.b.L.length x.2.b.cap], undef, undef, undef, undef, undef, undef, undef, undef, undef, undef, undef, undef, undef], defers := [] } ∧ W.heap[b9]? = some (.cells #[.int .i64 x.2.i, .int .i64 x.2.x, .int .i64 x.2.y, .int .i64 x.2.w, .int .i64 x.2.h, .bool x.2.m, .slice x.2.b.ao x.2.b.L.length x.2.b.cap] 47 (0, 0)) ∧ w2.heap.size ≤ b9)
    ?hax ?assign ?body ?done ?stop
  case hax =>
    rintro x a' s X Y row ⟨b9, e1, e2, e3⟩ hg hr
    refine ⟨b9, e1, (hg.block b9 (Array.getElem?_eq_some_iff.1 e2).1 (fun e => ?_)).trans e2, e3⟩
    obtain ⟨_, o, ho, hc⟩ := hr b9 e.symm
    rw [e2] at ho
    cases ho
    cases hc
  case assign =>
    rintro l pre x W K ⟨o, ⟨hno, rfl⟩, hb6, ht⟩ hK
    simp only [encW]
    gi_wp2
    have ka := kalC W (.cells #[.int .i64 x.2.i, .int .i64 x.2.x, .int .i64 x.2.y, .int .i64 x.2.w, .int .i64 x.2.h, .bool x.2.m, .slice x.2.b.ao x.2.b.L.length x.2.b.cap] 47)
    have htz := ht.size
    refine hK _ _ (keepsFrom_below ka) (fun b hb => ka.block b (by omega)) ⟨_, ⟨hno, rfl⟩, (ka.block (w.heap.size + 2) (by omega)).trans hb6, ht.trans (Turn.of_below ka)⟩ ⟨W.heap.size, rfl, heap_alloc_new W _, htz⟩
  case body =>
    rintro l pre ⟨k, v⟩ a' W hl hrec ⟨o, ⟨hno, rfl⟩, hb6, ht⟩ ⟨b9, rfl, hb9, h9⟩ hlen
    obtain ⟨ri, rx, ry, rp, rh, rm, ⟨ao, cap, gb, D⟩⟩ := v
    simp only at hb9 ⊢
    have y0 : W.cell? ⟨b9, 0, none⟩ = some (.int .i64 ri) := by rw [cell_of_row W b9 0 _ _ _ hb9]; rfl
    have y1 : W.cell? ⟨b9, 1, none⟩ = some (.int .i64 rx) := by rw [cell_of_row W b9 1 _ _ _ hb9]; rfl
    have y2 : W.cell? ⟨b9, 2, none⟩ = some (.int .i64 ry) := by rw [cell_of_row W b9 2 _ _ _ hb9]; rfl
    have y3 : W.cell? ⟨b9, 3, none⟩ = some (.int .i64 rp) := by rw [cell_of_row W b9 3 _ _ _ hb9]; rfl
    have y4 : W.cell? ⟨b9, 4, none⟩ = some (.int .i64 rh) := by rw [cell_of_row W b9 4 _ _ _ hb9]; rfl
    have y5 : W.cell? ⟨b9, 5, none⟩ = some (.bool rm) := by rw [cell_of_row W b9 5 _ _ _ hb9]; rfl
    have htz := ht.size
    have hb9l : b9 < W.heap.size := (Array.getElem?_eq_some_iff.1 hb9).1
    have z4 : W.cell? ⟨w.heap.size, 0, none⟩ = some (.int .i64 p) := (ht.cell w.heap.size 0 (by omega) (by omega)).trans D4.out
    have z5 : W.cell? ⟨w.heap.size + 1, 0, none⟩ = some (.int .i64 q) := (ht.cell (w.heap.size + 1) 0 (by omega) (by omega)).trans D5.out
    have HT := hideP ht
    have HNO := hideP hno
    have HB6 := hideP hb6
    have HB9 := hideP hb9
    clear ht hno hb6 hb9
    cases rm
    · gi_wp2_with (refine ⟨trivial, ?_⟩)
      exact ⟨KeepsFrom.refl _ _, fun b hb => rfl, _, ⟨fun x hx => (List.mem_append.1 hx).elim (HNO.out x) (fun h => by obtain rfl := List.mem_singleton.1 h; rfl), rfl⟩, HB6.out, HT.out⟩
    · have HP := hp_any rx ry rp rh p q W
      have r0 : W.cell? ⟨w.heap.size + 2, 0, none⟩ = some (.int .i64 0) := by rw [cell_of_row W (w.heap.size + 2) 0 _ _ _ HB6.out]; rfl
      have r1 : W.cell? ⟨w.heap.size + 2, 1, none⟩ = some (.int .i64 0) := by rw [cell_of_row W (w.heap.size + 2) 1 _ _ _ HB6.out]; rfl
      have q0 : W.frozen? ⟨w.heap.size + 2, 0, none⟩ = false := frozen_of_row W (w.heap.size + 2) 0 _ _ HB6.out
      have q1 : W.frozen? ⟨w.heap.size + 2, 1, none⟩ = false := frozen_of_row W (w.heap.size + 2) 1 _ _ HB6.out
      have hlt2 : w.heap.size + 2 < W.heap.size := by omega
      cases hh : hpB rx ry rp rh p q
      · rw [hh] at HP
        gi_wp2_with (refine ⟨trivial, ?_⟩; refine (CallsIn.inRound l (callsIn_wide.2 HP)).mono ?_; rintro e w3 ⟨rfl, k3⟩)
        exact ⟨keepsFrom_below k3, fun b hb => k3.block b (by omega), _, ⟨fun x hx => (List.mem_append.1 hx).elim (HNO.out x) (fun h => by obtain rfl := List.mem_singleton.1 h; simp [hitP, hh]), rfl⟩, (k3.block _ hlt2).trans HB6.out, HT.out.trans (Turn.of_below k3)⟩
      · rw [hh] at HP
        gi_wp2_with fail
        refine ⟨trivial, ?_⟩
        refine (CallsIn.inRound l (callsIn_wide.2 HP)).mono ?_
        rintro e w3 ⟨rfl, k3⟩
        have y0' := (k3.cell (p := ⟨b9, 0, none⟩) hb9l).trans y0
        have r0' := (k3.cell (p := ⟨w.heap.size + 2, 0, none⟩) hlt2).trans r0
        have r1' := (k3.cell (p := ⟨w.heap.size + 2, 1, none⟩) hlt2).trans r1
        have q0' := (k3.frozen (p := ⟨w.heap.size + 2, 0, none⟩) hlt2).trans q0
        have q1' := (k3.frozen (p := ⟨w.heap.size + 2, 1, none⟩) hlt2).trans q1
        have n3 := k3.size
        have hb9l' : b9 < w3.heap.size := by omega
        have hlt2' : w.heap.size + 2 < w3.heap.size := by omega
        gi_wp2
        have TT : Turn (w.heap.size + 2) W ((w3.setCell ⟨w.heap.size + 2, 0, none⟩ (.int .i64 0)).setCell ⟨w.heap.size + 2, 1, none⟩ (.int .i64 ri)) := ((Turn.of_below k3).trans (Turn.store w3 ⟨w.heap.size + 2, 0, none⟩ _)).trans (Turn.store _ ⟨w.heap.size + 2, 1, none⟩ _)
        have h1 := heap_setCell_same w3 (w.heap.size + 2) 0 _ _ (.int .i64 0) ((k3.block _ hlt2).trans HB6.out)
        have h2 := heap_setCell_same _ (w.heap.size + 2) 1 _ _ (.int .i64 ri) h1
        exact ⟨keepsFrom_turn TT (by omega), _, ⟨rfl, pre, _, rfl, by simp [hitP, hh], HNO.out, rfl⟩, h2, HT.out.trans TT⟩
  case done =>
    rintro D ys W hD rfl ⟨o, ⟨hno, rfl⟩, hb6, ht⟩ hK
    have hall : ∀ v ∈ L, hitW p q v = false := fun v hv => by
      obtain ⟨k, hk⟩ := mem_dz (o := 0) hv
      have := hno _ hk
      rwa [hitP_eq (hrf.out v hv)] at this
    have HE := hideP (top_none H0.out hall)
    have htz := ht.size
    have MK := hideP ((Mks.nil W w2.heap.size).cons hK hD (fun E hE => by cases hE))
    have r0 : W.cell? ⟨w.heap.size + 2, 0, none⟩ = some (.int .i64 0) := by rw [cell_of_row W (w.heap.size + 2) 0 _ _ _ hb6]; rfl
    have r1 : W.cell? ⟨w.heap.size + 2, 1, none⟩ = some (.int .i64 0) := by rw [cell_of_row W (w.heap.size + 2) 1 _ _ _ hb6]; rfl
    have q0 : W.frozen? ⟨w.heap.size + 2, 0, none⟩ = false := frozen_of_row W (w.heap.size + 2) 0 _ _ hb6
    have q1 : W.frozen? ⟨w.heap.size + 2, 1, none⟩ = false := frozen_of_row W (w.heap.size + 2) 1 _ _ hb6
    have hlt2 : w.heap.size + 2 < W.heap.size := by omega
    have HBW := hideP (Turn.below K2.out (by omega) (by omega) ht)
    clear hno hb6 ht hK hall
    go_wp2
    have T0 : Turn (w.heap.size + 2) W ((W.setCell ⟨w.heap.size + 2, 0, none⟩ (.int .i64 4)).setCell ⟨w.heap.size + 2, 1, none⟩ (.int .i64 0)) := (Turn.store W ⟨w.heap.size + 2, 0, none⟩ _).trans (Turn.store _ ⟨w.heap.size + 2, 1, none⟩ _)
    show LeavesInM Fence.wide 3 Try.prog Try.f17 _ _ (marks [D]) .returning _
    refine leave_marks w2.heap.size [D] _ (MK.out.turn T0 (by omega)) (by simp; omega) fun w' k => ?_
    have e0 : w'.cell? ⟨w.heap.size + 2, 0, none⟩ = some (.int .i64 4) := by
      rw [k.cell (p := ⟨w.heap.size + 2, 0, none⟩) (by show w.heap.size + 2 < _; omega), cell_set_other (by omega)]; exact cell_set_same r0
    have e1 : w'.cell? ⟨w.heap.size + 2, 1, none⟩ = some (.int .i64 0) := by
      rw [k.cell (p := ⟨w.heap.size + 2, 1, none⟩) (by show w.heap.size + 2 < _; omega)]; exact cell_set_same ((cell_set_other (by omega)).trans r1)
    refine ⟨.agg #[.int .i64 4, .int .i64 0], ?_, ?_, ?_⟩
    · simp [results, Try.results17, go_sem, e0, e1]
    · rw [HE.out.1, HE.out.2]
    · exact ((HBW.out.setCell (p := ⟨w.heap.size + 2, 0, none⟩) (by show w.heap.size ≤ w.heap.size + 2; omega) _).setCell (p := ⟨w.heap.size + 2, 1, none⟩) (by show w.heap.size ≤ w.heap.size + 2; omega) _).trans (k.mono (by omega))
  case stop =>
    rintro D c pre W hD ⟨A, r, B, hLL, hpre⟩ ⟨o, ⟨rfl, pre0, x, hpp, hyes, hno, rfl⟩, hb6, ht⟩ hK
    rw [hpp] at hpre
    obtain ⟨hp0, rfl⟩ := dz_last hpre
    have htop : Top p q L A r B := ⟨hLL, by rw [← hitP_eq (hrf.out r (by rw [hLL]; simp))]; exact hyes, fun v hv => by
      obtain ⟨k, hk⟩ := mem_dz (o := A.length + 1) hv
      rw [← hp0] at hk
      have := hno _ hk
      rwa [hitP_eq (hrf.out v (by rw [hLL]; simp [hv]))] at this⟩
    have HE := hideP (top_some H0.out htop)
    have htz := ht.size
    have MK := hideP ((Mks.nil W w2.heap.size).cons hK hD (fun E hE => by cases hE))
    have HBW := hideP (Turn.below K2.out (by omega) (by omega) ht)
    simp only at hb6
    have r0 : W.cell? ⟨w.heap.size + 2, 0, none⟩ = some (.int .i64 0) := by rw [cell_of_row W (w.heap.size + 2) 0 _ _ _ hb6]; rfl
    have r1 : W.cell? ⟨w.heap.size + 2, 1, none⟩ = some (.int .i64 r.i) := by rw [cell_of_row W (w.heap.size + 2) 1 _ _ _ hb6]; rfl
    clear hno ht hK hLL htop hpp hpre hyes hb6 hp0
    gi_wp2
    show LeavesInM Fence.wide 3 Try.prog Try.f17 _ _ (marks [D]) .returning _
    refine leave_marks w2.heap.size [D] _ MK.out (by omega) fun w' k => ?_
    have e0 : w'.cell? ⟨w.heap.size + 2, 0, none⟩ = some (.int .i64 0) := (k.cell (p := ⟨w.heap.size + 2, 0, none⟩) (by show w.heap.size + 2 < _; omega)).trans r0
    have e1 : w'.cell? ⟨w.heap.size + 2, 1, none⟩ = some (.int .i64 r.i) := (k.cell (p := ⟨w.heap.size + 2, 1, none⟩) (by show w.heap.size + 2 < _; omega)).trans r1
    refine ⟨.agg #[.int .i64 0, .int .i64 r.i], ?_, ?_, ?_⟩
    · simp [results, Try.results17, go_sem, e0, e1]
    · rw [HE.out.1, HE.out.2]
    · exact HBW.out.trans (k.mono (by omega))

set_option maxHeartbeats 1000000 in
theorem iTop_any (so : Option Addr) (sc : Nat) (L : List Wn) (p q : Int) (w : World) (hL : Ws w 0 w.heap.size so L) (hn : L.length + wzs L ≤ 1048576) :
    Calls Try.prog 17 #[.slice so L.length sc, .int .i64 p, .int .i64 q] w fun e w' => e = .returned (.agg #[.int .i64 (topZ (L.map Wn.ct) p q), .int .i64 (topV (L.map Wn.ct) p q)]) ∧ Below w.heap.size w w' := by
  by_cases h : stF (L.map Wn.ct) = 0
  · exact iTop_ok so sc L p q w hL hn h
  · have SF := fun w1 (kk : Below w.heap.size w w1) => iStack_any 0 w.heap.size so sc L w1 (hL.keep kk (Nat.le_refl _)) kk.size hn
    obtain ⟨e1, e2⟩ := top_bad (p := p) (q := q) h
    rw [e1, e2]
    obtain ⟨F, hF⟩ : ∃ F, stF (L.map Wn.ct) = F := ⟨_, rfl⟩
    rw [hF] at SF h ⊢
    have hne' : (F != 0) = true := by simpa using h
    have AN' := hideP SF
    clear SF hL h hF e1 e2
    go_enter Try.func17, Try.ntmps17
    go_wp2_with fail
    refine Calls.mono (AN'.out _ (by go_grown)) ?_
    rintro e w1 ⟨rfl, k1⟩
    have n1 := k1.size
    simp only [World.size_alloc] at n1
    have K1 : Hid (Below w.heap.size w w1) := hideP (Below.trans (by go_grown) (k1.mono (by simp; omega)))
    have X1 : Rb w1 (w.heap.size + 1 + 1) (.int .i64 0) (.int .i64 0) := Rb.keep ⟨by simp [go_sem], by simp [go_sem], by simp [go_sem], by simp [go_sem], by simp⟩ k1 (by simp)
    obtain ⟨x0, x1, x2, x3, x4⟩ := X1
    clear k1 AN'
    go_wp2
    exact bodyPost_ret (v := .agg #[.int .i64 F, .int .i64 0]) (by simp [results, Try.results17, go_sem, *]) rfl ⟨rfl, (K1.out.setCell (p := ⟨w.heap.size + 1 + 1, 0, none⟩) (by show w.heap.size ≤ w.heap.size + 1 + 1; omega) (.int .i64 F)).setCell (p := ⟨w.heap.size + 1 + 1, 1, none⟩) (by show w.heap.size ≤ w.heap.size + 1 + 1; omega) (.int .i64 0)⟩
end Go.Proofs.Ytmmjannkfmiohaa
