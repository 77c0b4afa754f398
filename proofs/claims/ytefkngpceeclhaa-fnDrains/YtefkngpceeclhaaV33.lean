/- Chapter 6: what PackMsgs and DrainQueue are tried with. -/
import Derived.Test.YtefkngpceeclhaaV32
namespace Go.Proofs.Ytefkngpceeclhaa
open Go.RowKit
set_option linter.unusedVariables false
attribute [local go_sem] growUpon growAt

theorem fQu0 (s : Option Addr) (n c : Nat) (v : Bool) (w : World) : Sem.run Try.prog (Instr.field 26 (.agg #[.slice s n c, .bool v]) 0) w = .ok (.slice s n c) w := by kernel_rfl
attribute [local go_sem] fQu0

/-- Messages drawn for a pack. -/
def PMv (w : World) (e : Ending) (w' : World) : Prop :=
  ∃ (s : Option Addr) (c : Nat) (M : List Mg), e = .returned (.slice s M.length c) ∧ byM (M.map Mg.ct) ∧ M.length ≤ 101 ∧ mzs M ≤ 403 ∧ Ms w' w.heap.size w'.heap.size s M ∧ Below w.heap.size w w'
/-- A queue drawn for a drain, with a number. -/
def DQv (w : World) (e : Ending) (w' : World) : Prop :=
  ∃ (s : Option Addr) (c : Nat) (M : List Mg) (v : Bool) (n : Int), e = .returned (.tuple #[.agg #[.slice s M.length c, .bool v], .int .i64 n]) ∧ okB (M.map Mg.ct) ∧ byM (M.map Mg.ct) ∧ M.length ≤ 13 ∧ -1 ≤ n ∧ n ≤ 11 ∧ Ms w' w.heap.size w'.heap.size s M ∧ Below w.heap.size w w'
theorem mzs_okB : ∀ (L : List Mg), okB (L.map Mg.ct) → mzs L ≤ 31 * L.length
  | [], _ => by simp [mzs_nil]
  | m :: L, h => by
    have h1 := mzs_okB L (fun t ht => h t (by simp at ht ⊢; exact .inr ht))
    have h2 : m.b.L.length ≤ 31 := h m.ct (by simp)
    rw [mzs_cons, List.length_cons]
    omega
theorem mzs_zero (n : Nat) : mzs (List.replicate n mg0) = 0 := by
  induction n with
  | zero => rfl
  | succ n ih => rw [List.replicate_succ, mzs_cons, ih]; rfl
set_option maxRecDepth 100000 in
theorem made_mg101 : (madeCells (Value.agg #[.int .i64 0, .slice none 0 0]).cells (101 * 2)).toList = mcs (List.replicate 101 mg0) := by
  simp only [madeCells, Value.cells, mcs, mg0]
  rw [Array.toList_map, Array.toList_range]
  rfl

set_option maxRecDepth 100000 in
set_option maxHeartbeats 4000000 in
theorem drawDQ_any (w : World) (a : Option Addr) (len cap : Nat) (f : Nat → Int) (hB : Bytes w w.heap.size a len f) (hl : len ≤ 1048576) :
    Calls Try.prog 21 #[.slice a len cap] w (DQv w) := by
  have k0 : Below w.heap.size w (w.alloc (.cells #[.slice none 0 0, .bool false] 26)) := by go_grown
  have n0 : (w.alloc (.cells #[.slice none 0 0, .bool false] 26)).heap.size = w.heap.size + 1 := by simp
  have S0 := hideP (Src.newR (w.alloc (.cells #[.slice none 0 0, .bool false] 26)) w w.heap.size a len cap f 96 hB hl k0 (by omega))
  have ka := kal3 (w.alloc (.cells #[.slice none 0 0, .bool false] 26)) (.cells #[.slice a len cap, .int .i64 0] 96)
  have T0 := hideP (k0.trans (ka.mono (by omega)))
  have X0 : Hid (Rb ((w.alloc (.cells #[.slice none 0 0, .bool false] 26)).alloc (.cells #[.slice a len cap, .int .i64 0] 96)) w.heap.size (.slice none 0 0) (.bool false)) := hideP ((rb_new w (.slice none 0 0) (.bool false) 26).keep ka (by omega))
  have n1 : ((w.alloc (.cells #[.slice none 0 0, .bool false] 26)).alloc (.cells #[.slice a len cap, .int .i64 0] 96)).heap.size = w.heap.size + 2 := by simp
  rw [n0] at S0
  clear hB k0 ka n0
  go_enter Try.func21, Try.ntmps21
  go_wp2_with (first | (go_at_call 40; go_in))
  generalize (w.alloc (.cells #[.slice none 0 0, .bool false] 26)).alloc (.cells #[.slice a len cap, .int .i64 0] 96) = w1 at *
  refine Calls.mono (bentQ_any w1 _ _ a len cap f 0 S0.out (by omega) (by omega)) ?_
  rintro e w2 ⟨s, c, M, v, t2, rfl, hok, hby, hM13, h2, ht20, ht21, S2, L2⟩
  have n2 := h2.size
  have L3 := hideP (L2.qm (s1 := none) n2)
  have X3 := hideP (X0.out.far h2.asFar (by omega))
  have T3 := hideP (Turn.below T0.out (by omega) (by omega) h2)
  have HOK := hideP hok
  have HBY := hideP hby
  have S2' := hideP S2
  clear S2 L2 h2 S0 X0 T0 hok hby
  go_wp2_with fail
  refine Calls.mono (pickQ (fun z => -1 ≤ z ∧ z ≤ 11) w2 _ _ a len cap f t2 #[.int .i64 0, .int .i64 1, .int .i64 3, .int .i64 10, .int .i64 11, .int .i64 (-1)] 2 6 _ rfl (fun i hi => by
    match i, hi with
    | 0, _ => exact ⟨0, rfl, by omega, by omega⟩
    | 1, _ => exact ⟨1, rfl, by omega, by omega⟩
    | 2, _ => exact ⟨3, rfl, by omega, by omega⟩
    | 3, _ => exact ⟨10, rfl, by omega, by omega⟩
    | 4, _ => exact ⟨11, rfl, by omega, by omega⟩
    | 5, _ => exact ⟨-1, rfl, by omega, by omega⟩) S2'.out ht20 (by omega) (by omega) (by omega)) ?_
  rintro e w3 ⟨z, rfl, ⟨hz0, hz1⟩, h3, S3⟩
  have n3 := h3.size
  have F3 := h3.asFar
  have L4 := hideP (L3.out.far F3 (.inr (by omega)))
  have X4 := hideP (X3.out.far F3 (by omega))
  have T4 := hideP (Turn.below T3.out (by omega) (by omega) h3)
  clear L3 X3 T3 S3 S2' h3 F3
  obtain ⟨p0, p1, p2, p3, p4⟩ := X4.out
  go_wp2
  refine bodyPost_ret (v := .tuple #[.agg #[.slice s M.length c, .bool v], .int .i64 z]) (by simp [results, Try.results21, go_sem, *]) rfl ⟨s, c, M, v, z, rfl, HOK.out, HBY.out, hM13, hz0, hz1, ?_, ?_⟩
  · exact ((L4.out.set ⟨w.heap.size, 0, none⟩ (.slice s M.length c) (by dsimp only; omega)).set ⟨w.heap.size, 1, none⟩ (.bool v) (by dsimp only; omega)).ms2.wide (by omega) (by simp; omega)
  · repeat' (first | (with_reducible exact T4.out) | (with_reducible refine Below.setCell ?_ ?_ _) | go_size)

set_option maxRecDepth 100000 in
set_option maxHeartbeats 4000000 in
theorem drawPM_any (w : World) (a : Option Addr) (len cap : Nat) (f : Nat → Int) (hB : Bytes w w.heap.size a len f) (hl : len ≤ 1048576) :
    Calls Try.prog 23 #[.slice a len cap] w (PMv w) := by
  have S0 := hideP (Src.newR w w w.heap.size a len cap f 96 hB hl (Below.refl _ _) (Nat.le_refl _))
  have T0 := hideP (kal3 w (.cells #[.slice a len cap, .int .i64 0] 96))
  have n1 : (w.alloc (.cells #[.slice a len cap, .int .i64 0] 96)).heap.size = w.heap.size + 1 := by simp
  clear hB
  go_enter Try.func23, Try.ntmps23
  go_wp2_with (first | (go_at_call 40; go_in))
  generalize w.alloc (.cells #[.slice a len cap, .int .i64 0] 96) = w1 at *
  refine Calls.mono (chance_any w1 _ _ a len cap f 0 20 S0.out (by omega) (by omega) (by omega) (by omega)) ?_
  rintro e w2 ⟨r, rfl, h2, S2⟩
  have n2 := h2.size
  have T2 := hideP (Turn.below T0.out (by omega) (by omega) h2)
  have S2' := hideP S2
  clear S2 h2 S0 T0
  cases r
  · go_wp2_with fail
    refine Calls.mono (bentQ_any w2 _ _ a len cap f 1 S2'.out (by omega) (by omega)) ?_
    rintro e w3 ⟨s, c, M, v, t3, rfl, hok, hby, hM13, h3, ht30, ht31, S3, L3⟩
    have n3 := h3.size
    have T3 := hideP (Turn.below T2.out (by omega) (by omega) h3)
    have L4 := hideP ((L3.qm (s1 := none) n3).ms2.wide (lo' := w.heap.size) (by omega) (Nat.le_refl _))
    have HM := hideP (mzs_okB M hok)
    clear S3 L3 h3 hok
    have HBY := hideP hby
    clear hby
    go_wp2
    go_returns
    exact ⟨s, c, M, rfl, HBY.out, by omega, by have := HM.out; omega, L4.out, T3.out⟩
  · obtain ⟨i0, hi0, hz0, hz1, hz2⟩ := info_parts Try.infoM
    go_wp2_with (first | (at_make; refine wpList_make_full _ rfl _ _ 24 rfl (w.heap.size + 1) 28 i0 (.agg #[.int .i64 0, .slice none 0 0]) 2 Try.underlying24 hi0 hz0 hz1 .i64 .i64 _ _ 101 rfl rfl rfl rfl (by rw [hz2]; omega) (by unfold maxLen; omega) (by omega) ?_; intro w5 hown5 hgrow5; refine Hid.out ?_) | go_in)
    have kk5 : Below w2.heap.size w2 w5 := (Below.refl _ w2).grown hgrow5 (Nat.le_refl _) (by simp)
    rw [made_mg101] at hown5
    have HL5 : Hid (Lin w5 (w.heap.size + 1) (some ⟨w2.heap.size, 0, none⟩) 101 (List.replicate 101 mg0)) := hideP ⟨⟨by simpa using hown5, fun e => by simp at e⟩, bods_nil _ _ _ _⟩
    have n5 := kk5.size
    have T5 := hideP (T2.out.trans (kk5.mono (by omega)))
    have L6 := hideP ((HL5.out.qm (s1 := none) (by omega)).ms2.wide (lo' := w.heap.size) (by omega) (Nat.le_refl _))
    clear kk5 hown5 hgrow5 T2 S2' HL5 hi0 hz0 hz1 hz2
    refine hideP ?_
    go_wp2
    go_returns
    exact ⟨some ⟨w2.heap.size, 0, none⟩, 101, List.replicate 101 mg0, by simp, fun u hu => by simp at hu; rw [hu]; exact byts_nil, by simp, by rw [mzs_zero]; omega, L6.out, T5.out⟩
end Go.Proofs.Ytefkngpceeclhaa
