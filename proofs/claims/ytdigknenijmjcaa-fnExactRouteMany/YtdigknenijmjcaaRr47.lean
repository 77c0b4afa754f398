/- RouteMany, by the program. -/
import Derived.Test.YtdigknenijmjcaaRr46
namespace Go.Proofs.Ytdigknenijmjcaa
open Go.RowKit Go.Maps
set_option linter.unusedVariables false

set_option maxRecDepth 100000 in
set_option maxHeartbeats 4000000 in
theorem iMany_ok (t : Bool) (f : Int) (so : Option Addr) (sc : Nat) (L : List Wn) (lo : Option Addr) (lc : Nat) (LL : List Hd) (w : World) (hL : Ws w 0 w.heap.size so L) (hn : L.length + wzs L ≤ 1048576) (hH : Hds w 0 w.heap.size lo LL) (hl : LL.length ≤ 20) (h0 : inpF (L.map Wn.ct) f = 0) :
    Calls Try.prog 10 #[.agg #[.bool t, .int .i64 f], .slice so L.length sc, .slice lo LL.length lc] w (IsA w (goM (L.map Wn.ct) LL t f []).1 (goM (L.map Wn.ct) LL t f []).2) := by
  have SF := fun w1 (kk : Below w.heap.size w w1) => iInput_any 0 w.heap.size t f so sc L w1 (hL.keep kk (Nat.le_refl _)) kk.size hn
  rw [h0] at SF
  have SF' := hideP SF
  have RT := hideP (fun t' f' k a b w1 (kk : Below w.heap.size w w1) => iRoute_any t' f' k a b so sc L w1 ((hL.keep kk (Nat.le_refl _)).wide (Nat.le_refl _) kk.size) hn)
  have HH := hideP hH
  have hl' : (LL.length : Int) ≤ 20 := by omega
  obtain ⟨C, hC⟩ : ∃ C, L.map Wn.ct = C := ⟨_, rfl⟩
  rw [hC] at RT ⊢
  obtain ⟨P, hP⟩ : ∃ P, goM C LL t f [] = P := ⟨_, rfl⟩
  rw [hP]
  have HP := hideP hP
  generalize L.length = n at *
  clear SF hL hH hn h0 hC hP
  go_enter Try.func10, Try.ntmps10
  go_wp2_with fail
  refine Calls.mono (SF'.out _ (by go_grown)) ?_
  rintro e w1 ⟨rfl, k1⟩
  have n1 := k1.size
  simp only [World.size_alloc] at n1
  have K1 : Hid (Below w.heap.size w w1) := hideP (Below.trans (by go_grown) (k1.mono (by simp; omega)))
  have X1 : Hid (Rb w1 (w.heap.size + 1) (.int .i64 0) (.slice none 0 0)) := hideP (Rb.keep ⟨by simp [go_sem], by simp [go_sem], by simp [go_sem], by simp [go_sem], by simp⟩ k1 (by simp))
  have M1 : Hid (RM w w1 w1.heap.size t f none 0 []) := hideP ⟨K1.out, OwnR.nil _ _ _ _, (k1.cell (p := ⟨w.heap.size, 0, none⟩) (by simp; omega)).trans (by simp [go_sem]), (k1.cell (p := ⟨w.heap.size, 1, none⟩) (by simp; omega)).trans (by simp [go_sem]), (k1.frozen (p := ⟨w.heap.size, 0, none⟩) (by simp; omega)).trans (by simp [go_sem]), (k1.frozen (p := ⟨w.heap.size, 1, none⟩) (by simp; omega)).trans (by simp [go_sem]), X1.out, by omega, Nat.le_refl _⟩
  clear k1 SF' X1 K1
  go_wp2
  go_loopw [8, 25] (fun q i wr => ∃ (k : Nat) (s : Option Addr) (c : Nat) (M : List Int) (t' : Bool) (f' : Int), k ≤ LL.length ∧ i = .int .i64 k ∧ q = .slice s M.length c ∧ M.length = k ∧ goM C (LL.drop k) t' f' M = P ∧ RM w wr w1.heap.size t' f' s c M) (fun _ i _ => LL.length - (intOf i).toNat)
  case atStart => exact ⟨0, _, _, [], t, f, Nat.zero_le _, rfl, rfl, rfl, HP.out, M1.out⟩
  case round =>
    obtain ⟨k, s3, c3, M, t', f', hk, rfl, rfl, hMl, hG, R3⟩ := hrel
    have HMl := hideP hMl
    have hMM : M.length ≤ 20 := by omega
    clear M1 HP hMl
    by_cases hlt : k < LL.length
    · have hlt' : (k : Int) < (LL.length : Int) := by omega
      have hne : LL ≠ [] := fun e => by rw [e] at hlt; simp at hlt
      rcases HH.out with e | ⟨g, o, rfl, _, hg, hc⟩
      · exact absurd e hne
      obtain ⟨a0, a1, a2⟩ := (hc k hlt).keep R3.below (by omega)
      have hgl : g < wr.heap.size := by have := R3.below.size; omega
      have q0 := R3.i0
      have q1 := R3.i1
      have hil : w.heap.size < wr.heap.size := by have := R3.bs; have := R3.hb; omega
      obtain ⟨R, hR⟩ : ∃ R, rtR C t' f' LL[k].k LL[k].a LL[k].b = R := ⟨_, rfl⟩
      have RTk := hideP (fun w2 (kk : Below w.heap.size w w2) => by
        have hh := RT.out t' f' LL[k].k LL[k].a LL[k].b w2 kk
        rw [hR] at hh
        exact hh)
      rw [List.drop_eq_getElem_cons hlt] at hG
      have HGy := hideP (fun hz => goM_yes hG hR hz)
      have HGn := hideP (fun hz => goM_no hG hR hz)
      have RR := hideP R3
      clear hc hG hR R3 RT HH
      generalize LL[k].k = x at *
      generalize LL[k].a = y at *
      generalize LL[k].b = z at *
      go_wp2_with fail
      refine Calls.mono (RTk.out _ (RR.out.below.alloc RR.out.below.size _)) ?_
      rintro e w2 ⟨ao, ca, rfl, O2, k2⟩
      have R2 := hideP ((RR.out.keep (kalH _ (.cells #[.int .i64 x, .int .i64 y, .int .i64 z] 59))).keep k2)
      clear O2 k2 a0 a1 a2 q0 q1 RR RTk
      by_cases hz : R.z = 0
      · have e0 : (R.z != 0) = false := by simp [hz]
        have hGk := HGy.out hz
        have hHG := hideP hGk
        clear HGy HGn hGk hz
        go_wp2_with (first | (at_builtin; refine wpList_snoc rfl _ _ rfl w1.heap.size s3 c3 M rfl ((R2.out.keep (kalH _ _)).keep (kalH _ _)).own ⟨w2.heap.size + 1, 0, none⟩ 1 R.tg rfl (by simp [go_sem]) (by omega) (by have := R2.out.hb; simp; omega) ?_; intro s6 c6 w6 SN; replace SN := hideP SN; refine Hid.out ?_) | go_in)
        have R5 := hideP ((R2.out.keep (kalH _ (.cells #[.int .i64 R.z, .int .i64 R.tg, .int .i64 R.kd, .slice ao R.D.length ca, .bool R.tr, .int .i64 R.fo] 56))).keep (kalH _ (.cells #[.int .i64 R.tg] 2)))
        have R6 := hideP (R5.out.snoc SN.out)
        have hb6 := SN.out.blk w2.heap.size (by simp; omega) R2.out.away
        have x4 : w6.cell? ⟨w2.heap.size, 4, none⟩ = some (.bool R.tr) := (World.cell?_of_block (a := ⟨w2.heap.size, 4, none⟩) hb6).trans (by simp [go_sem])
        have x5 : w6.cell? ⟨w2.heap.size, 5, none⟩ = some (.int .i64 R.fo) := (World.cell?_of_block (a := ⟨w2.heap.size, 5, none⟩) hb6).trans (by simp [go_sem])
        have n6 := SN.out.below.size
        have q0 := R6.out.i0
        have q1 := R6.out.i1
        have q2 := R6.out.f0
        have q3 := R6.out.f1
        have hil6 : w.heap.size < w6.heap.size := by have := R6.out.bs; have := R6.out.hb; omega
        have hbx6 : w2.heap.size < w6.heap.size := World.block_lt_of_cell? w6 _ x4
        have R7 := hideP (R6.out.put R.tr R.fo)
        clear R5 R6 SN hb6 R2 n6
        refine hideP ?_
        go_wp2
        go_roundw
        case rel => exact ⟨k + 1, s6, c6, M ++ [R.tg], R.tr, R.fo, by omega, by go_num, by simp, by simp [HMl.out], hHG.out, R7.out⟩
        case measure => simp [intOf]; omega
      · have e0 : (R.z != 0) = true := by simpa using hz
        have hPn := HGn.out hz
        obtain ⟨r0, r1, r2, r3, r4⟩ := R2.out.res
        have hil2 : w.heap.size + 1 < w2.heap.size := r4
        have RB := hideP ((R2.out.bad R.z).alloc (.cells #[.int .i64 R.z, .int .i64 R.tg, .int .i64 R.kd, .slice ao R.D.length ca, .bool R.tr, .int .i64 R.fo] 56))
        clear HGy HGn
        go_wp2
        rw [hPn]
        exact bodyPost_ret (v := .agg #[.int .i64 R.z, .slice none 0 0]) (by simp [results, Try.results10, go_sem, *]; done) rfl RB.out
    · obtain rfl : k = LL.length := by omega
      rw [List.drop_length] at hG
      have hPn : P = (0, M) := hG.symm
      obtain ⟨r0, r1, r2, r3, r4⟩ := R3.res
      have RB := hideP (R3.end_ 0)
      clear hG R3 HH RT
      go_wp2
      rw [hPn]
      exact bodyPost_ret (v := .agg #[.int .i64 0, .slice s3 M.length c3]) (by simp [results, Try.results10, go_sem, *]; done) rfl RB.out

set_option maxHeartbeats 1000000 in
theorem iMany_bad (t : Bool) (f : Int) (so : Option Addr) (sc : Nat) (L : List Wn) (lo : Option Addr) (lc ln : Nat) (w : World) (hL : Ws w 0 w.heap.size so L) (hn : L.length + wzs L ≤ 1048576) (h : ¬ inpF (L.map Wn.ct) f = 0) :
    Calls Try.prog 10 #[.agg #[.bool t, .int .i64 f], .slice so L.length sc, .slice lo ln lc] w (IsA w (inpF (L.map Wn.ct) f) []) := by
  have SF := fun w1 (kk : Below w.heap.size w w1) => iInput_any 0 w.heap.size t f so sc L w1 (hL.keep kk (Nat.le_refl _)) kk.size hn
  obtain ⟨F, hF⟩ : ∃ F, inpF (L.map Wn.ct) f = F := ⟨_, rfl⟩
  rw [hF] at SF h ⊢
  have hne' : (F != 0) = true := by simpa using h
  have AN' := hideP SF
  clear SF hL h hF
  go_enter Try.func10, Try.ntmps10
  go_wp2_with fail
  refine Calls.mono (AN'.out _ (by go_grown)) ?_
  rintro e w1 ⟨rfl, k1⟩
  have K1 : Hid (Below w.heap.size w w1) := hideP (Below.trans (by go_grown) (k1.mono (by simp; omega)))
  have X1 : Rb w1 (w.heap.size + 1) (.int .i64 0) (.slice none 0 0) := Rb.keep ⟨by simp [go_sem], by simp [go_sem], by simp [go_sem], by simp [go_sem], by simp⟩ k1 (by simp)
  obtain ⟨x0, x1, x2, x3, x4⟩ := X1
  clear k1 AN'
  go_wp2
  exact bodyPost_ret (v := .agg #[.int .i64 F, .slice none 0 0]) (by simp [results, Try.results10, go_sem, *]; done) rfl (IsA.nil w F rfl ((K1.out.setCell (p := ⟨w.heap.size + 1, 0, none⟩) (by show w.heap.size ≤ w.heap.size + 1; omega) _).setCell (p := ⟨w.heap.size + 1, 1, none⟩) (by show w.heap.size ≤ w.heap.size + 1; omega) _))

set_option maxHeartbeats 1000000 in
theorem iMany_long (t : Bool) (f : Int) (so : Option Addr) (sc : Nat) (L : List Wn) (lo : Option Addr) (lc ln : Nat) (w : World) (hL : Ws w 0 w.heap.size so L) (hn : L.length + wzs L ≤ 1048576) (h : inpF (L.map Wn.ct) f = 0) (hl : 20 < ln) :
    Calls Try.prog 10 #[.agg #[.bool t, .int .i64 f], .slice so L.length sc, .slice lo ln lc] w (IsA w 2 []) := by
  have SF := fun w1 (kk : Below w.heap.size w w1) => iInput_any 0 w.heap.size t f so sc L w1 (hL.keep kk (Nat.le_refl _)) kk.size hn
  rw [h] at SF
  have hl' : 20 < (ln : Int) := by omega
  have AN' := hideP SF
  clear SF hL h
  go_enter Try.func10, Try.ntmps10
  go_wp2_with fail
  refine Calls.mono (AN'.out _ (by go_grown)) ?_
  rintro e w1 ⟨rfl, k1⟩
  have K1 : Hid (Below w.heap.size w w1) := hideP (Below.trans (by go_grown) (k1.mono (by simp; omega)))
  have X1 : Rb w1 (w.heap.size + 1) (.int .i64 0) (.slice none 0 0) := Rb.keep ⟨by simp [go_sem], by simp [go_sem], by simp [go_sem], by simp [go_sem], by simp⟩ k1 (by simp)
  obtain ⟨x0, x1, x2, x3, x4⟩ := X1
  clear k1 AN'
  go_wp2
  exact bodyPost_ret (v := .agg #[.int .i64 2, .slice none 0 0]) (by simp [results, Try.results10, go_sem, *]; done) rfl (IsA.nil w 2 rfl ((K1.out.setCell (p := ⟨w.heap.size + 1, 0, none⟩) (by show w.heap.size ≤ w.heap.size + 1; omega) _).setCell (p := ⟨w.heap.size + 1, 1, none⟩) (by show w.heap.size ≤ w.heap.size + 1; omega) _))

theorem iMany_any (t : Bool) (f : Int) (so : Option Addr) (sc : Nat) (L : List Wn) (lo : Option Addr) (lc : Nat) (LL : List Hd) (w : World) (hL : Ws w 0 w.heap.size so L) (hn : L.length + wzs L ≤ 1048576) (hH : Hds w 0 w.heap.size lo LL) :
    Calls Try.prog 10 #[.agg #[.bool t, .int .i64 f], .slice so L.length sc, .slice lo LL.length lc] w (IsA w (manyR (L.map Wn.ct) t f LL).1 (manyR (L.map Wn.ct) t f LL).2) := by
  by_cases h : inpF (L.map Wn.ct) f = 0
  · by_cases hl : LL.length ≤ 20
    · rw [show manyR (L.map Wn.ct) t f LL = goM (L.map Wn.ct) LL t f [] by unfold manyR; rw [if_pos h, if_pos hl]]
      exact iMany_ok t f so sc L lo lc LL w hL hn hH hl h
    · rw [show manyR (L.map Wn.ct) t f LL = (2, []) by unfold manyR; rw [if_pos h, if_neg hl]]
      exact iMany_long t f so sc L lo lc LL.length w hL hn h (by omega)
  · rw [show manyR (L.map Wn.ct) t f LL = (inpF (L.map Wn.ct) f, []) by unfold manyR; rw [if_neg h]]
    exact iMany_bad t f so sc L lo lc LL.length w hL hn h
end Go.Proofs.Ytdigknenijmjcaa
